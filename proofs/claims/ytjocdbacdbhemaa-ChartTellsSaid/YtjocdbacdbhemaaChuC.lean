/- Charts: the contract of the document's own Swap. -/
import Derived.Test.YtjocdbacdbhemaaChuB
namespace Go.Proofs.Ytjocdbacdbhemaa
open Go.RowKit

set_option maxRecDepth 100000 in
set_option maxHeartbeats 8000000 in
theorem rchtSwap_no (e B : Int) (T : List TB) (v : Value) (x y : EN) (w : World) (hv : TabsS w v T) (bo : Int) (To : List TB)
    (h : (okB e ⟨B, T⟩ = false ∧ bo = 0 ∧ To = []) ∨ (okB e ⟨B, T⟩ = true ∧ bo = B ∧ To = T ∧ ¬ EOk y)) :
    Calls Try.prog 32 #[.int .i64 e, .agg #[.int .i64 B, v], x.v, y.v] w fun e' w' => ∃ tv, e' = .returned (.tuple #[.agg #[.int .i64 bo, tv], .int .i64 0, .int .i64 2]) ∧ TabsS w' tv To ∧ Below w.heap.size w w' := by
  have hC := fun W h => rchtCheck_any e B T v W h
  unfold chtE at hC
  have hX := rentCheck_any y
  have HG0 := Lib.hid (SW.new w B v x y)
  have HV := Lib.hid hv
  obtain ⟨A, cap, rfl⟩ := hv.form
  clear hv
  unfold EN.v at hX ⊢
  have HXE : Hid (¬ EOk y → entE y = 2) := Lib.hid (fun h => if_neg h)
  rcases h with ⟨h1, rfl, rfl⟩ | ⟨h1, rfl, rfl, hx⟩
  · rw [h1, if_neg (by decide)] at hC
    clear h1
    obtain ⟨k, st, mb, fr⟩ := x
    obtain ⟨k', st', mb', fr'⟩ := y
    dsimp only at hX HG0 ⊢
    go_enter Try.func32, Try.ntmps32
    go_upto_region 1 with fail
    generalize (((w.alloc (.cells #[.int .i64 B, .slice A T.length cap] 44)).alloc (.cells #[.int .u8 k, .int .i64 st, .int .i64 mb, .int .i64 fr] 26)).alloc (.cells #[.int .u8 k', .int .i64 st', .int .i64 mb', .int .i64 fr'] 26)).alloc (.cells #[.int .i64 0, .slice none 0 0] 44) = w0 at HG0 ⊢
    have HV0 := Lib.hid (HV.out.below HG0.out.bl)
    obtain ⟨_, y0, y1, _, _⟩ := HG0.out.c
    go_wp2_with (go_at_call 36; (with_reducible refine (hC _ HV0.out).mono ?_); rintro e w1 ⟨rfl, hb1⟩; have HG1 := Lib.hid (HG0.out.below hb1); clear hb1 y0 y1; obtain ⟨_, z0, z1, f0, f1⟩ := HG1.out.r)
    obtain ⟨hB, y0, y1⟩ := HG1.out.ends (.int .i64 0) (.slice none 0 0)
    refine bodyPost_ret (v := .tuple #[.agg #[.int .i64 0, .slice none 0 0], .int .i64 0, .int .i64 2]) (by simp [results, Try.results32, go_sem, y0, y1]) rfl ?_
    exact ⟨_, rfl, TabsS.none _, hB⟩
  · rw [h1, if_pos rfl] at hC
    rw [HXE.out hx] at hX
    clear h1 hx HXE
    obtain ⟨k, st, mb, fr⟩ := x
    obtain ⟨k', st', mb', fr'⟩ := y
    dsimp only at hX HG0 ⊢
    go_enter Try.func32, Try.ntmps32
    go_upto_region 1 with fail
    generalize (((w.alloc (.cells #[.int .i64 bo, .slice A To.length cap] 44)).alloc (.cells #[.int .u8 k, .int .i64 st, .int .i64 mb, .int .i64 fr] 26)).alloc (.cells #[.int .u8 k', .int .i64 st', .int .i64 mb', .int .i64 fr'] 26)).alloc (.cells #[.int .i64 0, .slice none 0 0] 44) = w0 at HG0 ⊢
    have HV0 := Lib.hid (HV.out.below HG0.out.bl)
    obtain ⟨_, y0, y1, _, _⟩ := HG0.out.c
    go_wp2_with (first
      | (go_at_call 36; (with_reducible refine (hC _ HV0.out).mono ?_); rintro e w1 ⟨rfl, hb1⟩; have HG1 := Lib.hid (HG0.out.below hb1); clear hb1 y0 y1; obtain ⟨_, y0, y1, _, _⟩ := HG1.out.c; obtain ⟨_, x0, x1, x2, x3, _⟩ := HG1.out.f; dsimp only at x0 x1 x2 x3)
      | (go_at_call 14; (with_reducible refine (hX _).mono ?_); rintro e w2 ⟨rfl, hb2⟩; have HG2 := Lib.hid (HG1.out.below hb2); clear hb2 y0 y1 x0 x1 x2 x3; obtain ⟨_, y0, y1, _, _⟩ := HG2.out.c; obtain ⟨_, z0, z1, f0, f1⟩ := HG2.out.r))
    obtain ⟨hB, y0, y1⟩ := HG2.out.ends (.int .i64 bo) (.slice A To.length cap)
    refine bodyPost_ret (v := .tuple #[.agg #[.int .i64 bo, .slice A To.length cap], .int .i64 0, .int .i64 2]) (by simp [results, Try.results32, go_sem, y0, y1]) rfl ?_
    exact ⟨_, rfl, HV.out.below hB, hB⟩
end Go.Proofs.Ytjocdbacdbhemaa
