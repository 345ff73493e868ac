/- Charts: Swap, any. -/
import Derived.Test.YtjocdbacdbhemaaChvV
namespace Go.Proofs.Ytjocdbacdbhemaa
open Go.RowKit

set_option maxRecDepth 100000 in
set_option maxHeartbeats 8000000 in
theorem chtSwap_no0 (e B : Int) (T : List TB) (v : Value) (x y : EN) (w : World) (hv : TabsS w v T) (h1 : okB e ⟨B, T⟩ = false) :
    Calls Try.prog 31 #[.int .i64 e, .agg #[.int .i64 B, v], x.v, y.v] w fun e' w' => ∃ tv, e' = .returned (.tuple #[.agg #[.int .i64 0, tv], .int .i64 0, .int .i64 2]) ∧ TabsF w.heap.size w' tv [] ∧ Below w.heap.size w w' := by
  have hC := fun W h => chtCheck_any e B T v W h
  unfold chtE at hC
  have HG0 := Lib.hid (SW.new w B v x y)
  have HV := Lib.hid hv
  obtain ⟨A, cap, rfl⟩ := hv.form
  clear hv
  rw [h1, if_neg (by decide)] at hC
  clear h1
  unfold EN.v
  obtain ⟨k, st, mb, fr⟩ := x
  obtain ⟨k', st', mb', fr'⟩ := y
  dsimp only at HG0 ⊢
  go_enter Try.func31, Try.ntmps31
  go_upto_region 1 with fail
  generalize (((w.alloc (.cells #[.int .i64 B, .slice A T.length cap] 44)).alloc (.cells #[.int .u8 k, .int .i64 st, .int .i64 mb, .int .i64 fr] 26)).alloc (.cells #[.int .u8 k', .int .i64 st', .int .i64 mb', .int .i64 fr'] 26)).alloc (.cells #[.int .i64 0, .slice none 0 0] 44) = w0 at HG0 ⊢
  have HV0 := Lib.hid (HV.out.below HG0.out.bl)
  obtain ⟨_, y0, y1, _, _⟩ := HG0.out.c
  go_wp2_with (go_at_call 35; (with_reducible refine (hC _ HV0.out).mono ?_); rintro e w1 ⟨rfl, hb1⟩; have HG1 := Lib.hid (HG0.out.below hb1); clear hb1 y0 y1; obtain ⟨_, z0, z1, f0, f1⟩ := HG1.out.r)
  obtain ⟨hB, y0, y1⟩ := HG1.out.ends (.int .i64 0) (.slice none 0 0)
  refine bodyPost_ret (v := .tuple #[.agg #[.int .i64 0, .slice none 0 0], .int .i64 0, .int .i64 2]) (by simp [results, Try.results31, go_sem, y0, y1]) rfl ?_
  exact ⟨_, rfl, TabsF.none _ _, hB⟩
set_option maxRecDepth 100000 in
set_option maxHeartbeats 8000000 in
theorem chtSwap_no1 (E BN : Nat) (T : List TB) (v : Value) (x y : EN) (w : World) (hv : TabsS w v T) (hOK : COk E BN T) (hok : okB (E : Int) ⟨(BN : Int), T⟩ = true) (hy : ¬ EOk y) :
    Calls Try.prog 31 #[.int .i64 (E : Int), .agg #[.int .i64 (BN : Int), v], x.v, y.v] w fun e' w' => ∃ tv, e' = .returned (.tuple #[.agg #[.int .i64 (BN : Int), tv], .int .i64 0, .int .i64 2]) ∧ TabsF w.heap.size w' tv T ∧ Below w.heap.size w w' := by
  have hC := fun W h => chtCheck_any (E : Int) (BN : Int) T v W h
  unfold chtE at hC
  have hCl := fun W h => clone_any E (BN : Int) T v W h ⟨hOK.e1, hOK.e2⟩ hOK.len hOK.lens
  have hX := entCheck_any y
  rw [show entE y = 2 from if_neg hy] at hX
  have HG0 := Lib.hid (SW.new w (BN : Int) v x y)
  have HV := Lib.hid hv
  obtain ⟨A, cap, rfl⟩ := hv.form
  clear hv hOK hy
  rw [hok, if_pos rfl] at hC
  clear hok
  unfold EN.v at hX ⊢
  obtain ⟨k, st, mb, fr⟩ := x
  obtain ⟨k', st', mb', fr'⟩ := y
  dsimp only at HG0 hX ⊢
  go_enter Try.func31, Try.ntmps31
  go_upto_region 1 with fail
  generalize (((w.alloc (.cells #[.int .i64 (BN : Int), .slice A T.length cap] 44)).alloc (.cells #[.int .u8 k, .int .i64 st, .int .i64 mb, .int .i64 fr] 26)).alloc (.cells #[.int .u8 k', .int .i64 st', .int .i64 mb', .int .i64 fr'] 26)).alloc (.cells #[.int .i64 0, .slice none 0 0] 44) = w0 at HG0 ⊢
  have HV0 := Lib.hid (HV.out.below HG0.out.bl)
  obtain ⟨_, y0, y1, _, _⟩ := HG0.out.c
  go_upto_region 4 with (go_at_call 35; (with_reducible refine (hC _ HV0.out).mono ?_); rintro e w1 ⟨rfl, hb1⟩; have HG1 := Lib.hid (HG0.out.below hb1); have HV1 := Lib.hid (HV0.out.below hb1); clear hb1 y0 y1; obtain ⟨_, y0, y1, _, _⟩ := HG1.out.c)
  go_upto_region 5 with (go_at_call 50; (with_reducible refine (hCl _ HV1.out).mono ?_); rintro e w2 ⟨v2, P, rfl, hpw, hmap, hb2, hsz⟩; (obtain ⟨A2, cap2, rfl, _⟩ := own_form hpw.own); have HPW := Lib.hid hpw; have HMAP := Lib.hid hmap; have HG2 := Lib.hid (HG1.out.below hb2); clear hpw hmap hb2 hsz y0 y1)
  have hbw := below1 w2 (.cells #[.int .i64 (BN : Int), .slice A2 P.length cap2] 44)
  have hbx := below1 (w2.alloc (.cells #[.int .i64 (BN : Int), .slice A2 P.length cap2] 44)) (.cells #[.int .i64 0] 3)
  have HG3 := Lib.hid ((HG2.out.below hbw).below hbx)
  have HP3 := Lib.hid ((HPW.out.below hbw).below hbx)
  have HX3 := Lib.hid ((B2.new w2 (.int .i64 (BN : Int)) (.slice A2 P.length cap2) 44).below hbx)
  have HN : Hid (w.heap.size + 3 < w1.heap.size + 2) := Lib.hid (by have := HG1.out.r.lt; omega)
  clear hbw hbx
  generalize w2.heap.size = b9 at HP3 HX3 ⊢
  generalize (w2.alloc (.cells #[.int .i64 (BN : Int), .slice A2 P.length cap2] 44)).alloc (.cells #[.int .i64 0] 3) = w3 at HG3 HP3 HX3 ⊢
  obtain ⟨_, e0, e1, e2, e3, _⟩ := HG3.out.f
  dsimp only at e0 e1 e2 e3
  go_wp2_with (go_at_call 13; (with_reducible refine (hX _).mono ?_); rintro e w4 ⟨rfl, hb4⟩; have HG4 := Lib.hid (HG3.out.below hb4); have HP4 := Lib.hid (HP3.out.below hb4); have HX4 := Lib.hid (HX3.out.below hb4); clear hb4 e0 e1 e2 e3; (obtain ⟨_, y0, y1, _, _⟩ := HX4.out); (obtain ⟨_, z0, z1, f0, f1⟩ := HG4.out.r))
  obtain ⟨hB, y0, y1⟩ := HG4.out.ends (.int .i64 (BN : Int)) (.slice A2 P.length cap2)
  refine bodyPost_ret (v := .tuple #[.agg #[.int .i64 (BN : Int), .slice A2 P.length cap2], .int .i64 0, .int .i64 2]) (by simp [results, Try.results31, go_sem, y0, y1]) rfl ?_
  have hap : Ap (fun q => q = w.heap.size + 3) w4 ((w4.setCell ⟨w.heap.size + 3, 0, none⟩ (.int .i64 (BN : Int))).setCell ⟨w.heap.size + 3, 1, none⟩ (.slice A2 P.length cap2)) := (ap_put w4 (w.heap.size + 3) 0 _).trans (ap_put _ (w.heap.size + 3) 1 _)
  have h5 := (HP4.out.po.ap hap (fun q e => .inl (by have := HN.out; omega))).tabsF (B' := w.heap.size) (by have := HN.out; omega)
  rw [HMAP.out] at h5
  exact ⟨_, rfl, h5, hB⟩
theorem chtSwap_any (e B : Int) (T : List TB) (v : Value) (x y : EN) (w : World) (hv : TabsS w v T) :
    Calls Try.prog 31 #[.int .i64 e, .agg #[.int .i64 B, v], x.v, y.v] w fun e' w' => ∃ tv, e' = .returned (.tuple #[.agg #[.int .i64 (swapC e ⟨B, T⟩ x y).blocks, tv], .int .i64 (swapN e ⟨B, T⟩ x y : Int), .int .i64 (swapE e ⟨B, T⟩ y)]) ∧ TabsF w.heap.size w' tv (swapC e ⟨B, T⟩ x y).tabs ∧ Below w.heap.size w w' := by
  unfold swapC swapN swapE
  dsimp only
  by_cases hok : okB e ⟨B, T⟩ = true
  · rw [if_pos hok]
    obtain ⟨E, BN, rfl, hBN, hc⟩ := cok_of hok
    dsimp only at hBN hc
    subst hBN
    by_cases hy : EOk y
    · rw [if_pos hy, if_pos ⟨hok, hy⟩, if_pos ⟨hok, hy⟩]
      dsimp only
      rw [Int.toNat_natCast, Int.toNat_natCast, ← swapP_eq hc hy]
      exact chtSwap_yes E BN T v x y w hv hc hok hy
    · rw [if_neg hy, if_neg (fun h => hy h.2), if_neg (fun h => hy h.2)]
      exact chtSwap_no1 E BN T v x y w hv hc hok hy
  · rw [if_neg hok, if_neg (fun h => hok h.1), if_neg (fun h => hok h.1)]
    exact chtSwap_no0 e B T v x y w hv (by simpa using hok)
end Go.Proofs.Ytjocdbacdbhemaa
