/- Charts: Resize, any. -/
import Derived.Test.YtjocdbacdbhemaaChvO
namespace Go.Proofs.Ytjocdbacdbhemaa
open Go.RowKit

def resC (e : Int) (c : CH) (nb : Int) : CH := if okB e c = true then (if mayB nb = true then ⟨nb, ofM e.toNat (resL nb.toNat (flatM e.toNat c.blocks.toNat c.tabs))⟩ else c) else CH.zero
def resE (e : Int) (c : CH) (nb : Int) : Int := if okB e c = true then (if mayB nb = true then 0 else 1) else 2
theorem RB.ends {w W : World} {BN nb : Int} {v : Value} (k : RB w W BN v nb) (u0 u1 : Value) : Below w.heap.size w ((W.setCell ⟨w.heap.size + 2, 0, none⟩ u0).setCell ⟨w.heap.size + 2, 1, none⟩ u1) ∧ ((W.setCell ⟨w.heap.size + 2, 0, none⟩ u0).setCell ⟨w.heap.size + 2, 1, none⟩ u1).cell? ⟨w.heap.size + 2, 0, none⟩ = some u0 ∧ ((W.setCell ⟨w.heap.size + 2, 0, none⟩ u0).setCell ⟨w.heap.size + 2, 1, none⟩ u1).cell? ⟨w.heap.size + 2, 1, none⟩ = some u1 := by
  refine ⟨(k.bl.setCell (p := ⟨_, 0, none⟩) (by show _ ≤ w.heap.size + 2; omega) _).setCell (p := ⟨_, 1, none⟩) (by show _ ≤ w.heap.size + 2; omega) _, ?_, ?_⟩
  · exact (cell_putne _ _ _ _ _ (by omega)).trans (cell_put k.r.c0 _)
  · exact cell_put ((cell_putne _ _ _ _ _ (by omega)).trans k.r.c1) _
set_option maxRecDepth 100000 in
set_option maxHeartbeats 8000000 in
theorem chtResize_no0 (e B nb : Int) (T : List TB) (v : Value) (w : World) (hv : TabsS w v T) (h1 : okB e ⟨B, T⟩ = false) :
    Calls Try.prog 27 #[.int .i64 e, .agg #[.int .i64 B, v], .int .i64 nb] w fun e' w' => ∃ tv, e' = .returned (.tuple #[.agg #[.int .i64 0, tv], .int .i64 2]) ∧ TabsF w.heap.size w' tv [] ∧ Below w.heap.size w w' := by
  have hC := fun W h => chtCheck_any e B T v W h
  unfold chtE at hC
  have HG0 := Lib.hid (RB.new w B v nb)
  have HV := Lib.hid hv
  obtain ⟨A, cap, rfl⟩ := hv.form
  clear hv
  rw [h1, if_neg (by decide)] at hC
  clear h1
  go_enter Try.func27, Try.ntmps27
  go_upto_region 1 with fail
  generalize ((w.alloc (.cells #[.int .i64 B, .slice A T.length cap] 44)).alloc (.cells #[.int .i64 nb] 3)).alloc (.cells #[.int .i64 0, .slice none 0 0] 44) = w0 at HG0 ⊢
  have HV0 := Lib.hid (HV.out.below HG0.out.bl)
  obtain ⟨_, y0, y1, _, _⟩ := HG0.out.c
  go_wp2_with (go_at_call 35; (with_reducible refine (hC _ HV0.out).mono ?_); rintro e w1 ⟨rfl, hb1⟩; have HG1 := Lib.hid (HG0.out.below hb1); clear hb1 y0 y1; obtain ⟨_, z0, z1, f0, f1⟩ := HG1.out.r)
  obtain ⟨hB, y0, y1⟩ := HG1.out.ends (.int .i64 0) (.slice none 0 0)
  refine bodyPost_ret (v := .tuple #[.agg #[.int .i64 0, .slice none 0 0], .int .i64 2]) (by simp [results, Try.results27, go_sem, y0, y1]) rfl ?_
  exact ⟨_, rfl, TabsF.none _ _, hB⟩
set_option maxRecDepth 100000 in
set_option maxHeartbeats 8000000 in
theorem chtResize_no1 (E BN : Nat) (nb : Int) (T : List TB) (v : Value) (w : World) (hv : TabsS w v T) (hOK : COk E BN T) (hok : okB (E : Int) ⟨(BN : Int), T⟩ = true) (hnb : mayB nb = false) :
    Calls Try.prog 27 #[.int .i64 (E : Int), .agg #[.int .i64 (BN : Int), v], .int .i64 nb] w fun e' w' => ∃ tv, e' = .returned (.tuple #[.agg #[.int .i64 (BN : Int), tv], .int .i64 1]) ∧ TabsF w.heap.size w' tv T ∧ Below w.heap.size w w' := by
  have hC := fun W h => chtCheck_any (E : Int) (BN : Int) T v W h
  unfold chtE at hC
  have hCl := fun W h => clone_any E (BN : Int) T v W h ⟨hOK.e1, hOK.e2⟩ hOK.len hOK.lens
  have hM := chtMay_any nb
  rw [hnb] at hM
  have HG0 := Lib.hid (RB.new w (BN : Int) v nb)
  have HV := Lib.hid hv
  obtain ⟨A, cap, rfl⟩ := hv.form
  clear hv hOK hnb
  rw [hok, if_pos rfl] at hC
  clear hok
  go_enter Try.func27, Try.ntmps27
  go_upto_region 1 with fail
  generalize ((w.alloc (.cells #[.int .i64 (BN : Int), .slice A T.length cap] 44)).alloc (.cells #[.int .i64 nb] 3)).alloc (.cells #[.int .i64 0, .slice none 0 0] 44) = w0 at HG0 ⊢
  have HV0 := Lib.hid (HV.out.below HG0.out.bl)
  obtain ⟨_, y0, y1, _, _⟩ := HG0.out.c
  go_upto_region 4 with (go_at_call 35; (with_reducible refine (hC _ HV0.out).mono ?_); rintro e w1 ⟨rfl, hb1⟩; have HG1 := Lib.hid (HG0.out.below hb1); have HV1 := Lib.hid (HV0.out.below hb1); clear hb1 y0 y1; obtain ⟨_, y0, y1, _, _⟩ := HG1.out.c)
  go_upto_region 5 with (go_at_call 50; (with_reducible refine (hCl _ HV1.out).mono ?_); rintro e w2 ⟨v2, P, rfl, hpw, hmap, hb2, hsz⟩; (obtain ⟨A2, cap2, rfl, _⟩ := own_form hpw.own); have HPW := Lib.hid hpw; have HMAP := Lib.hid hmap; have HB2 := Lib.hid hb2; have HG2 := Lib.hid (HG1.out.below hb2); clear hpw hmap hb2 hsz y0 y1)
  have hbw := below1 w2 (.cells #[.int .i64 (BN : Int), .slice A2 P.length cap2] 44)
  have HG3 := Lib.hid (HG2.out.below hbw)
  have HP3 := Lib.hid (HPW.out.below hbw)
  have HX3 := Lib.hid (B2.new w2 (.int .i64 (BN : Int)) (.slice A2 P.length cap2) 44)
  have HN : Hid (w.heap.size + 2 < w1.heap.size + 2) := Lib.hid (by have := HG1.out.r.lt; omega)
  clear hbw
  generalize w2.heap.size = b9 at HP3 HX3 ⊢
  generalize w2.alloc (.cells #[.int .i64 (BN : Int), .slice A2 P.length cap2] 44) = w3 at HG3 HP3 HX3 ⊢
  have i0 := HG3.out.i
  go_wp2_with (go_at_call 54; (with_reducible refine (hM _).mono ?_); rintro e w4 ⟨rfl, hb4⟩; have HG4 := Lib.hid (HG3.out.below hb4); have HP4 := Lib.hid (HP3.out.below hb4); have HX4 := Lib.hid (HX3.out.below hb4); clear hb4 i0; (obtain ⟨_, y0, y1, _, _⟩ := HX4.out); (obtain ⟨_, z0, z1, f0, f1⟩ := HG4.out.r))
  obtain ⟨hB, y0, y1⟩ := HG4.out.ends (.int .i64 (BN : Int)) (.slice A2 P.length cap2)
  refine bodyPost_ret (v := .tuple #[.agg #[.int .i64 (BN : Int), .slice A2 P.length cap2], .int .i64 1]) (by simp [results, Try.results27, go_sem, y0, y1]) rfl ?_
  have hap : Ap (fun q => q = w.heap.size + 2) w4 ((w4.setCell ⟨w.heap.size + 2, 0, none⟩ (.int .i64 (BN : Int))).setCell ⟨w.heap.size + 2, 1, none⟩ (.slice A2 P.length cap2)) := (ap_put w4 (w.heap.size + 2) 0 _).trans (ap_put _ (w.heap.size + 2) 1 _)
  have h5 := (HP4.out.po.ap hap (fun q e => .inl (by have := HN.out; omega))).tabsF (B' := w.heap.size) (by have := HN.out; omega)
  rw [HMAP.out] at h5
  exact ⟨_, rfl, h5, hB⟩
theorem chtResize_any (e B nb : Int) (T : List TB) (v : Value) (w : World) (hv : TabsS w v T) :
    Calls Try.prog 27 #[.int .i64 e, .agg #[.int .i64 B, v], .int .i64 nb] w fun e' w' => ∃ tv, e' = .returned (.tuple #[.agg #[.int .i64 (resC e ⟨B, T⟩ nb).blocks, tv], .int .i64 (resE e ⟨B, T⟩ nb)]) ∧ TabsF w.heap.size w' tv (resC e ⟨B, T⟩ nb).tabs ∧ Below w.heap.size w w' := by
  unfold resC resE
  dsimp only
  by_cases hok : okB e ⟨B, T⟩ = true
  · rw [if_pos hok, if_pos hok]
    obtain ⟨E, BN, rfl, hBN, hc⟩ := cok_of hok
    dsimp only at hBN hc
    subst hBN
    by_cases hb : mayB nb = true
    · rw [if_pos hb, if_pos hb]
      have h2 : 0 ≤ nb ∧ nb ≤ 65536 := by
        unfold mayB at hb
        simp only [Bool.and_eq_true, decide_eq_true_eq] at hb; exact hb
      obtain ⟨NB, rfl⟩ : ∃ NB : Nat, nb = (NB : Int) := ⟨nb.toNat, by omega⟩
      dsimp only
      rw [Int.toNat_natCast, Int.toNat_natCast, Int.toNat_natCast, ← cutP_eq hc (by omega)]
      exact chtResize_yes E BN NB T v w hv hc hok (by omega)
    · rw [if_neg hb, if_neg hb]
      exact chtResize_no1 E BN nb T v w hv hc hok (by simpa using hb)
  · rw [if_neg hok, if_neg hok]
    exact chtResize_no0 e B nb T v w hv (by simpa using hok)
end Go.Proofs.Ytjocdbacdbhemaa
