/- Charts: the document's own Resize. -/
import Derived.Test.YtjocdbacdbhemaaChuF
namespace Go.Proofs.Ytjocdbacdbhemaa
open Go.RowKit

/-- A chart's box, and a result's place. -/
structure DB (w W : World) (B : Int) (v : Value) : Prop where
  bl : Below w.heap.size w W
  c : B2 W w.heap.size (.int .i64 B) v
  r : B2 W (w.heap.size + 1) (.int .i64 0) (.slice none 0 0)
theorem DB.below {w W W' : World} {B : Int} {v : Value} (k : DB w W B v) (hb : Below W.heap.size W W') : DB w W' B v := ⟨k.bl.trans (hb.mono k.bl.size), k.c.below hb, k.r.below hb⟩
theorem DB.new (w : World) (B : Int) (v : Value) : DB w ((w.alloc (.cells #[.int .i64 B, v] 44)).alloc (.cells #[.int .i64 0, .slice none 0 0] 44)) B v := by
  have h2 := B2.new (w.alloc (.cells #[.int .i64 B, v] 44)) (.int .i64 0) (.slice none 0 0) 44
  rw [World.size_alloc] at h2
  exact ⟨(below1 _ _).alloc (by simp) _, (B2.new w _ _ _).below (below1 _ _), h2⟩
theorem DB.ends {w W : World} {B : Int} {v : Value} (k : DB w W B v) (u0 u1 : Value) : Below w.heap.size w ((W.setCell ⟨w.heap.size + 1, 0, none⟩ u0).setCell ⟨w.heap.size + 1, 1, none⟩ u1) ∧ ((W.setCell ⟨w.heap.size + 1, 0, none⟩ u0).setCell ⟨w.heap.size + 1, 1, none⟩ u1).cell? ⟨w.heap.size + 1, 0, none⟩ = some u0 ∧ ((W.setCell ⟨w.heap.size + 1, 0, none⟩ u0).setCell ⟨w.heap.size + 1, 1, none⟩ u1).cell? ⟨w.heap.size + 1, 1, none⟩ = some u1 := by
  refine ⟨(k.bl.setCell (p := ⟨_, 0, none⟩) (by show _ ≤ w.heap.size + 1; omega) _).setCell (p := ⟨_, 1, none⟩) (by show _ ≤ w.heap.size + 1; omega) _, ?_, ?_⟩
  · exact (cell_putne _ _ _ _ _ (by omega)).trans (cell_put k.r.c0 _)
  · exact cell_put ((cell_putne _ _ _ _ _ (by omega)).trans k.r.c1) _
set_option maxRecDepth 100000 in
set_option maxHeartbeats 8000000 in
/-- The errors. -/
theorem rchtResize_no (e B nb : Int) (T : List TB) (v : Value) (w : World) (hv : TabsS w v T) (bo : Int) (To : List TB) (re : Int)
    (h : (okB e ⟨B, T⟩ = false ∧ bo = 0 ∧ To = [] ∧ re = 2) ∨ (okB e ⟨B, T⟩ = true ∧ bo = B ∧ To = T ∧ mayB nb = false ∧ re = 1)) :
    Calls Try.prog 28 #[.int .i64 e, .agg #[.int .i64 B, v], .int .i64 nb] w fun e' w' => ∃ tv, e' = .returned (.tuple #[.agg #[.int .i64 bo, tv], .int .i64 re]) ∧ TabsS w' tv To ∧ Below w.heap.size w w' := by
  have hC := fun W h => rchtCheck_any e B T v W h
  unfold chtE at hC
  have HG0 := Lib.hid (DB.new w B v)
  have HV := Lib.hid hv
  obtain ⟨A, cap, rfl⟩ := hv.form
  clear hv
  rcases h with ⟨h1, rfl, rfl, rfl⟩ | ⟨h1, rfl, rfl, hm, rfl⟩
  · rw [h1, if_neg (by decide)] at hC
    clear h1
    go_enter Try.func28, Try.ntmps28
    go_upto_region 1 with fail
    generalize (w.alloc (.cells #[.int .i64 B, .slice A T.length cap] 44)).alloc (.cells #[.int .i64 0, .slice none 0 0] 44) = w0 at HG0 ⊢
    have HV0 := Lib.hid (HV.out.below HG0.out.bl)
    obtain ⟨_, y0, y1, _, _⟩ := HG0.out.c
    go_wp2_with (go_at_call 36; (with_reducible refine (hC _ HV0.out).mono ?_); rintro e w1 ⟨rfl, hb1⟩; have HG1 := Lib.hid (HG0.out.below hb1); clear hb1 y0 y1; obtain ⟨_, z0, z1, f0, f1⟩ := HG1.out.r)
    obtain ⟨hB, y0, y1⟩ := HG1.out.ends (.int .i64 0) (.slice none 0 0)
    refine bodyPost_ret (v := .tuple #[.agg #[.int .i64 0, .slice none 0 0], .int .i64 2]) (by simp [results, Try.results28, go_sem, y0, y1]) rfl ?_
    exact ⟨_, rfl, TabsS.none _, hB⟩
  · rw [h1, if_pos rfl] at hC
    clear h1
    have hc2 : nb < 0 ∨ (0 ≤ nb ∧ 65536 < nb) := by
      unfold mayB at hm
      by_cases h0 : 0 ≤ nb
      · rw [decide_eq_true h0, Bool.true_and] at hm
        have := of_decide_eq_false hm
        omega
      · exact .inl (by omega)
    clear hm
    rcases hc2 with hlt | ⟨hge, hgb⟩
    · have d1 : decide (nb < 0) = true := decide_eq_true hlt
      clear hlt
      go_enter Try.func28, Try.ntmps28
      go_upto_region 1 with fail
      generalize (w.alloc (.cells #[.int .i64 bo, .slice A To.length cap] 44)).alloc (.cells #[.int .i64 0, .slice none 0 0] 44) = w0 at HG0 ⊢
      have HV0 := Lib.hid (HV.out.below HG0.out.bl)
      obtain ⟨_, y0, y1, _, _⟩ := HG0.out.c
      go_wp2_with (go_at_call 36; (with_reducible refine (hC _ HV0.out).mono ?_); rintro e w1 ⟨rfl, hb1⟩; have HG1 := Lib.hid (HG0.out.below hb1); clear hb1 y0 y1; obtain ⟨_, y0, y1, _, _⟩ := HG1.out.c; obtain ⟨_, z0, z1, f0, f1⟩ := HG1.out.r)
      obtain ⟨hB, y0, y1⟩ := HG1.out.ends (.int .i64 bo) (.slice A To.length cap)
      refine bodyPost_ret (v := .tuple #[.agg #[.int .i64 bo, .slice A To.length cap], .int .i64 1]) (by simp [results, Try.results28, go_sem, y0, y1]) rfl ?_
      exact ⟨_, rfl, HV.out.below hB, hB⟩
    · have d1 : decide (nb < 0) = false := decide_eq_false (by omega)
      have d2 : decide ((65536 : Int) < nb) = true := decide_eq_true hgb
      clear hge hgb
      go_enter Try.func28, Try.ntmps28
      go_upto_region 1 with fail
      generalize (w.alloc (.cells #[.int .i64 bo, .slice A To.length cap] 44)).alloc (.cells #[.int .i64 0, .slice none 0 0] 44) = w0 at HG0 ⊢
      have HV0 := Lib.hid (HV.out.below HG0.out.bl)
      obtain ⟨_, y0, y1, _, _⟩ := HG0.out.c
      go_wp2_with (go_at_call 36; (with_reducible refine (hC _ HV0.out).mono ?_); rintro e w1 ⟨rfl, hb1⟩; have HG1 := Lib.hid (HG0.out.below hb1); clear hb1 y0 y1; obtain ⟨_, y0, y1, _, _⟩ := HG1.out.c; obtain ⟨_, z0, z1, f0, f1⟩ := HG1.out.r)
      obtain ⟨hB, y0, y1⟩ := HG1.out.ends (.int .i64 bo) (.slice A To.length cap)
      refine bodyPost_ret (v := .tuple #[.agg #[.int .i64 bo, .slice A To.length cap], .int .i64 1]) (by simp [results, Try.results28, go_sem, y0, y1]) rfl ?_
      exact ⟨_, rfl, HV.out.below hB, hB⟩
set_option maxRecDepth 100000 in
set_option maxHeartbeats 8000000 in
theorem rchtResize_yes (E BN NB : Nat) (T : List TB) (v : Value) (w : World) (hv : TabsS w v T) (hOK : COk E BN T) (hok : okB (E : Int) ⟨(BN : Int), T⟩ = true) (hb : NB ≤ 65536) :
    Calls Try.prog 28 #[.int .i64 (E : Int), .agg #[.int .i64 (BN : Int), v], .int .i64 (NB : Int)] w fun e' w' => ∃ tv, e' = .returned (.tuple #[.agg #[.int .i64 (NB : Int), tv], .int .i64 0]) ∧ TabsS w' tv (ofM E (resL NB (flatM E BN T))) ∧ Below w.heap.size w w' := by
  have hC := fun W h => rchtCheck_any (E : Int) (BN : Int) T v W h
  unfold chtE at hC
  rw [hok, if_pos rfl] at hC
  have hF := fun W h => rchtFlat_any E BN T v W h hOK
  have HLN : Hid ((flatM E BN T).length = BN) := Lib.hid (flatM_len E BN T)
  have HL2 : Hid ((resL NB (flatM E BN T)).length = NB) := Lib.hid (resL_len _ _)
  have hO := fun u W h => rchtOf_any E (resL NB (flatM E BN T)) u W h ⟨hOK.e1, hOK.e2⟩ (by rw [HL2.out]; exact hb)
  rw [HL2.out] at hO
  have HG0 := Lib.hid (DB.new w (BN : Int) v)
  have HV := Lib.hid hv
  have HBN : Hid (BN ≤ 65536) := Lib.hid hOK.b2
  have HNB : Hid (NB ≤ 65536) := Lib.hid hb
  have d1 : decide ((NB : Int) < 0) = false := decide_eq_false (by omega)
  have d2 : decide ((65536 : Int) < (NB : Int)) = false := decide_eq_false (by omega)
  have d2' : decide (65536 < NB) = false := decide_eq_false (by omega)
  obtain ⟨k, hk⟩ : ∃ k : Nat, k = NB - BN := ⟨_, rfl⟩
  have HK := Lib.hid hk
  have m1 : max (IntKind.i64.wrap ((NB : Int) - (BN : Int))) 0 = (k : Int) := by
    rw [IntKind.wrap_i64]
    have := hOK.b2
    omega
  clear hv hOK hok hb hk
  obtain ⟨A, cap, rfl⟩ := HV.out.form
  have HRE : Hid (resL NB (flatM E BN T) = (flatM E BN T ++ List.replicate k EN.zero).take NB) := Lib.hid (by unfold resL; rw [HLN.out, HK.out])
  generalize flatM E BN T = F at hF hO HLN HL2 HRE ⊢
  go_enter Try.func28, Try.ntmps28
  go_upto_region 1 with fail
  generalize (w.alloc (.cells #[.int .i64 (BN : Int), .slice A T.length cap] 44)).alloc (.cells #[.int .i64 0, .slice none 0 0] 44) = w0 at HG0 ⊢
  have HV0 := Lib.hid (HV.out.below HG0.out.bl)
  obtain ⟨_, y0, y1, _, _⟩ := HG0.out.c
  go_upto_region 5 with (go_at_call 36; (with_reducible refine (hC _ HV0.out).mono ?_); rintro e w1 ⟨rfl, hb1⟩; have HG1 := Lib.hid (HG0.out.below hb1); have HV1 := Lib.hid (HV0.out.below hb1); clear hb1 y0 y1)
  clear d1 d2 d2'
  have HGd := Lib.hid (HG1.out.below (Below.refl _ _).drew)
  have HVd := Lib.hid (HV1.out.below (Below.refl _ _).drew)
  obtain ⟨_, y0, y1, _, _⟩ := HGd.out.c
  go_region_law (first
    | (go_simp
       go_at_call 49
       (with_reducible refine (hF _ HVd.out).mono ?_)
       rintro e w3 ⟨rfl, hrow, hb3⟩
       have HG3 := Lib.hid (HGd.out.below hb3)
       have HROW := Lib.hid hrow
       obtain ⟨_, x0, x1, _, _⟩ := HG3.out.c
       obtain ⟨g', c', w4, hrun, hc1, hc2, hb4, hg4, hat4⟩ := app_made w3 (w1.drew.heap.size + 1) BN k F hrow HLN.out HBN.out (by have := HK.out; have := HNB.out; omega) 36
       have HRUN := Lib.hid hrun
       clear hrow hb3 hrun)
    | (refine step_append_run _ (by rfl) (.tmp 23) (.tmp 28) 36 3 (by rfl) _ _ (by rfl) (by rfl) _ _ HRUN.out ?_))
  all_goals
    have HG4 := Lib.hid (HG3.out.below hb4)
    have hnc : NB ≤ c' := by have := HK.out; omega
    have HES : Hid (EntsS w4 (.slice (some ⟨g', 0, none⟩) NB c') (resL NB F)) := Lib.hid (by
      refine ⟨_, c', by rw [HL2.out], by rw [HL2.out]; exact hnc, hc2, .inr ⟨g', 0, rfl, hg4, fun j hj => ?_⟩⟩
      rw [HL2.out] at hj
      have h := hat4 j (by have := HK.out; omega)
      rw [Nat.zero_add, HRE.out]
      have e : ((F ++ List.replicate k EN.zero).take NB).getD j EN.zero = (F ++ List.replicate k EN.zero).getD j EN.zero := by rw [List.getD, List.getElem?_take, if_pos hj]; rfl
      rw [e]
      exact h)
    clear hb4 hat4 hc1 hg4 HRUN HROW x0 x1 y0 y1 m1
    go_wp2_with (go_at_call 53; (with_reducible refine (hO _ _ HES.out).mono ?_); rintro e w5 ⟨tv, us5, rfl, htv, hb5⟩; have HG5 := Lib.hid (HG4.out.below hb5); obtain ⟨A5, cap5, rfl⟩ := htv.tabs.form; have HTV := Lib.hid htv; clear hb5 htv; obtain ⟨_, z0, z1, f0, f1⟩ := HG5.out.r)
    obtain ⟨hB, y0, y1⟩ := HG5.out.ends (.int .i64 (NB : Int)) (.slice A5 (ofM E (resL NB F)).length cap5)
    have hap : Ap (fun q => q = w.heap.size + 1) w5 ((w5.setCell ⟨w.heap.size + 1, 0, none⟩ (.int .i64 (NB : Int))).setCell ⟨w.heap.size + 1, 1, none⟩ (.slice A5 (ofM E (resL NB F)).length cap5)) := (ap_put w5 (w.heap.size + 1) 0 _).trans (ap_put _ (w.heap.size + 1) 1 _)
    refine bodyPost_ret (v := .tuple #[.agg #[.int .i64 (NB : Int), .slice A5 (ofM E (resL NB F)).length cap5], .int .i64 0]) (by simp [results, Try.results28, go_sem, y0, y1]) rfl ?_
    exact ⟨_, rfl, (HTV.out.ap hap (fun q e => by have := HG4.out.r.lt; omega)).tabs, hB⟩
theorem rchtResize_any (e B nb : Int) (T : List TB) (v : Value) (w : World) (hv : TabsS w v T) :
    Calls Try.prog 28 #[.int .i64 e, .agg #[.int .i64 B, v], .int .i64 nb] w fun e' w' => ∃ tv, e' = .returned (.tuple #[.agg #[.int .i64 (resC e ⟨B, T⟩ nb).blocks, tv], .int .i64 (resE e ⟨B, T⟩ nb)]) ∧ TabsS w' tv (resC e ⟨B, T⟩ nb).tabs ∧ Below w.heap.size w w' := by
  unfold resC resE
  dsimp only
  by_cases hok : okB e ⟨B, T⟩ = true
  · rw [if_pos hok, if_pos hok]
    obtain ⟨E, BN, rfl, hBN, hc⟩ := cok_of hok
    dsimp only at hBN hc
    subst hBN
    by_cases hb : mayB nb = true
    · rw [if_pos hb, if_pos hb]
      have h2 : 0 ≤ nb ∧ nb ≤ 65536 := by
        unfold mayB at hb
        simp only [Bool.and_eq_true, decide_eq_true_eq] at hb; exact hb
      obtain ⟨NB, rfl⟩ : ∃ NB : Nat, nb = (NB : Int) := ⟨nb.toNat, by omega⟩
      dsimp only
      rw [Int.toNat_natCast, Int.toNat_natCast, Int.toNat_natCast]
      exact rchtResize_yes E BN NB T v w hv hc hok (by omega)
    · rw [if_neg hb, if_neg hb]
      exact rchtResize_no E BN nb T v w hv BN T 1 (.inr ⟨hok, rfl, rfl, by simpa using hb, rfl⟩)
  · rw [if_neg hok, if_neg hok]
    exact rchtResize_no e B nb T v w hv 0 [] 2 (.inl ⟨by simpa using hok, rfl, rfl, rfl⟩)
end Go.Proofs.Ytjocdbacdbhemaa
