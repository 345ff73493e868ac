/- References: RefsAll, where it is looked at: the walk. -/
import Derived.Test.YthhbaccbhfngbaaRfaE
namespace Go.Proofs.Ythhbaccbhfngbaa
open Go.RowKit

theorem dead_at {L : List RF} {S : List Int} {j : Nat} (h : j < S.length) (hy : liveOf (S.getD j 0) L = 0) : (deadOf L (S.take j)).length < (deadOf L S).length ∧ (deadOf L S).getD (deadOf L (S.take j)).length 0 = S.getD j 0 := by
  have e : deadOf L S = (deadOf L (S.take j) ++ [S.getD j 0]) ++ deadOf L (S.drop (j + 1)) := by
    rw [← deadOf_y h hy]
    unfold deadOf
    rw [← List.filter_append, List.take_append_drop]
  rw [e]
  refine ⟨by simp, ?_⟩
  rw [List.getD, List.append_assoc, List.getElem?_append_right (Nat.le_refl _), Nat.sub_self]
  rfl

set_option maxRecDepth 100000 in
set_option maxHeartbeats 16000000 in
theorem refsAll_main {w : World} {v : Value} {C : List CH} {B : Int} {T : List TB} {tA : Option Addr} {tc : Nat} {sv : Value} {S : List Int} (e : Int) (hv : ChsS w v C) (ht : TabsS w (.slice tA T.length tc) T) (hs : IdxS w sv S) (hsw : ∀ x ∈ S, -9223372036854775808 ≤ x ∧ x ≤ 9223372036854775807) (hB : B ≤ 400) (hS : S.length ≤ 100) :
    Calls Try.prog 5 #[.int .i64 e, v, .agg #[.int .i64 B, .slice tA T.length tc], sv] w fun r w' => r = .returned (.bool true) ∧ Below w.heap.size w w' := by
  obtain ⟨W0, hW0⟩ : ∃ W0, W0 = w.alloc (.cells #[.int .i64 B, .slice tA T.length tc] 44) := ⟨_, rfl⟩
  have hb0 : Below w.heap.size w W0 := by rw [hW0]; exact below_new w _
  have hh := heap_alloc_new w (.cells #[.int .i64 B, .slice tA T.length tc] 44)
  rw [← hW0] at hh
  have HCL : Hid (∀ W, Below W0.heap.size W0 W → W.cell? ⟨w.heap.size, 0, none⟩ = some (.int .i64 B) ∧ W.cell? ⟨w.heap.size, 1, none⟩ = some (.slice tA T.length tc)) := Lib.hid (fun W hb => ⟨(cell_lit ((hb.block _ (blk_lt hh)).trans hh)).trans rfl, (cell_lit ((hb.block _ (blk_lt hh)).trans hh)).trans rfl⟩)
  have HB0 := Lib.hid hb0
  have HW0 := Lib.hid hW0
  have hSm : ∀ W, Below w.heap.size w W → _ := fun W hb => refSmall8_any (hv.below hb)
  have hL := refLives_any
  have HV := Lib.hid hv
  have HT := Lib.hid ht
  have HS := Lib.hid hs
  have HSW := Lib.hid hsw
  obtain ⟨A, c, rfl⟩ := hv.form
  obtain ⟨sA, sc, rfl, _⟩ := hs
  have HB := Lib.hid hB
  have HSL := Lib.hid hS
  have dB : decide (400 < B) = false := decide_eq_false (by omega)
  have dS : decide ((100 : Int) < (S.length : Int)) = false := decide_eq_false (by omega)
  clear hW0 hh hb0 hv ht hsw hB hS
  go_enter Try.func5, Try.ntmps5
  go_upto_region 1 with fail
  rw [← HW0.out]
  go_upto_region 5 with (first
    | (go_at_call 7; (with_reducible refine (hL _).mono ?_); rintro r w1 ⟨rfl, hb⟩; have HB1 : Hid (Below W0.heap.size W0 w1) := Lib.hid hb; clear hb)
    | (go_at_call 6; (with_reducible refine (hSm _ (HB0.out.trans (HB1.out.mono HB0.out.size))).mono ?_); rintro r w2 ⟨b, rfl, hf, hb⟩; have HF := Lib.hid hf; have HB2 : Hid (Below W0.heap.size W0 w2) := Lib.hid (HB1.out.trans (hb.mono HB1.out.size)); obtain ⟨z0, z1⟩ := HCL.out w2 HB2.out; clear hb hf; cases b))
  · go_ret
    exact ⟨by simp, HB0.out.trans (HB2.out.mono HB0.out.size)⟩
  have hF8 : FewC C ∧ C.length ≤ 8 := HF.out (by first | rfl | trivial)
  have HFC := Lib.hid hF8.1
  have HF8 := Lib.hid hF8.2
  clear hF8 HF hSm hL dB dS z0 z1
  have hCa := refCount_any (e := e) ((HV.out.below HB0.out).below HB2.out) HFC.out
  obtain ⟨LA, hLA⟩ : ∃ LA, LA = cntU (rfEnts e C) := ⟨_, rfl⟩
  obtain ⟨LB, hLB⟩ : ∃ LB, LB = cntU (rfEnts e [⟨B, T⟩]) := ⟨_, rfl⟩
  obtain ⟨LC, hLC⟩ : ∃ LC, LC = cntU (rfEnts e (C ++ [⟨B, T⟩])) := ⟨_, rfl⟩
  obtain ⟨e1, he1⟩ : ∃ e1 : Int, e1 = if rfOk e C = true then 0 else 2 := ⟨_, rfl⟩
  obtain ⟨e2, he2⟩ : ∃ e2 : Int, e2 = if rfOk e [⟨B, T⟩] = true then 0 else 2 := ⟨_, rfl⟩
  obtain ⟨e3, he3⟩ : ∃ e3 : Int, e3 = if rfOk e (C ++ [⟨B, T⟩]) = true then 0 else 2 := ⟨_, rfl⟩
  have HLA := Lib.hid hLA
  have HLB := Lib.hid hLB
  have HLC := Lib.hid hLC
  have HE1 := Lib.hid he1
  have HE2 := Lib.hid he2
  have HE3 := Lib.hid he3
  rw [← hLA, ← he1] at hCa
  clear hLA hLB hLC he1 he2 he3
  go_upto_region 6 with (go_at_call 8; (with_reducible refine hCa.mono ?_); rintro r w3 ⟨xa, rfl, hr, hb⟩; obtain ⟨A3, k3, rfl⟩ := hr.form; have HR3 := Lib.hid hr; have HB3 : Hid (Below W0.heap.size W0 w3) := Lib.hid (HB2.out.trans (hb.mono HB2.out.size)); clear hr hb)
  clear hCa
  obtain ⟨z0, z1⟩ := HCL.out w3 HB3.out
  have HT3 := Lib.hid (HT.out.below (HB0.out.trans (HB3.out.mono HB0.out.size)))
  have hCb := refCount_any (e := e) (chs_one (B := B) HT3.out) ⟨by simp, fun x hx => by rw [List.mem_singleton.1 hx]; exact HB.out⟩
  rw [← HLB.out, ← HE2.out] at hCb
  go_upto_region 7 with (go_at_call 8; (with_reducible refine hCb.mono ?_); rintro r w4 ⟨xb, rfl, hr, hb⟩; obtain ⟨A4, k4, rfl⟩ := hr.form; have HR4 := Lib.hid hr; have HB34 : Hid (Below w3.heap.size w3 w4) := Lib.hid ((below_new w3 _).trans (hb.mono (by simp))); clear hr hb)
  clear hCb z0 z1
  have HB4 : Hid (Below W0.heap.size W0 w4) := Lib.hid (HB3.out.trans (HB34.out.mono HB3.out.size))
  have HR34 := Lib.hid (HR3.out.below HB34.out (Nat.le_refl _))
  have HT4 := Lib.hid (HT3.out.below HB34.out)
  have hV4 : ChsS w4 (.slice A C.length c) C := (HV.out.below HB0.out).below (HB4.out)
  obtain ⟨ps, hps, hsrc⟩ := chs_pairs hV4
  have HPS := Lib.hid hps
  have HAD : Hid (AddC w4 (.slice A C.length c) B T tA tc ps) := Lib.hid (AddC.of hsrc (by rw [hps.1]; have := HF8.out; omega))
  have HO3 := Lib.hid (Ord3.of w4 B (.slice tA T.length tc))
  have hFew : FewC (C ++ [⟨B, T⟩]) := few_snoc HFC.out HF8.out HB.out
  have HFEW := Lib.hid hFew
  have HCL4 : Hid (∀ W, Below w4.heap.size w4 W → W.cell? ⟨w.heap.size, 0, none⟩ = some (.int .i64 B) ∧ W.cell? ⟨w.heap.size, 1, none⟩ = some (.slice tA T.length tc)) := Lib.hid (fun W hb => HCL.out W (HB4.out.trans (hb.mono HB4.out.size)))
  obtain ⟨y0, y1⟩ := HCL4.out w4 (Below.refl _ _)
  obtain ⟨y2, y3⟩ := HCL4.out (w4.alloc (.cells #[] 44)) (below_new w4 _)
  clear hps hsrc hV4 hFew
  go_cut [9, 10, 11, 12, 13, 14] (fun s9 s10 s11 s12 s13 s14 wx => s9 = .slice A3 LA.length k3 ∧ s10 = .int .i64 e1 ∧ s11 = .slice A4 LB.length k4 ∧ s12 = .int .i64 e2 ∧ s14 = .int .i64 e3 ∧ ∃ A5 k5, s13 = .slice A5 LC.length k5 ∧ RefS wx (.slice A5 LC.length k5) LC ∧ Below w4.heap.size w4 wx)
  case first =>
    as_aux_lemma =>
      refine wp_region_any (by kernel_rfl) ?_
      change wpAny _ _ _ _ _ _ _ w4.drew
      refine wpAny_take (i := 0) (v := ?_) rfl (by kernel_rfl) (by kernel_rfl) (by kernel_rfl) (fun _ _ _ h => h) (Or.inl ⟨by rfl, ?_⟩) ?_
      rotate_left
      · (intro w; go_simp; first | done | with_reducible rfl)
      simp only [List.getElem_toArray, List.getElem_cons_zero, Act.put, List.setIfInBounds_toArray, List.set_cons_zero, List.set_cons_succ]
      refine wpAny_take (i := 2) (v := ?_) rfl (by kernel_rfl) (by kernel_rfl) (by kernel_rfl) (fun _ _ _ h => h) (Or.inl ⟨by rfl, ?_⟩) ?_
      rotate_left
      · (intro w; go_simp; first | done | with_reducible rfl)
      simp only [List.getElem_toArray, List.getElem_cons_succ, List.getElem_cons_zero, Act.put, List.setIfInBounds_toArray, List.set_cons_zero, List.set_cons_succ]
      refine wpAny_ready (rs := [1, 4]) (by kernel_rfl) (by simp) ?_
      refine (AllReady.cons rfl (fun K hK => ?p1q1) (AllReady.cons rfl (fun K hK => ?p1q4) AllReady.nil))
      case p1q1 =>
        go_simp
        refine hK _ _ ?_
        clear hK K
        refine wpAny_ready (rs := [3, 4]) (by kernel_rfl) (by simp) ?_
        refine (AllReady.cons rfl (fun K hK => ?p2q3) (AllReady.cons rfl (fun K hK => ?p2q4) AllReady.nil))
        case p2q3 =>
          refine step_append_exC _ (by rfl) (.tmp 60) (.tmp 61) 22 22 (by rfl) _ _ (by rfl) (by rfl) _ (HAD.out.e _ _ (by with_reducible first | exact HO3.out.a.1 | exact HO3.out.b.1 | exact HO3.out.c.1) (by omega) (by with_reducible first | exact HO3.out.a.2 | exact HO3.out.b.2.1 | exact HO3.out.c.2.1)) ?_
          intro v1 w5 hz
          have HZ := Lib.hid hz
          have HB5 : Hid (Below w4.heap.size w4 w5) := Lib.hid (by with_reducible first | exact HO3.out.a.1.trans (hz.2.below HO3.out.a.1.size (fun k hk => by omega)) | exact HO3.out.b.1.trans (hz.2.below HO3.out.b.1.size (fun k hk => by omega)) | exact HO3.out.c.1.trans (hz.2.below HO3.out.c.1.size (fun k hk => by omega)))
          obtain ⟨q0, q1⟩ := HCL4.out w5 HB5.out
          clear hz
          refine hK _ _ ?_
          clear hK K
          refine wpAny_ready (rs := [4]) (by kernel_rfl) (by simp) ?_
          refine (AllReady.cons rfl (fun K hK => ?p3q4) AllReady.nil)
          case p3q4 =>
            go_simp
            refine hK _ _ ?_
            clear hK K
            refine wpAny_ready (rs := [5]) (by kernel_rfl) (by simp) ?_
            refine (AllReady.cons rfl (fun K hK => ?p4q5) AllReady.nil)
            case p4q5 =>
              go_simp
              refine hK _ _ ?_
              clear hK K
              refine wpAny_ready (rs := [6]) (by kernel_rfl) (by simp) ?_
              refine (AllReady.cons rfl (fun K hK => ?p5q6) AllReady.nil)
              case p5q6 =>
                refine step_append_exC _ (by rfl) (.tmp 62) (.tmp 64) 22 22 (by rfl) _ _ (by rfl) (by rfl) _ (HAD.out.f _ _ v1 (by with_reducible first | exact HB5.out.size | exact (HB5.out.alloc HB5.out.size _).size) (by with_reducible first | exact HZ.out.1 | exact HZ.out.1.alloc _) (by with_reducible first | exact heap_alloc_new w5 _ | exact (HZ.out.2.block _ HO3.out.b.2.2.2 (by omega)).trans HO3.out.b.2.2.1 | exact (HZ.out.2.block _ HO3.out.c.2.2.2 (by omega)).trans HO3.out.c.2.2.1)) ?_
                intro v2 w6 hz
                have HB6 : Hid (Below w4.heap.size w4 w6) := Lib.hid (by with_reducible first | exact HB5.out.trans hz.2 | exact (HB5.out.alloc HB5.out.size _).trans hz.2)
                have hch := AddC.chs HPS.out HT4.out HB6.out hz.1
                obtain ⟨A2, k2, rfl⟩ := hch.form
                have HCH := Lib.hid hch
                clear hz hch
                refine hK _ _ ?_
                clear hK K
                refine wpAny_ready (rs := [7]) (by kernel_rfl) (by simp) ?_
                refine (AllReady.cons rfl (fun K hK => ?p6q7) AllReady.nil)
                case p6q7 =>
                  have hCc := refCount_any (e := e) HCH.out HFEW.out
                  rw [← HLC.out, ← HE3.out] at hCc
                  rw [List.length_append, List.length_singleton] at hCc
                  clear y0 y1 y2 y3 q0 q1
                  go_simp
                  go_at_call 8
                  with_reducible refine hCc.mono ?_
                  rintro r w7 ⟨xc, rfl, hr, hb⟩
                  obtain ⟨A5, k5, rfl⟩ := hr.form
                  have HR5 := Lib.hid hr
                  have HB7 : Hid (Below w4.heap.size w4 w7) := Lib.hid (HB6.out.trans (hb.mono HB6.out.size))
                  clear hr hb hCc
                  go_wp2_with fail
                  refine wpAny_take (i := 8) (v := ?_) rfl (by kernel_rfl) (by kernel_rfl) (by kernel_rfl) (fun _ _ _ h => h) (Or.inl ⟨by rfl, ?_⟩) ?_
                  rotate_left
                  · (intro w; go_simp; first | done | with_reducible rfl)
                  simp only [List.getElem_toArray, List.getElem_cons_succ, List.getElem_cons_zero, Act.put, List.setIfInBounds_toArray, List.set_cons_zero, List.set_cons_succ]
                  refine wpAny_take (i := 9) (v := ?_) rfl (by kernel_rfl) (by kernel_rfl) (by kernel_rfl) (fun _ _ _ h => h) (Or.inl ⟨by rfl, ?_⟩) ?_
                  rotate_left
                  · (intro w; go_simp; first | done | with_reducible rfl)
                  simp only [List.getElem_toArray, List.getElem_cons_succ, List.getElem_cons_zero, Act.put, List.setIfInBounds_toArray, List.set_cons_zero, List.set_cons_succ]
                  refine wpAny_take (i := 10) (v := ?_) rfl (by kernel_rfl) (by kernel_rfl) (by kernel_rfl) (fun _ _ _ h => h) (Or.inl ⟨by rfl, ?_⟩) ?_
                  rotate_left
                  · (intro w; go_simp; first | done | with_reducible rfl)
                  simp only [List.getElem_toArray, List.getElem_cons_succ, List.getElem_cons_zero, Act.put, List.setIfInBounds_toArray, List.set_cons_zero, List.set_cons_succ]
                  refine wpAny_take (i := 11) (v := ?_) rfl (by kernel_rfl) (by kernel_rfl) (by kernel_rfl) (fun _ _ _ h => h) (Or.inl ⟨by rfl, ?_⟩) ?_
                  rotate_left
                  · (intro w; go_simp; first | done | with_reducible rfl)
                  simp only [List.getElem_toArray, List.getElem_cons_succ, List.getElem_cons_zero, Act.put, List.setIfInBounds_toArray, List.set_cons_zero, List.set_cons_succ]
                  refine wpAny_take (i := 12) (v := ?_) rfl (by kernel_rfl) (by kernel_rfl) (by kernel_rfl) (fun _ _ _ h => h) (Or.inl ⟨by rfl, ?_⟩) ?_
                  rotate_left
                  · (intro w; go_simp; first | done | with_reducible rfl)
                  simp only [List.getElem_toArray, List.getElem_cons_succ, List.getElem_cons_zero, Act.put, List.setIfInBounds_toArray, List.set_cons_zero, List.set_cons_succ]
                  refine wpAny_done (by kernel_rfl) ?_ _
                  go_wp2_with fail
                  go_meet
                  exact ⟨rfl, rfl, rfl, rfl, rfl, _, _, rfl, HR5.out, HB7.out⟩
        case p2q4 =>
          go_simp
          refine hK _ _ ?_
          clear hK K
          refine wpAny_ready (rs := [3, 5]) (by kernel_rfl) (by simp) ?_
          refine (AllReady.cons rfl (fun K hK => ?p8q3) (AllReady.cons rfl (fun K hK => ?p8q5) AllReady.nil))
          case p8q3 =>
            refine step_append_exC _ (by rfl) (.tmp 60) (.tmp 61) 22 22 (by rfl) _ _ (by rfl) (by rfl) _ (HAD.out.e _ _ (by with_reducible first | exact HO3.out.a.1 | exact HO3.out.b.1 | exact HO3.out.c.1) (by omega) (by with_reducible first | exact HO3.out.a.2 | exact HO3.out.b.2.1 | exact HO3.out.c.2.1)) ?_
            intro v1 w5 hz
            have HZ := Lib.hid hz
            have HB5 : Hid (Below w4.heap.size w4 w5) := Lib.hid (by with_reducible first | exact HO3.out.a.1.trans (hz.2.below HO3.out.a.1.size (fun k hk => by omega)) | exact HO3.out.b.1.trans (hz.2.below HO3.out.b.1.size (fun k hk => by omega)) | exact HO3.out.c.1.trans (hz.2.below HO3.out.c.1.size (fun k hk => by omega)))
            obtain ⟨q0, q1⟩ := HCL4.out w5 HB5.out
            clear hz
            refine hK _ _ ?_
            clear hK K
            refine wpAny_ready (rs := [5]) (by kernel_rfl) (by simp) ?_
            refine (AllReady.cons rfl (fun K hK => ?p9q5) AllReady.nil)
            case p9q5 =>
              go_simp
              refine hK _ _ ?_
              clear hK K
              refine wpAny_ready (rs := [6]) (by kernel_rfl) (by simp) ?_
              refine (AllReady.cons rfl (fun K hK => ?p10q6) AllReady.nil)
              case p10q6 =>
                refine step_append_exC _ (by rfl) (.tmp 62) (.tmp 64) 22 22 (by rfl) _ _ (by rfl) (by rfl) _ (HAD.out.f _ _ v1 (by with_reducible first | exact HB5.out.size | exact (HB5.out.alloc HB5.out.size _).size) (by with_reducible first | exact HZ.out.1 | exact HZ.out.1.alloc _) (by with_reducible first | exact heap_alloc_new w5 _ | exact (HZ.out.2.block _ HO3.out.b.2.2.2 (by omega)).trans HO3.out.b.2.2.1 | exact (HZ.out.2.block _ HO3.out.c.2.2.2 (by omega)).trans HO3.out.c.2.2.1)) ?_
                intro v2 w6 hz
                have HB6 : Hid (Below w4.heap.size w4 w6) := Lib.hid (by with_reducible first | exact HB5.out.trans hz.2 | exact (HB5.out.alloc HB5.out.size _).trans hz.2)
                have hch := AddC.chs HPS.out HT4.out HB6.out hz.1
                obtain ⟨A2, k2, rfl⟩ := hch.form
                have HCH := Lib.hid hch
                clear hz hch
                refine hK _ _ ?_
                clear hK K
                refine wpAny_ready (rs := [7]) (by kernel_rfl) (by simp) ?_
                refine (AllReady.cons rfl (fun K hK => ?p11q7) AllReady.nil)
                case p11q7 =>
                  have hCc := refCount_any (e := e) HCH.out HFEW.out
                  rw [← HLC.out, ← HE3.out] at hCc
                  rw [List.length_append, List.length_singleton] at hCc
                  clear y0 y1 y2 y3 q0 q1
                  go_simp
                  go_at_call 8
                  with_reducible refine hCc.mono ?_
                  rintro r w7 ⟨xc, rfl, hr, hb⟩
                  obtain ⟨A5, k5, rfl⟩ := hr.form
                  have HR5 := Lib.hid hr
                  have HB7 : Hid (Below w4.heap.size w4 w7) := Lib.hid (HB6.out.trans (hb.mono HB6.out.size))
                  clear hr hb hCc
                  go_wp2_with fail
                  refine wpAny_take (i := 8) (v := ?_) rfl (by kernel_rfl) (by kernel_rfl) (by kernel_rfl) (fun _ _ _ h => h) (Or.inl ⟨by rfl, ?_⟩) ?_
                  rotate_left
                  · (intro w; go_simp; first | done | with_reducible rfl)
                  simp only [List.getElem_toArray, List.getElem_cons_succ, List.getElem_cons_zero, Act.put, List.setIfInBounds_toArray, List.set_cons_zero, List.set_cons_succ]
                  refine wpAny_take (i := 9) (v := ?_) rfl (by kernel_rfl) (by kernel_rfl) (by kernel_rfl) (fun _ _ _ h => h) (Or.inl ⟨by rfl, ?_⟩) ?_
                  rotate_left
                  · (intro w; go_simp; first | done | with_reducible rfl)
                  simp only [List.getElem_toArray, List.getElem_cons_succ, List.getElem_cons_zero, Act.put, List.setIfInBounds_toArray, List.set_cons_zero, List.set_cons_succ]
                  refine wpAny_take (i := 10) (v := ?_) rfl (by kernel_rfl) (by kernel_rfl) (by kernel_rfl) (fun _ _ _ h => h) (Or.inl ⟨by rfl, ?_⟩) ?_
                  rotate_left
                  · (intro w; go_simp; first | done | with_reducible rfl)
                  simp only [List.getElem_toArray, List.getElem_cons_succ, List.getElem_cons_zero, Act.put, List.setIfInBounds_toArray, List.set_cons_zero, List.set_cons_succ]
                  refine wpAny_take (i := 11) (v := ?_) rfl (by kernel_rfl) (by kernel_rfl) (by kernel_rfl) (fun _ _ _ h => h) (Or.inl ⟨by rfl, ?_⟩) ?_
                  rotate_left
                  · (intro w; go_simp; first | done | with_reducible rfl)
                  simp only [List.getElem_toArray, List.getElem_cons_succ, List.getElem_cons_zero, Act.put, List.setIfInBounds_toArray, List.set_cons_zero, List.set_cons_succ]
                  refine wpAny_take (i := 12) (v := ?_) rfl (by kernel_rfl) (by kernel_rfl) (by kernel_rfl) (fun _ _ _ h => h) (Or.inl ⟨by rfl, ?_⟩) ?_
                  rotate_left
                  · (intro w; go_simp; first | done | with_reducible rfl)
                  simp only [List.getElem_toArray, List.getElem_cons_succ, List.getElem_cons_zero, Act.put, List.setIfInBounds_toArray, List.set_cons_zero, List.set_cons_succ]
                  refine wpAny_done (by kernel_rfl) ?_ _
                  go_wp2_with fail
                  go_meet
                  exact ⟨rfl, rfl, rfl, rfl, rfl, _, _, rfl, HR5.out, HB7.out⟩
          case p8q5 =>
            go_simp
            refine hK _ _ ?_
            clear hK K
            refine wpAny_ready (rs := [3]) (by kernel_rfl) (by simp) ?_
            refine (AllReady.cons rfl (fun K hK => ?p13q3) AllReady.nil)
            case p13q3 =>
              refine step_append_exC _ (by rfl) (.tmp 60) (.tmp 61) 22 22 (by rfl) _ _ (by rfl) (by rfl) _ (HAD.out.e _ _ (by with_reducible first | exact HO3.out.a.1 | exact HO3.out.b.1 | exact HO3.out.c.1) (by omega) (by with_reducible first | exact HO3.out.a.2 | exact HO3.out.b.2.1 | exact HO3.out.c.2.1)) ?_
              intro v1 w5 hz
              have HZ := Lib.hid hz
              have HB5 : Hid (Below w4.heap.size w4 w5) := Lib.hid (by with_reducible first | exact HO3.out.a.1.trans (hz.2.below HO3.out.a.1.size (fun k hk => by omega)) | exact HO3.out.b.1.trans (hz.2.below HO3.out.b.1.size (fun k hk => by omega)) | exact HO3.out.c.1.trans (hz.2.below HO3.out.c.1.size (fun k hk => by omega)))
              obtain ⟨q0, q1⟩ := HCL4.out w5 HB5.out
              clear hz
              refine hK _ _ ?_
              clear hK K
              refine wpAny_ready (rs := [6]) (by kernel_rfl) (by simp) ?_
              refine (AllReady.cons rfl (fun K hK => ?p14q6) AllReady.nil)
              case p14q6 =>
                refine step_append_exC _ (by rfl) (.tmp 62) (.tmp 64) 22 22 (by rfl) _ _ (by rfl) (by rfl) _ (HAD.out.f _ _ v1 (by with_reducible first | exact HB5.out.size | exact (HB5.out.alloc HB5.out.size _).size) (by with_reducible first | exact HZ.out.1 | exact HZ.out.1.alloc _) (by with_reducible first | exact heap_alloc_new w5 _ | exact (HZ.out.2.block _ HO3.out.b.2.2.2 (by omega)).trans HO3.out.b.2.2.1 | exact (HZ.out.2.block _ HO3.out.c.2.2.2 (by omega)).trans HO3.out.c.2.2.1)) ?_
                intro v2 w6 hz
                have HB6 : Hid (Below w4.heap.size w4 w6) := Lib.hid (by with_reducible first | exact HB5.out.trans hz.2 | exact (HB5.out.alloc HB5.out.size _).trans hz.2)
                have hch := AddC.chs HPS.out HT4.out HB6.out hz.1
                obtain ⟨A2, k2, rfl⟩ := hch.form
                have HCH := Lib.hid hch
                clear hz hch
                refine hK _ _ ?_
                clear hK K
                refine wpAny_ready (rs := [7]) (by kernel_rfl) (by simp) ?_
                refine (AllReady.cons rfl (fun K hK => ?p15q7) AllReady.nil)
                case p15q7 =>
                  have hCc := refCount_any (e := e) HCH.out HFEW.out
                  rw [← HLC.out, ← HE3.out] at hCc
                  rw [List.length_append, List.length_singleton] at hCc
                  clear y0 y1 y2 y3 q0 q1
                  go_simp
                  go_at_call 8
                  with_reducible refine hCc.mono ?_
                  rintro r w7 ⟨xc, rfl, hr, hb⟩
                  obtain ⟨A5, k5, rfl⟩ := hr.form
                  have HR5 := Lib.hid hr
                  have HB7 : Hid (Below w4.heap.size w4 w7) := Lib.hid (HB6.out.trans (hb.mono HB6.out.size))
                  clear hr hb hCc
                  go_wp2_with fail
                  refine wpAny_take (i := 8) (v := ?_) rfl (by kernel_rfl) (by kernel_rfl) (by kernel_rfl) (fun _ _ _ h => h) (Or.inl ⟨by rfl, ?_⟩) ?_
                  rotate_left
                  · (intro w; go_simp; first | done | with_reducible rfl)
                  simp only [List.getElem_toArray, List.getElem_cons_succ, List.getElem_cons_zero, Act.put, List.setIfInBounds_toArray, List.set_cons_zero, List.set_cons_succ]
                  refine wpAny_take (i := 9) (v := ?_) rfl (by kernel_rfl) (by kernel_rfl) (by kernel_rfl) (fun _ _ _ h => h) (Or.inl ⟨by rfl, ?_⟩) ?_
                  rotate_left
                  · (intro w; go_simp; first | done | with_reducible rfl)
                  simp only [List.getElem_toArray, List.getElem_cons_succ, List.getElem_cons_zero, Act.put, List.setIfInBounds_toArray, List.set_cons_zero, List.set_cons_succ]
                  refine wpAny_take (i := 10) (v := ?_) rfl (by kernel_rfl) (by kernel_rfl) (by kernel_rfl) (fun _ _ _ h => h) (Or.inl ⟨by rfl, ?_⟩) ?_
                  rotate_left
                  · (intro w; go_simp; first | done | with_reducible rfl)
                  simp only [List.getElem_toArray, List.getElem_cons_succ, List.getElem_cons_zero, Act.put, List.setIfInBounds_toArray, List.set_cons_zero, List.set_cons_succ]
                  refine wpAny_take (i := 11) (v := ?_) rfl (by kernel_rfl) (by kernel_rfl) (by kernel_rfl) (fun _ _ _ h => h) (Or.inl ⟨by rfl, ?_⟩) ?_
                  rotate_left
                  · (intro w; go_simp; first | done | with_reducible rfl)
                  simp only [List.getElem_toArray, List.getElem_cons_succ, List.getElem_cons_zero, Act.put, List.setIfInBounds_toArray, List.set_cons_zero, List.set_cons_succ]
                  refine wpAny_take (i := 12) (v := ?_) rfl (by kernel_rfl) (by kernel_rfl) (by kernel_rfl) (fun _ _ _ h => h) (Or.inl ⟨by rfl, ?_⟩) ?_
                  rotate_left
                  · (intro w; go_simp; first | done | with_reducible rfl)
                  simp only [List.getElem_toArray, List.getElem_cons_succ, List.getElem_cons_zero, Act.put, List.setIfInBounds_toArray, List.set_cons_zero, List.set_cons_succ]
                  refine wpAny_done (by kernel_rfl) ?_ _
                  go_wp2_with fail
                  go_meet
                  exact ⟨rfl, rfl, rfl, rfl, rfl, _, _, rfl, HR5.out, HB7.out⟩
      case p1q4 =>
        go_simp
        refine hK _ _ ?_
        clear hK K
        refine wpAny_ready (rs := [1, 5]) (by kernel_rfl) (by simp) ?_
        refine (AllReady.cons rfl (fun K hK => ?p17q1) (AllReady.cons rfl (fun K hK => ?p17q5) AllReady.nil))
        case p17q1 =>
          go_simp
          refine hK _ _ ?_
          clear hK K
          refine wpAny_ready (rs := [3, 5]) (by kernel_rfl) (by simp) ?_
          refine (AllReady.cons rfl (fun K hK => ?p18q3) (AllReady.cons rfl (fun K hK => ?p18q5) AllReady.nil))
          case p18q3 =>
            refine step_append_exC _ (by rfl) (.tmp 60) (.tmp 61) 22 22 (by rfl) _ _ (by rfl) (by rfl) _ (HAD.out.e _ _ (by with_reducible first | exact HO3.out.a.1 | exact HO3.out.b.1 | exact HO3.out.c.1) (by omega) (by with_reducible first | exact HO3.out.a.2 | exact HO3.out.b.2.1 | exact HO3.out.c.2.1)) ?_
            intro v1 w5 hz
            have HZ := Lib.hid hz
            have HB5 : Hid (Below w4.heap.size w4 w5) := Lib.hid (by with_reducible first | exact HO3.out.a.1.trans (hz.2.below HO3.out.a.1.size (fun k hk => by omega)) | exact HO3.out.b.1.trans (hz.2.below HO3.out.b.1.size (fun k hk => by omega)) | exact HO3.out.c.1.trans (hz.2.below HO3.out.c.1.size (fun k hk => by omega)))
            obtain ⟨q0, q1⟩ := HCL4.out w5 HB5.out
            clear hz
            refine hK _ _ ?_
            clear hK K
            refine wpAny_ready (rs := [5]) (by kernel_rfl) (by simp) ?_
            refine (AllReady.cons rfl (fun K hK => ?p19q5) AllReady.nil)
            case p19q5 =>
              go_simp
              refine hK _ _ ?_
              clear hK K
              refine wpAny_ready (rs := [6]) (by kernel_rfl) (by simp) ?_
              refine (AllReady.cons rfl (fun K hK => ?p20q6) AllReady.nil)
              case p20q6 =>
                refine step_append_exC _ (by rfl) (.tmp 62) (.tmp 64) 22 22 (by rfl) _ _ (by rfl) (by rfl) _ (HAD.out.f _ _ v1 (by with_reducible first | exact HB5.out.size | exact (HB5.out.alloc HB5.out.size _).size) (by with_reducible first | exact HZ.out.1 | exact HZ.out.1.alloc _) (by with_reducible first | exact heap_alloc_new w5 _ | exact (HZ.out.2.block _ HO3.out.b.2.2.2 (by omega)).trans HO3.out.b.2.2.1 | exact (HZ.out.2.block _ HO3.out.c.2.2.2 (by omega)).trans HO3.out.c.2.2.1)) ?_
                intro v2 w6 hz
                have HB6 : Hid (Below w4.heap.size w4 w6) := Lib.hid (by with_reducible first | exact HB5.out.trans hz.2 | exact (HB5.out.alloc HB5.out.size _).trans hz.2)
                have hch := AddC.chs HPS.out HT4.out HB6.out hz.1
                obtain ⟨A2, k2, rfl⟩ := hch.form
                have HCH := Lib.hid hch
                clear hz hch
                refine hK _ _ ?_
                clear hK K
                refine wpAny_ready (rs := [7]) (by kernel_rfl) (by simp) ?_
                refine (AllReady.cons rfl (fun K hK => ?p21q7) AllReady.nil)
                case p21q7 =>
                  have hCc := refCount_any (e := e) HCH.out HFEW.out
                  rw [← HLC.out, ← HE3.out] at hCc
                  rw [List.length_append, List.length_singleton] at hCc
                  clear y0 y1 y2 y3 q0 q1
                  go_simp
                  go_at_call 8
                  with_reducible refine hCc.mono ?_
                  rintro r w7 ⟨xc, rfl, hr, hb⟩
                  obtain ⟨A5, k5, rfl⟩ := hr.form
                  have HR5 := Lib.hid hr
                  have HB7 : Hid (Below w4.heap.size w4 w7) := Lib.hid (HB6.out.trans (hb.mono HB6.out.size))
                  clear hr hb hCc
                  go_wp2_with fail
                  refine wpAny_take (i := 8) (v := ?_) rfl (by kernel_rfl) (by kernel_rfl) (by kernel_rfl) (fun _ _ _ h => h) (Or.inl ⟨by rfl, ?_⟩) ?_
                  rotate_left
                  · (intro w; go_simp; first | done | with_reducible rfl)
                  simp only [List.getElem_toArray, List.getElem_cons_succ, List.getElem_cons_zero, Act.put, List.setIfInBounds_toArray, List.set_cons_zero, List.set_cons_succ]
                  refine wpAny_take (i := 9) (v := ?_) rfl (by kernel_rfl) (by kernel_rfl) (by kernel_rfl) (fun _ _ _ h => h) (Or.inl ⟨by rfl, ?_⟩) ?_
                  rotate_left
                  · (intro w; go_simp; first | done | with_reducible rfl)
                  simp only [List.getElem_toArray, List.getElem_cons_succ, List.getElem_cons_zero, Act.put, List.setIfInBounds_toArray, List.set_cons_zero, List.set_cons_succ]
                  refine wpAny_take (i := 10) (v := ?_) rfl (by kernel_rfl) (by kernel_rfl) (by kernel_rfl) (fun _ _ _ h => h) (Or.inl ⟨by rfl, ?_⟩) ?_
                  rotate_left
                  · (intro w; go_simp; first | done | with_reducible rfl)
                  simp only [List.getElem_toArray, List.getElem_cons_succ, List.getElem_cons_zero, Act.put, List.setIfInBounds_toArray, List.set_cons_zero, List.set_cons_succ]
                  refine wpAny_take (i := 11) (v := ?_) rfl (by kernel_rfl) (by kernel_rfl) (by kernel_rfl) (fun _ _ _ h => h) (Or.inl ⟨by rfl, ?_⟩) ?_
                  rotate_left
                  · (intro w; go_simp; first | done | with_reducible rfl)
                  simp only [List.getElem_toArray, List.getElem_cons_succ, List.getElem_cons_zero, Act.put, List.setIfInBounds_toArray, List.set_cons_zero, List.set_cons_succ]
                  refine wpAny_take (i := 12) (v := ?_) rfl (by kernel_rfl) (by kernel_rfl) (by kernel_rfl) (fun _ _ _ h => h) (Or.inl ⟨by rfl, ?_⟩) ?_
                  rotate_left
                  · (intro w; go_simp; first | done | with_reducible rfl)
                  simp only [List.getElem_toArray, List.getElem_cons_succ, List.getElem_cons_zero, Act.put, List.setIfInBounds_toArray, List.set_cons_zero, List.set_cons_succ]
                  refine wpAny_done (by kernel_rfl) ?_ _
                  go_wp2_with fail
                  go_meet
                  exact ⟨rfl, rfl, rfl, rfl, rfl, _, _, rfl, HR5.out, HB7.out⟩
          case p18q5 =>
            go_simp
            refine hK _ _ ?_
            clear hK K
            refine wpAny_ready (rs := [3]) (by kernel_rfl) (by simp) ?_
            refine (AllReady.cons rfl (fun K hK => ?p23q3) AllReady.nil)
            case p23q3 =>
              refine step_append_exC _ (by rfl) (.tmp 60) (.tmp 61) 22 22 (by rfl) _ _ (by rfl) (by rfl) _ (HAD.out.e _ _ (by with_reducible first | exact HO3.out.a.1 | exact HO3.out.b.1 | exact HO3.out.c.1) (by omega) (by with_reducible first | exact HO3.out.a.2 | exact HO3.out.b.2.1 | exact HO3.out.c.2.1)) ?_
              intro v1 w5 hz
              have HZ := Lib.hid hz
              have HB5 : Hid (Below w4.heap.size w4 w5) := Lib.hid (by with_reducible first | exact HO3.out.a.1.trans (hz.2.below HO3.out.a.1.size (fun k hk => by omega)) | exact HO3.out.b.1.trans (hz.2.below HO3.out.b.1.size (fun k hk => by omega)) | exact HO3.out.c.1.trans (hz.2.below HO3.out.c.1.size (fun k hk => by omega)))
              obtain ⟨q0, q1⟩ := HCL4.out w5 HB5.out
              clear hz
              refine hK _ _ ?_
              clear hK K
              refine wpAny_ready (rs := [6]) (by kernel_rfl) (by simp) ?_
              refine (AllReady.cons rfl (fun K hK => ?p24q6) AllReady.nil)
              case p24q6 =>
                refine step_append_exC _ (by rfl) (.tmp 62) (.tmp 64) 22 22 (by rfl) _ _ (by rfl) (by rfl) _ (HAD.out.f _ _ v1 (by with_reducible first | exact HB5.out.size | exact (HB5.out.alloc HB5.out.size _).size) (by with_reducible first | exact HZ.out.1 | exact HZ.out.1.alloc _) (by with_reducible first | exact heap_alloc_new w5 _ | exact (HZ.out.2.block _ HO3.out.b.2.2.2 (by omega)).trans HO3.out.b.2.2.1 | exact (HZ.out.2.block _ HO3.out.c.2.2.2 (by omega)).trans HO3.out.c.2.2.1)) ?_
                intro v2 w6 hz
                have HB6 : Hid (Below w4.heap.size w4 w6) := Lib.hid (by with_reducible first | exact HB5.out.trans hz.2 | exact (HB5.out.alloc HB5.out.size _).trans hz.2)
                have hch := AddC.chs HPS.out HT4.out HB6.out hz.1
                obtain ⟨A2, k2, rfl⟩ := hch.form
                have HCH := Lib.hid hch
                clear hz hch
                refine hK _ _ ?_
                clear hK K
                refine wpAny_ready (rs := [7]) (by kernel_rfl) (by simp) ?_
                refine (AllReady.cons rfl (fun K hK => ?p25q7) AllReady.nil)
                case p25q7 =>
                  have hCc := refCount_any (e := e) HCH.out HFEW.out
                  rw [← HLC.out, ← HE3.out] at hCc
                  rw [List.length_append, List.length_singleton] at hCc
                  clear y0 y1 y2 y3 q0 q1
                  go_simp
                  go_at_call 8
                  with_reducible refine hCc.mono ?_
                  rintro r w7 ⟨xc, rfl, hr, hb⟩
                  obtain ⟨A5, k5, rfl⟩ := hr.form
                  have HR5 := Lib.hid hr
                  have HB7 : Hid (Below w4.heap.size w4 w7) := Lib.hid (HB6.out.trans (hb.mono HB6.out.size))
                  clear hr hb hCc
                  go_wp2_with fail
                  refine wpAny_take (i := 8) (v := ?_) rfl (by kernel_rfl) (by kernel_rfl) (by kernel_rfl) (fun _ _ _ h => h) (Or.inl ⟨by rfl, ?_⟩) ?_
                  rotate_left
                  · (intro w; go_simp; first | done | with_reducible rfl)
                  simp only [List.getElem_toArray, List.getElem_cons_succ, List.getElem_cons_zero, Act.put, List.setIfInBounds_toArray, List.set_cons_zero, List.set_cons_succ]
                  refine wpAny_take (i := 9) (v := ?_) rfl (by kernel_rfl) (by kernel_rfl) (by kernel_rfl) (fun _ _ _ h => h) (Or.inl ⟨by rfl, ?_⟩) ?_
                  rotate_left
                  · (intro w; go_simp; first | done | with_reducible rfl)
                  simp only [List.getElem_toArray, List.getElem_cons_succ, List.getElem_cons_zero, Act.put, List.setIfInBounds_toArray, List.set_cons_zero, List.set_cons_succ]
                  refine wpAny_take (i := 10) (v := ?_) rfl (by kernel_rfl) (by kernel_rfl) (by kernel_rfl) (fun _ _ _ h => h) (Or.inl ⟨by rfl, ?_⟩) ?_
                  rotate_left
                  · (intro w; go_simp; first | done | with_reducible rfl)
                  simp only [List.getElem_toArray, List.getElem_cons_succ, List.getElem_cons_zero, Act.put, List.setIfInBounds_toArray, List.set_cons_zero, List.set_cons_succ]
                  refine wpAny_take (i := 11) (v := ?_) rfl (by kernel_rfl) (by kernel_rfl) (by kernel_rfl) (fun _ _ _ h => h) (Or.inl ⟨by rfl, ?_⟩) ?_
                  rotate_left
                  · (intro w; go_simp; first | done | with_reducible rfl)
                  simp only [List.getElem_toArray, List.getElem_cons_succ, List.getElem_cons_zero, Act.put, List.setIfInBounds_toArray, List.set_cons_zero, List.set_cons_succ]
                  refine wpAny_take (i := 12) (v := ?_) rfl (by kernel_rfl) (by kernel_rfl) (by kernel_rfl) (fun _ _ _ h => h) (Or.inl ⟨by rfl, ?_⟩) ?_
                  rotate_left
                  · (intro w; go_simp; first | done | with_reducible rfl)
                  simp only [List.getElem_toArray, List.getElem_cons_succ, List.getElem_cons_zero, Act.put, List.setIfInBounds_toArray, List.set_cons_zero, List.set_cons_succ]
                  refine wpAny_done (by kernel_rfl) ?_ _
                  go_wp2_with fail
                  go_meet
                  exact ⟨rfl, rfl, rfl, rfl, rfl, _, _, rfl, HR5.out, HB7.out⟩
        case p17q5 =>
          go_simp
          refine hK _ _ ?_
          clear hK K
          refine wpAny_ready (rs := [1]) (by kernel_rfl) (by simp) ?_
          refine (AllReady.cons rfl (fun K hK => ?p27q1) AllReady.nil)
          case p27q1 =>
            go_simp
            refine hK _ _ ?_
            clear hK K
            refine wpAny_ready (rs := [3]) (by kernel_rfl) (by simp) ?_
            refine (AllReady.cons rfl (fun K hK => ?p28q3) AllReady.nil)
            case p28q3 =>
              refine step_append_exC _ (by rfl) (.tmp 60) (.tmp 61) 22 22 (by rfl) _ _ (by rfl) (by rfl) _ (HAD.out.e _ _ (by with_reducible first | exact HO3.out.a.1 | exact HO3.out.b.1 | exact HO3.out.c.1) (by omega) (by with_reducible first | exact HO3.out.a.2 | exact HO3.out.b.2.1 | exact HO3.out.c.2.1)) ?_
              intro v1 w5 hz
              have HZ := Lib.hid hz
              have HB5 : Hid (Below w4.heap.size w4 w5) := Lib.hid (by with_reducible first | exact HO3.out.a.1.trans (hz.2.below HO3.out.a.1.size (fun k hk => by omega)) | exact HO3.out.b.1.trans (hz.2.below HO3.out.b.1.size (fun k hk => by omega)) | exact HO3.out.c.1.trans (hz.2.below HO3.out.c.1.size (fun k hk => by omega)))
              obtain ⟨q0, q1⟩ := HCL4.out w5 HB5.out
              clear hz
              refine hK _ _ ?_
              clear hK K
              refine wpAny_ready (rs := [6]) (by kernel_rfl) (by simp) ?_
              refine (AllReady.cons rfl (fun K hK => ?p29q6) AllReady.nil)
              case p29q6 =>
                refine step_append_exC _ (by rfl) (.tmp 62) (.tmp 64) 22 22 (by rfl) _ _ (by rfl) (by rfl) _ (HAD.out.f _ _ v1 (by with_reducible first | exact HB5.out.size | exact (HB5.out.alloc HB5.out.size _).size) (by with_reducible first | exact HZ.out.1 | exact HZ.out.1.alloc _) (by with_reducible first | exact heap_alloc_new w5 _ | exact (HZ.out.2.block _ HO3.out.b.2.2.2 (by omega)).trans HO3.out.b.2.2.1 | exact (HZ.out.2.block _ HO3.out.c.2.2.2 (by omega)).trans HO3.out.c.2.2.1)) ?_
                intro v2 w6 hz
                have HB6 : Hid (Below w4.heap.size w4 w6) := Lib.hid (by with_reducible first | exact HB5.out.trans hz.2 | exact (HB5.out.alloc HB5.out.size _).trans hz.2)
                have hch := AddC.chs HPS.out HT4.out HB6.out hz.1
                obtain ⟨A2, k2, rfl⟩ := hch.form
                have HCH := Lib.hid hch
                clear hz hch
                refine hK _ _ ?_
                clear hK K
                refine wpAny_ready (rs := [7]) (by kernel_rfl) (by simp) ?_
                refine (AllReady.cons rfl (fun K hK => ?p30q7) AllReady.nil)
                case p30q7 =>
                  have hCc := refCount_any (e := e) HCH.out HFEW.out
                  rw [← HLC.out, ← HE3.out] at hCc
                  rw [List.length_append, List.length_singleton] at hCc
                  clear y0 y1 y2 y3 q0 q1
                  go_simp
                  go_at_call 8
                  with_reducible refine hCc.mono ?_
                  rintro r w7 ⟨xc, rfl, hr, hb⟩
                  obtain ⟨A5, k5, rfl⟩ := hr.form
                  have HR5 := Lib.hid hr
                  have HB7 : Hid (Below w4.heap.size w4 w7) := Lib.hid (HB6.out.trans (hb.mono HB6.out.size))
                  clear hr hb hCc
                  go_wp2_with fail
                  refine wpAny_take (i := 8) (v := ?_) rfl (by kernel_rfl) (by kernel_rfl) (by kernel_rfl) (fun _ _ _ h => h) (Or.inl ⟨by rfl, ?_⟩) ?_
                  rotate_left
                  · (intro w; go_simp; first | done | with_reducible rfl)
                  simp only [List.getElem_toArray, List.getElem_cons_succ, List.getElem_cons_zero, Act.put, List.setIfInBounds_toArray, List.set_cons_zero, List.set_cons_succ]
                  refine wpAny_take (i := 9) (v := ?_) rfl (by kernel_rfl) (by kernel_rfl) (by kernel_rfl) (fun _ _ _ h => h) (Or.inl ⟨by rfl, ?_⟩) ?_
                  rotate_left
                  · (intro w; go_simp; first | done | with_reducible rfl)
                  simp only [List.getElem_toArray, List.getElem_cons_succ, List.getElem_cons_zero, Act.put, List.setIfInBounds_toArray, List.set_cons_zero, List.set_cons_succ]
                  refine wpAny_take (i := 10) (v := ?_) rfl (by kernel_rfl) (by kernel_rfl) (by kernel_rfl) (fun _ _ _ h => h) (Or.inl ⟨by rfl, ?_⟩) ?_
                  rotate_left
                  · (intro w; go_simp; first | done | with_reducible rfl)
                  simp only [List.getElem_toArray, List.getElem_cons_succ, List.getElem_cons_zero, Act.put, List.setIfInBounds_toArray, List.set_cons_zero, List.set_cons_succ]
                  refine wpAny_take (i := 11) (v := ?_) rfl (by kernel_rfl) (by kernel_rfl) (by kernel_rfl) (fun _ _ _ h => h) (Or.inl ⟨by rfl, ?_⟩) ?_
                  rotate_left
                  · (intro w; go_simp; first | done | with_reducible rfl)
                  simp only [List.getElem_toArray, List.getElem_cons_succ, List.getElem_cons_zero, Act.put, List.setIfInBounds_toArray, List.set_cons_zero, List.set_cons_succ]
                  refine wpAny_take (i := 12) (v := ?_) rfl (by kernel_rfl) (by kernel_rfl) (by kernel_rfl) (fun _ _ _ h => h) (Or.inl ⟨by rfl, ?_⟩) ?_
                  rotate_left
                  · (intro w; go_simp; first | done | with_reducible rfl)
                  simp only [List.getElem_toArray, List.getElem_cons_succ, List.getElem_cons_zero, Act.put, List.setIfInBounds_toArray, List.set_cons_zero, List.set_cons_succ]
                  refine wpAny_done (by kernel_rfl) ?_ _
                  go_wp2_with fail
                  go_meet
                  exact ⟨rfl, rfl, rfl, rfl, rfl, _, _, rfl, HR5.out, HB7.out⟩
  case rest =>
    obtain ⟨rfl, rfl, rfl, rfl, rfl, A5, k5, rfl, hr5, hb5⟩ := hcut
    have HR5 := Lib.hid hr5
    have HB5 := Lib.hid hb5
    clear hr5 hb5 y0 y1 y2 y3
    cases h1 : rfOk e C with
    | false =>
      obtain rfl : e1 = 2 := by rw [HE1.out, h1]; rfl
      obtain rfl : e3 = 2 := by rw [HE3.out, rfOk_app, h1]; rfl
      have hl : LC.length = 0 := by rw [HLC.out]; unfold rfEnts; rw [rfOk_app, h1]; rfl
      rw [hl]
      clear hl h1
      go_wp2_with fail
      go_ret
      exact ⟨by simp, HB0.out.trans ((HB4.out.trans (HB5.out.mono HB4.out.size)).mono HB0.out.size)⟩
    | true =>
      obtain rfl : e1 = 0 := by rw [HE1.out, h1]; rfl
      cases h2 : rfOk e [⟨B, T⟩] with
      | false =>
        obtain rfl : e2 = 2 := by rw [HE2.out, h2]; rfl
        obtain rfl : e3 = 2 := by rw [HE3.out, rfOk_app, h2, Bool.and_false]; rfl
        have hl : LC.length = 0 := by rw [HLC.out]; unfold rfEnts; rw [rfOk_app, h2, Bool.and_false]; rfl
        rw [hl]
        clear hl h1 h2
        go_wp2_with fail
        go_ret
        exact ⟨by simp, HB0.out.trans ((HB4.out.trans (HB5.out.mono HB4.out.size)).mono HB0.out.size)⟩
      | true =>
        obtain rfl : e2 = 0 := by rw [HE2.out, h2]; rfl
        have hok : rfOk e (C ++ [⟨B, T⟩]) = true := by rw [rfOk_app, h1, h2]; rfl
        obtain rfl : e3 = 0 := by rw [HE3.out, hok]; rfl
        have HOK := Lib.hid hok
        have HAPP : Hid (rfEnts e (C ++ [⟨B, T⟩]) = rfEnts e C ++ rfEnts e [⟨B, T⟩]) := Lib.hid (rfEnts_app h1 h2)
        have HLA' : Hid (LC = cntU (rfEnts e C ++ rfEnts e [⟨B, T⟩])) := Lib.hid (by rw [HLC.out, rfEnts_app h1 h2])
        clear h1 h2 hok
        go_upto_region 11 with fail
        rename World => w5
        have HB05 : Hid (Below W0.heap.size W0 w5) := Lib.hid (HB4.out.trans (HB5.out.mono HB4.out.size))
        have HT5 := Lib.hid (HT4.out.below HB5.out)
        have hV5 : ChsS w5 (.slice A C.length c) C := (HV.out.below HB0.out).below (HB05.out)
        obtain ⟨qs, hps, hsrc⟩ := chs_pairs hV5
        clear HPS HAD HO3
        have HPS := Lib.hid hps
        have HAD : Hid (AddC w5 (.slice A C.length c) B T tA tc qs) := Lib.hid (AddC.of hsrc (by rw [hps.1]; have := HF8.out; omega))
        have HO3 := Lib.hid (Ord3.of w5 B (.slice tA T.length tc))
        have HCL5 : Hid (∀ W, Below w5.heap.size w5 W → W.cell? ⟨w.heap.size, 0, none⟩ = some (.int .i64 B) ∧ W.cell? ⟨w.heap.size, 1, none⟩ = some (.slice tA T.length tc)) := Lib.hid (fun W hb => HCL.out W (HB05.out.trans (hb.mono HB05.out.size)))
        obtain ⟨y0, y1⟩ := HCL5.out w5 (Below.refl _ _)
        obtain ⟨y2, y3⟩ := HCL5.out (w5.alloc (.cells #[] 44)) (below_new w5 _)
        clear hps hsrc hV5
        go_cut [87, 88, 89] (fun s87 s88 s89 wx => s88 = .int .i64 (((C ++ [(⟨B, T⟩ : CH)]).length : Nat) : Int) ∧ s89 = .int .i64 0 ∧ ∃ A6 k6, s87 = .slice A6 (C ++ [(⟨B, T⟩ : CH)]).length k6 ∧ ChsS wx (.slice A6 (C ++ [(⟨B, T⟩ : CH)]).length k6) (C ++ [⟨B, T⟩]) ∧ Below w5.heap.size w5 wx)
        case first =>
          as_aux_lemma =>
            refine wp_region_any (by kernel_rfl) ?_
            change wpAny _ _ _ _ _ _ _ w5.drew
            refine wpAny_take (i := 1) (v := ?_) rfl (by kernel_rfl) (by kernel_rfl) (by kernel_rfl) (fun _ _ _ h => h) (Or.inl ⟨by rfl, ?_⟩) ?_
            rotate_left
            · (intro w; go_simp; first | done | with_reducible rfl)
            simp only [List.getElem_toArray, List.getElem_cons_succ, List.getElem_cons_zero, Act.put, List.setIfInBounds_toArray, List.set_cons_zero, List.set_cons_succ]
            refine wpAny_take (i := 7) (v := ?_) rfl (by kernel_rfl) (by kernel_rfl) (by kernel_rfl) (fun _ _ _ h => h) (Or.inl ⟨by rfl, ?_⟩) ?_
            rotate_left
            · (intro w; go_simp; first | done | with_reducible rfl)
            simp only [List.getElem_toArray, List.getElem_cons_succ, List.getElem_cons_zero, Act.put, List.setIfInBounds_toArray, List.set_cons_zero, List.set_cons_succ]
            refine wpAny_ready (rs := [0, 3]) (by kernel_rfl) (by simp) ?_
            refine (AllReady.cons rfl (fun K hK => ?p1q0) (AllReady.cons rfl (fun K hK => ?p1q3) AllReady.nil))
            case p1q0 =>
              go_simp
              refine hK _ _ ?_
              clear hK K
              refine wpAny_ready (rs := [2, 3]) (by kernel_rfl) (by simp) ?_
              refine (AllReady.cons rfl (fun K hK => ?p2q2) (AllReady.cons rfl (fun K hK => ?p2q3) AllReady.nil))
              case p2q2 =>
                refine step_append_exC _ (by rfl) (.tmp 82) (.tmp 83) 22 22 (by rfl) _ _ (by rfl) (by rfl) _ (HAD.out.e _ _ (by with_reducible first | exact HO3.out.a.1 | exact HO3.out.b.1 | exact HO3.out.c.1) (by omega) (by with_reducible first | exact HO3.out.a.2 | exact HO3.out.b.2.1 | exact HO3.out.c.2.1)) ?_
                intro v1 wa hz
                have HZ := Lib.hid hz
                have HBA : Hid (Below w5.heap.size w5 wa) := Lib.hid (by with_reducible first | exact HO3.out.a.1.trans (hz.2.below HO3.out.a.1.size (fun k hk => by omega)) | exact HO3.out.b.1.trans (hz.2.below HO3.out.b.1.size (fun k hk => by omega)) | exact HO3.out.c.1.trans (hz.2.below HO3.out.c.1.size (fun k hk => by omega)))
                obtain ⟨q0, q1⟩ := HCL5.out wa HBA.out
                clear hz
                refine hK _ _ ?_
                clear hK K
                refine wpAny_ready (rs := [3]) (by kernel_rfl) (by simp) ?_
                refine (AllReady.cons rfl (fun K hK => ?p3q3) AllReady.nil)
                case p3q3 =>
                  go_simp
                  refine hK _ _ ?_
                  clear hK K
                  refine wpAny_ready (rs := [4]) (by kernel_rfl) (by simp) ?_
                  refine (AllReady.cons rfl (fun K hK => ?p4q4) AllReady.nil)
                  case p4q4 =>
                    go_simp
                    refine hK _ _ ?_
                    clear hK K
                    refine wpAny_ready (rs := [5]) (by kernel_rfl) (by simp) ?_
                    refine (AllReady.cons rfl (fun K hK => ?p5q5) AllReady.nil)
                    case p5q5 =>
                      refine step_append_exC _ (by rfl) (.tmp 84) (.tmp 86) 22 22 (by rfl) _ _ (by rfl) (by rfl) _ (HAD.out.f _ _ v1 (by with_reducible first | exact HBA.out.size | exact (HBA.out.alloc HBA.out.size _).size) (by with_reducible first | exact HZ.out.1 | exact HZ.out.1.alloc _) (by with_reducible first | exact heap_alloc_new wa _ | exact (HZ.out.2.block _ HO3.out.b.2.2.2 (by omega)).trans HO3.out.b.2.2.1 | exact (HZ.out.2.block _ HO3.out.c.2.2.2 (by omega)).trans HO3.out.c.2.2.1)) ?_
                      intro v2 wb hz
                      have HBB : Hid (Below w5.heap.size w5 wb) := Lib.hid (by with_reducible first | exact HBA.out.trans hz.2 | exact (HBA.out.alloc HBA.out.size _).trans hz.2)
                      have hch := AddC.chs HPS.out HT5.out HBB.out hz.1
                      obtain ⟨A2, k2, rfl⟩ := hch.form
                      have HCH := Lib.hid hch
                      clear hz hch
                      refine hK _ _ ?_
                      clear hK K
                      refine wpAny_take (i := 6) (v := ?_) rfl (by kernel_rfl) (by kernel_rfl) (by kernel_rfl) (fun _ _ _ h => h) (Or.inl ⟨by rfl, ?_⟩) ?_
                      rotate_left
                      · (intro w; go_simp; first | done | with_reducible rfl)
                      simp only [List.getElem_toArray, List.getElem_cons_succ, List.getElem_cons_zero, Act.put, List.setIfInBounds_toArray, List.set_cons_zero, List.set_cons_succ]
                      refine wpAny_done (by kernel_rfl) ?_ _
                      go_wp2_with fail
                      go_meet
                      exact ⟨by simp, rfl, _, _, rfl, HCH.out, HBB.out⟩
              case p2q3 =>
                go_simp
                refine hK _ _ ?_
                clear hK K
                refine wpAny_ready (rs := [2, 4]) (by kernel_rfl) (by simp) ?_
                refine (AllReady.cons rfl (fun K hK => ?p7q2) (AllReady.cons rfl (fun K hK => ?p7q4) AllReady.nil))
                case p7q2 =>
                  refine step_append_exC _ (by rfl) (.tmp 82) (.tmp 83) 22 22 (by rfl) _ _ (by rfl) (by rfl) _ (HAD.out.e _ _ (by with_reducible first | exact HO3.out.a.1 | exact HO3.out.b.1 | exact HO3.out.c.1) (by omega) (by with_reducible first | exact HO3.out.a.2 | exact HO3.out.b.2.1 | exact HO3.out.c.2.1)) ?_
                  intro v1 wa hz
                  have HZ := Lib.hid hz
                  have HBA : Hid (Below w5.heap.size w5 wa) := Lib.hid (by with_reducible first | exact HO3.out.a.1.trans (hz.2.below HO3.out.a.1.size (fun k hk => by omega)) | exact HO3.out.b.1.trans (hz.2.below HO3.out.b.1.size (fun k hk => by omega)) | exact HO3.out.c.1.trans (hz.2.below HO3.out.c.1.size (fun k hk => by omega)))
                  obtain ⟨q0, q1⟩ := HCL5.out wa HBA.out
                  clear hz
                  refine hK _ _ ?_
                  clear hK K
                  refine wpAny_ready (rs := [4]) (by kernel_rfl) (by simp) ?_
                  refine (AllReady.cons rfl (fun K hK => ?p8q4) AllReady.nil)
                  case p8q4 =>
                    go_simp
                    refine hK _ _ ?_
                    clear hK K
                    refine wpAny_ready (rs := [5]) (by kernel_rfl) (by simp) ?_
                    refine (AllReady.cons rfl (fun K hK => ?p9q5) AllReady.nil)
                    case p9q5 =>
                      refine step_append_exC _ (by rfl) (.tmp 84) (.tmp 86) 22 22 (by rfl) _ _ (by rfl) (by rfl) _ (HAD.out.f _ _ v1 (by with_reducible first | exact HBA.out.size | exact (HBA.out.alloc HBA.out.size _).size) (by with_reducible first | exact HZ.out.1 | exact HZ.out.1.alloc _) (by with_reducible first | exact heap_alloc_new wa _ | exact (HZ.out.2.block _ HO3.out.b.2.2.2 (by omega)).trans HO3.out.b.2.2.1 | exact (HZ.out.2.block _ HO3.out.c.2.2.2 (by omega)).trans HO3.out.c.2.2.1)) ?_
                      intro v2 wb hz
                      have HBB : Hid (Below w5.heap.size w5 wb) := Lib.hid (by with_reducible first | exact HBA.out.trans hz.2 | exact (HBA.out.alloc HBA.out.size _).trans hz.2)
                      have hch := AddC.chs HPS.out HT5.out HBB.out hz.1
                      obtain ⟨A2, k2, rfl⟩ := hch.form
                      have HCH := Lib.hid hch
                      clear hz hch
                      refine hK _ _ ?_
                      clear hK K
                      refine wpAny_take (i := 6) (v := ?_) rfl (by kernel_rfl) (by kernel_rfl) (by kernel_rfl) (fun _ _ _ h => h) (Or.inl ⟨by rfl, ?_⟩) ?_
                      rotate_left
                      · (intro w; go_simp; first | done | with_reducible rfl)
                      simp only [List.getElem_toArray, List.getElem_cons_succ, List.getElem_cons_zero, Act.put, List.setIfInBounds_toArray, List.set_cons_zero, List.set_cons_succ]
                      refine wpAny_done (by kernel_rfl) ?_ _
                      go_wp2_with fail
                      go_meet
                      exact ⟨by simp, rfl, _, _, rfl, HCH.out, HBB.out⟩
                case p7q4 =>
                  go_simp
                  refine hK _ _ ?_
                  clear hK K
                  refine wpAny_ready (rs := [2]) (by kernel_rfl) (by simp) ?_
                  refine (AllReady.cons rfl (fun K hK => ?p11q2) AllReady.nil)
                  case p11q2 =>
                    refine step_append_exC _ (by rfl) (.tmp 82) (.tmp 83) 22 22 (by rfl) _ _ (by rfl) (by rfl) _ (HAD.out.e _ _ (by with_reducible first | exact HO3.out.a.1 | exact HO3.out.b.1 | exact HO3.out.c.1) (by omega) (by with_reducible first | exact HO3.out.a.2 | exact HO3.out.b.2.1 | exact HO3.out.c.2.1)) ?_
                    intro v1 wa hz
                    have HZ := Lib.hid hz
                    have HBA : Hid (Below w5.heap.size w5 wa) := Lib.hid (by with_reducible first | exact HO3.out.a.1.trans (hz.2.below HO3.out.a.1.size (fun k hk => by omega)) | exact HO3.out.b.1.trans (hz.2.below HO3.out.b.1.size (fun k hk => by omega)) | exact HO3.out.c.1.trans (hz.2.below HO3.out.c.1.size (fun k hk => by omega)))
                    obtain ⟨q0, q1⟩ := HCL5.out wa HBA.out
                    clear hz
                    refine hK _ _ ?_
                    clear hK K
                    refine wpAny_ready (rs := [5]) (by kernel_rfl) (by simp) ?_
                    refine (AllReady.cons rfl (fun K hK => ?p12q5) AllReady.nil)
                    case p12q5 =>
                      refine step_append_exC _ (by rfl) (.tmp 84) (.tmp 86) 22 22 (by rfl) _ _ (by rfl) (by rfl) _ (HAD.out.f _ _ v1 (by with_reducible first | exact HBA.out.size | exact (HBA.out.alloc HBA.out.size _).size) (by with_reducible first | exact HZ.out.1 | exact HZ.out.1.alloc _) (by with_reducible first | exact heap_alloc_new wa _ | exact (HZ.out.2.block _ HO3.out.b.2.2.2 (by omega)).trans HO3.out.b.2.2.1 | exact (HZ.out.2.block _ HO3.out.c.2.2.2 (by omega)).trans HO3.out.c.2.2.1)) ?_
                      intro v2 wb hz
                      have HBB : Hid (Below w5.heap.size w5 wb) := Lib.hid (by with_reducible first | exact HBA.out.trans hz.2 | exact (HBA.out.alloc HBA.out.size _).trans hz.2)
                      have hch := AddC.chs HPS.out HT5.out HBB.out hz.1
                      obtain ⟨A2, k2, rfl⟩ := hch.form
                      have HCH := Lib.hid hch
                      clear hz hch
                      refine hK _ _ ?_
                      clear hK K
                      refine wpAny_take (i := 6) (v := ?_) rfl (by kernel_rfl) (by kernel_rfl) (by kernel_rfl) (fun _ _ _ h => h) (Or.inl ⟨by rfl, ?_⟩) ?_
                      rotate_left
                      · (intro w; go_simp; first | done | with_reducible rfl)
                      simp only [List.getElem_toArray, List.getElem_cons_succ, List.getElem_cons_zero, Act.put, List.setIfInBounds_toArray, List.set_cons_zero, List.set_cons_succ]
                      refine wpAny_done (by kernel_rfl) ?_ _
                      go_wp2_with fail
                      go_meet
                      exact ⟨by simp, rfl, _, _, rfl, HCH.out, HBB.out⟩
            case p1q3 =>
              go_simp
              refine hK _ _ ?_
              clear hK K
              refine wpAny_ready (rs := [0, 4]) (by kernel_rfl) (by simp) ?_
              refine (AllReady.cons rfl (fun K hK => ?p14q0) (AllReady.cons rfl (fun K hK => ?p14q4) AllReady.nil))
              case p14q0 =>
                go_simp
                refine hK _ _ ?_
                clear hK K
                refine wpAny_ready (rs := [2, 4]) (by kernel_rfl) (by simp) ?_
                refine (AllReady.cons rfl (fun K hK => ?p15q2) (AllReady.cons rfl (fun K hK => ?p15q4) AllReady.nil))
                case p15q2 =>
                  refine step_append_exC _ (by rfl) (.tmp 82) (.tmp 83) 22 22 (by rfl) _ _ (by rfl) (by rfl) _ (HAD.out.e _ _ (by with_reducible first | exact HO3.out.a.1 | exact HO3.out.b.1 | exact HO3.out.c.1) (by omega) (by with_reducible first | exact HO3.out.a.2 | exact HO3.out.b.2.1 | exact HO3.out.c.2.1)) ?_
                  intro v1 wa hz
                  have HZ := Lib.hid hz
                  have HBA : Hid (Below w5.heap.size w5 wa) := Lib.hid (by with_reducible first | exact HO3.out.a.1.trans (hz.2.below HO3.out.a.1.size (fun k hk => by omega)) | exact HO3.out.b.1.trans (hz.2.below HO3.out.b.1.size (fun k hk => by omega)) | exact HO3.out.c.1.trans (hz.2.below HO3.out.c.1.size (fun k hk => by omega)))
                  obtain ⟨q0, q1⟩ := HCL5.out wa HBA.out
                  clear hz
                  refine hK _ _ ?_
                  clear hK K
                  refine wpAny_ready (rs := [4]) (by kernel_rfl) (by simp) ?_
                  refine (AllReady.cons rfl (fun K hK => ?p16q4) AllReady.nil)
                  case p16q4 =>
                    go_simp
                    refine hK _ _ ?_
                    clear hK K
                    refine wpAny_ready (rs := [5]) (by kernel_rfl) (by simp) ?_
                    refine (AllReady.cons rfl (fun K hK => ?p17q5) AllReady.nil)
                    case p17q5 =>
                      refine step_append_exC _ (by rfl) (.tmp 84) (.tmp 86) 22 22 (by rfl) _ _ (by rfl) (by rfl) _ (HAD.out.f _ _ v1 (by with_reducible first | exact HBA.out.size | exact (HBA.out.alloc HBA.out.size _).size) (by with_reducible first | exact HZ.out.1 | exact HZ.out.1.alloc _) (by with_reducible first | exact heap_alloc_new wa _ | exact (HZ.out.2.block _ HO3.out.b.2.2.2 (by omega)).trans HO3.out.b.2.2.1 | exact (HZ.out.2.block _ HO3.out.c.2.2.2 (by omega)).trans HO3.out.c.2.2.1)) ?_
                      intro v2 wb hz
                      have HBB : Hid (Below w5.heap.size w5 wb) := Lib.hid (by with_reducible first | exact HBA.out.trans hz.2 | exact (HBA.out.alloc HBA.out.size _).trans hz.2)
                      have hch := AddC.chs HPS.out HT5.out HBB.out hz.1
                      obtain ⟨A2, k2, rfl⟩ := hch.form
                      have HCH := Lib.hid hch
                      clear hz hch
                      refine hK _ _ ?_
                      clear hK K
                      refine wpAny_take (i := 6) (v := ?_) rfl (by kernel_rfl) (by kernel_rfl) (by kernel_rfl) (fun _ _ _ h => h) (Or.inl ⟨by rfl, ?_⟩) ?_
                      rotate_left
                      · (intro w; go_simp; first | done | with_reducible rfl)
                      simp only [List.getElem_toArray, List.getElem_cons_succ, List.getElem_cons_zero, Act.put, List.setIfInBounds_toArray, List.set_cons_zero, List.set_cons_succ]
                      refine wpAny_done (by kernel_rfl) ?_ _
                      go_wp2_with fail
                      go_meet
                      exact ⟨by simp, rfl, _, _, rfl, HCH.out, HBB.out⟩
                case p15q4 =>
                  go_simp
                  refine hK _ _ ?_
                  clear hK K
                  refine wpAny_ready (rs := [2]) (by kernel_rfl) (by simp) ?_
                  refine (AllReady.cons rfl (fun K hK => ?p19q2) AllReady.nil)
                  case p19q2 =>
                    refine step_append_exC _ (by rfl) (.tmp 82) (.tmp 83) 22 22 (by rfl) _ _ (by rfl) (by rfl) _ (HAD.out.e _ _ (by with_reducible first | exact HO3.out.a.1 | exact HO3.out.b.1 | exact HO3.out.c.1) (by omega) (by with_reducible first | exact HO3.out.a.2 | exact HO3.out.b.2.1 | exact HO3.out.c.2.1)) ?_
                    intro v1 wa hz
                    have HZ := Lib.hid hz
                    have HBA : Hid (Below w5.heap.size w5 wa) := Lib.hid (by with_reducible first | exact HO3.out.a.1.trans (hz.2.below HO3.out.a.1.size (fun k hk => by omega)) | exact HO3.out.b.1.trans (hz.2.below HO3.out.b.1.size (fun k hk => by omega)) | exact HO3.out.c.1.trans (hz.2.below HO3.out.c.1.size (fun k hk => by omega)))
                    obtain ⟨q0, q1⟩ := HCL5.out wa HBA.out
                    clear hz
                    refine hK _ _ ?_
                    clear hK K
                    refine wpAny_ready (rs := [5]) (by kernel_rfl) (by simp) ?_
                    refine (AllReady.cons rfl (fun K hK => ?p20q5) AllReady.nil)
                    case p20q5 =>
                      refine step_append_exC _ (by rfl) (.tmp 84) (.tmp 86) 22 22 (by rfl) _ _ (by rfl) (by rfl) _ (HAD.out.f _ _ v1 (by with_reducible first | exact HBA.out.size | exact (HBA.out.alloc HBA.out.size _).size) (by with_reducible first | exact HZ.out.1 | exact HZ.out.1.alloc _) (by with_reducible first | exact heap_alloc_new wa _ | exact (HZ.out.2.block _ HO3.out.b.2.2.2 (by omega)).trans HO3.out.b.2.2.1 | exact (HZ.out.2.block _ HO3.out.c.2.2.2 (by omega)).trans HO3.out.c.2.2.1)) ?_
                      intro v2 wb hz
                      have HBB : Hid (Below w5.heap.size w5 wb) := Lib.hid (by with_reducible first | exact HBA.out.trans hz.2 | exact (HBA.out.alloc HBA.out.size _).trans hz.2)
                      have hch := AddC.chs HPS.out HT5.out HBB.out hz.1
                      obtain ⟨A2, k2, rfl⟩ := hch.form
                      have HCH := Lib.hid hch
                      clear hz hch
                      refine hK _ _ ?_
                      clear hK K
                      refine wpAny_take (i := 6) (v := ?_) rfl (by kernel_rfl) (by kernel_rfl) (by kernel_rfl) (fun _ _ _ h => h) (Or.inl ⟨by rfl, ?_⟩) ?_
                      rotate_left
                      · (intro w; go_simp; first | done | with_reducible rfl)
                      simp only [List.getElem_toArray, List.getElem_cons_succ, List.getElem_cons_zero, Act.put, List.setIfInBounds_toArray, List.set_cons_zero, List.set_cons_succ]
                      refine wpAny_done (by kernel_rfl) ?_ _
                      go_wp2_with fail
                      go_meet
                      exact ⟨by simp, rfl, _, _, rfl, HCH.out, HBB.out⟩
              case p14q4 =>
                go_simp
                refine hK _ _ ?_
                clear hK K
                refine wpAny_ready (rs := [0]) (by kernel_rfl) (by simp) ?_
                refine (AllReady.cons rfl (fun K hK => ?p22q0) AllReady.nil)
                case p22q0 =>
                  go_simp
                  refine hK _ _ ?_
                  clear hK K
                  refine wpAny_ready (rs := [2]) (by kernel_rfl) (by simp) ?_
                  refine (AllReady.cons rfl (fun K hK => ?p23q2) AllReady.nil)
                  case p23q2 =>
                    refine step_append_exC _ (by rfl) (.tmp 82) (.tmp 83) 22 22 (by rfl) _ _ (by rfl) (by rfl) _ (HAD.out.e _ _ (by with_reducible first | exact HO3.out.a.1 | exact HO3.out.b.1 | exact HO3.out.c.1) (by omega) (by with_reducible first | exact HO3.out.a.2 | exact HO3.out.b.2.1 | exact HO3.out.c.2.1)) ?_
                    intro v1 wa hz
                    have HZ := Lib.hid hz
                    have HBA : Hid (Below w5.heap.size w5 wa) := Lib.hid (by with_reducible first | exact HO3.out.a.1.trans (hz.2.below HO3.out.a.1.size (fun k hk => by omega)) | exact HO3.out.b.1.trans (hz.2.below HO3.out.b.1.size (fun k hk => by omega)) | exact HO3.out.c.1.trans (hz.2.below HO3.out.c.1.size (fun k hk => by omega)))
                    obtain ⟨q0, q1⟩ := HCL5.out wa HBA.out
                    clear hz
                    refine hK _ _ ?_
                    clear hK K
                    refine wpAny_ready (rs := [5]) (by kernel_rfl) (by simp) ?_
                    refine (AllReady.cons rfl (fun K hK => ?p24q5) AllReady.nil)
                    case p24q5 =>
                      refine step_append_exC _ (by rfl) (.tmp 84) (.tmp 86) 22 22 (by rfl) _ _ (by rfl) (by rfl) _ (HAD.out.f _ _ v1 (by with_reducible first | exact HBA.out.size | exact (HBA.out.alloc HBA.out.size _).size) (by with_reducible first | exact HZ.out.1 | exact HZ.out.1.alloc _) (by with_reducible first | exact heap_alloc_new wa _ | exact (HZ.out.2.block _ HO3.out.b.2.2.2 (by omega)).trans HO3.out.b.2.2.1 | exact (HZ.out.2.block _ HO3.out.c.2.2.2 (by omega)).trans HO3.out.c.2.2.1)) ?_
                      intro v2 wb hz
                      have HBB : Hid (Below w5.heap.size w5 wb) := Lib.hid (by with_reducible first | exact HBA.out.trans hz.2 | exact (HBA.out.alloc HBA.out.size _).trans hz.2)
                      have hch := AddC.chs HPS.out HT5.out HBB.out hz.1
                      obtain ⟨A2, k2, rfl⟩ := hch.form
                      have HCH := Lib.hid hch
                      clear hz hch
                      refine hK _ _ ?_
                      clear hK K
                      refine wpAny_take (i := 6) (v := ?_) rfl (by kernel_rfl) (by kernel_rfl) (by kernel_rfl) (fun _ _ _ h => h) (Or.inl ⟨by rfl, ?_⟩) ?_
                      rotate_left
                      · (intro w; go_simp; first | done | with_reducible rfl)
                      simp only [List.getElem_toArray, List.getElem_cons_succ, List.getElem_cons_zero, Act.put, List.setIfInBounds_toArray, List.set_cons_zero, List.set_cons_succ]
                      refine wpAny_done (by kernel_rfl) ?_ _
                      go_wp2_with fail
                      go_meet
                      exact ⟨by simp, rfl, _, _, rfl, HCH.out, HBB.out⟩
        case rest =>
          obtain ⟨rfl, rfl, A6, k6, rfl, hr6, hb6⟩ := hcut
          rename World => w6
          have HR56 := Lib.hid (HR5.out.below hb6 (Nat.le_refl _))
          have HB6 : Hid (Below W0.heap.size W0 w6) := Lib.hid (HB05.out.trans (hb6.mono HB05.out.size))
          have HX6 : Hid (Below w5.heap.size w5 w6) := Lib.hid hb6
          have HR346 := Lib.hid (((HR34.out.below HB5.out (Nat.le_refl _)).below hb6 (Nat.le_refl _)))
          have HR46 := Lib.hid (((HR4.out.below HB5.out (Nat.le_refl _)).below hb6 (Nat.le_refl _)))
          have HS6 := Lib.hid ((HS.out.below HB0.out (Nat.le_refl _)).below HB6.out (Nat.le_refl _))
          have HFE : Hid (rfEnts e (C ++ [⟨B, T⟩]) = (C ++ [(⟨B, T⟩ : CH)]).flatMap (enC e)) := Lib.hid (by unfold rfEnts; rw [if_pos HOK.out])
          have hrl := rents_len (e := e) HFEW.out
          have HRL : Hid ((rfEnts e C ++ rfEnts e [⟨B, T⟩]).length ≤ 3600) := Lib.hid (by rw [HAPP.out] at hrl; exact hrl)
          have HWF : Hid (RfWf LC) := Lib.hid (by rw [HLC.out]; exact cnt_wf HOK.out HFEW.out)
          have HLN : Hid (LC.length ≤ 3600) := Lib.hid (by rw [HLC.out]; exact cnt_len hrl)
          have HSUM : Hid (sumR LC = ((plcOf (rfEnts e (C ++ [⟨B, T⟩]))).length : Nat)) := Lib.hid (by rw [HLC.out]; exact sumR_cnt (by omega))
          clear y0 y1 y2 y3 hb6 HPS HAD HO3 HCL5 hrl
          clear HAPP
          generalize C ++ [(⟨B, T⟩ : CH)] = CC at HLC HFEW HOK HFE HSUM hr6 ⊢
          obtain ⟨A7, k7, hv7, h61, h62, h63⟩ := hr6
          cases hv7
          have H63 := Lib.hid h63
          have H61 := Lib.hid (Nat.le_trans h61 h62)
          clear h61 h62 h63
          rename_i hKK
          apply hKK
          clear hKK
          go_wp2
          go_loopw [15, 89] (fun vx ix wr => ∃ j : Nat, j ≤ CC.length ∧ ix = .int .i64 (j : Int) ∧ vx = .int .i64 (((plcOf ((CC.take j).flatMap (enC e))).length : Nat) : Int) ∧ Below w6.heap.size w6 wr) (fun _ ix _ => CC.length - idxOf ix)
          case atStart => exact ⟨0, Nat.zero_le _, rfl, rfl, Below.refl _ _⟩
          case round =>
            obtain ⟨j, hj, rfl, rfl, hb⟩ := hrel
            have HB := Lib.hid hb
            clear hb
            by_cases hlt : j < CC.length
            · obtain ⟨g, o, rfl, hglt, hk⟩ := H63.out.resolve_left (by intro e; rw [e] at hlt; simp at hlt)
              obtain ⟨tA2, tc2, q0, q1, q2⟩ := hk j hlt
              replace q0 := (HB.out.cell (p := ⟨g, o + j * 2, none⟩) hglt).trans q0
              replace q1 := (HB.out.cell (p := ⟨g, o + j * 2 + 1, none⟩) hglt).trans q1
              replace q2 := q2.below HB.out
              have hmem : CC.getD j CH.zero ∈ CC := by rw [List.getD, List.getElem?_eq_getElem hlt]; exact List.getElem_mem hlt
              have HBL := Lib.hid (enC_len (e := e) (HFEW.out.2 _ hmem))
              have hokc : okB e (CC.getD j CH.zero) = true := by have h := HOK.out; unfold rfOk at h; exact List.all_eq_true.1 h _ hmem
              have HFT := Lib.hid (flat_take (e := e) hlt)
              have hn0 : (plcOf ((CC.take j).flatMap (enC e))).length ≤ 3600 := by
                have h1 := flat_le (e := e) (CC.take j) (fun c hc => HFEW.out.2 c (List.mem_of_mem_take hc))
                have h2 : (CC.take j).length ≤ CC.length := by rw [List.length_take]; omega
                have h3 := plcOf_len ((CC.take j).flatMap (enC e))
                have h4 := HFEW.out.1
                omega
              generalize CC.getD j CH.zero = cc at q0 q1 q2 HBL HFT hokc
              obtain ⟨B2, T2⟩ := cc
              dsimp only at q0 q1 q2
              have hAl := fun W (hw : Below wr.heap.size wr W) => chtAll_any e B2 T2 (.slice tA2 T2.length tc2) W (q2.below hw)
              unfold allErr at hAl
              simp only [if_pos hokc] at hAl
              have hi0 : (0 : Int) ≤ (j : Int) := by omega
              have hi1 : (j : Int) < (CC.length : Int) := by omega
              have HJ : Hid (j + 1 ≤ CC.length ∧ CC.length - (j + 1) < CC.length - j) := Lib.hid ⟨hlt, by omega⟩
              have HNX := Lib.hid (nextR hlt H61.out)
              have HBN : Hid (∀ oo : Obj, Below wr.heap.size wr (wr.alloc oo)) := Lib.hid (fun oo => below_new wr oo)
              have HN0 : Hid ((plcOf ((CC.take (j + 1)).flatMap (enC e))).length = (plcOf ((CC.take j).flatMap (enC e))).length + (plcOf (enC e ⟨B2, T2⟩)).length) := Lib.hid (by rw [HFT.out, plcOf_app, List.length_append])
              generalize (plcOf ((CC.take j).flatMap (enC e))).length = n0 at HN0 hn0 ⊢
              have HNN := Lib.hid hn0
              generalize enC e ⟨B2, T2⟩ = S2 at hAl HBL HN0
              clear hk hmem q2 hokc HFT hn0 hj
              go_wp2_with (go_at_call 22; (with_reducible refine (hAl _ (HBN.out _)).mono ?_); rintro e' w7 ⟨av, bv, rfl, _, hes, hb7⟩; obtain ⟨A8, k8, rfl, e1, e2, e3⟩ := hes; have HE3 := Lib.hid e3; have HE2 := Lib.hid (Nat.le_trans e1 e2); have HB7 : Hid (Below w6.heap.size w6 w7) := Lib.hid (HB.out.trans (((HBN.out _).trans (hb7.mono (HBN.out _).size)).mono HB.out.size)); clear hb7 e1 e2 e3 hAl q0 q1)
              go_loopw [15, 104] (fun vx ix wi => ∃ i : Nat, i ≤ S2.length ∧ ix = .int .i64 (i : Int) ∧ vx = .int .i64 ((n0 + (plcOf (S2.take i)).length : Nat) : Int) ∧ Below w7.heap.size w7 wi) (fun _ ix _ => S2.length - idxOf ix)
              case atStart => exact ⟨0, Nat.zero_le _, rfl, rfl, Below.refl _ _⟩
              case round =>
                obtain ⟨i, hi, rfl, rfl, hbi⟩ := hrel
                have HBI := Lib.hid hbi
                clear hbi
                by_cases hil : i < S2.length
                · obtain ⟨g3, o3, rfl, hg3, hk3⟩ := HE3.out.resolve_left (by intro e; rw [e] at hil; simp at hil)
                  obtain ⟨x0, x1, x2, x3⟩ := (hk3 i hil).below HBI.out hg3
                  have HY : Hid ((S2.getD i EN.zero).kind = 1 → (plcOf (S2.take (i + 1))).length = (plcOf (S2.take i)).length + 1) := Lib.hid (fun h => by rw [getD_snoc EN.zero hil, plcOf_y h, List.length_append]; rfl)
                  have HZ : Hid ((S2.getD i EN.zero).kind ≠ 1 → (plcOf (S2.take (i + 1))).length = (plcOf (S2.take i)).length) := Lib.hid (fun h => by rw [getD_snoc EN.zero hil, plcOf_n h])
                  have hn1 : (plcOf (S2.take i)).length ≤ 400 := by
                    have h1 := plcOf_len (S2.take i)
                    have h2 : (S2.take i).length ≤ S2.length := by rw [List.length_take]; omega
                    have h3 := HBL.out
                    omega
                  generalize S2.getD i EN.zero = p at x0 x1 x2 x3 HY HZ
                  obtain ⟨kk, st, mb, fr⟩ := p
                  dsimp only at x0 x1 x2 x3 HY HZ
                  have hi2 : (0 : Int) ≤ (i : Int) := by omega
                  have hi3 : (i : Int) < (S2.length : Int) := by omega
                  have HJ2 : Hid (i + 1 ≤ S2.length ∧ S2.length - (i + 1) < S2.length - i) := Lib.hid ⟨hil, by omega⟩
                  have HBI2 := Lib.hid (HBI.out.trans ((below_new wr (.cells #[.int .u8 kk, .int .i64 st, .int .i64 mb, .int .i64 fr] 50)).mono HBI.out.size))
                  obtain ⟨m, hm⟩ : ∃ m, m = n0 + (plcOf (S2.take i)).length := ⟨_, rfl⟩
                  have HM := Lib.hid hm
                  have hmw := nextR (j := m) (n := 5000) (by have := HNN.out; omega) (by unfold maxLen; omega)
                  obtain ⟨hw1, hw2⟩ := nextR hil HE2.out
                  obtain ⟨hw3, hw4⟩ := hmw
                  rw [← hm]
                  clear hk3 hn1 hm hi
                  by_cases hk1 : kk = 1
                  · subst hk1
                    have HY2 := Lib.hid (HY.out rfl)
                    clear HY HZ
                    go_wp2
                    go_roundw
                    case rel => exact ⟨i + 1, HJ2.out.1, by go_num, by rw [HY2.out, ← Nat.add_assoc, ← HM.out]; go_num, HBI2.out⟩
                    case measure => have h := HJ2.out.2; clear hw1 hw2 hw3 hw4; simp only [idxOf]; omega
                  · have HZ2 := Lib.hid (HZ.out hk1)
                    have hk2 : (kk == 1) = false := by simpa using hk1
                    have hk3 : decide (kk = 1) = false := by simpa using hk1
                    clear HY HZ
                    go_wp2
                    go_roundw
                    case rel => exact ⟨i + 1, HJ2.out.1, by go_num, by rw [HZ2.out, ← HM.out], HBI2.out⟩
                    case measure => have h := HJ2.out.2; clear hw1 hw2 hw3 hw4; simp only [idxOf]; omega
                · obtain rfl : i = S2.length := by omega
                  have hno : ¬ ((S2.length : Int) < (S2.length : Int)) := by omega
                  have hw := HNX.out
                  obtain ⟨hw1, hw2⟩ := hw
                  rw [List.take_length]
                  have HV1 := HN0
                  go_wp2
                  go_roundw
                  case rel => exact ⟨j + 1, HJ.out.1, by go_num, by rw [HN0.out], HB7.out.trans (HBI.out.mono HB7.out.size)⟩
                  case measure => have h := HJ.out.2; clear hw1 hw2; simp only [idxOf]; omega
            · obtain rfl : j = CC.length := by omega
              have hno : ¬ ((CC.length : Int) < (CC.length : Int)) := by omega
              rw [List.take_length, ← HFE.out]
              go_wp2
              obtain ⟨A9, k9, hv9, h91, h92, h93⟩ := HR56.out
              cases hv9
              have H93 := Lib.hid h93
              have HNAs := Lib.hid (fun (W : World) (s m : Int) (hb : Below w6.heap.size w6 W) => refN_any (HR346.out.below hb (Nat.le_refl _)) s m)
              have HNBs := Lib.hid (fun (W : World) (s m : Int) (hb : Below w6.heap.size w6 W) => refN_any (HR46.out.below hb (Nat.le_refl _)) s m)
              clear hno hj h91 h92 h93
              rename World => w8
              go_loopw [23, 117] (fun vx ix wr => ∃ j : Nat, j ≤ LC.length ∧ ix = .int .i64 (j : Int) ∧ vx = .int .i64 (sumR (LC.take j)) ∧ Below w6.heap.size w6 wr) (fun _ ix _ => LC.length - idxOf ix)
              case atStart => exact ⟨0, Nat.zero_le _, rfl, rfl, HB.out⟩
              case round =>
                clear HB
                obtain ⟨j, hj, rfl, rfl, hb⟩ := hrel
                have HB := Lib.hid hb
                clear hb
                by_cases hlt : j < LC.length
                · obtain ⟨gL, oL, rfl, hgL, hk⟩ := H93.out.resolve_left (by intro e; rw [e] at hlt; simp at hlt)
                  have hc : ∀ W, Below w6.heap.size w6 W → ∀ i q u, i < LC.length → (LC.getD i RF.zero).enc[q]? = some u → W.cell? ⟨gL, oL + i * 3 + q, none⟩ = some u := fun W hw i q u hi hu => (hw.cell (p := ⟨gL, oL + i * 3 + q, none⟩) hgL).trans (hk i hi q u hu)
                  have hlen := HRL.out
                  have hlC := hlt
                  have hLA := HLA'.out
                  obtain ⟨na, nb, hna, hnb, hnn, hp1, hp2, hp3, hp4⟩ : ∃ na nb : Int, na = nOf (LC.getD j RF.zero).s (LC.getD j RF.zero).m LA ∧ nb = nOf (LC.getD j RF.zero).s (LC.getD j RF.zero).m LB ∧ (LC.getD j RF.zero).n = na + nb ∧ 0 ≤ na ∧ 0 ≤ nb ∧ 1 ≤ na + nb ∧ na + nb ≤ 100000 := by
                    rw [HLA.out, HLB.out]; rw [hLA] at hlt ⊢; exact cnt_line rfl hlen hlt
                  obtain ⟨hs1, hs2, hs3⟩ : sumR (LC.take (j + 1)) = sumR (LC.take j) + (LC.getD j RF.zero).n ∧ 0 ≤ sumR (LC.take j) ∧ sumR (LC.take (j + 1)) ≤ 100000 := by
                    rw [hLA] at hlt ⊢; exact sumR_take (by omega) hlt
                  have hap : ∀ i, j = i + 1 → ¬ ((LC.getD i RF.zero).s = (LC.getD j RF.zero).s ∧ (LC.getD i RF.zero).m = (LC.getD j RF.zero).m) := by
                    intro i hi; subst hi; rw [hLA] at hlt ⊢; exact cnt_apart (by omega) (Nat.succ_pos i) hlt
                  have HPRV : Hid (∀ i, j = i + 1 → ∃ sp mp : Int, (∀ W, Below w6.heap.size w6 W → W.cell? ⟨gL, oL + i * 3, none⟩ = some (.int .i64 sp) ∧ W.cell? ⟨gL, oL + i * 3 + 1, none⟩ = some (.int .i64 mp)) ∧ ¬ (sp = (LC.getD j RF.zero).s ∧ mp = (LC.getD j RF.zero).m)) := Lib.hid (fun i hi => ⟨_, _, fun W hw => ⟨hc W hw i 0 _ (by omega) rfl, hc W hw i 1 _ (by omega) rfl⟩, hap i hi⟩)
                  have hcj := fun q u => hc wr HB.out j q u hlt
                  have HNX := Lib.hid (nextR hlt (Nat.le_trans HLN.out (by unfold maxLen; omega)))
                  have HJ : Hid (j + 1 ≤ LC.length ∧ LC.length - (j + 1) < LC.length - j) := Lib.hid ⟨hlt, by omega⟩
                  have hi0 : (0 : Int) ≤ (j : Int) := by omega
                  have hi1 : (j : Int) < (LC.length : Int) := by omega
                  clear hk hc hap hlC hLA hlen
                  generalize LC.getD j RF.zero = p at hcj HPRV hna hnb hnn hs1
                  obtain ⟨s, m, n⟩ := p
                  dsimp only at HPRV hna hnb hnn hs1
                  have q0 : wr.cell? ⟨gL, oL + j * 3, none⟩ = some (.int .i64 s) := hcj 0 _ rfl
                  have q1 : wr.cell? ⟨gL, oL + j * 3 + 1, none⟩ = some (.int .i64 m) := hcj 1 _ rfl
                  have q2 : wr.cell? ⟨gL, oL + j * 3 + 2, none⟩ = some (.int .i64 n) := hcj 2 _ rfl
                  generalize sumR (LC.take j) = sm at hs1 hs2 ⊢
                  have HTK := Lib.hid hs1
                  have HSW : Hid (wrap64 (sm + n) = sm + n ∧ IntKind.i64.wrap (sm + n) = sm + n) := Lib.hid (wrapN (sm + n) (by omega) (by omega))
                  have HNW : Hid (wrap64 (na + nb) = n ∧ IntKind.i64.wrap (na + nb) = n) := Lib.hid (by have h := wrapN (na + nb) (by omega) (by omega); rw [h.1, h.2]; exact ⟨hnn.symm, hnn.symm⟩)
                  have hd1 : decide (n < 1) = false := decide_eq_false (by omega)
                  have hnA := fun (W : World) (hb : Below w6.heap.size w6 W) => HNAs.out W s m hb
                  have hnB := fun (W : World) (hb : Below w6.heap.size w6 W) => HNBs.out W s m hb
                  simp only [← hna] at hnA
                  simp only [← hnb] at hnB
                  obtain ⟨wd, hwd⟩ : ∃ wd, wd = wr.alloc (.cells #[.int .i64 s, .int .i64 m, .int .i64 n] 52) := ⟨_, rfl⟩
                  have hh := heap_alloc_new wr (.cells #[.int .i64 s, .int .i64 m, .int .i64 n] 52)
                  rw [← hwd] at hh
                  have hsz : wd.heap.size = wr.heap.size + 1 := by rw [hwd]; simp
                  have HCE : Hid (∀ W, Below wd.heap.size wd W → W.cell? ⟨wr.heap.size, 0, none⟩ = some (.int .i64 s) ∧ W.cell? ⟨wr.heap.size, 1, none⟩ = some (.int .i64 m) ∧ W.cell? ⟨wr.heap.size, 2, none⟩ = some (.int .i64 n)) := Lib.hid (fun W hb => by
                    have h := (hb.block wr.heap.size (by omega)).trans hh
                    exact ⟨(cell_lit h).trans rfl, (cell_lit h).trans rfl, (cell_lit h).trans rfl⟩)
                  have HD6 : Hid (Below w6.heap.size w6 wd) := Lib.hid (by rw [hwd]; exact HB.out.trans ((below_new wr _).mono HB.out.size))
                  have HD0 : Hid (Below wd.heap.size wd wd) := Lib.hid (Below.refl _ wd)
                  have HDD : Hid (Below wd.heap.size wd wd.drew) := Lib.hid (Below.refl _ wd).drew
                  have hNA := fun (W : World) (hb : Below wd.heap.size wd W) => hnA W (HD6.out.trans (hb.mono HD6.out.size))
                  have hNB := fun (W : World) (hb : Below wd.heap.size wd W) => hnB W (HD6.out.trans (hb.mono HD6.out.size))
                  obtain ⟨sw1, sw2⟩ := HSW.out
                  clear hnA hnB hh hsz hs1 hs2 hs3 hna hnb hnn hp1 hp2 hp3 hp4 hcj hj
                  have HWD := Lib.hid hwd
                  clear hwd
                  go_upto_region 29 with fail
                  rw [← HWD.out]
                  clear HWD q0 q1 q2 sw1 sw2 HSW
                  generalize wr.heap.size = bd at HCE ⊢
                  by_cases hj0 : j = 0
                  · have dj1 : decide (0 < j) = false := decide_eq_false (by omega)
                    have dj2 : decide ((0 : Int) < (j : Int)) = false := decide_eq_false (by omega)
                    have HCD := HCE
                    obtain ⟨x0, x1, x2⟩ := HCD.out wd HD0.out
                    obtain ⟨y0, y1, y2⟩ := HCD.out wd.drew HDD.out
                    obtain ⟨nw1, nw2⟩ := HNW.out
                    clear hi1 hi0 hj0
                    go_cut [157] (fun s157 wx => s157 = .bool false ∧ Below w6.heap.size w6 wx)
                    case first =>
                      as_aux_lemma =>
                        refine wp_region_held_drew (S := fun W => W.cell? ⟨bd, 0, none⟩ = some (.int .i64 s) ∧ W.cell? ⟨bd, 1, none⟩ = some (.int .i64 m) ∧ W.cell? ⟨bd, 2, none⟩ = some (.int .i64 n)) (by kernel_rfl) ⟨y0, y1, y2⟩ (fun hHeld => ?_)
                        clear hHeld
                        refine wpAnyH_take (i := 0) (v := ?v0) rfl (by kernel_rfl) (by kernel_rfl) (by kernel_rfl) (fun _ _ _ h => h) (Or.inl ⟨by rfl, ?hy0⟩) ⟨y0, y1, y2⟩ ?_
                        case hy0 => (intro W hSw; obtain ⟨s0, s1, s2⟩ := hSw; go_simp; first | done | with_reducible rfl)
                        simp only [List.getElem_toArray, List.getElem_cons_zero, Act.put, List.setIfInBounds_toArray, List.set_cons_zero, List.set_cons_succ]
                        refine wpAnyH_take (i := 1) (v := ?v1) rfl (by kernel_rfl) (by kernel_rfl) (by kernel_rfl) (fun _ _ _ h => h) (Or.inl ⟨by rfl, ?hy1⟩) ⟨y0, y1, y2⟩ ?_
                        case hy1 => (intro W hSw; obtain ⟨s0, s1, s2⟩ := hSw; go_simp; first | done | with_reducible rfl)
                        simp only [List.getElem_toArray, List.getElem_cons_succ, List.getElem_cons_zero, Act.put, List.setIfInBounds_toArray, List.set_cons_zero, List.set_cons_succ]
                        refine wpAnyH_take (i := 2) (v := ?v2) rfl (by kernel_rfl) (by kernel_rfl) (by kernel_rfl) (fun _ _ _ h => h) (Or.inl ⟨by rfl, ?hy2⟩) ⟨y0, y1, y2⟩ ?_
                        case hy2 => (intro W hSw; obtain ⟨s0, s1, s2⟩ := hSw; go_simp; first | done | with_reducible rfl)
                        simp only [List.getElem_toArray, List.getElem_cons_succ, List.getElem_cons_zero, Act.put, List.setIfInBounds_toArray, List.set_cons_zero, List.set_cons_succ]
                        refine wpAnyH_take (i := 3) (v := ?v3) rfl (by kernel_rfl) (by kernel_rfl) (by kernel_rfl) (fun _ _ _ h => h) (Or.inl ⟨by rfl, ?hy3⟩) ⟨y0, y1, y2⟩ ?_
                        case hy3 => (intro W hSw; obtain ⟨s0, s1, s2⟩ := hSw; go_simp; first | done | with_reducible rfl)
                        simp only [List.getElem_toArray, List.getElem_cons_succ, List.getElem_cons_zero, Act.put, List.setIfInBounds_toArray, List.set_cons_zero, List.set_cons_succ]
                        refine wpAnyH_take (i := 4) (v := ?v4) rfl (by kernel_rfl) (by kernel_rfl) (by kernel_rfl) (fun _ _ _ h => h) (Or.inl ⟨by rfl, ?hy4⟩) ⟨y0, y1, y2⟩ ?_
                        case hy4 => (intro W hSw; obtain ⟨s0, s1, s2⟩ := hSw; go_simp; first | done | with_reducible rfl)
                        simp only [List.getElem_toArray, List.getElem_cons_succ, List.getElem_cons_zero, Act.put, List.setIfInBounds_toArray, List.set_cons_zero, List.set_cons_succ]
                        refine wpAnyH_take (i := 5) (v := ?v5) rfl (by kernel_rfl) (by kernel_rfl) (by kernel_rfl) (fun _ _ _ h => h) (Or.inl ⟨by rfl, ?hy5⟩) ⟨y0, y1, y2⟩ ?_
                        case hy5 => (intro W hSw; obtain ⟨s0, s1, s2⟩ := hSw; go_simp; first | done | with_reducible rfl)
                        simp only [List.getElem_toArray, List.getElem_cons_succ, List.getElem_cons_zero, Act.put, List.setIfInBounds_toArray, List.set_cons_zero, List.set_cons_succ]
                        refine wpAnyH_take (i := 6) (v := ?v6) rfl (by kernel_rfl) (by kernel_rfl) (by kernel_rfl) (fun _ _ _ h => h) (Or.inl ⟨by rfl, ?hy6⟩) ⟨y0, y1, y2⟩ ?_
                        case hy6 => (intro W hSw; obtain ⟨s0, s1, s2⟩ := hSw; go_simp; first | done | with_reducible rfl)
                        simp only [List.getElem_toArray, List.getElem_cons_succ, List.getElem_cons_zero, Act.put, List.setIfInBounds_toArray, List.set_cons_zero, List.set_cons_succ]
                        refine wpAnyH_take (i := 7) (v := ?v7) rfl (by kernel_rfl) (by kernel_rfl) (by kernel_rfl) (fun _ _ _ h => h) (Or.inl ⟨by rfl, ?hy7⟩) ⟨y0, y1, y2⟩ ?_
                        case hy7 => (intro W hSw; obtain ⟨s0, s1, s2⟩ := hSw; go_simp; first | done | with_reducible rfl)
                        simp only [List.getElem_toArray, List.getElem_cons_succ, List.getElem_cons_zero, Act.put, List.setIfInBounds_toArray, List.set_cons_zero, List.set_cons_succ]
                        refine wpAnyH_take (i := 8) (v := ?v8) rfl (by kernel_rfl) (by kernel_rfl) (by kernel_rfl) (fun _ _ _ h => h) (Or.inl ⟨by rfl, ?hy8⟩) ⟨y0, y1, y2⟩ ?_
                        case hy8 => (intro W hSw; obtain ⟨s0, s1, s2⟩ := hSw; go_simp; first | done | with_reducible rfl)
                        simp only [List.getElem_toArray, List.getElem_cons_succ, List.getElem_cons_zero, Act.put, List.setIfInBounds_toArray, List.set_cons_zero, List.set_cons_succ]
                        refine wpAnyH_take (i := 10) (v := ?v10) rfl (by kernel_rfl) (by kernel_rfl) (by kernel_rfl) (fun _ _ _ h => h) (Or.inl ⟨by rfl, ?hy10⟩) ⟨y0, y1, y2⟩ ?_
                        case hy10 => (intro W hSw; obtain ⟨s0, s1, s2⟩ := hSw; go_simp; first | done | with_reducible rfl)
                        simp only [List.getElem_toArray, List.getElem_cons_succ, List.getElem_cons_zero, Act.put, List.setIfInBounds_toArray, List.set_cons_zero, List.set_cons_succ]
                        refine wpAnyH_take (i := 11) (v := ?v11) rfl (by kernel_rfl) (by kernel_rfl) (by kernel_rfl) (fun _ _ _ h => h) (Or.inl ⟨by rfl, ?hy11⟩) ⟨y0, y1, y2⟩ ?_
                        case hy11 => (intro W hSw; obtain ⟨s0, s1, s2⟩ := hSw; go_simp; first | done | with_reducible rfl)
                        simp only [List.getElem_toArray, List.getElem_cons_succ, List.getElem_cons_zero, Act.put, List.setIfInBounds_toArray, List.set_cons_zero, List.set_cons_succ]
                        refine wpAnyH_take (i := 12) (v := ?v12) rfl (by kernel_rfl) (by kernel_rfl) (by kernel_rfl) (fun _ _ _ h => h) (Or.inl ⟨by rfl, ?hy12⟩) ⟨y0, y1, y2⟩ ?_
                        case hy12 => (intro W hSw; obtain ⟨s0, s1, s2⟩ := hSw; go_simp; first | done | with_reducible rfl)
                        simp only [List.getElem_toArray, List.getElem_cons_succ, List.getElem_cons_zero, Act.put, List.setIfInBounds_toArray, List.set_cons_zero, List.set_cons_succ]
                        refine wpAnyH_ready (rs := [9]) (by kernel_rfl) (by simp) ?_
                        refine AllReadyH.cons rfl (fun K hK => ?_) AllReadyH.nil
                        go_simp
                        go_at_call 14
                        with_reducible refine (hNA _ HDD.out).mono ?_
                        rintro e' wn ⟨rfl, hb⟩
                        have Hwn : Hid (Below wd.heap.size wd wn) := Lib.hid (HDD.out.trans (hb.mono HDD.out.size))
                        obtain ⟨n0, n1, n2⟩ := HCD.out wn Hwn.out
                        clear hb
                        go_wp2_with fail
                        refine hK.out _ _ ⟨n0, n1, n2⟩ (fun hHeld => ?_)
                        clear hHeld hK K
                        try simp only [List.getElem_toArray, List.getElem_cons_succ, List.getElem_cons_zero, Act.put, List.setIfInBounds_toArray, List.set_cons_zero, List.set_cons_succ]
                        refine wpAnyH_ready (rs := [13]) (by kernel_rfl) (by simp) ?_
                        refine AllReadyH.cons rfl (fun K hK => ?_) AllReadyH.nil
                        go_simp
                        go_at_call 14
                        with_reducible refine (hNB _ Hwn.out).mono ?_
                        rintro e' wm ⟨rfl, hb⟩
                        have Hwm : Hid (Below wd.heap.size wd wm) := Lib.hid (Hwn.out.trans (hb.mono Hwn.out.size))
                        obtain ⟨m0, m1, m2⟩ := HCD.out wm Hwm.out
                        clear hb
                        go_wp2_with fail
                        refine hK.out _ _ ⟨m0, m1, m2⟩ (fun hHeld => ?_)
                        clear hHeld hK K
                        try simp only [List.getElem_toArray, List.getElem_cons_succ, List.getElem_cons_zero, Act.put, List.setIfInBounds_toArray, List.set_cons_zero, List.set_cons_succ]
                        refine wpAnyH_take (i := 14) (v := ?v14) rfl (by kernel_rfl) (by kernel_rfl) (by kernel_rfl) (fun _ _ _ h => h) (Or.inl ⟨by rfl, ?hy14⟩) ⟨m0, m1, m2⟩ ?_
                        case hy14 => (intro W hSw; obtain ⟨s0, s1, s2⟩ := hSw; go_simp; first | done | with_reducible rfl)
                        simp only [List.getElem_toArray, List.getElem_cons_succ, List.getElem_cons_zero, Act.put, List.setIfInBounds_toArray, List.set_cons_zero, List.set_cons_succ]
                        refine wpAnyH_take (i := 15) (v := ?v15) rfl (by kernel_rfl) (by kernel_rfl) (by kernel_rfl) (fun _ _ _ h => h) (Or.inl ⟨by rfl, ?hy15⟩) ⟨m0, m1, m2⟩ ?_
                        case hy15 => (intro W hSw; obtain ⟨s0, s1, s2⟩ := hSw; go_simp; first | done | with_reducible rfl)
                        simp only [List.getElem_toArray, List.getElem_cons_succ, List.getElem_cons_zero, Act.put, List.setIfInBounds_toArray, List.set_cons_zero, List.set_cons_succ]
                        refine wpAnyH_take (i := 16) (v := ?v16) rfl (by kernel_rfl) (by kernel_rfl) (by kernel_rfl) (fun _ _ _ h => h) (Or.inl ⟨by rfl, ?hy16⟩) ⟨m0, m1, m2⟩ ?_
                        case hy16 => (intro W hSw; obtain ⟨s0, s1, s2⟩ := hSw; go_simp; first | done | with_reducible rfl)
                        simp only [List.getElem_toArray, List.getElem_cons_succ, List.getElem_cons_zero, Act.put, List.setIfInBounds_toArray, List.set_cons_zero, List.set_cons_succ]
                        refine wpAnyH_take (i := 17) (v := ?v17) rfl (by kernel_rfl) (by kernel_rfl) (by kernel_rfl) (fun _ _ _ h => h) (Or.inl ⟨by rfl, ?hy17⟩) ⟨m0, m1, m2⟩ ?_
                        case hy17 => (intro W hSw; obtain ⟨s0, s1, s2⟩ := hSw; go_simp; first | done | with_reducible rfl)
                        simp only [List.getElem_toArray, List.getElem_cons_succ, List.getElem_cons_zero, Act.put, List.setIfInBounds_toArray, List.set_cons_zero, List.set_cons_succ]
                        refine wpAnyH_take (i := 18) (v := ?v18) rfl (by kernel_rfl) (by kernel_rfl) (by kernel_rfl) (fun _ _ _ h => h) (Or.inl ⟨by rfl, ?hy18⟩) ⟨m0, m1, m2⟩ ?_
                        case hy18 => (intro W hSw; obtain ⟨s0, s1, s2⟩ := hSw; go_simp; first | done | with_reducible rfl)
                        simp only [List.getElem_toArray, List.getElem_cons_succ, List.getElem_cons_zero, Act.put, List.setIfInBounds_toArray, List.set_cons_zero, List.set_cons_succ]
                        refine wpAnyH_take (i := 19) (v := ?v19) rfl (by kernel_rfl) (by kernel_rfl) (by kernel_rfl) (fun _ _ _ h => h) (Or.inl ⟨by rfl, ?hy19⟩) ⟨m0, m1, m2⟩ ?_
                        case hy19 => (intro W hSw; obtain ⟨s0, s1, s2⟩ := hSw; go_simp; first | done | with_reducible rfl)
                        simp only [List.getElem_toArray, List.getElem_cons_succ, List.getElem_cons_zero, Act.put, List.setIfInBounds_toArray, List.set_cons_zero, List.set_cons_succ]
                        refine wpAnyH_take (i := 20) (v := ?v20) rfl (by kernel_rfl) (by kernel_rfl) (by kernel_rfl) (fun _ _ _ h => h) (Or.inl ⟨by rfl, ?hy20⟩) ⟨m0, m1, m2⟩ ?_
                        case hy20 => (intro W hSw; obtain ⟨s0, s1, s2⟩ := hSw; go_simp; first | done | with_reducible rfl)
                        simp only [List.getElem_toArray, List.getElem_cons_succ, List.getElem_cons_zero, Act.put, List.setIfInBounds_toArray, List.set_cons_zero, List.set_cons_succ]
                        refine wpAnyH_take (i := 21) (v := undef) rfl (by kernel_rfl) (by kernel_rfl) (by kernel_rfl) (fun _ _ _ h => h) (Or.inr ⟨by rfl, rfl⟩) ⟨m0, m1, m2⟩ ?_
                        simp only [List.getElem_toArray, List.getElem_cons_succ, List.getElem_cons_zero, Act.put, List.setIfInBounds_toArray, List.set_cons_zero, List.set_cons_succ]
                        refine wpAnyH_take (i := 22) (v := undef) rfl (by kernel_rfl) (by kernel_rfl) (by kernel_rfl) (fun _ _ _ h => h) (Or.inr ⟨by rfl, rfl⟩) ⟨m0, m1, m2⟩ ?_
                        simp only [List.getElem_toArray, List.getElem_cons_succ, List.getElem_cons_zero, Act.put, List.setIfInBounds_toArray, List.set_cons_zero, List.set_cons_succ]
                        refine wpAnyH_take (i := 23) (v := undef) rfl (by kernel_rfl) (by kernel_rfl) (by kernel_rfl) (fun _ _ _ h => h) (Or.inr ⟨by rfl, rfl⟩) ⟨m0, m1, m2⟩ ?_
                        simp only [List.getElem_toArray, List.getElem_cons_succ, List.getElem_cons_zero, Act.put, List.setIfInBounds_toArray, List.set_cons_zero, List.set_cons_succ]
                        refine wpAnyH_take (i := 24) (v := undef) rfl (by kernel_rfl) (by kernel_rfl) (by kernel_rfl) (fun _ _ _ h => h) (Or.inr ⟨by rfl, rfl⟩) ⟨m0, m1, m2⟩ ?_
                        simp only [List.getElem_toArray, List.getElem_cons_succ, List.getElem_cons_zero, Act.put, List.setIfInBounds_toArray, List.set_cons_zero, List.set_cons_succ]
                        refine wpAnyH_take (i := 25) (v := undef) rfl (by kernel_rfl) (by kernel_rfl) (by kernel_rfl) (fun _ _ _ h => h) (Or.inr ⟨by rfl, rfl⟩) ⟨m0, m1, m2⟩ ?_
                        simp only [List.getElem_toArray, List.getElem_cons_succ, List.getElem_cons_zero, Act.put, List.setIfInBounds_toArray, List.set_cons_zero, List.set_cons_succ]
                        refine wpAnyH_take (i := 26) (v := undef) rfl (by kernel_rfl) (by kernel_rfl) (by kernel_rfl) (fun _ _ _ h => h) (Or.inr ⟨by rfl, rfl⟩) ⟨m0, m1, m2⟩ ?_
                        simp only [List.getElem_toArray, List.getElem_cons_succ, List.getElem_cons_zero, Act.put, List.setIfInBounds_toArray, List.set_cons_zero, List.set_cons_succ]
                        refine wpAnyH_take (i := 27) (v := undef) rfl (by kernel_rfl) (by kernel_rfl) (by kernel_rfl) (fun _ _ _ h => h) (Or.inr ⟨by rfl, rfl⟩) ⟨m0, m1, m2⟩ ?_
                        simp only [List.getElem_toArray, List.getElem_cons_succ, List.getElem_cons_zero, Act.put, List.setIfInBounds_toArray, List.set_cons_zero, List.set_cons_succ]
                        refine wpAnyH_take (i := 28) (v := undef) rfl (by kernel_rfl) (by kernel_rfl) (by kernel_rfl) (fun _ _ _ h => h) (Or.inr ⟨by rfl, rfl⟩) ⟨m0, m1, m2⟩ ?_
                        simp only [List.getElem_toArray, List.getElem_cons_succ, List.getElem_cons_zero, Act.put, List.setIfInBounds_toArray, List.set_cons_zero, List.set_cons_succ]
                        refine wpAnyH_take (i := 29) (v := undef) rfl (by kernel_rfl) (by kernel_rfl) (by kernel_rfl) (fun _ _ _ h => h) (Or.inr ⟨by rfl, rfl⟩) ⟨m0, m1, m2⟩ ?_
                        simp only [List.getElem_toArray, List.getElem_cons_succ, List.getElem_cons_zero, Act.put, List.setIfInBounds_toArray, List.set_cons_zero, List.set_cons_succ]
                        refine wpAnyH_take (i := 30) (v := ?v30) rfl (by kernel_rfl) (by kernel_rfl) (by kernel_rfl) (fun _ _ _ h => h) (Or.inl ⟨by rfl, ?hy30⟩) ⟨m0, m1, m2⟩ ?_
                        case hy30 => (intro W hSw; obtain ⟨s0, s1, s2⟩ := hSw; go_simp; first | done | with_reducible rfl)
                        simp only [List.getElem_toArray, List.getElem_cons_succ, List.getElem_cons_zero, Act.put, List.setIfInBounds_toArray, List.set_cons_zero, List.set_cons_succ]
                        refine wpAnyH_take (i := 31) (v := ?v31) rfl (by kernel_rfl) (by kernel_rfl) (by kernel_rfl) (fun _ _ _ h => h) (Or.inl ⟨by rfl, ?hy31⟩) ⟨m0, m1, m2⟩ ?_
                        case hy31 => (intro W hSw; obtain ⟨s0, s1, s2⟩ := hSw; go_simp; first | done | with_reducible rfl)
                        simp only [List.getElem_toArray, List.getElem_cons_succ, List.getElem_cons_zero, Act.put, List.setIfInBounds_toArray, List.set_cons_zero, List.set_cons_succ]
                        refine wpAnyH_done (by kernel_rfl) ?_ _
                        go_wp2_with fail
                        go_meet
                        exact ⟨rfl, HD6.out.trans (Hwm.out.mono HD6.out.size)⟩
                    case rest =>
                      obtain ⟨rfl, hbx⟩ := hcut
                      obtain ⟨hw1, hw2⟩ := HNX.out
                      have HBX := Lib.hid hbx
                      clear hbx
                      go_wp2
                      go_roundw
                      case rel => exact ⟨j + 1, HJ.out.1, by go_num, by rw [HTK.out], HBX.out⟩
                      case measure => have h := HJ.out.2; clear hw1 hw2; simp only [idxOf]; omega
                  · obtain ⟨jj, HJJ⟩ : ∃ jj, Hid (j = jj + 1) := ⟨j - 1, Lib.hid (by omega)⟩
                    obtain ⟨sp, mp, hpc, hne⟩ := HPRV.out jj HJJ.out
                    have HCD : Hid (∀ W, Below wd.heap.size wd W → W.cell? ⟨bd, 0, none⟩ = some (.int .i64 s) ∧ W.cell? ⟨bd, 1, none⟩ = some (.int .i64 m) ∧ W.cell? ⟨bd, 2, none⟩ = some (.int .i64 n) ∧ W.cell? ⟨gL, oL + jj * 3, none⟩ = some (.int .i64 sp) ∧ W.cell? ⟨gL, oL + jj * 3 + 1, none⟩ = some (.int .i64 mp)) := Lib.hid (fun W hb => ⟨(HCE.out W hb).1, (HCE.out W hb).2.1, (HCE.out W hb).2.2, hpc W (HD6.out.trans (hb.mono HD6.out.size))⟩)
                    have dj1 : decide (0 < j) = true := decide_eq_true (by omega)
                    have dj2 : decide ((0 : Int) < (j : Int)) = true := decide_eq_true (by omega)
                    have hk0 : (0 : Int) ≤ (jj : Int) := by omega
                    have hk1 : (jj : Int) < (LC.length : Int) := by have := HJJ.out; omega
                    have hkj : wrap64 ((j : Int) - 1) = (jj : Int) ∧ IntKind.i64.wrap ((j : Int) - 1) = (jj : Int) := by
                      have h1 := HJJ.out
                      have h2 := HLN.out
                      have h := wrapN ((j : Int) - 1) (by omega) (by omega)
                      rw [h.1, h.2]; omega
                    obtain ⟨kj1, kj2⟩ := hkj
                    clear hpc
                    obtain ⟨x0, x1, x2, x3, x4⟩ := HCD.out wd HD0.out
                    obtain ⟨y0, y1, y2, y3, y4⟩ := HCD.out wd.drew HDD.out
                    obtain ⟨nw1, nw2⟩ := HNW.out
                    by_cases hps : sp = s
                    · subst sp
                      have hpm : (mp == m) = false := by simpa using hne
                      clear hne
                      go_cut [157] (fun s157 wx => s157 = .bool false ∧ Below w6.heap.size w6 wx)
                      case first =>
                        as_aux_lemma =>
                          go_region_held3 (fun W => W.cell? ⟨bd, 0, none⟩ = some (.int .i64 s) ∧ W.cell? ⟨bd, 1, none⟩ = some (.int .i64 m) ∧ W.cell? ⟨bd, 2, none⟩ = some (.int .i64 n) ∧ W.cell? ⟨gL, oL + jj * 3, none⟩ = some (.int .i64 s) ∧ W.cell? ⟨gL, oL + jj * 3 + 1, none⟩ = some (.int .i64 mp)) (first | with_reducible exact HCD.out _ HD0.out | with_reducible exact HCD.out _ HDD.out | with_reducible exact HCD.out _ HBN1.out | with_reducible exact HCD.out _ HBM1.out)
                            (first
                            | (go_at_call 14; (with_reducible refine (hNA _ (by first | exact HD0.out | exact HDD.out | exact HBM1.out)).mono ?_); rintro e' wn ⟨rfl, hb⟩; have HBN1 : Hid (Below wd.heap.size wd wn) := Lib.hid (by first | exact HD0.out.trans (hb.mono HD0.out.size) | exact HDD.out.trans (hb.mono HDD.out.size) | exact HBM1.out.trans (hb.mono HBM1.out.size)); obtain ⟨n0, n1, n2, n3, n4⟩ := HCD.out wn HBN1.out; clear hb)
                            | (go_at_call 14; (with_reducible refine (hNB _ (by first | exact HD0.out | exact HDD.out | exact HBN1.out)).mono ?_); rintro e' wm ⟨rfl, hb⟩; have HBM1 : Hid (Below wd.heap.size wd wm) := Lib.hid (by first | exact HD0.out.trans (hb.mono HD0.out.size) | exact HDD.out.trans (hb.mono HDD.out.size) | exact HBN1.out.trans (hb.mono HBN1.out.size)); obtain ⟨m0, m1, m2, m3, m4⟩ := HCD.out wm HBM1.out; clear hb))
                          all_goals go_wp2_with fail
                          all_goals go_meet
                          all_goals exact ⟨by simp, HD6.out.trans (by first | exact HBN1.out.mono HD6.out.size | exact HBM1.out.mono HD6.out.size)⟩
                      case rest =>
                        obtain ⟨rfl, hbx⟩ := hcut
                        obtain ⟨hw1, hw2⟩ := HNX.out
                        have HBX := Lib.hid hbx
                        clear hbx
                        go_wp2
                        go_roundw
                        case rel => exact ⟨j + 1, HJ.out.1, by go_num, by rw [HTK.out], HBX.out⟩
                        case measure => have h := HJ.out.2; clear hw1 hw2; simp only [idxOf]; omega
                    · have hps2 : (sp == s) = false := by simpa using hps
                      clear hne hps
                      go_cut [157] (fun s157 wx => s157 = .bool false ∧ Below w6.heap.size w6 wx)
                      case first =>
                        as_aux_lemma =>
                          go_region_held3 (fun W => W.cell? ⟨bd, 0, none⟩ = some (.int .i64 s) ∧ W.cell? ⟨bd, 1, none⟩ = some (.int .i64 m) ∧ W.cell? ⟨bd, 2, none⟩ = some (.int .i64 n) ∧ W.cell? ⟨gL, oL + jj * 3, none⟩ = some (.int .i64 sp) ∧ W.cell? ⟨gL, oL + jj * 3 + 1, none⟩ = some (.int .i64 mp)) (first | with_reducible exact HCD.out _ HD0.out | with_reducible exact HCD.out _ HDD.out | with_reducible exact HCD.out _ HBN1.out | with_reducible exact HCD.out _ HBM1.out)
                            (first
                            | (go_at_call 14; (with_reducible refine (hNA _ (by first | exact HD0.out | exact HDD.out | exact HBM1.out)).mono ?_); rintro e' wn ⟨rfl, hb⟩; have HBN1 : Hid (Below wd.heap.size wd wn) := Lib.hid (by first | exact HD0.out.trans (hb.mono HD0.out.size) | exact HDD.out.trans (hb.mono HDD.out.size) | exact HBM1.out.trans (hb.mono HBM1.out.size)); obtain ⟨n0, n1, n2, n3, n4⟩ := HCD.out wn HBN1.out; clear hb)
                            | (go_at_call 14; (with_reducible refine (hNB _ (by first | exact HD0.out | exact HDD.out | exact HBN1.out)).mono ?_); rintro e' wm ⟨rfl, hb⟩; have HBM1 : Hid (Below wd.heap.size wd wm) := Lib.hid (by first | exact HD0.out.trans (hb.mono HD0.out.size) | exact HDD.out.trans (hb.mono HDD.out.size) | exact HBN1.out.trans (hb.mono HBN1.out.size)); obtain ⟨m0, m1, m2, m3, m4⟩ := HCD.out wm HBM1.out; clear hb))
                          all_goals go_wp2_with fail
                          all_goals go_meet
                          all_goals exact ⟨by simp, HD6.out.trans (by first | exact HBN1.out.mono HD6.out.size | exact HBM1.out.mono HD6.out.size)⟩
                      case rest =>
                        obtain ⟨rfl, hbx⟩ := hcut
                        obtain ⟨hw1, hw2⟩ := HNX.out
                        have HBX := Lib.hid hbx
                        clear hbx
                        go_wp2
                        go_roundw
                        case rel => exact ⟨j + 1, HJ.out.1, by go_num, by rw [HTK.out], HBX.out⟩
                        case measure => have h := HJ.out.2; clear hw1 hw2; simp only [idxOf]; omega
                · obtain rfl : j = LC.length := by omega
                  have hno : ¬ ((LC.length : Int) < (LC.length : Int)) := by omega
                  rw [List.take_length]
                  clear hj
                  have HWx := Lib.hid (HB.out)
                  have HLn := Lib.hid HLN.out
                  have HRx := Lib.hid (HR56.out.below HB.out (Nat.le_refl _))
                  have HSx := Lib.hid (HS6.out.below HB.out (Nat.le_refl _))
                  have hDd := refDead_any HRx.out HWF.out (by have := HLn.out; omega) HSx.out HSW.out (by have := HSL.out; omega)
                  go_wp2_with (go_at_call 18; (with_reducible refine hDd.mono ?_); rintro e' w9 ⟨xd, rfl, hxd, hb9⟩; obtain ⟨AD, kD, rfl, ha1, ha2, ha3⟩ := hxd; have HD3 := Lib.hid ha3; have HD2 := Lib.hid (Nat.le_trans ha1 ha2); have HB9 : Hid (Below w6.heap.size w6 w9) := Lib.hid (HWx.out.trans (hb9.mono HWx.out.size)); clear hb9 ha1 ha2 ha3 hDd hno)
                  obtain ⟨A8, k8, hv8, h81, h82, h83⟩ := HS6.out
                  cases hv8
                  have H83 := Lib.hid h83
                  have H82 := Lib.hid (Nat.le_trans h81 h82)
                  have HLv := Lib.hid (fun (W : World) (x : Int) (hb : Below w9.heap.size w9 W) => refLive_any ((HR56.out.below HB9.out (Nat.le_refl _)).below hb (Nat.le_refl _)) x)
                  rw [HSUM.out]
                  generalize (((plcOf (rfEnts e CC)).length : Nat) : Int) = Z
                  clear h81 h82 h83 HSUM
                  go_loopw [27, 164] (fun vx ix wr => ∃ j : Nat, j ≤ S.length ∧ ix = .int .i64 (j : Int) ∧ vx = .int .i64 (((deadOf LC (S.take j)).length : Nat) : Int) ∧ Below w9.heap.size w9 wr) (fun _ ix _ => S.length - idxOf ix)
                  case atStart => exact ⟨0, Nat.zero_le _, rfl, rfl, Below.refl _ _⟩
                  case round =>
                    clear HB
                    obtain ⟨j, hj, rfl, rfl, hb⟩ := hrel
                    have HB := Lib.hid hb
                    have HBA := Lib.hid (HB9.out.trans (hb.mono HB9.out.size))
                    clear hb
                    by_cases hlt : j < S.length
                    · obtain ⟨gS, oS, rfl, hgS, hkS⟩ := H83.out.resolve_left (by intro e; rw [e] at hlt; simp at hlt)
                      have q0 := (HBA.out.cell (p := ⟨gS, oS + j, none⟩) hgS).trans (hkS j hlt)
                      have HY := Lib.hid (deadOf_y (L := LC) hlt)
                      have HZ := Lib.hid (deadOf_n (L := LC) hlt)
                      have HAt := Lib.hid (dead_at (L := LC) hlt)
                      have hle := deadOf_le LC (S.take j)
                      have hle2 : (S.take j).length ≤ S.length := by rw [List.length_take]; omega
                      generalize S.getD j 0 = x at q0 HY HZ HAt
                      have hLv := HLv.out wr x HB.out
                      generalize hlv : liveOf x LC = lv at hLv HY HZ HAt
                      obtain ⟨r, hr⟩ : ∃ r, r = (deadOf LC (S.take j)).length := ⟨_, rfl⟩
                      rw [← hr] at hle HAt ⊢
                      have HR := Lib.hid hr
                      have hi0 : (0 : Int) ≤ (j : Int) := by omega
                      have hi1 : (j : Int) < (S.length : Int) := by omega
                      have HJ : Hid (j + 1 ≤ S.length ∧ S.length - (j + 1) < S.length - j) := Lib.hid ⟨hlt, by omega⟩
                      have HNX := Lib.hid (nextR hlt H82.out)
                      have HNR := Lib.hid (nextR (j := r) (n := 200) (by have := HSL.out; omega) (by unfold maxLen; omega))
                      clear hkS hr hle hle2 hlv hj
                      by_cases hl0 : lv = 0
                      · subst hl0
                        obtain ⟨hr1, hr2⟩ := HAt.out rfl
                        have HY2 := Lib.hid (HY.out rfl)
                        obtain ⟨gD, oD, rfl, hgD, hkD⟩ := HD3.out.resolve_left (by intro e; rw [e] at hr1; simp at hr1)
                        have q1 : Hid (∀ W, Below w9.heap.size w9 W → W.cell? ⟨gD, oD + r, none⟩ = some (.int .i64 x)) := Lib.hid (fun W hb => by rw [← hr2]; exact (hb.cell (p := ⟨gD, oD + r, none⟩) hgD).trans (hkD r hr1))
                        have hr0 : (0 : Int) ≤ (r : Int) := by omega
                        have hr3 : (r : Int) < ((deadOf LC S).length : Int) := by omega
                        have hr4 : decide (((deadOf LC S).length : Int) ≤ (r : Int)) = false := decide_eq_false (by omega)
                        have hr5 : decide ((deadOf LC S).length ≤ r) = false := decide_eq_false (by omega)
                        generalize (deadOf LC S).length = nD at hr1 hr3 hr4 hr5 ⊢
                        obtain ⟨hw1, hw2⟩ := HNX.out
                        obtain ⟨hw3, hw4⟩ := HNR.out
                        clear HY HZ HAt hkD hr2
                        go_wp2_with (go_at_call 16; (with_reducible refine hLv.mono ?_); rintro e' w10 ⟨rfl, hb⟩; have HBX := Lib.hid (HB.out.trans (hb.mono HB.out.size)); have q2 := q1.out w10 HBX.out; clear hb hLv)
                        go_roundw
                        case rel => exact ⟨j + 1, HJ.out.1, by go_num, by rw [HY2.out, List.length_append, ← HR.out]; go_num, HBX.out⟩
                        case measure => have h := HJ.out.2; clear hw1 hw2 hw3 hw4; simp only [idxOf]; omega
                      · have HZ2 := Lib.hid (HZ.out hl0)
                        have hl1 : (lv == 0) = false := by simpa using hl0
                        have hl2 : decide (lv = 0) = false := by simpa using hl0
                        have hl3 : decide ((lv : Int) = 0) = false := decide_eq_false (by omega)
                        have hl4 : ((lv : Int) == 0) = false := by have h : (lv : Int) ≠ 0 := by omega
                                                                   simpa using h
                        obtain ⟨hw1, hw2⟩ := HNX.out
                        clear HY HZ HAt
                        go_wp2_with (go_at_call 16; (with_reducible refine hLv.mono ?_); rintro e' w10 ⟨rfl, hb⟩; have HBX := Lib.hid (HB.out.trans (hb.mono HB.out.size)); clear hb hLv)
                        go_roundw
                        case rel => exact ⟨j + 1, HJ.out.1, by go_num, by rw [HZ2.out, ← HR.out], HBX.out⟩
                        case measure => have h := HJ.out.2; clear hw1 hw2; simp only [idxOf]; omega
                    · obtain rfl : j = S.length := by omega
                      have hno : ¬ ((S.length : Int) < (S.length : Int)) := by omega
                      rw [List.take_length]
                      generalize (deadOf LC S).length = nD
                      go_wp2
                      go_ret
                      exact ⟨by simp, HB0.out.trans ((HB6.out.trans (HBA.out.mono HB6.out.size)).mono HB0.out.size)⟩
end Go.Proofs.Ythhbaccbhfngbaa
