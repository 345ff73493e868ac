/- Reports of damage: the document's reading of a lost range's line. -/
import Derived.Test.YtfmpbohiahjafaaGreatDoorDmgPw
import Derived.Test.YtfmpbohiahjafaaGreatDoorDmgO
namespace Go.Proofs.YtfmpbohiahjafaaGreatDoor
open Go.RowKit Go.Lib

theorem B3.one {W : World} {b : Nat} {v0 v1 v2 : Value} (h : B3 W b v0 v1 v2) (u : Value) : B3 (W.setCell ⟨b, 0, none⟩ u) b u v1 v2 := by
  have hf (o : Nat) (hh : W.frozen? ⟨b, o, none⟩ = false) : (W.setCell ⟨b, 0, none⟩ u).frozen? ⟨b, o, none⟩ = false := by rw [World.frozen?_setCell]; exact hh
  exact ⟨by simp only [World.size_setCell]; exact h.lt, put_same h.c0 _, (put_else _ _ _ _ _ (by omega)).trans h.c1, (put_else _ _ _ _ _ (by omega)).trans h.c2, hf 0 h.f0, hf 1 h.f1, hf 2 h.f2⟩
theorem B3.off {W : World} {b b' : Nat} {v0 v1 v2 : Value} (h : B3 W b v0 v1 v2) (u : Value) (hb : b' ≠ b) : B3 (W.setCell ⟨b', 0, none⟩ u) b v0 v1 v2 := by
  have hf (o : Nat) (hh : W.frozen? ⟨b, o, none⟩ = false) : (W.setCell ⟨b', 0, none⟩ u).frozen? ⟨b, o, none⟩ = false := by rw [World.frozen?_setCell]; exact hh
  have hc (o : Nat) (v : Value) (hh : W.cell? ⟨b, o, none⟩ = some v) : (W.setCell ⟨b', 0, none⟩ u).cell? ⟨b, o, none⟩ = some v := (World.cell?_setCell_other _ _ _ _ (by intro e; injection e with e; omega)).trans hh
  exact ⟨by simp only [World.size_setCell]; exact h.lt, hc 0 _ h.c0, hc 1 _ h.c1, hc 2 _ h.c2, hf 0 h.f0, hf 1 h.f1, hf 2 h.f2⟩
theorem B3.offP {W : World} {b b' : Nat} {v0 v1 v2 : Value} (h : B3 W b v0 v1 v2) (u0 u1 u2 : Value) (hb : b' ≠ b) : B3 (put3 W b' u0 u1 u2) b v0 v1 v2 := by
  unfold put3
  have hf (o : Nat) (hh : W.frozen? ⟨b, o, none⟩ = false) : (((W.setCell ⟨b', 0, none⟩ u0).setCell ⟨b', 1, none⟩ u1).setCell ⟨b', 2, none⟩ u2).frozen? ⟨b, o, none⟩ = false := by
    rw [World.frozen?_setCell, World.frozen?_setCell, World.frozen?_setCell]; exact hh
  have hc (o : Nat) (v : Value) (hh : W.cell? ⟨b, o, none⟩ = some v) : (((W.setCell ⟨b', 0, none⟩ u0).setCell ⟨b', 1, none⟩ u1).setCell ⟨b', 2, none⟩ u2).cell? ⟨b, o, none⟩ = some v := by
    rw [World.cell?_setCell_other _ _ _ _ (by intro e; injection e with e; omega), World.cell?_setCell_other _ _ _ _ (by intro e; injection e with e; omega), World.cell?_setCell_other _ _ _ _ (by intro e; injection e with e; omega)]; exact hh
  exact ⟨by simp only [World.size_setCell]; exact h.lt, hc 0 _ h.c0, hc 1 _ h.c1, hc 2 _ h.c2, hf 0 h.f0, hf 1 h.f1, hf 2 h.f2⟩
theorem row4 {W : World} {base t : Nat} {r : Value} {a b c d : List UInt8} (ho : W.ownsRow base t 1 r [a, b, c, d].length ([a, b, c, d].flatMap encB)) : ∃ g cap, r = .slice (some ⟨g, 0, none⟩) 4 cap ∧ g < W.heap.size ∧ W.cell? ⟨g, 1, none⟩ = some (Bs b) ∧ W.cell? ⟨g, 2, none⟩ = some (Bs c) ∧ W.cell? ⟨g, 3, none⟩ = some (Bs d) := by
  rcases own_src encB_len ho with ⟨_, h⟩ | ⟨g, cap, hv, hgl, hgb, hc1, hc2, hcd⟩
  · cases h
  · exact ⟨g, cap, hv, hgl, hcd 1 (Bs b) rfl, hcd 2 (Bs c) rfl, hcd 3 (Bs d) rfl⟩
set_option maxHeartbeats 8000000 in
set_option maxRecDepth 100000 in
theorem refPL_any {l : List UInt8} (hl : l.length ≤ 1000000) (w : World) :
    Calls Tryz.prog 42 #[.string ⟨l.toArray⟩] w fun e w' => (∃ (x : LO) (b : Bool), e = .returned (.tuple #[.agg x.enc.toArray, .bool b]) ∧ (b = true → rL l = some x) ∧ (b = false → rL l = none)) ∧ Below w.heap.size w w' := by
  obtain ⟨w1, hw1⟩ : ∃ w1, w1 = w.alloc (.cells #[.int .i64 0, .int .i64 0, .int .i64 0] 46) := ⟨_, rfl⟩
  have HB1 : Hid (Below w.heap.size w w1) := Lib.hid (by rw [hw1]; exact below_new w _)
  have HX1 : Hid (B3 w1 w.heap.size (.int .i64 0) (.int .i64 0) (.int .i64 0)) := Lib.hid (by rw [hw1]; exact B3.new w _ _ _ _)
  have HSZ1 : Hid (w.heap.size < w1.heap.size) := Lib.hid HX1.out.lt
  have hS := refWords_any ⟨l.toArray⟩ (by have := bsz l; omega) w1
  change Calls _ _ _ _ (fun e w' => ∃ r, e = .returned r ∧ w'.ownsRow w1.heap.size 9 1 r (spl 32 l).length ((spl 32 l).flatMap encB) ∧ Below w1.heap.size w1 w') at hS
  obtain ⟨L, hL⟩ : ∃ L, L = spl 32 l := ⟨_, rfl⟩
  rw [← hL] at hS
  have HW1 := Lib.hid hw1
  have HLS : Hid (∀ x ∈ L, x.length ≤ 1000000) := Lib.hid (fun x hx => by rw [hL] at hx; exact Nat.le_trans (spl_short hx) hl)
  by_cases h5 : L.length = 4
  case neg =>
    have HN : Hid (rL l = none) := Lib.hid (pL_len (by rw [← hL]; exact h5))
    have k0 : ((L.length : Int) != 4) = true := by rw [bne_iff_ne]; omega
    have k1 : ((L.length : Int) == 4) = false := by rw [beq_eq_false_iff_ne]; omega
    clear hL h5 hw1
    go_enter Tryz.func42, Tryz.ntmps42
    go_upto_region 1 with fail
    rw [← HW1.out]
    go_upto_region 3 with (go_at_call 61; (with_reducible refine hS.mono ?_); rintro e w2 ⟨r, rfl, ho, hb2⟩; (obtain ⟨rA, rc, rfl, -, -⟩ := ownS_form ho); have HB2 := Lib.hid hb2; clear ho hb2)
    have HX2 := Lib.hid (HX1.out.below HB2.out)
    obtain ⟨_, x0, x1, x2, f0, f1, f2⟩ := HX2.out
    go_wp2
    obtain ⟨_, z0, z1, z2, _⟩ := HX2.out.put (.int .i64 0) (.int .i64 0) (.int .i64 0)
    unfold put3 at z0 z1 z2
    refine bodyPost_ret (v := .tuple #[.agg #[.int .i64 0, .int .i64 0, .int .i64 0], .bool false]) (by simp [results, Tryz.results42, go_sem, z0, z1, z2]) rfl ?_
    exact ⟨⟨LO.zero, false, rfl, fun h => (by cases h), fun _ => HN.out⟩, below_put3 (HB1.out.trans (HB2.out.mono HB1.out.size)) (Nat.le_refl _)⟩
  obtain ⟨a, b, c, d, rfl⟩ : ∃ a b c d, L = [a, b, c, d] := by
    match L, h5 with
    | [a, b, c, d], _ => exact ⟨a, b, c, d, rfl⟩
  have hVb := fun V => refValue_any ⟨b.toArray⟩ (by have h1 := bsz b; have h2 := HLS.out b (by simp); omega) V
  have hVc := fun V => refValue_any ⟨c.toArray⟩ (by have h1 := bsz c; have h2 := HLS.out c (by simp); omega) V
  have hVd := fun V => refValue_any ⟨d.toArray⟩ (by have h1 := bsz d; have h2 := HLS.out d (by simp); omega) V
  change ∀ V, Calls _ _ _ V (fun e' w' => e' = .returned (.int .i64 (refV b)) ∧ w' = V) at hVb
  change ∀ V, Calls _ _ _ V (fun e' w' => e' = .returned (.int .i64 (refV c)) ∧ w' = V) at hVc
  change ∀ V, Calls _ _ _ V (fun e' w' => e' = .returned (.int .i64 (refV d)) ∧ w' = V) at hVd
  have HR : Hid (rL l = if loOk ⟨refC b, refV c, refV d⟩ = true ∧ lLn ⟨refC b, refV c, refV d⟩ = l then some ⟨refC b, refV c, refV d⟩ else none) := Lib.hid (by unfold rL; rw [← hL])
  obtain ⟨nw, hnw⟩ : ∃ nw, nw = (b == [110, 111, 119]) := ⟨_, rfl⟩
  have HK : refC b = if nw = true then -1 else refV b := by
    unfold refC
    rw [hnw]
    simp only [beq_iff_eq]
    rfl
  rw [HK] at HR
  have kn := hnw.symm
  change Calls _ _ _ _ (fun e' w' => ∃ r, e' = .returned r ∧ w'.ownsRow w1.heap.size 9 1 r [a, b, c, d].length ([a, b, c, d].flatMap encB) ∧ Below w1.heap.size w1 w') at hS
  generalize refV b = vb at hVb HR
  generalize refV c = vc at hVc HR
  generalize refV d = vd at hVd HR
  clear hL hw1 h5 HK hnw HLS
  go_enter Tryz.func42, Tryz.ntmps42
  go_upto_region 1 with fail
  rw [← HW1.out]
  go_upto_region 4 with (go_at_call 61; (with_reducible refine hS.mono ?_); rintro e' w2 ⟨r, rfl, ho, hb2⟩; (obtain ⟨g, cap, rfl, hgl, q1, q2, q3⟩ := row4 ho); have HB2 := Lib.hid hb2; clear ho hb2)
  have HGN : Hid (w2.heap.size ≠ g) := Lib.hid (by omega)
  clear hgl
  have HX2 := Lib.hid (HX1.out.below HB2.out)
  have HBW2 : Hid (Below w.heap.size w w2) := Lib.hid (HB1.out.trans (HB2.out.mono HB1.out.size))
  have HSZ2 : Hid (w.heap.size ≠ w2.heap.size) := Lib.hid (by have := HX2.out.lt; omega)
  clear hS
  have HSG : Hid (∀ V, Below w2.heap.size w2 V → V.cell? ⟨g, 1, none⟩ = some (Bs b) ∧ V.cell? ⟨g, 2, none⟩ = some (Bs c) ∧ V.cell? ⟨g, 3, none⟩ = some (Bs d)) := Lib.hid (fun V hb => ⟨cell_keep hb q1, cell_keep hb q2, cell_keep hb q3⟩)
  have hba : Below w2.heap.size w2 (w2.alloc (.cells #[.int .i64 0, .int .i64 0, .int .i64 0] 46)).drew := ((Below.refl _ _).alloc (Nat.le_refl _) _).drew
  have HA0 : Hid (Below w2.heap.size w2 w2.drew) := Lib.hid (Below.refl _ _).drew
  have HA1 := Lib.hid hba
  have HA2 : Hid (Below w2.heap.size w2 ((((w2.alloc (.cells #[.int .i64 0, .int .i64 0, .int .i64 0] 46)).drew.setCell ⟨w2.heap.size, 0, none⟩ (.int .i64 vb)).setCell ⟨w2.heap.size, 1, none⟩ (.int .i64 vc)).setCell ⟨w2.heap.size, 2, none⟩ (.int .i64 vd))) := Lib.hid (below_put3 hba (Nat.le_refl _))
  have HA3 : Hid (Below w2.heap.size w2 (w2.alloc (.cells #[.int .i64 vb, .int .i64 vc, .int .i64 vd] 46)).drew) := Lib.hid ((Below.refl _ _).alloc (Nat.le_refl _) _).drew
  have HY3 : Hid (B3 (w2.alloc (.cells #[.int .i64 vb, .int .i64 vc, .int .i64 vd] 46)).drew w2.heap.size (.int .i64 vb) (.int .i64 vc) (.int .i64 vd)) := Lib.hid ((B3.new w2 (.int .i64 vb) (.int .i64 vc) (.int .i64 vd) 46).below (Below.refl _ _).drew)
  clear hba
  go_cut [5] (fun s wx => s = .pointer (some ⟨w2.heap.size, 0, none⟩) ∧ Below w2.heap.size w2 wx ∧ B3 wx w2.heap.size (.int .i64 vb) (.int .i64 vc) (.int .i64 vd))
  case first =>
    go_region_held3 (fun V => V.cell? ⟨g, 1, none⟩ = some (Bs b) ∧ V.cell? ⟨g, 2, none⟩ = some (Bs c) ∧ V.cell? ⟨g, 3, none⟩ = some (Bs d)) (first | with_reducible exact HSG.out _ HA0.out | with_reducible exact HSG.out _ HA1.out | with_reducible exact HSG.out _ HA2.out | with_reducible exact HSG.out _ HA3.out)
      (first
      | (go_at_call 62; (with_reducible refine (hVb _).mono ?_); rintro e' w5 ⟨rfl, rfl⟩)
      | (go_at_call 62; (with_reducible refine (hVc _).mono ?_); rintro e' w5 ⟨rfl, rfl⟩)
      | (go_at_call 62; (with_reducible refine (hVd _).mono ?_); rintro e' w5 ⟨rfl, rfl⟩))
    all_goals go_wp2_with fail
    all_goals go_meet
    all_goals exact ⟨rfl, HA3.out, HY3.out⟩
  case rest =>
    obtain ⟨rfl, hb3, hy3⟩ := hcut
    have HB3 : Hid (Below w.heap.size w wc) := Lib.hid (HBW2.out.trans (hb3.mono HBW2.out.size))
    have HX3 := Lib.hid (HX2.out.below hb3)
    have HY := Lib.hid hy3
    have hr := cell_keep hb3 q1
    clear q1 q2 q3 HA0 HA1 HA2 HA3 HY3 hb3 hy3 hVb hVc hVd
    have HLE : Hid (w.heap.size ≤ w2.heap.size) := Lib.hid HBW2.out.size
    have HNE := Lib.hid HSZ2.out
    generalize w2.heap.size = bx at HY HLE HNE HGN ⊢
    clear HSG HSZ2 HX2 HX1 HB1 HB2 HBW2 HSZ1
    cases nw with
    | true =>
      obtain ⟨_, p0, p1, p2, pf0, pf1, pf2⟩ := HY.out
      have HR2 := HR.out
      simp only [if_true] at HR2
      go_upto_region 7 with fail
      have HB : Hid (Below w.heap.size w (wc.setCell ⟨bx, 0, none⟩ (.int .i64 (-1))).drew) := Lib.hid (below_set HB3.out HLE.out).drew
      have HX := Lib.hid ((HX3.out.off (.int .i64 (-1)) HNE.out.symm).below (Below.refl _ _).drew)
      have HY := Lib.hid ((HY.out.one (.int .i64 (-1))).below (Below.refl _ _).drew)
      obtain ⟨wk, hwk⟩ : ∃ wk, wk = wc.setCell ⟨bx, 0, none⟩ (.int .i64 (-1)) := ⟨_, rfl⟩
      rw [← hwk] at HB HX HY ⊢
      clear hwk
      clear p0 p1 p2 pf0 pf1 pf2 hr kn
      cases hok : loOk ⟨(-1), vc, vd⟩ with
      | false =>
        have HCL : Hid (∀ V, B3 V bx (.int .i64 (-1)) (.int .i64 vc) (.int .i64 vd) → V.cell? ⟨bx, 0, none⟩ = some (.int .i64 (-1)) ∧ V.cell? ⟨bx, 1, none⟩ = some (.int .i64 vc) ∧ V.cell? ⟨bx, 2, none⟩ = some (.int .i64 vd)) := Lib.hid (fun V h => ⟨h.c0, h.c1, h.c2⟩)
        have HPK : Hid (∀ V, B3 V bx (.int .i64 (-1)) (.int .i64 vc) (.int .i64 vd) → (((V.setCell ⟨w.heap.size, 0, none⟩ (.int .i64 (-1))).setCell ⟨w.heap.size, 1, none⟩ (.int .i64 vc)).setCell ⟨w.heap.size, 2, none⟩ (.int .i64 vd)).cell? ⟨bx, 0, none⟩ = some (.int .i64 (-1)) ∧ (((V.setCell ⟨w.heap.size, 0, none⟩ (.int .i64 (-1))).setCell ⟨w.heap.size, 1, none⟩ (.int .i64 vc)).setCell ⟨w.heap.size, 2, none⟩ (.int .i64 vd)).cell? ⟨bx, 1, none⟩ = some (.int .i64 vc) ∧ (((V.setCell ⟨w.heap.size, 0, none⟩ (.int .i64 (-1))).setCell ⟨w.heap.size, 1, none⟩ (.int .i64 vc)).setCell ⟨w.heap.size, 2, none⟩ (.int .i64 vd)).cell? ⟨bx, 2, none⟩ = some (.int .i64 vd)) := Lib.hid (fun V h => by have h := h.offP (.int .i64 (-1)) (.int .i64 vc) (.int .i64 vd) HNE.out; unfold put3 at h; exact ⟨h.c0, h.c1, h.c2⟩)
        have hW : ∀ V, Calls Tryz.prog 38 #[.agg #[.int .i64 (-1), .int .i64 vc, .int .i64 vd]] V (fun e w' => e = .returned (.bool false) ∧ Below V.heap.size V w') := fun V => by have h := refLost_any ⟨(-1), vc, vd⟩ V; rw [hok] at h; exact h
        have HT : Hid (false = true → rL l = some ⟨(-1), vc, vd⟩) := Lib.hid (fun h => by cases h)
        have HF : Hid (false = false → rL l = none) := Lib.hid (fun _ => by rw [HR2, hok, if_neg (fun e => by cases e.1)])
        clear HR2 hok
        obtain ⟨_, p0, p1, p2, pf0, pf1, pf2⟩ := HY.out
        obtain ⟨_, x0, x1, x2, f0, f1, f2⟩ := HX.out
        refine wp_region_held_drew (S := fun V => V.cell? ⟨bx, 0, none⟩ = some (.int .i64 (-1)) ∧ V.cell? ⟨bx, 1, none⟩ = some (.int .i64 vc) ∧ V.cell? ⟨bx, 2, none⟩ = some (.int .i64 vd)) (by kernel_rfl) (HCL.out _ HY.out) (fun hHeld => ?_)
        clear hHeld
        refine wpAnyH_take (i := 0) (v := ?v0kn) rfl (by kernel_rfl) (by kernel_rfl) (by kernel_rfl) (fun _ _ _ h => h) (Or.inl ⟨by rfl, ?hy0kn⟩) (HCL.out _ HY.out) ?_
        case hy0kn => (intro W hSw; obtain ⟨s0, s1, s2⟩ := hSw; go_simp; first | done | with_reducible rfl)
        simp only [List.getElem_toArray, List.getElem_cons_zero, Act.put, List.setIfInBounds_toArray, List.set_cons_zero, List.set_cons_succ]
        refine wpAnyH_take (i := 1) (v := ?v1kn) rfl (by kernel_rfl) (by kernel_rfl) (by kernel_rfl) (fun _ _ _ h => h) (Or.inl ⟨by rfl, ?hy1kn⟩) (HCL.out _ HY.out) ?_
        case hy1kn => (intro W hSw; obtain ⟨s0, s1, s2⟩ := hSw; go_simp; first | done | with_reducible rfl)
        simp only [List.getElem_toArray, List.getElem_cons_succ, List.getElem_cons_zero, Act.put, List.setIfInBounds_toArray, List.set_cons_zero, List.set_cons_succ]
        refine wpAnyH_ready (rs := [2]) (by kernel_rfl) (by simp) ?_
        refine AllReadyH.cons rfl (fun K hK => ?_) AllReadyH.nil
        go_simp
        go_at_call 38
        with_reducible refine (hW _).mono ?_
        rintro e' w5 ⟨rfl, hb⟩
        have HB := Lib.hid (HB.out.trans (hb.mono HB.out.size)); have HX := Lib.hid (HX.out.below hb); have HY := Lib.hid (HY.out.below hb); obtain ⟨_, x0, x1, x2, f0, f1, f2⟩ := HX.out; clear hb
        go_wp2_with fail
        refine hK.out _ _ (HCL.out _ HY.out) (fun hHeld => ?_)
        clear hHeld hK K
        try simp only [List.getElem_toArray, List.getElem_cons_succ, List.getElem_cons_zero, Act.put, List.setIfInBounds_toArray, List.set_cons_zero, List.set_cons_succ]
        refine wpAnyH_take (i := 3) (v := ?v3kn) rfl (by kernel_rfl) (by kernel_rfl) (by kernel_rfl) (fun _ _ _ h => h) (Or.inl ⟨by rfl, ?hy3kn⟩) (HCL.out _ HY.out) ?_
        case hy3kn => (intro W hSw; obtain ⟨s0, s1, s2⟩ := hSw; go_simp; first | done | with_reducible rfl)
        simp only [List.getElem_toArray, List.getElem_cons_succ, List.getElem_cons_zero, Act.put, List.setIfInBounds_toArray, List.set_cons_zero, List.set_cons_succ]
        refine wpAnyH_take (i := 4) (v := undef) rfl (by kernel_rfl) (by kernel_rfl) (by kernel_rfl) (fun _ _ _ h => h) (Or.inr ⟨by rfl, rfl⟩) (HCL.out _ HY.out) ?_
        simp only [List.getElem_toArray, List.getElem_cons_succ, List.getElem_cons_zero, Act.put, List.setIfInBounds_toArray, List.set_cons_zero, List.set_cons_succ]
        refine wpAnyH_take (i := 5) (v := undef) rfl (by kernel_rfl) (by kernel_rfl) (by kernel_rfl) (fun _ _ _ h => h) (Or.inr ⟨by rfl, rfl⟩) (HCL.out _ HY.out) ?_
        simp only [List.getElem_toArray, List.getElem_cons_succ, List.getElem_cons_zero, Act.put, List.setIfInBounds_toArray, List.set_cons_zero, List.set_cons_succ]
        refine wpAnyH_take (i := 6) (v := undef) rfl (by kernel_rfl) (by kernel_rfl) (by kernel_rfl) (fun _ _ _ h => h) (Or.inr ⟨by rfl, rfl⟩) (HCL.out _ HY.out) ?_
        simp only [List.getElem_toArray, List.getElem_cons_succ, List.getElem_cons_zero, Act.put, List.setIfInBounds_toArray, List.set_cons_zero, List.set_cons_succ]
        refine wpAnyH_take (i := 7) (v := undef) rfl (by kernel_rfl) (by kernel_rfl) (by kernel_rfl) (fun _ _ _ h => h) (Or.inr ⟨by rfl, rfl⟩) (HCL.out _ HY.out) ?_
        simp only [List.getElem_toArray, List.getElem_cons_succ, List.getElem_cons_zero, Act.put, List.setIfInBounds_toArray, List.set_cons_zero, List.set_cons_succ]
        refine wpAnyH_take (i := 8) (v := ?v8kn) rfl (by kernel_rfl) (by kernel_rfl) (by kernel_rfl) (fun _ _ _ h => h) (Or.inl ⟨by rfl, ?hy8kn⟩) (HCL.out _ HY.out) ?_
        case hy8kn => (intro W hSw; obtain ⟨s0, s1, s2⟩ := hSw; go_simp; first | done | with_reducible rfl)
        simp only [List.getElem_toArray, List.getElem_cons_succ, List.getElem_cons_zero, Act.put, List.setIfInBounds_toArray, List.set_cons_zero, List.set_cons_succ]
        refine wpAnyH_ready (rs := [9]) (by kernel_rfl) (by simp) ?_
        refine AllReadyH.cons rfl (fun K hK => ?_) AllReadyH.nil
        go_simp
        refine hK.out _ _ (HPK.out _ HY.out) (fun hHeld => ?_)
        clear hHeld hK K
        try simp only [List.getElem_toArray, List.getElem_cons_succ, List.getElem_cons_zero, Act.put, List.setIfInBounds_toArray, List.set_cons_zero, List.set_cons_succ]
        refine wpAnyH_take (i := 10) (v := ?v10kn) rfl (by kernel_rfl) (by kernel_rfl) (by kernel_rfl) (fun _ _ _ h => h) (Or.inl ⟨by rfl, ?hy10kn⟩) (HPK.out _ HY.out) ?_
        case hy10kn => (intro W hSw; obtain ⟨s0, s1, s2⟩ := hSw; go_simp; first | done | with_reducible rfl)
        simp only [List.getElem_toArray, List.getElem_cons_succ, List.getElem_cons_zero, Act.put, List.setIfInBounds_toArray, List.set_cons_zero, List.set_cons_succ]
        refine wpAnyH_done (by kernel_rfl) ?_ _
        all_goals go_wp2_with fail
        all_goals
          obtain ⟨_, z0, z1, z2, _⟩ := HX.out.put (.int .i64 (-1)) (.int .i64 vc) (.int .i64 vd)
          unfold put3 at z0 z1 z2
          refine bodyPost_ret (v := .tuple #[.agg #[.int .i64 (-1), .int .i64 vc, .int .i64 vd], .bool false]) (by simp [results, Tryz.results42, go_sem, z0, z1, z2]) rfl ?_
          exact ⟨⟨⟨(-1), vc, vd⟩, false, rfl, (by first | exact HT.out | exact fun h => by cases h), (by first | exact HF.out | exact fun _ => HF.out trivial)⟩, below_put3 HB.out (Nat.le_refl _)⟩
      | true =>
        have HCL : Hid (∀ V, B3 V bx (.int .i64 (-1)) (.int .i64 vc) (.int .i64 vd) → V.cell? ⟨bx, 0, none⟩ = some (.int .i64 (-1)) ∧ V.cell? ⟨bx, 1, none⟩ = some (.int .i64 vc) ∧ V.cell? ⟨bx, 2, none⟩ = some (.int .i64 vd)) := Lib.hid (fun V h => ⟨h.c0, h.c1, h.c2⟩)
        have HPK : Hid (∀ V, B3 V bx (.int .i64 (-1)) (.int .i64 vc) (.int .i64 vd) → (((V.setCell ⟨w.heap.size, 0, none⟩ (.int .i64 (-1))).setCell ⟨w.heap.size, 1, none⟩ (.int .i64 vc)).setCell ⟨w.heap.size, 2, none⟩ (.int .i64 vd)).cell? ⟨bx, 0, none⟩ = some (.int .i64 (-1)) ∧ (((V.setCell ⟨w.heap.size, 0, none⟩ (.int .i64 (-1))).setCell ⟨w.heap.size, 1, none⟩ (.int .i64 vc)).setCell ⟨w.heap.size, 2, none⟩ (.int .i64 vd)).cell? ⟨bx, 1, none⟩ = some (.int .i64 vc) ∧ (((V.setCell ⟨w.heap.size, 0, none⟩ (.int .i64 (-1))).setCell ⟨w.heap.size, 1, none⟩ (.int .i64 vc)).setCell ⟨w.heap.size, 2, none⟩ (.int .i64 vd)).cell? ⟨bx, 2, none⟩ = some (.int .i64 vd)) := Lib.hid (fun V h => by have h := h.offP (.int .i64 (-1)) (.int .i64 vc) (.int .i64 vd) HNE.out; unfold put3 at h; exact ⟨h.c0, h.c1, h.c2⟩)
        have hW : ∀ V, Calls Tryz.prog 38 #[.agg #[.int .i64 (-1), .int .i64 vc, .int .i64 vd]] V (fun e w' => e = .returned (.bool true) ∧ Below V.heap.size V w') := fun V => by have h := refLost_any ⟨(-1), vc, vd⟩ V; rw [hok] at h; exact h
        obtain ⟨ln, hln⟩ : ∃ ln, ln = lLn ⟨(-1), vc, vd⟩ := ⟨_, rfl⟩
        have hN : ∀ V, Calls Tryz.prog 26 #[.agg #[.int .i64 (-1), .int .i64 vc, .int .i64 vd]] V (fun e w' => e = .returned (Bs ln) ∧ Below V.heap.size V w') := fun V => by have h := refLostLine_any hok V; rw [← hln] at h; exact h
        obtain ⟨bq, hbq⟩ : ∃ bq, (ln == l) = bq := ⟨_, rfl⟩
        have HT : Hid (bq = true → rL l = some ⟨(-1), vc, vd⟩) := Lib.hid (fun h => by rw [h, beq_iff_eq] at hbq; rw [HR2, if_pos ⟨hok, hln.symm.trans hbq⟩])
        have HF : Hid (bq = false → rL l = none) := Lib.hid (fun h => by rw [h, beq_eq_false_iff_ne] at hbq; rw [HR2, if_neg (fun e => hbq (hln.trans e.2))])
        clear hln HR2 hok
        obtain ⟨_, p0, p1, p2, pf0, pf1, pf2⟩ := HY.out
        obtain ⟨_, x0, x1, x2, f0, f1, f2⟩ := HX.out
        go_region_held3 (fun V => V.cell? ⟨bx, 0, none⟩ = some (.int .i64 (-1)) ∧ V.cell? ⟨bx, 1, none⟩ = some (.int .i64 vc) ∧ V.cell? ⟨bx, 2, none⟩ = some (.int .i64 vd)) (first | with_reducible exact HCL.out _ HY.out | with_reducible exact HPK.out _ HY.out)
          (first
          | (go_at_call 38; (with_reducible refine (hW _).mono ?_); rintro e' w5 ⟨rfl, hb⟩; have HB := Lib.hid (HB.out.trans (hb.mono HB.out.size)); have HX := Lib.hid (HX.out.below hb); have HY := Lib.hid (HY.out.below hb); obtain ⟨_, x0, x1, x2, f0, f1, f2⟩ := HX.out; clear hb)
          | (go_at_call 26; (with_reducible refine (hN _).mono ?_); rintro e' w6 ⟨rfl, hb⟩; have HB := Lib.hid (HB.out.trans (hb.mono HB.out.size)); have HX := Lib.hid (HX.out.below hb); have HY := Lib.hid (HY.out.below hb); obtain ⟨_, x0, x1, x2, f0, f1, f2⟩ := HX.out; clear hb))
        all_goals go_wp2_with fail
        all_goals
          obtain ⟨_, z0, z1, z2, _⟩ := HX.out.put (.int .i64 (-1)) (.int .i64 vc) (.int .i64 vd)
          unfold put3 at z0 z1 z2
          refine bodyPost_ret (v := .tuple #[.agg #[.int .i64 (-1), .int .i64 vc, .int .i64 vd], .bool bq]) (by simp [results, Tryz.results42, go_sem, z0, z1, z2]) rfl ?_
          exact ⟨⟨⟨(-1), vc, vd⟩, bq, rfl, (by first | exact HT.out | exact fun h => by cases h), (by first | exact HF.out | exact fun _ => HF.out trivial)⟩, below_put3 HB.out (Nat.le_refl _)⟩
    | false =>
      obtain ⟨_, p0, p1, p2, pf0, pf1, pf2⟩ := HY.out
      have HR2 := HR.out
      simp only [Bool.false_eq_true, if_false] at HR2
      go_upto_region 7 with fail
      have HB : Hid (Below w.heap.size w wc.drew) := Lib.hid HB3.out.drew
      have HX := Lib.hid (HX3.out.below (Below.refl _ _).drew)
      have HY := Lib.hid (HY.out.below (Below.refl _ _).drew)
      clear p0 p1 p2 pf0 pf1 pf2 hr kn
      cases hok : loOk ⟨vb, vc, vd⟩ with
      | false =>
        have HCL : Hid (∀ V, B3 V bx (.int .i64 vb) (.int .i64 vc) (.int .i64 vd) → V.cell? ⟨bx, 0, none⟩ = some (.int .i64 vb) ∧ V.cell? ⟨bx, 1, none⟩ = some (.int .i64 vc) ∧ V.cell? ⟨bx, 2, none⟩ = some (.int .i64 vd)) := Lib.hid (fun V h => ⟨h.c0, h.c1, h.c2⟩)
        have HPK : Hid (∀ V, B3 V bx (.int .i64 vb) (.int .i64 vc) (.int .i64 vd) → (((V.setCell ⟨w.heap.size, 0, none⟩ (.int .i64 vb)).setCell ⟨w.heap.size, 1, none⟩ (.int .i64 vc)).setCell ⟨w.heap.size, 2, none⟩ (.int .i64 vd)).cell? ⟨bx, 0, none⟩ = some (.int .i64 vb) ∧ (((V.setCell ⟨w.heap.size, 0, none⟩ (.int .i64 vb)).setCell ⟨w.heap.size, 1, none⟩ (.int .i64 vc)).setCell ⟨w.heap.size, 2, none⟩ (.int .i64 vd)).cell? ⟨bx, 1, none⟩ = some (.int .i64 vc) ∧ (((V.setCell ⟨w.heap.size, 0, none⟩ (.int .i64 vb)).setCell ⟨w.heap.size, 1, none⟩ (.int .i64 vc)).setCell ⟨w.heap.size, 2, none⟩ (.int .i64 vd)).cell? ⟨bx, 2, none⟩ = some (.int .i64 vd)) := Lib.hid (fun V h => by have h := h.offP (.int .i64 vb) (.int .i64 vc) (.int .i64 vd) HNE.out; unfold put3 at h; exact ⟨h.c0, h.c1, h.c2⟩)
        have hW : ∀ V, Calls Tryz.prog 38 #[.agg #[.int .i64 vb, .int .i64 vc, .int .i64 vd]] V (fun e w' => e = .returned (.bool false) ∧ Below V.heap.size V w') := fun V => by have h := refLost_any ⟨vb, vc, vd⟩ V; rw [hok] at h; exact h
        have HT : Hid (false = true → rL l = some ⟨vb, vc, vd⟩) := Lib.hid (fun h => by cases h)
        have HF : Hid (false = false → rL l = none) := Lib.hid (fun _ => by rw [HR2, hok, if_neg (fun e => by cases e.1)])
        clear HR2 hok
        obtain ⟨_, p0, p1, p2, pf0, pf1, pf2⟩ := HY.out
        obtain ⟨_, x0, x1, x2, f0, f1, f2⟩ := HX.out
        refine wp_region_held_drew (S := fun V => V.cell? ⟨bx, 0, none⟩ = some (.int .i64 vb) ∧ V.cell? ⟨bx, 1, none⟩ = some (.int .i64 vc) ∧ V.cell? ⟨bx, 2, none⟩ = some (.int .i64 vd)) (by kernel_rfl) (HCL.out _ HY.out) (fun hHeld => ?_)
        clear hHeld
        refine wpAnyH_take (i := 0) (v := ?v0kv) rfl (by kernel_rfl) (by kernel_rfl) (by kernel_rfl) (fun _ _ _ h => h) (Or.inl ⟨by rfl, ?hy0kv⟩) (HCL.out _ HY.out) ?_
        case hy0kv => (intro W hSw; obtain ⟨s0, s1, s2⟩ := hSw; go_simp; first | done | with_reducible rfl)
        simp only [List.getElem_toArray, List.getElem_cons_zero, Act.put, List.setIfInBounds_toArray, List.set_cons_zero, List.set_cons_succ]
        refine wpAnyH_take (i := 1) (v := ?v1kv) rfl (by kernel_rfl) (by kernel_rfl) (by kernel_rfl) (fun _ _ _ h => h) (Or.inl ⟨by rfl, ?hy1kv⟩) (HCL.out _ HY.out) ?_
        case hy1kv => (intro W hSw; obtain ⟨s0, s1, s2⟩ := hSw; go_simp; first | done | with_reducible rfl)
        simp only [List.getElem_toArray, List.getElem_cons_succ, List.getElem_cons_zero, Act.put, List.setIfInBounds_toArray, List.set_cons_zero, List.set_cons_succ]
        refine wpAnyH_ready (rs := [2]) (by kernel_rfl) (by simp) ?_
        refine AllReadyH.cons rfl (fun K hK => ?_) AllReadyH.nil
        go_simp
        go_at_call 38
        with_reducible refine (hW _).mono ?_
        rintro e' w5 ⟨rfl, hb⟩
        have HB := Lib.hid (HB.out.trans (hb.mono HB.out.size)); have HX := Lib.hid (HX.out.below hb); have HY := Lib.hid (HY.out.below hb); obtain ⟨_, x0, x1, x2, f0, f1, f2⟩ := HX.out; clear hb
        go_wp2_with fail
        refine hK.out _ _ (HCL.out _ HY.out) (fun hHeld => ?_)
        clear hHeld hK K
        try simp only [List.getElem_toArray, List.getElem_cons_succ, List.getElem_cons_zero, Act.put, List.setIfInBounds_toArray, List.set_cons_zero, List.set_cons_succ]
        refine wpAnyH_take (i := 3) (v := ?v3kv) rfl (by kernel_rfl) (by kernel_rfl) (by kernel_rfl) (fun _ _ _ h => h) (Or.inl ⟨by rfl, ?hy3kv⟩) (HCL.out _ HY.out) ?_
        case hy3kv => (intro W hSw; obtain ⟨s0, s1, s2⟩ := hSw; go_simp; first | done | with_reducible rfl)
        simp only [List.getElem_toArray, List.getElem_cons_succ, List.getElem_cons_zero, Act.put, List.setIfInBounds_toArray, List.set_cons_zero, List.set_cons_succ]
        refine wpAnyH_take (i := 4) (v := undef) rfl (by kernel_rfl) (by kernel_rfl) (by kernel_rfl) (fun _ _ _ h => h) (Or.inr ⟨by rfl, rfl⟩) (HCL.out _ HY.out) ?_
        simp only [List.getElem_toArray, List.getElem_cons_succ, List.getElem_cons_zero, Act.put, List.setIfInBounds_toArray, List.set_cons_zero, List.set_cons_succ]
        refine wpAnyH_take (i := 5) (v := undef) rfl (by kernel_rfl) (by kernel_rfl) (by kernel_rfl) (fun _ _ _ h => h) (Or.inr ⟨by rfl, rfl⟩) (HCL.out _ HY.out) ?_
        simp only [List.getElem_toArray, List.getElem_cons_succ, List.getElem_cons_zero, Act.put, List.setIfInBounds_toArray, List.set_cons_zero, List.set_cons_succ]
        refine wpAnyH_take (i := 6) (v := undef) rfl (by kernel_rfl) (by kernel_rfl) (by kernel_rfl) (fun _ _ _ h => h) (Or.inr ⟨by rfl, rfl⟩) (HCL.out _ HY.out) ?_
        simp only [List.getElem_toArray, List.getElem_cons_succ, List.getElem_cons_zero, Act.put, List.setIfInBounds_toArray, List.set_cons_zero, List.set_cons_succ]
        refine wpAnyH_take (i := 7) (v := undef) rfl (by kernel_rfl) (by kernel_rfl) (by kernel_rfl) (fun _ _ _ h => h) (Or.inr ⟨by rfl, rfl⟩) (HCL.out _ HY.out) ?_
        simp only [List.getElem_toArray, List.getElem_cons_succ, List.getElem_cons_zero, Act.put, List.setIfInBounds_toArray, List.set_cons_zero, List.set_cons_succ]
        refine wpAnyH_take (i := 8) (v := ?v8kv) rfl (by kernel_rfl) (by kernel_rfl) (by kernel_rfl) (fun _ _ _ h => h) (Or.inl ⟨by rfl, ?hy8kv⟩) (HCL.out _ HY.out) ?_
        case hy8kv => (intro W hSw; obtain ⟨s0, s1, s2⟩ := hSw; go_simp; first | done | with_reducible rfl)
        simp only [List.getElem_toArray, List.getElem_cons_succ, List.getElem_cons_zero, Act.put, List.setIfInBounds_toArray, List.set_cons_zero, List.set_cons_succ]
        refine wpAnyH_ready (rs := [9]) (by kernel_rfl) (by simp) ?_
        refine AllReadyH.cons rfl (fun K hK => ?_) AllReadyH.nil
        go_simp
        refine hK.out _ _ (HPK.out _ HY.out) (fun hHeld => ?_)
        clear hHeld hK K
        try simp only [List.getElem_toArray, List.getElem_cons_succ, List.getElem_cons_zero, Act.put, List.setIfInBounds_toArray, List.set_cons_zero, List.set_cons_succ]
        refine wpAnyH_take (i := 10) (v := ?v10kv) rfl (by kernel_rfl) (by kernel_rfl) (by kernel_rfl) (fun _ _ _ h => h) (Or.inl ⟨by rfl, ?hy10kv⟩) (HPK.out _ HY.out) ?_
        case hy10kv => (intro W hSw; obtain ⟨s0, s1, s2⟩ := hSw; go_simp; first | done | with_reducible rfl)
        simp only [List.getElem_toArray, List.getElem_cons_succ, List.getElem_cons_zero, Act.put, List.setIfInBounds_toArray, List.set_cons_zero, List.set_cons_succ]
        refine wpAnyH_done (by kernel_rfl) ?_ _
        all_goals go_wp2_with fail
        all_goals
          obtain ⟨_, z0, z1, z2, _⟩ := HX.out.put (.int .i64 vb) (.int .i64 vc) (.int .i64 vd)
          unfold put3 at z0 z1 z2
          refine bodyPost_ret (v := .tuple #[.agg #[.int .i64 vb, .int .i64 vc, .int .i64 vd], .bool false]) (by simp [results, Tryz.results42, go_sem, z0, z1, z2]) rfl ?_
          exact ⟨⟨⟨vb, vc, vd⟩, false, rfl, (by first | exact HT.out | exact fun h => by cases h), (by first | exact HF.out | exact fun _ => HF.out trivial)⟩, below_put3 HB.out (Nat.le_refl _)⟩
      | true =>
        have HCL : Hid (∀ V, B3 V bx (.int .i64 vb) (.int .i64 vc) (.int .i64 vd) → V.cell? ⟨bx, 0, none⟩ = some (.int .i64 vb) ∧ V.cell? ⟨bx, 1, none⟩ = some (.int .i64 vc) ∧ V.cell? ⟨bx, 2, none⟩ = some (.int .i64 vd)) := Lib.hid (fun V h => ⟨h.c0, h.c1, h.c2⟩)
        have HPK : Hid (∀ V, B3 V bx (.int .i64 vb) (.int .i64 vc) (.int .i64 vd) → (((V.setCell ⟨w.heap.size, 0, none⟩ (.int .i64 vb)).setCell ⟨w.heap.size, 1, none⟩ (.int .i64 vc)).setCell ⟨w.heap.size, 2, none⟩ (.int .i64 vd)).cell? ⟨bx, 0, none⟩ = some (.int .i64 vb) ∧ (((V.setCell ⟨w.heap.size, 0, none⟩ (.int .i64 vb)).setCell ⟨w.heap.size, 1, none⟩ (.int .i64 vc)).setCell ⟨w.heap.size, 2, none⟩ (.int .i64 vd)).cell? ⟨bx, 1, none⟩ = some (.int .i64 vc) ∧ (((V.setCell ⟨w.heap.size, 0, none⟩ (.int .i64 vb)).setCell ⟨w.heap.size, 1, none⟩ (.int .i64 vc)).setCell ⟨w.heap.size, 2, none⟩ (.int .i64 vd)).cell? ⟨bx, 2, none⟩ = some (.int .i64 vd)) := Lib.hid (fun V h => by have h := h.offP (.int .i64 vb) (.int .i64 vc) (.int .i64 vd) HNE.out; unfold put3 at h; exact ⟨h.c0, h.c1, h.c2⟩)
        have hW : ∀ V, Calls Tryz.prog 38 #[.agg #[.int .i64 vb, .int .i64 vc, .int .i64 vd]] V (fun e w' => e = .returned (.bool true) ∧ Below V.heap.size V w') := fun V => by have h := refLost_any ⟨vb, vc, vd⟩ V; rw [hok] at h; exact h
        obtain ⟨ln, hln⟩ : ∃ ln, ln = lLn ⟨vb, vc, vd⟩ := ⟨_, rfl⟩
        have hN : ∀ V, Calls Tryz.prog 26 #[.agg #[.int .i64 vb, .int .i64 vc, .int .i64 vd]] V (fun e w' => e = .returned (Bs ln) ∧ Below V.heap.size V w') := fun V => by have h := refLostLine_any hok V; rw [← hln] at h; exact h
        obtain ⟨bq, hbq⟩ : ∃ bq, (ln == l) = bq := ⟨_, rfl⟩
        have HT : Hid (bq = true → rL l = some ⟨vb, vc, vd⟩) := Lib.hid (fun h => by rw [h, beq_iff_eq] at hbq; rw [HR2, if_pos ⟨hok, hln.symm.trans hbq⟩])
        have HF : Hid (bq = false → rL l = none) := Lib.hid (fun h => by rw [h, beq_eq_false_iff_ne] at hbq; rw [HR2, if_neg (fun e => hbq (hln.trans e.2))])
        clear hln HR2 hok
        obtain ⟨_, p0, p1, p2, pf0, pf1, pf2⟩ := HY.out
        obtain ⟨_, x0, x1, x2, f0, f1, f2⟩ := HX.out
        go_region_held3 (fun V => V.cell? ⟨bx, 0, none⟩ = some (.int .i64 vb) ∧ V.cell? ⟨bx, 1, none⟩ = some (.int .i64 vc) ∧ V.cell? ⟨bx, 2, none⟩ = some (.int .i64 vd)) (first | with_reducible exact HCL.out _ HY.out | with_reducible exact HPK.out _ HY.out)
          (first
          | (go_at_call 38; (with_reducible refine (hW _).mono ?_); rintro e' w5 ⟨rfl, hb⟩; have HB := Lib.hid (HB.out.trans (hb.mono HB.out.size)); have HX := Lib.hid (HX.out.below hb); have HY := Lib.hid (HY.out.below hb); obtain ⟨_, x0, x1, x2, f0, f1, f2⟩ := HX.out; clear hb)
          | (go_at_call 26; (with_reducible refine (hN _).mono ?_); rintro e' w6 ⟨rfl, hb⟩; have HB := Lib.hid (HB.out.trans (hb.mono HB.out.size)); have HX := Lib.hid (HX.out.below hb); have HY := Lib.hid (HY.out.below hb); obtain ⟨_, x0, x1, x2, f0, f1, f2⟩ := HX.out; clear hb))
        all_goals go_wp2_with fail
        all_goals
          obtain ⟨_, z0, z1, z2, _⟩ := HX.out.put (.int .i64 vb) (.int .i64 vc) (.int .i64 vd)
          unfold put3 at z0 z1 z2
          refine bodyPost_ret (v := .tuple #[.agg #[.int .i64 vb, .int .i64 vc, .int .i64 vd], .bool bq]) (by simp [results, Tryz.results42, go_sem, z0, z1, z2]) rfl ?_
          exact ⟨⟨⟨vb, vc, vd⟩, bq, rfl, (by first | exact HT.out | exact fun h => by cases h), (by first | exact HF.out | exact fun _ => HF.out trivial)⟩, below_put3 HB.out (Nat.le_refl _)⟩
end Go.Proofs.YtfmpbohiahjafaaGreatDoor
