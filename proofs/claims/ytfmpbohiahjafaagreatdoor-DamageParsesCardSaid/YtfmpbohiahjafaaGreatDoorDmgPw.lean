/- Reports of damage: the document's reading of a wound's line. -/
import Derived.Test.YtfmpbohiahjafaaGreatDoorDmgN
import Derived.Test.YtfmpbohiahjafaaGreatDoorDmgI
import Derived.Test.YtfmpbohiahjafaaGreatDoorDmgG
import Derived.Test.YtfmpbohiahjafaaGreatDoorIns
import Derived.Deep.DeepCutAuto
import Derived.Deep.RegionHeld3
namespace Go.Proofs.YtfmpbohiahjafaaGreatDoor
open Go.RowKit Go.Lib

theorem B5.one {W : World} {b : Nat} {v0 v1 v2 v3 v4 : Value} (h : B5 W b v0 v1 v2 v3 v4) (u : Value) : B5 (W.setCell ⟨b, 0, none⟩ u) b u v1 v2 v3 v4 := by
  have hf (o : Nat) (hh : W.frozen? ⟨b, o, none⟩ = false) : (W.setCell ⟨b, 0, none⟩ u).frozen? ⟨b, o, none⟩ = false := by rw [World.frozen?_setCell]; exact hh
  exact ⟨by simp only [World.size_setCell]; exact h.lt, put_same h.c0 _, (put_else _ _ _ _ _ (by omega)).trans h.c1, (put_else _ _ _ _ _ (by omega)).trans h.c2, (put_else _ _ _ _ _ (by omega)).trans h.c3, (put_else _ _ _ _ _ (by omega)).trans h.c4, hf 0 h.f0, hf 1 h.f1, hf 2 h.f2, hf 3 h.f3, hf 4 h.f4⟩
theorem B5.off {W : World} {b b' : Nat} {v0 v1 v2 v3 v4 : Value} (h : B5 W b v0 v1 v2 v3 v4) (u : Value) (hb : b' ≠ b) : B5 (W.setCell ⟨b', 0, none⟩ u) b v0 v1 v2 v3 v4 := by
  have hf (o : Nat) (hh : W.frozen? ⟨b, o, none⟩ = false) : (W.setCell ⟨b', 0, none⟩ u).frozen? ⟨b, o, none⟩ = false := by rw [World.frozen?_setCell]; exact hh
  have hc (o : Nat) (v : Value) (hh : W.cell? ⟨b, o, none⟩ = some v) : (W.setCell ⟨b', 0, none⟩ u).cell? ⟨b, o, none⟩ = some v := (World.cell?_setCell_other _ _ _ _ (by intro e; injection e with e; omega)).trans hh
  exact ⟨by simp only [World.size_setCell]; exact h.lt, hc 0 _ h.c0, hc 1 _ h.c1, hc 2 _ h.c2, hc 3 _ h.c3, hc 4 _ h.c4, hf 0 h.f0, hf 1 h.f1, hf 2 h.f2, hf 3 h.f3, hf 4 h.f4⟩
theorem B5.offP {W : World} {b b' : Nat} {v0 v1 v2 v3 v4 : Value} (h : B5 W b v0 v1 v2 v3 v4) (u0 u1 u2 u3 u4 : Value) (hb : b' ≠ b) : B5 (put5 W b' u0 u1 u2 u3 u4) b v0 v1 v2 v3 v4 := by
  unfold put5
  have hf (o : Nat) (hh : W.frozen? ⟨b, o, none⟩ = false) : (((((W.setCell ⟨b', 0, none⟩ u0).setCell ⟨b', 1, none⟩ u1).setCell ⟨b', 2, none⟩ u2).setCell ⟨b', 3, none⟩ u3).setCell ⟨b', 4, none⟩ u4).frozen? ⟨b, o, none⟩ = false := by
    rw [World.frozen?_setCell, World.frozen?_setCell, World.frozen?_setCell, World.frozen?_setCell, World.frozen?_setCell]; exact hh
  have hc (o : Nat) (v : Value) (hh : W.cell? ⟨b, o, none⟩ = some v) : (((((W.setCell ⟨b', 0, none⟩ u0).setCell ⟨b', 1, none⟩ u1).setCell ⟨b', 2, none⟩ u2).setCell ⟨b', 3, none⟩ u3).setCell ⟨b', 4, none⟩ u4).cell? ⟨b, o, none⟩ = some v := by
    rw [World.cell?_setCell_other _ _ _ _ (by intro e; injection e with e; omega), World.cell?_setCell_other _ _ _ _ (by intro e; injection e with e; omega), World.cell?_setCell_other _ _ _ _ (by intro e; injection e with e; omega), World.cell?_setCell_other _ _ _ _ (by intro e; injection e with e; omega), World.cell?_setCell_other _ _ _ _ (by intro e; injection e with e; omega)]; exact hh
  exact ⟨by simp only [World.size_setCell]; exact h.lt, hc 0 _ h.c0, hc 1 _ h.c1, hc 2 _ h.c2, hc 3 _ h.c3, hc 4 _ h.c4, hf 0 h.f0, hf 1 h.f1, hf 2 h.f2, hf 3 h.f3, hf 4 h.f4⟩
theorem row5 {W : World} {base t : Nat} {r : Value} {a b c d e : List UInt8} (ho : W.ownsRow base t 1 r [a, b, c, d, e].length ([a, b, c, d, e].flatMap encB)) : ∃ g cap, r = .slice (some ⟨g, 0, none⟩) 5 cap ∧ g < W.heap.size ∧ W.cell? ⟨g, 0, none⟩ = some (Bs a) ∧ W.cell? ⟨g, 1, none⟩ = some (Bs b) ∧ W.cell? ⟨g, 2, none⟩ = some (Bs c) ∧ W.cell? ⟨g, 3, none⟩ = some (Bs d) ∧ W.cell? ⟨g, 4, none⟩ = some (Bs e) := by
  rcases own_src encB_len ho with ⟨_, h⟩ | ⟨g, cap, hv, hgl, hgb, hc1, hc2, hcd⟩
  · cases h
  · exact ⟨g, cap, hv, hgl, hcd 0 (Bs a) rfl, hcd 1 (Bs b) rfl, hcd 2 (Bs c) rfl, hcd 3 (Bs d) rfl, hcd 4 (Bs e) rfl⟩
set_option maxHeartbeats 8000000 in
set_option maxRecDepth 100000 in
theorem refPW_any {l : List UInt8} (hl : l.length ≤ 1000000) (w : World) :
    Calls Tryz.prog 41 #[.string ⟨l.toArray⟩] w fun e w' => (∃ (x : WD) (b : Bool), e = .returned (.tuple #[.agg x.enc.toArray, .bool b]) ∧ (b = true → rW l = some x) ∧ (b = false → rW l = none)) ∧ Below w.heap.size w w' := by
  obtain ⟨w1, hw1⟩ : ∃ w1, w1 = w.alloc (.cells #[.int .u8 0, .int .i64 0, .int .i64 0, .int .i64 0, .bool false] 42) := ⟨_, rfl⟩
  have HB1 : Hid (Below w.heap.size w w1) := Lib.hid (by rw [hw1]; exact below_new w _)
  have HX1 : Hid (B5 w1 w.heap.size (.int .u8 0) (.int .i64 0) (.int .i64 0) (.int .i64 0) (.bool false)) := Lib.hid (by rw [hw1]; exact B5.new w _ _ _ _ _ _)
  have HSZ1 : Hid (w.heap.size < w1.heap.size) := Lib.hid HX1.out.lt
  have hS := refWords_any ⟨l.toArray⟩ (by have := bsz l; omega) w1
  change Calls _ _ _ _ (fun e w' => ∃ r, e = .returned r ∧ w'.ownsRow w1.heap.size 9 1 r (spl 32 l).length ((spl 32 l).flatMap encB) ∧ Below w1.heap.size w1 w') at hS
  obtain ⟨L, hL⟩ : ∃ L, L = spl 32 l := ⟨_, rfl⟩
  rw [← hL] at hS
  have HL := Lib.hid hL
  have HW1 := Lib.hid hw1
  have HLS : Hid (∀ x ∈ L, x.length ≤ 1000000) := Lib.hid (fun x hx => by rw [hL] at hx; exact Nat.le_trans (spl_short hx) hl)
  by_cases h5 : L.length = 5
  case neg =>
    have HN : Hid (rW l = none) := Lib.hid (pW_len (by rw [← hL]; exact h5))
    have k0 : ((L.length : Int) != 5) = true := by rw [bne_iff_ne]; omega
    have k1 : ((L.length : Int) == 5) = false := by rw [beq_eq_false_iff_ne]; omega
    clear hL h5 hw1
    go_enter Tryz.func41, Tryz.ntmps41
    go_upto_region 1 with fail
    rw [← HW1.out]
    go_upto_region 3 with (go_at_call 61; (with_reducible refine hS.mono ?_); rintro e w2 ⟨r, rfl, ho, hb2⟩; (obtain ⟨rA, rc, rfl, -, -⟩ := ownS_form ho); have HB2 := Lib.hid hb2; clear ho hb2)
    have HX2 := Lib.hid (HX1.out.below HB2.out)
    obtain ⟨_, x0, x1, x2, x3, x4, f0, f1, f2, f3, f4⟩ := HX2.out
    go_wp2
    obtain ⟨_, z0, z1, z2, z3, z4, _⟩ := HX2.out.put (.int .u8 0) (.int .i64 0) (.int .i64 0) (.int .i64 0) (.bool false)
    unfold put5 at z0 z1 z2 z3 z4
    refine bodyPost_ret (v := .tuple #[.agg #[.int .u8 0, .int .i64 0, .int .i64 0, .int .i64 0, .bool false], .bool false]) (by simp [results, Tryz.results41, go_sem, z0, z1, z2, z3, z4]) rfl ?_
    exact ⟨⟨WD.zero, false, rfl, fun h => (by cases h), fun _ => HN.out⟩, below_put5 (HB1.out.trans (HB2.out.mono HB1.out.size)) (Nat.le_refl _)⟩
  obtain ⟨a, b, c, d, e, rfl⟩ : ∃ a b c d e, L = [a, b, c, d, e] := by
    match L, h5 with
    | [a, b, c, d, e], _ => exact ⟨a, b, c, d, e, rfl⟩
  have hVb := fun V => refValue_any ⟨b.toArray⟩ (by have h1 := bsz b; have h2 := HLS.out b (by simp); omega) V
  have hVc := fun V => refValue_any ⟨c.toArray⟩ (by have h1 := bsz c; have h2 := HLS.out c (by simp); omega) V
  have hVd := fun V => refValue_any ⟨d.toArray⟩ (by have h1 := bsz d; have h2 := HLS.out d (by simp); omega) V
  change ∀ V, Calls _ _ _ V (fun e' w' => e' = .returned (.int .i64 (refV b)) ∧ w' = V) at hVb
  change ∀ V, Calls _ _ _ V (fun e' w' => e' = .returned (.int .i64 (refV c)) ∧ w' = V) at hVc
  change ∀ V, Calls _ _ _ V (fun e' w' => e' = .returned (.int .i64 (refV d)) ∧ w' = V) at hVd
  have HR : Hid (rW l = if wdOk ⟨refK a, refV b, refV c, refV d, decide (e = healedW)⟩ = true ∧ wLn ⟨refK a, refV b, refV c, refV d, decide (e = healedW)⟩ = l then some ⟨refK a, refV b, refV c, refV d, decide (e = healedW)⟩ else none) := Lib.hid (by unfold rW; rw [← hL])
  obtain ⟨bh, hbh⟩ : ∃ bh, bh = (e == [104, 101, 97, 108, 101, 100]) := ⟨_, rfl⟩
  obtain ⟨sl, hsl⟩ : ∃ sl, sl = (a == [115, 108, 111, 116]) := ⟨_, rfl⟩
  obtain ⟨pg, hpg⟩ : ∃ pg, pg = (a == [112, 97, 103, 101]) := ⟨_, rfl⟩
  have HBH : decide (e = healedW) = bh := by rw [hbh, Bool.eq_iff_iff, beq_iff_eq, decide_eq_true_eq]; rfl
  rw [HBH] at HR
  have HK : refK a = if pg = true then 2 else if sl = true then 1 else 3 := by
    unfold refK
    rw [hpg, hsl]
    simp only [beq_iff_eq]
    rfl
  rw [HK] at HR
  have HPS : ¬ (sl = true ∧ pg = true) := by
    rw [hsl, hpg, beq_iff_eq, beq_iff_eq]
    rintro ⟨h1, h2⟩
    rw [h1] at h2
    exact absurd h2 (by decide)
  have kh := hbh.symm
  have ks := hsl.symm
  have kp := hpg.symm
  change Calls _ _ _ _ (fun e' w' => ∃ r, e' = .returned r ∧ w'.ownsRow w1.heap.size 9 1 r [a, b, c, d, e].length ([a, b, c, d, e].flatMap encB) ∧ Below w1.heap.size w1 w') at hS
  generalize refV b = vb at hVb HR
  generalize refV c = vc at hVc HR
  generalize refV d = vd at hVd HR
  clear hL hw1 h5 HK HBH hbh hsl hpg HL HLS
  go_enter Tryz.func41, Tryz.ntmps41
  go_upto_region 1 with fail
  rw [← HW1.out]
  go_upto_region 4 with (go_at_call 61; (with_reducible refine hS.mono ?_); rintro e' w2 ⟨r, rfl, ho, hb2⟩; (obtain ⟨g, cap, rfl, hgl, q0, q1, q2, q3, q4⟩ := row5 ho); have HB2 := Lib.hid hb2; clear ho hb2)
  have HGN : Hid (w2.heap.size ≠ g) := Lib.hid (by omega)
  clear hgl
  have HX2 := Lib.hid (HX1.out.below HB2.out)
  have HBW2 : Hid (Below w.heap.size w w2) := Lib.hid (HB1.out.trans (HB2.out.mono HB1.out.size))
  have HSZ2 : Hid (w.heap.size ≠ w2.heap.size) := Lib.hid (by have := HX2.out.lt; omega)
  clear hS
  have HSG : Hid (∀ V, Below w2.heap.size w2 V → V.cell? ⟨g, 0, none⟩ = some (Bs a) ∧ V.cell? ⟨g, 1, none⟩ = some (Bs b) ∧ V.cell? ⟨g, 2, none⟩ = some (Bs c) ∧ V.cell? ⟨g, 3, none⟩ = some (Bs d) ∧ V.cell? ⟨g, 4, none⟩ = some (Bs e)) := Lib.hid (fun V hb => ⟨cell_keep hb q0, cell_keep hb q1, cell_keep hb q2, cell_keep hb q3, cell_keep hb q4⟩)
  have hba : Below w2.heap.size w2 (w2.alloc (.cells #[.int .u8 0, .int .i64 0, .int .i64 0, .int .i64 0, .bool false] 42)).drew := ((Below.refl _ _).alloc (Nat.le_refl _) _).drew
  have HA0 : Hid (Below w2.heap.size w2 w2.drew) := Lib.hid (Below.refl _ _).drew
  have HA1 := Lib.hid hba
  have HA2 : Hid (Below w2.heap.size w2 ((((((w2.alloc (.cells #[.int .u8 0, .int .i64 0, .int .i64 0, .int .i64 0, .bool false] 42)).drew.setCell ⟨w2.heap.size, 0, none⟩ (.int .u8 3)).setCell ⟨w2.heap.size, 1, none⟩ (.int .i64 vb)).setCell ⟨w2.heap.size, 2, none⟩ (.int .i64 vc)).setCell ⟨w2.heap.size, 3, none⟩ (.int .i64 vd)).setCell ⟨w2.heap.size, 4, none⟩ (.bool bh))) := Lib.hid (below_put5 hba (Nat.le_refl _))
  have HA3 : Hid (Below w2.heap.size w2 (w2.alloc (.cells #[.int .u8 3, .int .i64 vb, .int .i64 vc, .int .i64 vd, .bool bh] 42)).drew) := Lib.hid ((Below.refl _ _).alloc (Nat.le_refl _) _).drew
  have HY3 : Hid (B5 (w2.alloc (.cells #[.int .u8 3, .int .i64 vb, .int .i64 vc, .int .i64 vd, .bool bh] 42)).drew w2.heap.size (.int .u8 3) (.int .i64 vb) (.int .i64 vc) (.int .i64 vd) (.bool bh)) := Lib.hid ((B5.new w2 (.int .u8 3) (.int .i64 vb) (.int .i64 vc) (.int .i64 vd) (.bool bh) 42).below (Below.refl _ _).drew)
  clear hba
  go_cut [5] (fun s wx => s = .pointer (some ⟨w2.heap.size, 0, none⟩) ∧ Below w2.heap.size w2 wx ∧ B5 wx w2.heap.size (.int .u8 3) (.int .i64 vb) (.int .i64 vc) (.int .i64 vd) (.bool bh))
  case first =>
    go_region_held3 (fun V => V.cell? ⟨g, 0, none⟩ = some (Bs a) ∧ V.cell? ⟨g, 1, none⟩ = some (Bs b) ∧ V.cell? ⟨g, 2, none⟩ = some (Bs c) ∧ V.cell? ⟨g, 3, none⟩ = some (Bs d) ∧ V.cell? ⟨g, 4, none⟩ = some (Bs e)) (first | with_reducible exact HSG.out _ HA0.out | with_reducible exact HSG.out _ HA1.out | with_reducible exact HSG.out _ HA2.out | with_reducible exact HSG.out _ HA3.out)
      (first
      | (go_at_call 62; (with_reducible refine (hVb _).mono ?_); rintro e' w5 ⟨rfl, rfl⟩)
      | (go_at_call 62; (with_reducible refine (hVc _).mono ?_); rintro e' w5 ⟨rfl, rfl⟩)
      | (go_at_call 62; (with_reducible refine (hVd _).mono ?_); rintro e' w5 ⟨rfl, rfl⟩))
    all_goals go_wp2_with fail
    all_goals go_meet
    all_goals exact ⟨rfl, HA3.out, HY3.out⟩
  case rest =>
    obtain ⟨rfl, hb3, hy3⟩ := hcut
    have HB3 : Hid (Below w.heap.size w wc) := Lib.hid (HBW2.out.trans (hb3.mono HBW2.out.size))
    have HX3 := Lib.hid (HX2.out.below hb3)
    have HY := Lib.hid hy3
    have hr := cell_keep hb3 q0
    clear q0 q1 q2 q3 q4 HA0 HA1 HA2 HA3 HY3 hb3 hy3 hVb hVc hVd
    have HLE : Hid (w.heap.size ≤ w2.heap.size) := Lib.hid HBW2.out.size
    have HNE := Lib.hid HSZ2.out
    generalize w2.heap.size = bx at HY HLE HNE HGN ⊢
    clear HSG HSZ2 HX2 HX1 HB1 HB2 HBW2 HSZ1
    cases pg with
    | true =>
      cases sl with
      | true => exact absurd ⟨rfl, rfl⟩ HPS
      | false =>
        obtain ⟨_, p0, p1, p2, p3, p4, pf0, pf1, pf2, pf3, pf4⟩ := HY.out
        have HR2 := HR.out
        simp only [Bool.false_eq_true, if_true, if_false] at HR2
        have hr2 : (wc.setCell ⟨bx, 0, none⟩ (.int .u8 2)).cell? ⟨g, 0, none⟩ = some (Bs a) := (World.cell?_setCell_other _ _ _ _ (by intro e; injection e with e; exact HGN.out e)).trans hr
        go_upto_region 9 with fail
        clear hr2
        have HB : Hid (Below w.heap.size w (wc.setCell ⟨bx, 0, none⟩ (.int .u8 2)).drew) := Lib.hid (below_set HB3.out HLE.out).drew
        have HX := Lib.hid ((HX3.out.off (.int .u8 2) HNE.out.symm).below (Below.refl _ _).drew)
        have HY := Lib.hid ((HY.out.one (.int .u8 2)).below (Below.refl _ _).drew)
        obtain ⟨wk, hwk⟩ : ∃ wk, wk = wc.setCell ⟨bx, 0, none⟩ (.int .u8 2) := ⟨_, rfl⟩
        rw [← hwk] at HB HX HY ⊢
        clear hwk
        clear p0 p1 p2 p3 p4 pf0 pf1 pf2 pf3 pf4 hr ks kp
        cases hok : wdOk ⟨2, vb, vc, vd, bh⟩ with
        | false =>
          have HCL : Hid (∀ V, B5 V bx (.int .u8 2) (.int .i64 vb) (.int .i64 vc) (.int .i64 vd) (.bool bh) → V.cell? ⟨bx, 0, none⟩ = some (.int .u8 2) ∧ V.cell? ⟨bx, 1, none⟩ = some (.int .i64 vb) ∧ V.cell? ⟨bx, 2, none⟩ = some (.int .i64 vc) ∧ V.cell? ⟨bx, 3, none⟩ = some (.int .i64 vd) ∧ V.cell? ⟨bx, 4, none⟩ = some (.bool bh)) := Lib.hid (fun V h => ⟨h.c0, h.c1, h.c2, h.c3, h.c4⟩)
          have HPK : Hid (∀ V, B5 V bx (.int .u8 2) (.int .i64 vb) (.int .i64 vc) (.int .i64 vd) (.bool bh) → (((((V.setCell ⟨w.heap.size, 0, none⟩ (.int .u8 2)).setCell ⟨w.heap.size, 1, none⟩ (.int .i64 vb)).setCell ⟨w.heap.size, 2, none⟩ (.int .i64 vc)).setCell ⟨w.heap.size, 3, none⟩ (.int .i64 vd)).setCell ⟨w.heap.size, 4, none⟩ (.bool bh)).cell? ⟨bx, 0, none⟩ = some (.int .u8 2) ∧ (((((V.setCell ⟨w.heap.size, 0, none⟩ (.int .u8 2)).setCell ⟨w.heap.size, 1, none⟩ (.int .i64 vb)).setCell ⟨w.heap.size, 2, none⟩ (.int .i64 vc)).setCell ⟨w.heap.size, 3, none⟩ (.int .i64 vd)).setCell ⟨w.heap.size, 4, none⟩ (.bool bh)).cell? ⟨bx, 1, none⟩ = some (.int .i64 vb) ∧ (((((V.setCell ⟨w.heap.size, 0, none⟩ (.int .u8 2)).setCell ⟨w.heap.size, 1, none⟩ (.int .i64 vb)).setCell ⟨w.heap.size, 2, none⟩ (.int .i64 vc)).setCell ⟨w.heap.size, 3, none⟩ (.int .i64 vd)).setCell ⟨w.heap.size, 4, none⟩ (.bool bh)).cell? ⟨bx, 2, none⟩ = some (.int .i64 vc) ∧ (((((V.setCell ⟨w.heap.size, 0, none⟩ (.int .u8 2)).setCell ⟨w.heap.size, 1, none⟩ (.int .i64 vb)).setCell ⟨w.heap.size, 2, none⟩ (.int .i64 vc)).setCell ⟨w.heap.size, 3, none⟩ (.int .i64 vd)).setCell ⟨w.heap.size, 4, none⟩ (.bool bh)).cell? ⟨bx, 3, none⟩ = some (.int .i64 vd) ∧ (((((V.setCell ⟨w.heap.size, 0, none⟩ (.int .u8 2)).setCell ⟨w.heap.size, 1, none⟩ (.int .i64 vb)).setCell ⟨w.heap.size, 2, none⟩ (.int .i64 vc)).setCell ⟨w.heap.size, 3, none⟩ (.int .i64 vd)).setCell ⟨w.heap.size, 4, none⟩ (.bool bh)).cell? ⟨bx, 4, none⟩ = some (.bool bh)) := Lib.hid (fun V h => by have h := h.offP (.int .u8 2) (.int .i64 vb) (.int .i64 vc) (.int .i64 vd) (.bool bh) HNE.out; unfold put5 at h; exact ⟨h.c0, h.c1, h.c2, h.c3, h.c4⟩)
          have hW : ∀ V, Calls Tryz.prog 37 #[.agg #[.int .u8 2, .int .i64 vb, .int .i64 vc, .int .i64 vd, .bool bh]] V (fun e w' => e = .returned (.bool false) ∧ Below V.heap.size V w') := fun V => by have h := refWound_any ⟨2, vb, vc, vd, bh⟩ V; rw [hok] at h; exact h
          have HT : Hid (false = true → rW l = some ⟨2, vb, vc, vd, bh⟩) := Lib.hid (fun h => by cases h)
          have HF : Hid (false = false → rW l = none) := Lib.hid (fun _ => by rw [HR2, hok, if_neg (fun e => by cases e.1)])
          clear HR2 hok
          obtain ⟨_, p0, p1, p2, p3, p4, pf0, pf1, pf2, pf3, pf4⟩ := HY.out
          obtain ⟨_, x0, x1, x2, x3, x4, f0, f1, f2, f3, f4⟩ := HX.out
          refine wp_region_held_drew (S := fun V => V.cell? ⟨bx, 0, none⟩ = some (.int .u8 2) ∧ V.cell? ⟨bx, 1, none⟩ = some (.int .i64 vb) ∧ V.cell? ⟨bx, 2, none⟩ = some (.int .i64 vc) ∧ V.cell? ⟨bx, 3, none⟩ = some (.int .i64 vd) ∧ V.cell? ⟨bx, 4, none⟩ = some (.bool bh)) (by kernel_rfl) (HCL.out _ HY.out) (fun hHeld => ?_)
          clear hHeld
          refine wpAnyH_take (i := 0) (v := ?v0k2) rfl (by kernel_rfl) (by kernel_rfl) (by kernel_rfl) (fun _ _ _ h => h) (Or.inl ⟨by rfl, ?hy0k2⟩) (HCL.out _ HY.out) ?_
          case hy0k2 => (intro W hSw; obtain ⟨s0, s1, s2, s3, s4⟩ := hSw; go_simp; first | done | with_reducible rfl)
          simp only [List.getElem_toArray, List.getElem_cons_zero, Act.put, List.setIfInBounds_toArray, List.set_cons_zero, List.set_cons_succ]
          refine wpAnyH_take (i := 1) (v := ?v1k2) rfl (by kernel_rfl) (by kernel_rfl) (by kernel_rfl) (fun _ _ _ h => h) (Or.inl ⟨by rfl, ?hy1k2⟩) (HCL.out _ HY.out) ?_
          case hy1k2 => (intro W hSw; obtain ⟨s0, s1, s2, s3, s4⟩ := hSw; go_simp; first | done | with_reducible rfl)
          simp only [List.getElem_toArray, List.getElem_cons_succ, List.getElem_cons_zero, Act.put, List.setIfInBounds_toArray, List.set_cons_zero, List.set_cons_succ]
          refine wpAnyH_ready (rs := [2]) (by kernel_rfl) (by simp) ?_
          refine AllReadyH.cons rfl (fun K hK => ?_) AllReadyH.nil
          go_simp
          go_at_call 37
          with_reducible refine (hW _).mono ?_
          rintro e' w5 ⟨rfl, hb⟩
          have HB := Lib.hid (HB.out.trans (hb.mono HB.out.size)); have HX := Lib.hid (HX.out.below hb); have HY := Lib.hid (HY.out.below hb); obtain ⟨_, x0, x1, x2, x3, x4, f0, f1, f2, f3, f4⟩ := HX.out; clear hb
          go_wp2_with fail
          refine hK.out _ _ (HCL.out _ HY.out) (fun hHeld => ?_)
          clear hHeld hK K
          try simp only [List.getElem_toArray, List.getElem_cons_succ, List.getElem_cons_zero, Act.put, List.setIfInBounds_toArray, List.set_cons_zero, List.set_cons_succ]
          refine wpAnyH_take (i := 3) (v := ?v3k2) rfl (by kernel_rfl) (by kernel_rfl) (by kernel_rfl) (fun _ _ _ h => h) (Or.inl ⟨by rfl, ?hy3k2⟩) (HCL.out _ HY.out) ?_
          case hy3k2 => (intro W hSw; obtain ⟨s0, s1, s2, s3, s4⟩ := hSw; go_simp; first | done | with_reducible rfl)
          simp only [List.getElem_toArray, List.getElem_cons_succ, List.getElem_cons_zero, Act.put, List.setIfInBounds_toArray, List.set_cons_zero, List.set_cons_succ]
          refine wpAnyH_take (i := 4) (v := undef) rfl (by kernel_rfl) (by kernel_rfl) (by kernel_rfl) (fun _ _ _ h => h) (Or.inr ⟨by rfl, rfl⟩) (HCL.out _ HY.out) ?_
          simp only [List.getElem_toArray, List.getElem_cons_succ, List.getElem_cons_zero, Act.put, List.setIfInBounds_toArray, List.set_cons_zero, List.set_cons_succ]
          refine wpAnyH_take (i := 5) (v := undef) rfl (by kernel_rfl) (by kernel_rfl) (by kernel_rfl) (fun _ _ _ h => h) (Or.inr ⟨by rfl, rfl⟩) (HCL.out _ HY.out) ?_
          simp only [List.getElem_toArray, List.getElem_cons_succ, List.getElem_cons_zero, Act.put, List.setIfInBounds_toArray, List.set_cons_zero, List.set_cons_succ]
          refine wpAnyH_take (i := 6) (v := undef) rfl (by kernel_rfl) (by kernel_rfl) (by kernel_rfl) (fun _ _ _ h => h) (Or.inr ⟨by rfl, rfl⟩) (HCL.out _ HY.out) ?_
          simp only [List.getElem_toArray, List.getElem_cons_succ, List.getElem_cons_zero, Act.put, List.setIfInBounds_toArray, List.set_cons_zero, List.set_cons_succ]
          refine wpAnyH_take (i := 7) (v := undef) rfl (by kernel_rfl) (by kernel_rfl) (by kernel_rfl) (fun _ _ _ h => h) (Or.inr ⟨by rfl, rfl⟩) (HCL.out _ HY.out) ?_
          simp only [List.getElem_toArray, List.getElem_cons_succ, List.getElem_cons_zero, Act.put, List.setIfInBounds_toArray, List.set_cons_zero, List.set_cons_succ]
          refine wpAnyH_take (i := 8) (v := ?v8k2) rfl (by kernel_rfl) (by kernel_rfl) (by kernel_rfl) (fun _ _ _ h => h) (Or.inl ⟨by rfl, ?hy8k2⟩) (HCL.out _ HY.out) ?_
          case hy8k2 => (intro W hSw; obtain ⟨s0, s1, s2, s3, s4⟩ := hSw; go_simp; first | done | with_reducible rfl)
          simp only [List.getElem_toArray, List.getElem_cons_succ, List.getElem_cons_zero, Act.put, List.setIfInBounds_toArray, List.set_cons_zero, List.set_cons_succ]
          refine wpAnyH_ready (rs := [9]) (by kernel_rfl) (by simp) ?_
          refine AllReadyH.cons rfl (fun K hK => ?_) AllReadyH.nil
          go_simp
          refine hK.out _ _ (HPK.out _ HY.out) (fun hHeld => ?_)
          clear hHeld hK K
          try simp only [List.getElem_toArray, List.getElem_cons_succ, List.getElem_cons_zero, Act.put, List.setIfInBounds_toArray, List.set_cons_zero, List.set_cons_succ]
          refine wpAnyH_take (i := 10) (v := ?v10k2) rfl (by kernel_rfl) (by kernel_rfl) (by kernel_rfl) (fun _ _ _ h => h) (Or.inl ⟨by rfl, ?hy10k2⟩) (HPK.out _ HY.out) ?_
          case hy10k2 => (intro W hSw; obtain ⟨s0, s1, s2, s3, s4⟩ := hSw; go_simp; first | done | with_reducible rfl)
          simp only [List.getElem_toArray, List.getElem_cons_succ, List.getElem_cons_zero, Act.put, List.setIfInBounds_toArray, List.set_cons_zero, List.set_cons_succ]
          refine wpAnyH_done (by kernel_rfl) ?_ _
          all_goals go_wp2_with fail
          all_goals
            obtain ⟨_, z0, z1, z2, z3, z4, _⟩ := HX.out.put (.int .u8 2) (.int .i64 vb) (.int .i64 vc) (.int .i64 vd) (.bool bh)
            unfold put5 at z0 z1 z2 z3 z4
            refine bodyPost_ret (v := .tuple #[.agg #[.int .u8 2, .int .i64 vb, .int .i64 vc, .int .i64 vd, .bool bh], .bool false]) (by simp [results, Tryz.results41, go_sem, z0, z1, z2, z3, z4]) rfl ?_
            exact ⟨⟨⟨2, vb, vc, vd, bh⟩, false, rfl, (by first | exact HT.out | exact fun h => by cases h), (by first | exact HF.out | exact fun _ => HF.out trivial)⟩, below_put5 HB.out (Nat.le_refl _)⟩
        | true =>
          have HCL : Hid (∀ V, B5 V bx (.int .u8 2) (.int .i64 vb) (.int .i64 vc) (.int .i64 vd) (.bool bh) → V.cell? ⟨bx, 0, none⟩ = some (.int .u8 2) ∧ V.cell? ⟨bx, 1, none⟩ = some (.int .i64 vb) ∧ V.cell? ⟨bx, 2, none⟩ = some (.int .i64 vc) ∧ V.cell? ⟨bx, 3, none⟩ = some (.int .i64 vd) ∧ V.cell? ⟨bx, 4, none⟩ = some (.bool bh)) := Lib.hid (fun V h => ⟨h.c0, h.c1, h.c2, h.c3, h.c4⟩)
          have HPK : Hid (∀ V, B5 V bx (.int .u8 2) (.int .i64 vb) (.int .i64 vc) (.int .i64 vd) (.bool bh) → (((((V.setCell ⟨w.heap.size, 0, none⟩ (.int .u8 2)).setCell ⟨w.heap.size, 1, none⟩ (.int .i64 vb)).setCell ⟨w.heap.size, 2, none⟩ (.int .i64 vc)).setCell ⟨w.heap.size, 3, none⟩ (.int .i64 vd)).setCell ⟨w.heap.size, 4, none⟩ (.bool bh)).cell? ⟨bx, 0, none⟩ = some (.int .u8 2) ∧ (((((V.setCell ⟨w.heap.size, 0, none⟩ (.int .u8 2)).setCell ⟨w.heap.size, 1, none⟩ (.int .i64 vb)).setCell ⟨w.heap.size, 2, none⟩ (.int .i64 vc)).setCell ⟨w.heap.size, 3, none⟩ (.int .i64 vd)).setCell ⟨w.heap.size, 4, none⟩ (.bool bh)).cell? ⟨bx, 1, none⟩ = some (.int .i64 vb) ∧ (((((V.setCell ⟨w.heap.size, 0, none⟩ (.int .u8 2)).setCell ⟨w.heap.size, 1, none⟩ (.int .i64 vb)).setCell ⟨w.heap.size, 2, none⟩ (.int .i64 vc)).setCell ⟨w.heap.size, 3, none⟩ (.int .i64 vd)).setCell ⟨w.heap.size, 4, none⟩ (.bool bh)).cell? ⟨bx, 2, none⟩ = some (.int .i64 vc) ∧ (((((V.setCell ⟨w.heap.size, 0, none⟩ (.int .u8 2)).setCell ⟨w.heap.size, 1, none⟩ (.int .i64 vb)).setCell ⟨w.heap.size, 2, none⟩ (.int .i64 vc)).setCell ⟨w.heap.size, 3, none⟩ (.int .i64 vd)).setCell ⟨w.heap.size, 4, none⟩ (.bool bh)).cell? ⟨bx, 3, none⟩ = some (.int .i64 vd) ∧ (((((V.setCell ⟨w.heap.size, 0, none⟩ (.int .u8 2)).setCell ⟨w.heap.size, 1, none⟩ (.int .i64 vb)).setCell ⟨w.heap.size, 2, none⟩ (.int .i64 vc)).setCell ⟨w.heap.size, 3, none⟩ (.int .i64 vd)).setCell ⟨w.heap.size, 4, none⟩ (.bool bh)).cell? ⟨bx, 4, none⟩ = some (.bool bh)) := Lib.hid (fun V h => by have h := h.offP (.int .u8 2) (.int .i64 vb) (.int .i64 vc) (.int .i64 vd) (.bool bh) HNE.out; unfold put5 at h; exact ⟨h.c0, h.c1, h.c2, h.c3, h.c4⟩)
          have hW : ∀ V, Calls Tryz.prog 37 #[.agg #[.int .u8 2, .int .i64 vb, .int .i64 vc, .int .i64 vd, .bool bh]] V (fun e w' => e = .returned (.bool true) ∧ Below V.heap.size V w') := fun V => by have h := refWound_any ⟨2, vb, vc, vd, bh⟩ V; rw [hok] at h; exact h
          obtain ⟨ln, hln⟩ : ∃ ln, ln = wLn ⟨2, vb, vc, vd, bh⟩ := ⟨_, rfl⟩
          have hN : ∀ V, Calls Tryz.prog 25 #[.agg #[.int .u8 2, .int .i64 vb, .int .i64 vc, .int .i64 vd, .bool bh]] V (fun e w' => e = .returned (Bs ln) ∧ Below V.heap.size V w') := fun V => by have h := refWoundLine_any hok V; rw [← hln] at h; exact h
          obtain ⟨bq, hbq⟩ : ∃ bq, (ln == l) = bq := ⟨_, rfl⟩
          have HT : Hid (bq = true → rW l = some ⟨2, vb, vc, vd, bh⟩) := Lib.hid (fun h => by rw [h, beq_iff_eq] at hbq; rw [HR2, if_pos ⟨hok, hln.symm.trans hbq⟩])
          have HF : Hid (bq = false → rW l = none) := Lib.hid (fun h => by rw [h, beq_eq_false_iff_ne] at hbq; rw [HR2, if_neg (fun e => hbq (hln.trans e.2))])
          clear hln HR2 hok
          obtain ⟨_, p0, p1, p2, p3, p4, pf0, pf1, pf2, pf3, pf4⟩ := HY.out
          obtain ⟨_, x0, x1, x2, x3, x4, f0, f1, f2, f3, f4⟩ := HX.out
          go_region_held3 (fun V => V.cell? ⟨bx, 0, none⟩ = some (.int .u8 2) ∧ V.cell? ⟨bx, 1, none⟩ = some (.int .i64 vb) ∧ V.cell? ⟨bx, 2, none⟩ = some (.int .i64 vc) ∧ V.cell? ⟨bx, 3, none⟩ = some (.int .i64 vd) ∧ V.cell? ⟨bx, 4, none⟩ = some (.bool bh)) (first | with_reducible exact HCL.out _ HY.out | with_reducible exact HPK.out _ HY.out)
            (first
            | (go_at_call 37; (with_reducible refine (hW _).mono ?_); rintro e' w5 ⟨rfl, hb⟩; have HB := Lib.hid (HB.out.trans (hb.mono HB.out.size)); have HX := Lib.hid (HX.out.below hb); have HY := Lib.hid (HY.out.below hb); obtain ⟨_, x0, x1, x2, x3, x4, f0, f1, f2, f3, f4⟩ := HX.out; clear hb)
            | (go_at_call 25; (with_reducible refine (hN _).mono ?_); rintro e' w6 ⟨rfl, hb⟩; have HB := Lib.hid (HB.out.trans (hb.mono HB.out.size)); have HX := Lib.hid (HX.out.below hb); have HY := Lib.hid (HY.out.below hb); obtain ⟨_, x0, x1, x2, x3, x4, f0, f1, f2, f3, f4⟩ := HX.out; clear hb))
          all_goals go_wp2_with fail
          all_goals
            obtain ⟨_, z0, z1, z2, z3, z4, _⟩ := HX.out.put (.int .u8 2) (.int .i64 vb) (.int .i64 vc) (.int .i64 vd) (.bool bh)
            unfold put5 at z0 z1 z2 z3 z4
            refine bodyPost_ret (v := .tuple #[.agg #[.int .u8 2, .int .i64 vb, .int .i64 vc, .int .i64 vd, .bool bh], .bool bq]) (by simp [results, Tryz.results41, go_sem, z0, z1, z2, z3, z4]) rfl ?_
            exact ⟨⟨⟨2, vb, vc, vd, bh⟩, bq, rfl, (by first | exact HT.out | exact fun h => by cases h), (by first | exact HF.out | exact fun _ => HF.out trivial)⟩, below_put5 HB.out (Nat.le_refl _)⟩
    | false =>
      cases sl with
      | true =>
        obtain ⟨_, p0, p1, p2, p3, p4, pf0, pf1, pf2, pf3, pf4⟩ := HY.out
        have HR2 := HR.out
        simp only [Bool.false_eq_true, if_true, if_false] at HR2
        have hr2 : (wc.setCell ⟨bx, 0, none⟩ (.int .u8 1)).cell? ⟨g, 0, none⟩ = some (Bs a) := (World.cell?_setCell_other _ _ _ _ (by intro e; injection e with e; exact HGN.out e)).trans hr
        go_upto_region 9 with fail
        clear hr2
        have HB : Hid (Below w.heap.size w (wc.setCell ⟨bx, 0, none⟩ (.int .u8 1)).drew) := Lib.hid (below_set HB3.out HLE.out).drew
        have HX := Lib.hid ((HX3.out.off (.int .u8 1) HNE.out.symm).below (Below.refl _ _).drew)
        have HY := Lib.hid ((HY.out.one (.int .u8 1)).below (Below.refl _ _).drew)
        obtain ⟨wk, hwk⟩ : ∃ wk, wk = wc.setCell ⟨bx, 0, none⟩ (.int .u8 1) := ⟨_, rfl⟩
        rw [← hwk] at HB HX HY ⊢
        clear hwk
        clear p0 p1 p2 p3 p4 pf0 pf1 pf2 pf3 pf4 hr ks kp
        cases hok : wdOk ⟨1, vb, vc, vd, bh⟩ with
        | false =>
          have HCL : Hid (∀ V, B5 V bx (.int .u8 1) (.int .i64 vb) (.int .i64 vc) (.int .i64 vd) (.bool bh) → V.cell? ⟨bx, 0, none⟩ = some (.int .u8 1) ∧ V.cell? ⟨bx, 1, none⟩ = some (.int .i64 vb) ∧ V.cell? ⟨bx, 2, none⟩ = some (.int .i64 vc) ∧ V.cell? ⟨bx, 3, none⟩ = some (.int .i64 vd) ∧ V.cell? ⟨bx, 4, none⟩ = some (.bool bh)) := Lib.hid (fun V h => ⟨h.c0, h.c1, h.c2, h.c3, h.c4⟩)
          have HPK : Hid (∀ V, B5 V bx (.int .u8 1) (.int .i64 vb) (.int .i64 vc) (.int .i64 vd) (.bool bh) → (((((V.setCell ⟨w.heap.size, 0, none⟩ (.int .u8 1)).setCell ⟨w.heap.size, 1, none⟩ (.int .i64 vb)).setCell ⟨w.heap.size, 2, none⟩ (.int .i64 vc)).setCell ⟨w.heap.size, 3, none⟩ (.int .i64 vd)).setCell ⟨w.heap.size, 4, none⟩ (.bool bh)).cell? ⟨bx, 0, none⟩ = some (.int .u8 1) ∧ (((((V.setCell ⟨w.heap.size, 0, none⟩ (.int .u8 1)).setCell ⟨w.heap.size, 1, none⟩ (.int .i64 vb)).setCell ⟨w.heap.size, 2, none⟩ (.int .i64 vc)).setCell ⟨w.heap.size, 3, none⟩ (.int .i64 vd)).setCell ⟨w.heap.size, 4, none⟩ (.bool bh)).cell? ⟨bx, 1, none⟩ = some (.int .i64 vb) ∧ (((((V.setCell ⟨w.heap.size, 0, none⟩ (.int .u8 1)).setCell ⟨w.heap.size, 1, none⟩ (.int .i64 vb)).setCell ⟨w.heap.size, 2, none⟩ (.int .i64 vc)).setCell ⟨w.heap.size, 3, none⟩ (.int .i64 vd)).setCell ⟨w.heap.size, 4, none⟩ (.bool bh)).cell? ⟨bx, 2, none⟩ = some (.int .i64 vc) ∧ (((((V.setCell ⟨w.heap.size, 0, none⟩ (.int .u8 1)).setCell ⟨w.heap.size, 1, none⟩ (.int .i64 vb)).setCell ⟨w.heap.size, 2, none⟩ (.int .i64 vc)).setCell ⟨w.heap.size, 3, none⟩ (.int .i64 vd)).setCell ⟨w.heap.size, 4, none⟩ (.bool bh)).cell? ⟨bx, 3, none⟩ = some (.int .i64 vd) ∧ (((((V.setCell ⟨w.heap.size, 0, none⟩ (.int .u8 1)).setCell ⟨w.heap.size, 1, none⟩ (.int .i64 vb)).setCell ⟨w.heap.size, 2, none⟩ (.int .i64 vc)).setCell ⟨w.heap.size, 3, none⟩ (.int .i64 vd)).setCell ⟨w.heap.size, 4, none⟩ (.bool bh)).cell? ⟨bx, 4, none⟩ = some (.bool bh)) := Lib.hid (fun V h => by have h := h.offP (.int .u8 1) (.int .i64 vb) (.int .i64 vc) (.int .i64 vd) (.bool bh) HNE.out; unfold put5 at h; exact ⟨h.c0, h.c1, h.c2, h.c3, h.c4⟩)
          have hW : ∀ V, Calls Tryz.prog 37 #[.agg #[.int .u8 1, .int .i64 vb, .int .i64 vc, .int .i64 vd, .bool bh]] V (fun e w' => e = .returned (.bool false) ∧ Below V.heap.size V w') := fun V => by have h := refWound_any ⟨1, vb, vc, vd, bh⟩ V; rw [hok] at h; exact h
          have HT : Hid (false = true → rW l = some ⟨1, vb, vc, vd, bh⟩) := Lib.hid (fun h => by cases h)
          have HF : Hid (false = false → rW l = none) := Lib.hid (fun _ => by rw [HR2, hok, if_neg (fun e => by cases e.1)])
          clear HR2 hok
          obtain ⟨_, p0, p1, p2, p3, p4, pf0, pf1, pf2, pf3, pf4⟩ := HY.out
          obtain ⟨_, x0, x1, x2, x3, x4, f0, f1, f2, f3, f4⟩ := HX.out
          refine wp_region_held_drew (S := fun V => V.cell? ⟨bx, 0, none⟩ = some (.int .u8 1) ∧ V.cell? ⟨bx, 1, none⟩ = some (.int .i64 vb) ∧ V.cell? ⟨bx, 2, none⟩ = some (.int .i64 vc) ∧ V.cell? ⟨bx, 3, none⟩ = some (.int .i64 vd) ∧ V.cell? ⟨bx, 4, none⟩ = some (.bool bh)) (by kernel_rfl) (HCL.out _ HY.out) (fun hHeld => ?_)
          clear hHeld
          refine wpAnyH_take (i := 0) (v := ?v0k1) rfl (by kernel_rfl) (by kernel_rfl) (by kernel_rfl) (fun _ _ _ h => h) (Or.inl ⟨by rfl, ?hy0k1⟩) (HCL.out _ HY.out) ?_
          case hy0k1 => (intro W hSw; obtain ⟨s0, s1, s2, s3, s4⟩ := hSw; go_simp; first | done | with_reducible rfl)
          simp only [List.getElem_toArray, List.getElem_cons_zero, Act.put, List.setIfInBounds_toArray, List.set_cons_zero, List.set_cons_succ]
          refine wpAnyH_take (i := 1) (v := ?v1k1) rfl (by kernel_rfl) (by kernel_rfl) (by kernel_rfl) (fun _ _ _ h => h) (Or.inl ⟨by rfl, ?hy1k1⟩) (HCL.out _ HY.out) ?_
          case hy1k1 => (intro W hSw; obtain ⟨s0, s1, s2, s3, s4⟩ := hSw; go_simp; first | done | with_reducible rfl)
          simp only [List.getElem_toArray, List.getElem_cons_succ, List.getElem_cons_zero, Act.put, List.setIfInBounds_toArray, List.set_cons_zero, List.set_cons_succ]
          refine wpAnyH_ready (rs := [2]) (by kernel_rfl) (by simp) ?_
          refine AllReadyH.cons rfl (fun K hK => ?_) AllReadyH.nil
          go_simp
          go_at_call 37
          with_reducible refine (hW _).mono ?_
          rintro e' w5 ⟨rfl, hb⟩
          have HB := Lib.hid (HB.out.trans (hb.mono HB.out.size)); have HX := Lib.hid (HX.out.below hb); have HY := Lib.hid (HY.out.below hb); obtain ⟨_, x0, x1, x2, x3, x4, f0, f1, f2, f3, f4⟩ := HX.out; clear hb
          go_wp2_with fail
          refine hK.out _ _ (HCL.out _ HY.out) (fun hHeld => ?_)
          clear hHeld hK K
          try simp only [List.getElem_toArray, List.getElem_cons_succ, List.getElem_cons_zero, Act.put, List.setIfInBounds_toArray, List.set_cons_zero, List.set_cons_succ]
          refine wpAnyH_take (i := 3) (v := ?v3k1) rfl (by kernel_rfl) (by kernel_rfl) (by kernel_rfl) (fun _ _ _ h => h) (Or.inl ⟨by rfl, ?hy3k1⟩) (HCL.out _ HY.out) ?_
          case hy3k1 => (intro W hSw; obtain ⟨s0, s1, s2, s3, s4⟩ := hSw; go_simp; first | done | with_reducible rfl)
          simp only [List.getElem_toArray, List.getElem_cons_succ, List.getElem_cons_zero, Act.put, List.setIfInBounds_toArray, List.set_cons_zero, List.set_cons_succ]
          refine wpAnyH_take (i := 4) (v := undef) rfl (by kernel_rfl) (by kernel_rfl) (by kernel_rfl) (fun _ _ _ h => h) (Or.inr ⟨by rfl, rfl⟩) (HCL.out _ HY.out) ?_
          simp only [List.getElem_toArray, List.getElem_cons_succ, List.getElem_cons_zero, Act.put, List.setIfInBounds_toArray, List.set_cons_zero, List.set_cons_succ]
          refine wpAnyH_take (i := 5) (v := undef) rfl (by kernel_rfl) (by kernel_rfl) (by kernel_rfl) (fun _ _ _ h => h) (Or.inr ⟨by rfl, rfl⟩) (HCL.out _ HY.out) ?_
          simp only [List.getElem_toArray, List.getElem_cons_succ, List.getElem_cons_zero, Act.put, List.setIfInBounds_toArray, List.set_cons_zero, List.set_cons_succ]
          refine wpAnyH_take (i := 6) (v := undef) rfl (by kernel_rfl) (by kernel_rfl) (by kernel_rfl) (fun _ _ _ h => h) (Or.inr ⟨by rfl, rfl⟩) (HCL.out _ HY.out) ?_
          simp only [List.getElem_toArray, List.getElem_cons_succ, List.getElem_cons_zero, Act.put, List.setIfInBounds_toArray, List.set_cons_zero, List.set_cons_succ]
          refine wpAnyH_take (i := 7) (v := undef) rfl (by kernel_rfl) (by kernel_rfl) (by kernel_rfl) (fun _ _ _ h => h) (Or.inr ⟨by rfl, rfl⟩) (HCL.out _ HY.out) ?_
          simp only [List.getElem_toArray, List.getElem_cons_succ, List.getElem_cons_zero, Act.put, List.setIfInBounds_toArray, List.set_cons_zero, List.set_cons_succ]
          refine wpAnyH_take (i := 8) (v := ?v8k1) rfl (by kernel_rfl) (by kernel_rfl) (by kernel_rfl) (fun _ _ _ h => h) (Or.inl ⟨by rfl, ?hy8k1⟩) (HCL.out _ HY.out) ?_
          case hy8k1 => (intro W hSw; obtain ⟨s0, s1, s2, s3, s4⟩ := hSw; go_simp; first | done | with_reducible rfl)
          simp only [List.getElem_toArray, List.getElem_cons_succ, List.getElem_cons_zero, Act.put, List.setIfInBounds_toArray, List.set_cons_zero, List.set_cons_succ]
          refine wpAnyH_ready (rs := [9]) (by kernel_rfl) (by simp) ?_
          refine AllReadyH.cons rfl (fun K hK => ?_) AllReadyH.nil
          go_simp
          refine hK.out _ _ (HPK.out _ HY.out) (fun hHeld => ?_)
          clear hHeld hK K
          try simp only [List.getElem_toArray, List.getElem_cons_succ, List.getElem_cons_zero, Act.put, List.setIfInBounds_toArray, List.set_cons_zero, List.set_cons_succ]
          refine wpAnyH_take (i := 10) (v := ?v10k1) rfl (by kernel_rfl) (by kernel_rfl) (by kernel_rfl) (fun _ _ _ h => h) (Or.inl ⟨by rfl, ?hy10k1⟩) (HPK.out _ HY.out) ?_
          case hy10k1 => (intro W hSw; obtain ⟨s0, s1, s2, s3, s4⟩ := hSw; go_simp; first | done | with_reducible rfl)
          simp only [List.getElem_toArray, List.getElem_cons_succ, List.getElem_cons_zero, Act.put, List.setIfInBounds_toArray, List.set_cons_zero, List.set_cons_succ]
          refine wpAnyH_done (by kernel_rfl) ?_ _
          all_goals go_wp2_with fail
          all_goals
            obtain ⟨_, z0, z1, z2, z3, z4, _⟩ := HX.out.put (.int .u8 1) (.int .i64 vb) (.int .i64 vc) (.int .i64 vd) (.bool bh)
            unfold put5 at z0 z1 z2 z3 z4
            refine bodyPost_ret (v := .tuple #[.agg #[.int .u8 1, .int .i64 vb, .int .i64 vc, .int .i64 vd, .bool bh], .bool false]) (by simp [results, Tryz.results41, go_sem, z0, z1, z2, z3, z4]) rfl ?_
            exact ⟨⟨⟨1, vb, vc, vd, bh⟩, false, rfl, (by first | exact HT.out | exact fun h => by cases h), (by first | exact HF.out | exact fun _ => HF.out trivial)⟩, below_put5 HB.out (Nat.le_refl _)⟩
        | true =>
          have HCL : Hid (∀ V, B5 V bx (.int .u8 1) (.int .i64 vb) (.int .i64 vc) (.int .i64 vd) (.bool bh) → V.cell? ⟨bx, 0, none⟩ = some (.int .u8 1) ∧ V.cell? ⟨bx, 1, none⟩ = some (.int .i64 vb) ∧ V.cell? ⟨bx, 2, none⟩ = some (.int .i64 vc) ∧ V.cell? ⟨bx, 3, none⟩ = some (.int .i64 vd) ∧ V.cell? ⟨bx, 4, none⟩ = some (.bool bh)) := Lib.hid (fun V h => ⟨h.c0, h.c1, h.c2, h.c3, h.c4⟩)
          have HPK : Hid (∀ V, B5 V bx (.int .u8 1) (.int .i64 vb) (.int .i64 vc) (.int .i64 vd) (.bool bh) → (((((V.setCell ⟨w.heap.size, 0, none⟩ (.int .u8 1)).setCell ⟨w.heap.size, 1, none⟩ (.int .i64 vb)).setCell ⟨w.heap.size, 2, none⟩ (.int .i64 vc)).setCell ⟨w.heap.size, 3, none⟩ (.int .i64 vd)).setCell ⟨w.heap.size, 4, none⟩ (.bool bh)).cell? ⟨bx, 0, none⟩ = some (.int .u8 1) ∧ (((((V.setCell ⟨w.heap.size, 0, none⟩ (.int .u8 1)).setCell ⟨w.heap.size, 1, none⟩ (.int .i64 vb)).setCell ⟨w.heap.size, 2, none⟩ (.int .i64 vc)).setCell ⟨w.heap.size, 3, none⟩ (.int .i64 vd)).setCell ⟨w.heap.size, 4, none⟩ (.bool bh)).cell? ⟨bx, 1, none⟩ = some (.int .i64 vb) ∧ (((((V.setCell ⟨w.heap.size, 0, none⟩ (.int .u8 1)).setCell ⟨w.heap.size, 1, none⟩ (.int .i64 vb)).setCell ⟨w.heap.size, 2, none⟩ (.int .i64 vc)).setCell ⟨w.heap.size, 3, none⟩ (.int .i64 vd)).setCell ⟨w.heap.size, 4, none⟩ (.bool bh)).cell? ⟨bx, 2, none⟩ = some (.int .i64 vc) ∧ (((((V.setCell ⟨w.heap.size, 0, none⟩ (.int .u8 1)).setCell ⟨w.heap.size, 1, none⟩ (.int .i64 vb)).setCell ⟨w.heap.size, 2, none⟩ (.int .i64 vc)).setCell ⟨w.heap.size, 3, none⟩ (.int .i64 vd)).setCell ⟨w.heap.size, 4, none⟩ (.bool bh)).cell? ⟨bx, 3, none⟩ = some (.int .i64 vd) ∧ (((((V.setCell ⟨w.heap.size, 0, none⟩ (.int .u8 1)).setCell ⟨w.heap.size, 1, none⟩ (.int .i64 vb)).setCell ⟨w.heap.size, 2, none⟩ (.int .i64 vc)).setCell ⟨w.heap.size, 3, none⟩ (.int .i64 vd)).setCell ⟨w.heap.size, 4, none⟩ (.bool bh)).cell? ⟨bx, 4, none⟩ = some (.bool bh)) := Lib.hid (fun V h => by have h := h.offP (.int .u8 1) (.int .i64 vb) (.int .i64 vc) (.int .i64 vd) (.bool bh) HNE.out; unfold put5 at h; exact ⟨h.c0, h.c1, h.c2, h.c3, h.c4⟩)
          have hW : ∀ V, Calls Tryz.prog 37 #[.agg #[.int .u8 1, .int .i64 vb, .int .i64 vc, .int .i64 vd, .bool bh]] V (fun e w' => e = .returned (.bool true) ∧ Below V.heap.size V w') := fun V => by have h := refWound_any ⟨1, vb, vc, vd, bh⟩ V; rw [hok] at h; exact h
          obtain ⟨ln, hln⟩ : ∃ ln, ln = wLn ⟨1, vb, vc, vd, bh⟩ := ⟨_, rfl⟩
          have hN : ∀ V, Calls Tryz.prog 25 #[.agg #[.int .u8 1, .int .i64 vb, .int .i64 vc, .int .i64 vd, .bool bh]] V (fun e w' => e = .returned (Bs ln) ∧ Below V.heap.size V w') := fun V => by have h := refWoundLine_any hok V; rw [← hln] at h; exact h
          obtain ⟨bq, hbq⟩ : ∃ bq, (ln == l) = bq := ⟨_, rfl⟩
          have HT : Hid (bq = true → rW l = some ⟨1, vb, vc, vd, bh⟩) := Lib.hid (fun h => by rw [h, beq_iff_eq] at hbq; rw [HR2, if_pos ⟨hok, hln.symm.trans hbq⟩])
          have HF : Hid (bq = false → rW l = none) := Lib.hid (fun h => by rw [h, beq_eq_false_iff_ne] at hbq; rw [HR2, if_neg (fun e => hbq (hln.trans e.2))])
          clear hln HR2 hok
          obtain ⟨_, p0, p1, p2, p3, p4, pf0, pf1, pf2, pf3, pf4⟩ := HY.out
          obtain ⟨_, x0, x1, x2, x3, x4, f0, f1, f2, f3, f4⟩ := HX.out
          go_region_held3 (fun V => V.cell? ⟨bx, 0, none⟩ = some (.int .u8 1) ∧ V.cell? ⟨bx, 1, none⟩ = some (.int .i64 vb) ∧ V.cell? ⟨bx, 2, none⟩ = some (.int .i64 vc) ∧ V.cell? ⟨bx, 3, none⟩ = some (.int .i64 vd) ∧ V.cell? ⟨bx, 4, none⟩ = some (.bool bh)) (first | with_reducible exact HCL.out _ HY.out | with_reducible exact HPK.out _ HY.out)
            (first
            | (go_at_call 37; (with_reducible refine (hW _).mono ?_); rintro e' w5 ⟨rfl, hb⟩; have HB := Lib.hid (HB.out.trans (hb.mono HB.out.size)); have HX := Lib.hid (HX.out.below hb); have HY := Lib.hid (HY.out.below hb); obtain ⟨_, x0, x1, x2, x3, x4, f0, f1, f2, f3, f4⟩ := HX.out; clear hb)
            | (go_at_call 25; (with_reducible refine (hN _).mono ?_); rintro e' w6 ⟨rfl, hb⟩; have HB := Lib.hid (HB.out.trans (hb.mono HB.out.size)); have HX := Lib.hid (HX.out.below hb); have HY := Lib.hid (HY.out.below hb); obtain ⟨_, x0, x1, x2, x3, x4, f0, f1, f2, f3, f4⟩ := HX.out; clear hb))
          all_goals go_wp2_with fail
          all_goals
            obtain ⟨_, z0, z1, z2, z3, z4, _⟩ := HX.out.put (.int .u8 1) (.int .i64 vb) (.int .i64 vc) (.int .i64 vd) (.bool bh)
            unfold put5 at z0 z1 z2 z3 z4
            refine bodyPost_ret (v := .tuple #[.agg #[.int .u8 1, .int .i64 vb, .int .i64 vc, .int .i64 vd, .bool bh], .bool bq]) (by simp [results, Tryz.results41, go_sem, z0, z1, z2, z3, z4]) rfl ?_
            exact ⟨⟨⟨1, vb, vc, vd, bh⟩, bq, rfl, (by first | exact HT.out | exact fun h => by cases h), (by first | exact HF.out | exact fun _ => HF.out trivial)⟩, below_put5 HB.out (Nat.le_refl _)⟩
      | false =>
        obtain ⟨_, p0, p1, p2, p3, p4, pf0, pf1, pf2, pf3, pf4⟩ := HY.out
        have HR2 := HR.out
        simp only [Bool.false_eq_true, if_false] at HR2
        go_upto_region 9 with fail
        have HB : Hid (Below w.heap.size w wc.drew) := Lib.hid HB3.out.drew
        have HX := Lib.hid (HX3.out.below (Below.refl _ _).drew)
        have HY := Lib.hid (HY.out.below (Below.refl _ _).drew)
        clear p0 p1 p2 p3 p4 pf0 pf1 pf2 pf3 pf4 hr ks kp
        cases hok : wdOk ⟨3, vb, vc, vd, bh⟩ with
        | false =>
          have HCL : Hid (∀ V, B5 V bx (.int .u8 3) (.int .i64 vb) (.int .i64 vc) (.int .i64 vd) (.bool bh) → V.cell? ⟨bx, 0, none⟩ = some (.int .u8 3) ∧ V.cell? ⟨bx, 1, none⟩ = some (.int .i64 vb) ∧ V.cell? ⟨bx, 2, none⟩ = some (.int .i64 vc) ∧ V.cell? ⟨bx, 3, none⟩ = some (.int .i64 vd) ∧ V.cell? ⟨bx, 4, none⟩ = some (.bool bh)) := Lib.hid (fun V h => ⟨h.c0, h.c1, h.c2, h.c3, h.c4⟩)
          have HPK : Hid (∀ V, B5 V bx (.int .u8 3) (.int .i64 vb) (.int .i64 vc) (.int .i64 vd) (.bool bh) → (((((V.setCell ⟨w.heap.size, 0, none⟩ (.int .u8 3)).setCell ⟨w.heap.size, 1, none⟩ (.int .i64 vb)).setCell ⟨w.heap.size, 2, none⟩ (.int .i64 vc)).setCell ⟨w.heap.size, 3, none⟩ (.int .i64 vd)).setCell ⟨w.heap.size, 4, none⟩ (.bool bh)).cell? ⟨bx, 0, none⟩ = some (.int .u8 3) ∧ (((((V.setCell ⟨w.heap.size, 0, none⟩ (.int .u8 3)).setCell ⟨w.heap.size, 1, none⟩ (.int .i64 vb)).setCell ⟨w.heap.size, 2, none⟩ (.int .i64 vc)).setCell ⟨w.heap.size, 3, none⟩ (.int .i64 vd)).setCell ⟨w.heap.size, 4, none⟩ (.bool bh)).cell? ⟨bx, 1, none⟩ = some (.int .i64 vb) ∧ (((((V.setCell ⟨w.heap.size, 0, none⟩ (.int .u8 3)).setCell ⟨w.heap.size, 1, none⟩ (.int .i64 vb)).setCell ⟨w.heap.size, 2, none⟩ (.int .i64 vc)).setCell ⟨w.heap.size, 3, none⟩ (.int .i64 vd)).setCell ⟨w.heap.size, 4, none⟩ (.bool bh)).cell? ⟨bx, 2, none⟩ = some (.int .i64 vc) ∧ (((((V.setCell ⟨w.heap.size, 0, none⟩ (.int .u8 3)).setCell ⟨w.heap.size, 1, none⟩ (.int .i64 vb)).setCell ⟨w.heap.size, 2, none⟩ (.int .i64 vc)).setCell ⟨w.heap.size, 3, none⟩ (.int .i64 vd)).setCell ⟨w.heap.size, 4, none⟩ (.bool bh)).cell? ⟨bx, 3, none⟩ = some (.int .i64 vd) ∧ (((((V.setCell ⟨w.heap.size, 0, none⟩ (.int .u8 3)).setCell ⟨w.heap.size, 1, none⟩ (.int .i64 vb)).setCell ⟨w.heap.size, 2, none⟩ (.int .i64 vc)).setCell ⟨w.heap.size, 3, none⟩ (.int .i64 vd)).setCell ⟨w.heap.size, 4, none⟩ (.bool bh)).cell? ⟨bx, 4, none⟩ = some (.bool bh)) := Lib.hid (fun V h => by have h := h.offP (.int .u8 3) (.int .i64 vb) (.int .i64 vc) (.int .i64 vd) (.bool bh) HNE.out; unfold put5 at h; exact ⟨h.c0, h.c1, h.c2, h.c3, h.c4⟩)
          have hW : ∀ V, Calls Tryz.prog 37 #[.agg #[.int .u8 3, .int .i64 vb, .int .i64 vc, .int .i64 vd, .bool bh]] V (fun e w' => e = .returned (.bool false) ∧ Below V.heap.size V w') := fun V => by have h := refWound_any ⟨3, vb, vc, vd, bh⟩ V; rw [hok] at h; exact h
          have HT : Hid (false = true → rW l = some ⟨3, vb, vc, vd, bh⟩) := Lib.hid (fun h => by cases h)
          have HF : Hid (false = false → rW l = none) := Lib.hid (fun _ => by rw [HR2, hok, if_neg (fun e => by cases e.1)])
          clear HR2 hok
          obtain ⟨_, p0, p1, p2, p3, p4, pf0, pf1, pf2, pf3, pf4⟩ := HY.out
          obtain ⟨_, x0, x1, x2, x3, x4, f0, f1, f2, f3, f4⟩ := HX.out
          refine wp_region_held_drew (S := fun V => V.cell? ⟨bx, 0, none⟩ = some (.int .u8 3) ∧ V.cell? ⟨bx, 1, none⟩ = some (.int .i64 vb) ∧ V.cell? ⟨bx, 2, none⟩ = some (.int .i64 vc) ∧ V.cell? ⟨bx, 3, none⟩ = some (.int .i64 vd) ∧ V.cell? ⟨bx, 4, none⟩ = some (.bool bh)) (by kernel_rfl) (HCL.out _ HY.out) (fun hHeld => ?_)
          clear hHeld
          refine wpAnyH_take (i := 0) (v := ?v0k3) rfl (by kernel_rfl) (by kernel_rfl) (by kernel_rfl) (fun _ _ _ h => h) (Or.inl ⟨by rfl, ?hy0k3⟩) (HCL.out _ HY.out) ?_
          case hy0k3 => (intro W hSw; obtain ⟨s0, s1, s2, s3, s4⟩ := hSw; go_simp; first | done | with_reducible rfl)
          simp only [List.getElem_toArray, List.getElem_cons_zero, Act.put, List.setIfInBounds_toArray, List.set_cons_zero, List.set_cons_succ]
          refine wpAnyH_take (i := 1) (v := ?v1k3) rfl (by kernel_rfl) (by kernel_rfl) (by kernel_rfl) (fun _ _ _ h => h) (Or.inl ⟨by rfl, ?hy1k3⟩) (HCL.out _ HY.out) ?_
          case hy1k3 => (intro W hSw; obtain ⟨s0, s1, s2, s3, s4⟩ := hSw; go_simp; first | done | with_reducible rfl)
          simp only [List.getElem_toArray, List.getElem_cons_succ, List.getElem_cons_zero, Act.put, List.setIfInBounds_toArray, List.set_cons_zero, List.set_cons_succ]
          refine wpAnyH_ready (rs := [2]) (by kernel_rfl) (by simp) ?_
          refine AllReadyH.cons rfl (fun K hK => ?_) AllReadyH.nil
          go_simp
          go_at_call 37
          with_reducible refine (hW _).mono ?_
          rintro e' w5 ⟨rfl, hb⟩
          have HB := Lib.hid (HB.out.trans (hb.mono HB.out.size)); have HX := Lib.hid (HX.out.below hb); have HY := Lib.hid (HY.out.below hb); obtain ⟨_, x0, x1, x2, x3, x4, f0, f1, f2, f3, f4⟩ := HX.out; clear hb
          go_wp2_with fail
          refine hK.out _ _ (HCL.out _ HY.out) (fun hHeld => ?_)
          clear hHeld hK K
          try simp only [List.getElem_toArray, List.getElem_cons_succ, List.getElem_cons_zero, Act.put, List.setIfInBounds_toArray, List.set_cons_zero, List.set_cons_succ]
          refine wpAnyH_take (i := 3) (v := ?v3k3) rfl (by kernel_rfl) (by kernel_rfl) (by kernel_rfl) (fun _ _ _ h => h) (Or.inl ⟨by rfl, ?hy3k3⟩) (HCL.out _ HY.out) ?_
          case hy3k3 => (intro W hSw; obtain ⟨s0, s1, s2, s3, s4⟩ := hSw; go_simp; first | done | with_reducible rfl)
          simp only [List.getElem_toArray, List.getElem_cons_succ, List.getElem_cons_zero, Act.put, List.setIfInBounds_toArray, List.set_cons_zero, List.set_cons_succ]
          refine wpAnyH_take (i := 4) (v := undef) rfl (by kernel_rfl) (by kernel_rfl) (by kernel_rfl) (fun _ _ _ h => h) (Or.inr ⟨by rfl, rfl⟩) (HCL.out _ HY.out) ?_
          simp only [List.getElem_toArray, List.getElem_cons_succ, List.getElem_cons_zero, Act.put, List.setIfInBounds_toArray, List.set_cons_zero, List.set_cons_succ]
          refine wpAnyH_take (i := 5) (v := undef) rfl (by kernel_rfl) (by kernel_rfl) (by kernel_rfl) (fun _ _ _ h => h) (Or.inr ⟨by rfl, rfl⟩) (HCL.out _ HY.out) ?_
          simp only [List.getElem_toArray, List.getElem_cons_succ, List.getElem_cons_zero, Act.put, List.setIfInBounds_toArray, List.set_cons_zero, List.set_cons_succ]
          refine wpAnyH_take (i := 6) (v := undef) rfl (by kernel_rfl) (by kernel_rfl) (by kernel_rfl) (fun _ _ _ h => h) (Or.inr ⟨by rfl, rfl⟩) (HCL.out _ HY.out) ?_
          simp only [List.getElem_toArray, List.getElem_cons_succ, List.getElem_cons_zero, Act.put, List.setIfInBounds_toArray, List.set_cons_zero, List.set_cons_succ]
          refine wpAnyH_take (i := 7) (v := undef) rfl (by kernel_rfl) (by kernel_rfl) (by kernel_rfl) (fun _ _ _ h => h) (Or.inr ⟨by rfl, rfl⟩) (HCL.out _ HY.out) ?_
          simp only [List.getElem_toArray, List.getElem_cons_succ, List.getElem_cons_zero, Act.put, List.setIfInBounds_toArray, List.set_cons_zero, List.set_cons_succ]
          refine wpAnyH_take (i := 8) (v := ?v8k3) rfl (by kernel_rfl) (by kernel_rfl) (by kernel_rfl) (fun _ _ _ h => h) (Or.inl ⟨by rfl, ?hy8k3⟩) (HCL.out _ HY.out) ?_
          case hy8k3 => (intro W hSw; obtain ⟨s0, s1, s2, s3, s4⟩ := hSw; go_simp; first | done | with_reducible rfl)
          simp only [List.getElem_toArray, List.getElem_cons_succ, List.getElem_cons_zero, Act.put, List.setIfInBounds_toArray, List.set_cons_zero, List.set_cons_succ]
          refine wpAnyH_ready (rs := [9]) (by kernel_rfl) (by simp) ?_
          refine AllReadyH.cons rfl (fun K hK => ?_) AllReadyH.nil
          go_simp
          refine hK.out _ _ (HPK.out _ HY.out) (fun hHeld => ?_)
          clear hHeld hK K
          try simp only [List.getElem_toArray, List.getElem_cons_succ, List.getElem_cons_zero, Act.put, List.setIfInBounds_toArray, List.set_cons_zero, List.set_cons_succ]
          refine wpAnyH_take (i := 10) (v := ?v10k3) rfl (by kernel_rfl) (by kernel_rfl) (by kernel_rfl) (fun _ _ _ h => h) (Or.inl ⟨by rfl, ?hy10k3⟩) (HPK.out _ HY.out) ?_
          case hy10k3 => (intro W hSw; obtain ⟨s0, s1, s2, s3, s4⟩ := hSw; go_simp; first | done | with_reducible rfl)
          simp only [List.getElem_toArray, List.getElem_cons_succ, List.getElem_cons_zero, Act.put, List.setIfInBounds_toArray, List.set_cons_zero, List.set_cons_succ]
          refine wpAnyH_done (by kernel_rfl) ?_ _
          all_goals go_wp2_with fail
          all_goals
            obtain ⟨_, z0, z1, z2, z3, z4, _⟩ := HX.out.put (.int .u8 3) (.int .i64 vb) (.int .i64 vc) (.int .i64 vd) (.bool bh)
            unfold put5 at z0 z1 z2 z3 z4
            refine bodyPost_ret (v := .tuple #[.agg #[.int .u8 3, .int .i64 vb, .int .i64 vc, .int .i64 vd, .bool bh], .bool false]) (by simp [results, Tryz.results41, go_sem, z0, z1, z2, z3, z4]) rfl ?_
            exact ⟨⟨⟨3, vb, vc, vd, bh⟩, false, rfl, (by first | exact HT.out | exact fun h => by cases h), (by first | exact HF.out | exact fun _ => HF.out trivial)⟩, below_put5 HB.out (Nat.le_refl _)⟩
        | true =>
          have HCL : Hid (∀ V, B5 V bx (.int .u8 3) (.int .i64 vb) (.int .i64 vc) (.int .i64 vd) (.bool bh) → V.cell? ⟨bx, 0, none⟩ = some (.int .u8 3) ∧ V.cell? ⟨bx, 1, none⟩ = some (.int .i64 vb) ∧ V.cell? ⟨bx, 2, none⟩ = some (.int .i64 vc) ∧ V.cell? ⟨bx, 3, none⟩ = some (.int .i64 vd) ∧ V.cell? ⟨bx, 4, none⟩ = some (.bool bh)) := Lib.hid (fun V h => ⟨h.c0, h.c1, h.c2, h.c3, h.c4⟩)
          have HPK : Hid (∀ V, B5 V bx (.int .u8 3) (.int .i64 vb) (.int .i64 vc) (.int .i64 vd) (.bool bh) → (((((V.setCell ⟨w.heap.size, 0, none⟩ (.int .u8 3)).setCell ⟨w.heap.size, 1, none⟩ (.int .i64 vb)).setCell ⟨w.heap.size, 2, none⟩ (.int .i64 vc)).setCell ⟨w.heap.size, 3, none⟩ (.int .i64 vd)).setCell ⟨w.heap.size, 4, none⟩ (.bool bh)).cell? ⟨bx, 0, none⟩ = some (.int .u8 3) ∧ (((((V.setCell ⟨w.heap.size, 0, none⟩ (.int .u8 3)).setCell ⟨w.heap.size, 1, none⟩ (.int .i64 vb)).setCell ⟨w.heap.size, 2, none⟩ (.int .i64 vc)).setCell ⟨w.heap.size, 3, none⟩ (.int .i64 vd)).setCell ⟨w.heap.size, 4, none⟩ (.bool bh)).cell? ⟨bx, 1, none⟩ = some (.int .i64 vb) ∧ (((((V.setCell ⟨w.heap.size, 0, none⟩ (.int .u8 3)).setCell ⟨w.heap.size, 1, none⟩ (.int .i64 vb)).setCell ⟨w.heap.size, 2, none⟩ (.int .i64 vc)).setCell ⟨w.heap.size, 3, none⟩ (.int .i64 vd)).setCell ⟨w.heap.size, 4, none⟩ (.bool bh)).cell? ⟨bx, 2, none⟩ = some (.int .i64 vc) ∧ (((((V.setCell ⟨w.heap.size, 0, none⟩ (.int .u8 3)).setCell ⟨w.heap.size, 1, none⟩ (.int .i64 vb)).setCell ⟨w.heap.size, 2, none⟩ (.int .i64 vc)).setCell ⟨w.heap.size, 3, none⟩ (.int .i64 vd)).setCell ⟨w.heap.size, 4, none⟩ (.bool bh)).cell? ⟨bx, 3, none⟩ = some (.int .i64 vd) ∧ (((((V.setCell ⟨w.heap.size, 0, none⟩ (.int .u8 3)).setCell ⟨w.heap.size, 1, none⟩ (.int .i64 vb)).setCell ⟨w.heap.size, 2, none⟩ (.int .i64 vc)).setCell ⟨w.heap.size, 3, none⟩ (.int .i64 vd)).setCell ⟨w.heap.size, 4, none⟩ (.bool bh)).cell? ⟨bx, 4, none⟩ = some (.bool bh)) := Lib.hid (fun V h => by have h := h.offP (.int .u8 3) (.int .i64 vb) (.int .i64 vc) (.int .i64 vd) (.bool bh) HNE.out; unfold put5 at h; exact ⟨h.c0, h.c1, h.c2, h.c3, h.c4⟩)
          have hW : ∀ V, Calls Tryz.prog 37 #[.agg #[.int .u8 3, .int .i64 vb, .int .i64 vc, .int .i64 vd, .bool bh]] V (fun e w' => e = .returned (.bool true) ∧ Below V.heap.size V w') := fun V => by have h := refWound_any ⟨3, vb, vc, vd, bh⟩ V; rw [hok] at h; exact h
          obtain ⟨ln, hln⟩ : ∃ ln, ln = wLn ⟨3, vb, vc, vd, bh⟩ := ⟨_, rfl⟩
          have hN : ∀ V, Calls Tryz.prog 25 #[.agg #[.int .u8 3, .int .i64 vb, .int .i64 vc, .int .i64 vd, .bool bh]] V (fun e w' => e = .returned (Bs ln) ∧ Below V.heap.size V w') := fun V => by have h := refWoundLine_any hok V; rw [← hln] at h; exact h
          obtain ⟨bq, hbq⟩ : ∃ bq, (ln == l) = bq := ⟨_, rfl⟩
          have HT : Hid (bq = true → rW l = some ⟨3, vb, vc, vd, bh⟩) := Lib.hid (fun h => by rw [h, beq_iff_eq] at hbq; rw [HR2, if_pos ⟨hok, hln.symm.trans hbq⟩])
          have HF : Hid (bq = false → rW l = none) := Lib.hid (fun h => by rw [h, beq_eq_false_iff_ne] at hbq; rw [HR2, if_neg (fun e => hbq (hln.trans e.2))])
          clear hln HR2 hok
          obtain ⟨_, p0, p1, p2, p3, p4, pf0, pf1, pf2, pf3, pf4⟩ := HY.out
          obtain ⟨_, x0, x1, x2, x3, x4, f0, f1, f2, f3, f4⟩ := HX.out
          go_region_held3 (fun V => V.cell? ⟨bx, 0, none⟩ = some (.int .u8 3) ∧ V.cell? ⟨bx, 1, none⟩ = some (.int .i64 vb) ∧ V.cell? ⟨bx, 2, none⟩ = some (.int .i64 vc) ∧ V.cell? ⟨bx, 3, none⟩ = some (.int .i64 vd) ∧ V.cell? ⟨bx, 4, none⟩ = some (.bool bh)) (first | with_reducible exact HCL.out _ HY.out | with_reducible exact HPK.out _ HY.out)
            (first
            | (go_at_call 37; (with_reducible refine (hW _).mono ?_); rintro e' w5 ⟨rfl, hb⟩; have HB := Lib.hid (HB.out.trans (hb.mono HB.out.size)); have HX := Lib.hid (HX.out.below hb); have HY := Lib.hid (HY.out.below hb); obtain ⟨_, x0, x1, x2, x3, x4, f0, f1, f2, f3, f4⟩ := HX.out; clear hb)
            | (go_at_call 25; (with_reducible refine (hN _).mono ?_); rintro e' w6 ⟨rfl, hb⟩; have HB := Lib.hid (HB.out.trans (hb.mono HB.out.size)); have HX := Lib.hid (HX.out.below hb); have HY := Lib.hid (HY.out.below hb); obtain ⟨_, x0, x1, x2, x3, x4, f0, f1, f2, f3, f4⟩ := HX.out; clear hb))
          all_goals go_wp2_with fail
          all_goals
            obtain ⟨_, z0, z1, z2, z3, z4, _⟩ := HX.out.put (.int .u8 3) (.int .i64 vb) (.int .i64 vc) (.int .i64 vd) (.bool bh)
            unfold put5 at z0 z1 z2 z3 z4
            refine bodyPost_ret (v := .tuple #[.agg #[.int .u8 3, .int .i64 vb, .int .i64 vc, .int .i64 vd, .bool bh], .bool bq]) (by simp [results, Tryz.results41, go_sem, z0, z1, z2, z3, z4]) rfl ?_
            exact ⟨⟨⟨3, vb, vc, vd, bh⟩, bq, rfl, (by first | exact HT.out | exact fun h => by cases h), (by first | exact HF.out | exact fun _ => HF.out trivial)⟩, below_put5 HB.out (Nat.le_refl _)⟩
end Go.Proofs.YtfmpbohiahjafaaGreatDoor
