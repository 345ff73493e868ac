/- DamageParses, walked: any text is the report's that the document says, or none's. -/
import Derived.Test.YtfmpbohiahjafaaGreatDoorDmgX
import Derived.Test.YtfmpbohiahjafaaGreatDoorDmgPp
namespace Go.Proofs.YtfmpbohiahjafaaGreatDoor
open Go.RowKit Go.Lib Go.Shelf Go.Sort

set_option maxHeartbeats 32000000 in
set_option maxRecDepth 100000 in
theorem damageParses_any {w : World} {T : List UInt8} (hD : DmW w) :
    Calls Tryz.prog 4 #[.string ⟨T.toArray⟩] w fun e w' => e = .returned (.bool true) ∧ Below w.heap.size w w' := by
  have hst := bsz T
  have HDD := Lib.hid hD
  have HLv : Hid (∀ V, Below w.heap.size w V → _) := Lib.hid (fun V hb => dmgLives_any (hD.below hb))
  by_cases hbig : 16384 < T.length
  · have d1 : decide ((16384 : Int) < (T.length : Int)) = true := decide_eq_true (by omega)
    have hLv := HLv.out w (Below.refl _ _)
    generalize T.length = tl at hst d1 hbig
    clear hD
    go_enter Tryz.func4, Tryz.ntmps4
    go_wp2_with (go_at_call 6; (with_reducible refine hLv.mono ?_); rintro e w2 ⟨rfl, hb2⟩; have HB2 := Lib.hid hb2; clear hb2)
    go_ret
    exact ⟨rfl, HB2.out⟩
  have d1 : decide ((16384 : Int) < (T.length : Int)) = false := decide_eq_false (by omega)
  have hP := dmgParse_any (T := T) (by omega) hD
  have hQ := fun V => refDPs_any ⟨T.toArray⟩ (by omega) V
  change ∀ V, Calls _ _ _ V (fun e w' => PAns w' e (prsT T) ∧ Below V.heap.size V w') at hQ
  obtain ⟨W, L, m, c, hpr⟩ : ∃ W L m c, prsT T = (W, L, m, c) := ⟨_, _, _, _, rfl⟩
  rw [hpr] at hP hQ
  clear hpr hbig hD
  generalize T.length = tl at hst d1
  go_enter Tryz.func4, Tryz.ntmps4
  go_upto_region 4 with (go_at_call 18; (with_reducible refine hP.mono ?_); rintro e w2 ⟨⟨ua, va, rfl, hu, hv⟩, hb2⟩; (obtain ⟨A1, c1, rfl⟩ := hu.form); (obtain ⟨A2, c2, rfl⟩ := hv.form); have HB2 := Lib.hid hb2; have HU := Lib.hid hu; have HV := Lib.hid hv; clear hb2 hu hv)
  have HU3 := Lib.hid (HU.out.below (below_new w2 (.cells #[.slice A1 W.length c1, .slice A2 L.length c2] 25)) (Nat.le_refl _))
  have HV3 := Lib.hid (HV.out.below (below_new w2 (.cells #[.slice A1 W.length c1, .slice A2 L.length c2] 25)) (Nat.le_refl _))
  have HB3 : Hid (Below w.heap.size w (w2.alloc (.cells #[.slice A1 W.length c1, .slice A2 L.length c2] 25))) := Lib.hid (HB2.out.alloc HB2.out.size _)
  obtain ⟨y0, y1⟩ := cell2 w2 (.slice A1 W.length c1) (.slice A2 L.length c2) 25
  generalize w2.alloc (.cells #[.slice A1 W.length c1, .slice A2 L.length c2] 25) = w3 at *
  clear HU HV
  clear HB2 hP
  go_upto_region 5 with (go_at_call 19; (with_reducible refine (hQ _).mono ?_); rintro e w4 ⟨⟨ub, vb, rfl, hu, hv⟩, hb4⟩; (obtain ⟨A3, c3, rfl⟩ := hu.form); (obtain ⟨A4, c4, rfl⟩ := hv.form); have HB4 := Lib.hid hb4; have HU := Lib.hid hu; have HV := Lib.hid hv; clear hb4 hu hv)
  have hn := HB4.out.trans ((below_new w4 (.cells #[.slice A3 W.length c3, .slice A4 L.length c4] 25)).mono HB4.out.size)
  have HB5 : Hid (Below w.heap.size w (w4.alloc (.cells #[.slice A3 W.length c3, .slice A4 L.length c4] 25))) := Lib.hid (HB3.out.trans (hn.mono HB3.out.size))
  have HUa := Lib.hid (HU3.out.below hn (Nat.le_refl _))
  have HVa := Lib.hid (HV3.out.below hn (Nat.le_refl _))
  have HUb := Lib.hid (HU.out.below (below_new w4 (.cells #[.slice A3 W.length c3, .slice A4 L.length c4] 25)) (Nat.le_refl _))
  have HVb := Lib.hid (HV.out.below (below_new w4 (.cells #[.slice A3 W.length c3, .slice A4 L.length c4] 25)) (Nat.le_refl _))
  replace y0 := cell_keep hn y0
  replace y1 := cell_keep hn y1
  obtain ⟨z0, z1⟩ := cell2 w4 (.slice A3 W.length c3) (.slice A4 L.length c4) 25
  generalize w4.alloc (.cells #[.slice A3 W.length c3, .slice A4 L.length c4] 25) = w5 at *
  clear hn hQ HU HV HU3 HV3 HB4 HB3
  have hLv := HLv.out w5 HB5.out
  have HKK : Hid (∀ V, Below w5.heap.size w5 V → (V.cell? ⟨w2.heap.size, 0, none⟩ = some (.slice A1 W.length c1) ∧ V.cell? ⟨w2.heap.size, 1, none⟩ = some (.slice A2 L.length c2)) ∧ (V.cell? ⟨w4.heap.size, 0, none⟩ = some (.slice A3 W.length c3) ∧ V.cell? ⟨w4.heap.size, 1, none⟩ = some (.slice A4 L.length c4))) := Lib.hid (fun V hb => ⟨⟨cell_keep hb y0, cell_keep hb y1⟩, cell_keep hb z0, cell_keep hb z1⟩)
  have HSM : Hid (∀ V, Below w5.heap.size w5 V → _) := Lib.hid (fun V hb => sameR_self (HUa.out.below hb (Nat.le_refl _)) (HVa.out.below hb (Nat.le_refl _)) (HUb.out.below hb (Nat.le_refl _)) (HVb.out.below hb (Nat.le_refl _)))
  clear HLv HUa HVa HUb HVb y0 y1 z0 z1 hst
  go_wp2_with (first
    | (go_at_call 6; (with_reducible refine hLv.mono ?_); rintro e w6 ⟨rfl, hb6⟩; have hSm := HSM.out w6 hb6; obtain ⟨⟨y0, y1⟩, z0, z1⟩ := HKK.out w6 hb6; have HB6 := Lib.hid hb6; clear hb6)
    | (go_at_call 20; (with_reducible refine hSm.mono ?_); rintro e w7 ⟨rfl, hb7⟩; have HB7 := Lib.hid hb7; clear hb7))
  go_ret
  exact ⟨rfl, HB5.out.trans ((HB6.out.trans (HB7.out.mono HB6.out.size)).mono HB5.out.size)⟩
end Go.Proofs.YtfmpbohiahjafaaGreatDoor
