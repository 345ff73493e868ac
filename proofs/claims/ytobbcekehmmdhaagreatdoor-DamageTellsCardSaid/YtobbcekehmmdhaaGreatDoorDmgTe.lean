/- Reports of damage: DamageTells. -/
import Derived.Test.YtobbcekehmmdhaaGreatDoorDmgZ
namespace Go.Proofs.YtobbcekehmmdhaaGreatDoor
open Go.RowKit Go.Lib Go.Shelf Go.Sort

set_option maxHeartbeats 32000000 in
set_option maxRecDepth 100000 in
theorem damageTells_any {w : World} {u v : Value} {W : List WD} {L : List LO} (hu : WdS w u W) (hv : LoS w v L) (hK : KsOk W) (hD : DmW w) :
    Calls Tryz.prog 3 #[.agg #[u, v]] w fun e w' => e = .returned (.bool true) ∧ Below w.heap.size w w' := by
  obtain ⟨w1, hw1⟩ : ∃ w1, w1 = w.alloc (.cells #[u, v] 25) := ⟨_, rfl⟩
  have hb1 : Below w.heap.size w w1 := by rw [hw1]; exact below_new w _
  have hc1 := cell2 w u v 25
  rw [← hw1] at hc1
  have HB1 := Lib.hid hb1
  have HX : Hid (∀ V, Below w1.heap.size w1 V → (WdS V u W ∧ LoS V v L ∧ DmW V) ∧ V.cell? ⟨w.heap.size, 0, none⟩ = some u ∧ V.cell? ⟨w.heap.size, 1, none⟩ = some v) := Lib.hid (fun V hb =>
    ⟨⟨(hu.below hb1 (Nat.le_refl _)).below hb (Nat.le_refl _), (hv.below hb1 (Nat.le_refl _)).below hb (Nat.le_refl _), (hD.below hb1).below hb⟩, cell_keep hb hc1.1, cell_keep hb hc1.2⟩)
  have HKS := Lib.hid hK
  have HW1 := Lib.hid hw1
  obtain ⟨A, ca, rfl⟩ := hu.form
  obtain ⟨B, cb, rfl⟩ := hv.form
  have hLv := dmgLives_any (hD.below hb1)
  obtain ⟨_, y0, y1⟩ := HX.out w1 (Below.refl _ _)
  have HLV : Hid (∀ V, Below w1.heap.size w1 V → _) := Lib.hid (fun V hb => dmgLives_any (HX.out V hb).1.2.2)
  have hT1 := dmgText_any (HX.out w1 (Below.refl _ _)).1.1 (HX.out w1 (Below.refl _ _)).1.2.1 HKS.out (HX.out w1 (Below.refl _ _)).1.2.2
  have HT2 : Hid (∀ V, Below w1.heap.size w1 V → _) := Lib.hid (fun V hb => refText_any (HX.out V hb).1.1 (HX.out V hb).1.2.1)
  have HCK1 : Hid (∀ V, Below w1.heap.size w1 V → _) := Lib.hid (fun V hb => dmgCheck_any (HX.out V hb).1.1 (HX.out V hb).1.2.1 HKS.out (HX.out V hb).1.2.2)
  have HCK2 : Hid (∀ V, Below w1.heap.size w1 V → _) := Lib.hid (fun V hb => refCheck_any (HX.out V hb).1.1 (HX.out V hb).1.2.1)
  have HOP1 : Hid (∀ V, Below w1.heap.size w1 V → _) := Lib.hid (fun V hb => dmgOpen_any (HX.out V hb).1.1 (HX.out V hb).1.2.1)
  have HOP2 : Hid (∀ V, Below w1.heap.size w1 V → _) := Lib.hid (fun V hb => refOpen_any (HX.out V hb).1.1 (HX.out V hb).1.2.1)
  have HMA1 : Hid (∀ V, Below w1.heap.size w1 V → _) := Lib.hid (fun V hb => dmgMany_any (HX.out V hb).1.1 (HX.out V hb).1.2.1)
  have HMA2 : Hid (∀ V, Below w1.heap.size w1 V → _) := Lib.hid (fun V hb => refMany_any (HX.out V hb).1.1 (HX.out V hb).1.2.1)
  have HS1 : Hid (W.length ≤ 300 → ∀ V, Below w1.heap.size w1 V → _) := Lib.hid (fun h V hb => dmgSort_any (HX.out V hb).1.1 (Nat.le_trans h (by decide)))
  have HS2 : Hid (W.length ≤ 300 → ∀ V, Below w1.heap.size w1 V → _) := Lib.hid (fun h V hb => refSort_any (HX.out V hb).1.1 (Nat.le_trans h (by decide)))
  generalize txL W L = tx at hT1 HT2
  generalize ckE W L = ck at hT1 HT2 HCK1 HCK2
  generalize opn W = oq at HOP1 HOP2
  generalize manyW wrap64 L = mq at HMA1 HMA2
  clear hw1 hb1 hc1 hu hv hK hD
  by_cases h1 : 300 < W.length
  · have d1 : decide ((300 : Int) < (W.length : Int)) = true := decide_eq_true (by omega)
    have d5 : decide ((W.length : Int) ≤ (300 : Int)) = false := decide_eq_false (by omega)
    by_cases h2 : W.length ≤ 16384
    · have d2 : decide ((W.length : Int) ≤ (16384 : Int)) = true := decide_eq_true (by omega)
      clear h1 h2
      go_enter Tryz.func3, Tryz.ntmps3
      go_upto_region 1 with fail
      rw [← HW1.out]
      go_wp2_with (go_at_call 6; (with_reducible refine hLv.mono ?_); rintro e w2 ⟨rfl, hb2⟩; have HB2 := Lib.hid hb2; clear hb2)
      go_ret
      exact ⟨rfl, HB1.out.trans (HB2.out.mono HB1.out.size)⟩
    · have d2 : decide ((W.length : Int) ≤ (16384 : Int)) = false := decide_eq_false (by omega)
      clear h1 h2
      by_cases h3 : 300 < L.length
      · have d3 : decide ((300 : Int) < (L.length : Int)) = true := decide_eq_true (by omega)
        by_cases h4 : L.length ≤ 16384
        · have d4 : decide ((L.length : Int) ≤ (16384 : Int)) = true := decide_eq_true (by omega)
          clear h3 h4
          go_enter Tryz.func3, Tryz.ntmps3
          go_upto_region 1 with fail
          rw [← HW1.out]
          go_wp2_with (go_at_call 6; (with_reducible refine hLv.mono ?_); rintro e w2 ⟨rfl, hb2⟩; have HB2 := Lib.hid hb2; clear hb2)
          go_ret
          exact ⟨rfl, HB1.out.trans (HB2.out.mono HB1.out.size)⟩
        · have d4 : decide ((L.length : Int) ≤ (16384 : Int)) = false := decide_eq_false (by omega)
          clear h3 h4
          go_enter Tryz.func3, Tryz.ntmps3
          go_upto_region 1 with fail
          rw [← HW1.out]
          go_upto_region 4 with (go_at_call 7; (with_reducible refine hT1.mono ?_); rintro e w2 ⟨rfl, hb2⟩; have HB2 := Lib.hid hb2; have hT2 := HT2.out w2 hb2; obtain ⟨_, z0, z1⟩ := HX.out w2 hb2; clear hb2)
          clear d1 d2 d3 d4 hT1 y0 y1
          go_upto_region 5 with (go_at_call 8; (with_reducible refine hT2.mono ?_); rintro e w3 ⟨rfl, hb3⟩; have HB3 : Hid (Below w1.heap.size w1 w3) := Lib.hid (HB2.out.trans (hb3.mono HB2.out.size)); obtain ⟨_, y0, y1⟩ := HX.out w3 HB3.out; clear hb3)
          clear hT2 z0 z1
          go_cut [53] (fun s wx => s = .bool false ∧ Below w1.heap.size w1 wx)
          case first =>
            go_quiet (fail)
            go_wp2_with fail
            go_meet
            exact ⟨rfl, below_drewN HB3.out _⟩
          case rest =>
            obtain ⟨rfl, hwx⟩ := hcut
            have HC5 := Lib.hid hwx
            clear hwx d5 y0 y1
            go_upto_region 7 with fail
            have HY : Hid (Below w1.heap.size w1 wc.drew) := Lib.hid HC5.out.drew
            obtain ⟨_, y0, y1⟩ := HX.out _ HC5.out
            go_region_held3 (fun V => V.cell? ⟨w.heap.size, 0, none⟩ = some (.slice A W.length ca) ∧ V.cell? ⟨w.heap.size, 1, none⟩ = some (.slice B L.length cb)) (first | with_reducible exact (HX.out _ HY.out).2 | with_reducible exact (HX.out _ HY.out.drew).2)
              (first
              | (go_at_call 6; (with_reducible refine (HLV.out _ HY.out).mono ?_); rintro e w9 ⟨rfl, hb⟩; have HY := Lib.hid (HY.out.trans (hb.mono HY.out.size)); clear hb; obtain ⟨_, a0, a1⟩ := HX.out _ HY.out)
              | (go_at_call 12; (with_reducible refine (HCK1.out _ HY.out).mono ?_); rintro e w9 ⟨rfl, hb⟩; have HY := Lib.hid (HY.out.trans (hb.mono HY.out.size)); clear hb; obtain ⟨_, a0, a1⟩ := HX.out _ HY.out)
              | (go_at_call 13; (with_reducible refine (HCK2.out _ HY.out).mono ?_); rintro e w9 ⟨rfl, hb⟩; have HY := Lib.hid (HY.out.trans (hb.mono HY.out.size)); clear hb; obtain ⟨_, a0, a1⟩ := HX.out _ HY.out)
              | (go_at_call 14; (with_reducible refine (HOP1.out _ HY.out).mono ?_); rintro e w9 ⟨rfl, hb⟩; have HY := Lib.hid (HY.out.trans (hb.mono HY.out.size)); clear hb; obtain ⟨_, a0, a1⟩ := HX.out _ HY.out)
              | (go_at_call 15; (with_reducible refine (HOP2.out _ HY.out).mono ?_); rintro e w9 ⟨rfl, hb⟩; have HY := Lib.hid (HY.out.trans (hb.mono HY.out.size)); clear hb; obtain ⟨_, a0, a1⟩ := HX.out _ HY.out)
              | (go_at_call 16; (with_reducible refine (HMA1.out _ HY.out).mono ?_); rintro e w9 ⟨rfl, hb⟩; have HY := Lib.hid (HY.out.trans (hb.mono HY.out.size)); clear hb; obtain ⟨_, a0, a1⟩ := HX.out _ HY.out)
              | (go_at_call 17; (with_reducible refine (HMA2.out _ HY.out).mono ?_); rintro e w9 ⟨rfl, hb⟩; have HY := Lib.hid (HY.out.trans (hb.mono HY.out.size)); clear hb; obtain ⟨_, a0, a1⟩ := HX.out _ HY.out))
            all_goals (go_wp2; go_ret; exact ⟨rfl, HB1.out.trans (HY.out.mono HB1.out.size)⟩)
      · have d3 : decide ((300 : Int) < (L.length : Int)) = false := decide_eq_false (by omega)
        clear h3
        go_enter Tryz.func3, Tryz.ntmps3
        go_upto_region 1 with fail
        rw [← HW1.out]
        go_upto_region 4 with (go_at_call 7; (with_reducible refine hT1.mono ?_); rintro e w2 ⟨rfl, hb2⟩; have HB2 := Lib.hid hb2; have hT2 := HT2.out w2 hb2; obtain ⟨_, z0, z1⟩ := HX.out w2 hb2; clear hb2)
        clear d1 d2 d3 hT1 y0 y1
        go_upto_region 5 with (go_at_call 8; (with_reducible refine hT2.mono ?_); rintro e w3 ⟨rfl, hb3⟩; have HB3 : Hid (Below w1.heap.size w1 w3) := Lib.hid (HB2.out.trans (hb3.mono HB2.out.size)); obtain ⟨_, y0, y1⟩ := HX.out w3 HB3.out; clear hb3)
        clear hT2 z0 z1
        go_cut [53] (fun s wx => s = .bool false ∧ Below w1.heap.size w1 wx)
        case first =>
          go_quiet (fail)
          go_wp2_with fail
          go_meet
          exact ⟨rfl, below_drewN HB3.out _⟩
        case rest =>
          obtain ⟨rfl, hwx⟩ := hcut
          have HC5 := Lib.hid hwx
          clear hwx d5 y0 y1
          go_upto_region 7 with fail
          have HY : Hid (Below w1.heap.size w1 wc.drew) := Lib.hid HC5.out.drew
          obtain ⟨_, y0, y1⟩ := HX.out _ HC5.out
          go_region_held3 (fun V => V.cell? ⟨w.heap.size, 0, none⟩ = some (.slice A W.length ca) ∧ V.cell? ⟨w.heap.size, 1, none⟩ = some (.slice B L.length cb)) (first | with_reducible exact (HX.out _ HY.out).2 | with_reducible exact (HX.out _ HY.out.drew).2)
            (first
            | (go_at_call 6; (with_reducible refine (HLV.out _ HY.out).mono ?_); rintro e w9 ⟨rfl, hb⟩; have HY := Lib.hid (HY.out.trans (hb.mono HY.out.size)); clear hb; obtain ⟨_, a0, a1⟩ := HX.out _ HY.out)
            | (go_at_call 12; (with_reducible refine (HCK1.out _ HY.out).mono ?_); rintro e w9 ⟨rfl, hb⟩; have HY := Lib.hid (HY.out.trans (hb.mono HY.out.size)); clear hb; obtain ⟨_, a0, a1⟩ := HX.out _ HY.out)
            | (go_at_call 13; (with_reducible refine (HCK2.out _ HY.out).mono ?_); rintro e w9 ⟨rfl, hb⟩; have HY := Lib.hid (HY.out.trans (hb.mono HY.out.size)); clear hb; obtain ⟨_, a0, a1⟩ := HX.out _ HY.out)
            | (go_at_call 14; (with_reducible refine (HOP1.out _ HY.out).mono ?_); rintro e w9 ⟨rfl, hb⟩; have HY := Lib.hid (HY.out.trans (hb.mono HY.out.size)); clear hb; obtain ⟨_, a0, a1⟩ := HX.out _ HY.out)
            | (go_at_call 15; (with_reducible refine (HOP2.out _ HY.out).mono ?_); rintro e w9 ⟨rfl, hb⟩; have HY := Lib.hid (HY.out.trans (hb.mono HY.out.size)); clear hb; obtain ⟨_, a0, a1⟩ := HX.out _ HY.out)
            | (go_at_call 16; (with_reducible refine (HMA1.out _ HY.out).mono ?_); rintro e w9 ⟨rfl, hb⟩; have HY := Lib.hid (HY.out.trans (hb.mono HY.out.size)); clear hb; obtain ⟨_, a0, a1⟩ := HX.out _ HY.out)
            | (go_at_call 17; (with_reducible refine (HMA2.out _ HY.out).mono ?_); rintro e w9 ⟨rfl, hb⟩; have HY := Lib.hid (HY.out.trans (hb.mono HY.out.size)); clear hb; obtain ⟨_, a0, a1⟩ := HX.out _ HY.out))
          all_goals (go_wp2; go_ret; exact ⟨rfl, HB1.out.trans (HY.out.mono HB1.out.size)⟩)
  · have d1 : decide ((300 : Int) < (W.length : Int)) = false := decide_eq_false (by omega)
    have d5 : decide ((W.length : Int) ≤ (300 : Int)) = true := decide_eq_true (by omega)
    have d300 : W.length ≤ 300 := by omega
    clear h1
    by_cases h3 : 300 < L.length
    · have d3 : decide ((300 : Int) < (L.length : Int)) = true := decide_eq_true (by omega)
      by_cases h4 : L.length ≤ 16384
      · have d4 : decide ((L.length : Int) ≤ (16384 : Int)) = true := decide_eq_true (by omega)
        clear h3 h4
        go_enter Tryz.func3, Tryz.ntmps3
        go_upto_region 1 with fail
        rw [← HW1.out]
        go_wp2_with (go_at_call 6; (with_reducible refine hLv.mono ?_); rintro e w2 ⟨rfl, hb2⟩; have HB2 := Lib.hid hb2; clear hb2)
        go_ret
        exact ⟨rfl, HB1.out.trans (HB2.out.mono HB1.out.size)⟩
      · have d4 : decide ((L.length : Int) ≤ (16384 : Int)) = false := decide_eq_false (by omega)
        clear h3 h4
        go_enter Tryz.func3, Tryz.ntmps3
        go_upto_region 1 with fail
        rw [← HW1.out]
        go_upto_region 4 with (go_at_call 7; (with_reducible refine hT1.mono ?_); rintro e w2 ⟨rfl, hb2⟩; have HB2 := Lib.hid hb2; have hT2 := HT2.out w2 hb2; obtain ⟨_, z0, z1⟩ := HX.out w2 hb2; clear hb2)
        clear d1 d3 d4 hT1 y0 y1
        go_upto_region 5 with (go_at_call 8; (with_reducible refine hT2.mono ?_); rintro e w3 ⟨rfl, hb3⟩; have HB3 : Hid (Below w1.heap.size w1 w3) := Lib.hid (HB2.out.trans (hb3.mono HB2.out.size)); obtain ⟨_, y0, y1⟩ := HX.out w3 HB3.out; clear hb3)
        clear hT2 z0 z1
        go_cut [53] (fun s wx => s = .bool false ∧ Below w1.heap.size w1 wx)
        case first =>
          have HD0 : Hid (Below w1.heap.size w1 w3.drew) := Lib.hid HB3.out.drew
          go_region_held3 (fun V => V.cell? ⟨w.heap.size, 0, none⟩ = some (.slice A W.length ca) ∧ V.cell? ⟨w.heap.size, 1, none⟩ = some (.slice B L.length cb)) (first | with_reducible exact (HX.out _ HD0.out).2 | with_reducible exact (HX.out _ H10.out).2 | with_reducible exact (HX.out _ H11.out).2 | with_reducible exact (HX.out _ H12.out).2)
            (first
            | (go_at_call 10; (with_reducible refine (HS1.out d300 _ HD0.out).mono ?_); rintro e w10 ⟨tr, rfl, htr, hb⟩; (obtain ⟨tA, tc, rfl⟩ := htr.form); have HTR := Lib.hid htr; have H10 : Hid (Below w1.heap.size w1 w10) := Lib.hid (HD0.out.trans (hb.mono HD0.out.size)); clear hb htr; obtain ⟨_, a0, a1⟩ := HX.out w10 H10.out)
            | (go_at_call 11; (with_reducible refine (HS2.out d300 _ H10.out).mono ?_); rintro e w11 ⟨xr, rfl, hxr, hb⟩; (obtain ⟨xA, xc, rfl⟩ := hxr.form); have HXR := Lib.hid hxr; have HTR2 := Lib.hid (HTR.out.below hb (Nat.le_refl _)); have H11 : Hid (Below w1.heap.size w1 w11) := Lib.hid (H10.out.trans (hb.mono H10.out.size)); clear hb hxr; obtain ⟨_, b0, b1⟩ := HX.out w11 H11.out)
            | (go_at_call 9; (with_reducible refine (sameW_self HTR2.out HXR.out).mono ?_); rintro e w12 ⟨rfl, hb⟩; have H12 : Hid (Below w1.heap.size w1 w12) := Lib.hid (H11.out.trans (hb.mono H11.out.size)); clear hb))
          all_goals go_wp2_with fail
          all_goals go_meet
          all_goals exact ⟨rfl, H12.out⟩
        case rest =>
          obtain ⟨rfl, hwx⟩ := hcut
          have HC5 := Lib.hid hwx
          clear hwx d5 y0 y1
          go_upto_region 7 with fail
          have HY : Hid (Below w1.heap.size w1 wc.drew) := Lib.hid HC5.out.drew
          obtain ⟨_, y0, y1⟩ := HX.out _ HC5.out
          go_region_held3 (fun V => V.cell? ⟨w.heap.size, 0, none⟩ = some (.slice A W.length ca) ∧ V.cell? ⟨w.heap.size, 1, none⟩ = some (.slice B L.length cb)) (first | with_reducible exact (HX.out _ HY.out).2 | with_reducible exact (HX.out _ HY.out.drew).2)
            (first
            | (go_at_call 6; (with_reducible refine (HLV.out _ HY.out).mono ?_); rintro e w9 ⟨rfl, hb⟩; have HY := Lib.hid (HY.out.trans (hb.mono HY.out.size)); clear hb; obtain ⟨_, a0, a1⟩ := HX.out _ HY.out)
            | (go_at_call 12; (with_reducible refine (HCK1.out _ HY.out).mono ?_); rintro e w9 ⟨rfl, hb⟩; have HY := Lib.hid (HY.out.trans (hb.mono HY.out.size)); clear hb; obtain ⟨_, a0, a1⟩ := HX.out _ HY.out)
            | (go_at_call 13; (with_reducible refine (HCK2.out _ HY.out).mono ?_); rintro e w9 ⟨rfl, hb⟩; have HY := Lib.hid (HY.out.trans (hb.mono HY.out.size)); clear hb; obtain ⟨_, a0, a1⟩ := HX.out _ HY.out)
            | (go_at_call 14; (with_reducible refine (HOP1.out _ HY.out).mono ?_); rintro e w9 ⟨rfl, hb⟩; have HY := Lib.hid (HY.out.trans (hb.mono HY.out.size)); clear hb; obtain ⟨_, a0, a1⟩ := HX.out _ HY.out)
            | (go_at_call 15; (with_reducible refine (HOP2.out _ HY.out).mono ?_); rintro e w9 ⟨rfl, hb⟩; have HY := Lib.hid (HY.out.trans (hb.mono HY.out.size)); clear hb; obtain ⟨_, a0, a1⟩ := HX.out _ HY.out)
            | (go_at_call 16; (with_reducible refine (HMA1.out _ HY.out).mono ?_); rintro e w9 ⟨rfl, hb⟩; have HY := Lib.hid (HY.out.trans (hb.mono HY.out.size)); clear hb; obtain ⟨_, a0, a1⟩ := HX.out _ HY.out)
            | (go_at_call 17; (with_reducible refine (HMA2.out _ HY.out).mono ?_); rintro e w9 ⟨rfl, hb⟩; have HY := Lib.hid (HY.out.trans (hb.mono HY.out.size)); clear hb; obtain ⟨_, a0, a1⟩ := HX.out _ HY.out))
          all_goals (go_wp2; go_ret; exact ⟨rfl, HB1.out.trans (HY.out.mono HB1.out.size)⟩)
    · have d3 : decide ((300 : Int) < (L.length : Int)) = false := decide_eq_false (by omega)
      clear h3
      go_enter Tryz.func3, Tryz.ntmps3
      go_upto_region 1 with fail
      rw [← HW1.out]
      go_upto_region 4 with (go_at_call 7; (with_reducible refine hT1.mono ?_); rintro e w2 ⟨rfl, hb2⟩; have HB2 := Lib.hid hb2; have hT2 := HT2.out w2 hb2; obtain ⟨_, z0, z1⟩ := HX.out w2 hb2; clear hb2)
      clear d1 d3 hT1 y0 y1
      go_upto_region 5 with (go_at_call 8; (with_reducible refine hT2.mono ?_); rintro e w3 ⟨rfl, hb3⟩; have HB3 : Hid (Below w1.heap.size w1 w3) := Lib.hid (HB2.out.trans (hb3.mono HB2.out.size)); obtain ⟨_, y0, y1⟩ := HX.out w3 HB3.out; clear hb3)
      clear hT2 z0 z1
      go_cut [53] (fun s wx => s = .bool false ∧ Below w1.heap.size w1 wx)
      case first =>
        have HD0 : Hid (Below w1.heap.size w1 w3.drew) := Lib.hid HB3.out.drew
        go_region_held3 (fun V => V.cell? ⟨w.heap.size, 0, none⟩ = some (.slice A W.length ca) ∧ V.cell? ⟨w.heap.size, 1, none⟩ = some (.slice B L.length cb)) (first | with_reducible exact (HX.out _ HD0.out).2 | with_reducible exact (HX.out _ H10.out).2 | with_reducible exact (HX.out _ H11.out).2 | with_reducible exact (HX.out _ H12.out).2)
          (first
          | (go_at_call 10; (with_reducible refine (HS1.out d300 _ HD0.out).mono ?_); rintro e w10 ⟨tr, rfl, htr, hb⟩; (obtain ⟨tA, tc, rfl⟩ := htr.form); have HTR := Lib.hid htr; have H10 : Hid (Below w1.heap.size w1 w10) := Lib.hid (HD0.out.trans (hb.mono HD0.out.size)); clear hb htr; obtain ⟨_, a0, a1⟩ := HX.out w10 H10.out)
          | (go_at_call 11; (with_reducible refine (HS2.out d300 _ H10.out).mono ?_); rintro e w11 ⟨xr, rfl, hxr, hb⟩; (obtain ⟨xA, xc, rfl⟩ := hxr.form); have HXR := Lib.hid hxr; have HTR2 := Lib.hid (HTR.out.below hb (Nat.le_refl _)); have H11 : Hid (Below w1.heap.size w1 w11) := Lib.hid (H10.out.trans (hb.mono H10.out.size)); clear hb hxr; obtain ⟨_, b0, b1⟩ := HX.out w11 H11.out)
          | (go_at_call 9; (with_reducible refine (sameW_self HTR2.out HXR.out).mono ?_); rintro e w12 ⟨rfl, hb⟩; have H12 : Hid (Below w1.heap.size w1 w12) := Lib.hid (H11.out.trans (hb.mono H11.out.size)); clear hb))
        all_goals go_wp2_with fail
        all_goals go_meet
        all_goals exact ⟨rfl, H12.out⟩
      case rest =>
        obtain ⟨rfl, hwx⟩ := hcut
        have HC5 := Lib.hid hwx
        clear hwx d5 y0 y1
        go_upto_region 7 with fail
        have HY : Hid (Below w1.heap.size w1 wc.drew) := Lib.hid HC5.out.drew
        obtain ⟨_, y0, y1⟩ := HX.out _ HC5.out
        go_region_held3 (fun V => V.cell? ⟨w.heap.size, 0, none⟩ = some (.slice A W.length ca) ∧ V.cell? ⟨w.heap.size, 1, none⟩ = some (.slice B L.length cb)) (first | with_reducible exact (HX.out _ HY.out).2 | with_reducible exact (HX.out _ HY.out.drew).2)
          (first
          | (go_at_call 6; (with_reducible refine (HLV.out _ HY.out).mono ?_); rintro e w9 ⟨rfl, hb⟩; have HY := Lib.hid (HY.out.trans (hb.mono HY.out.size)); clear hb; obtain ⟨_, a0, a1⟩ := HX.out _ HY.out)
          | (go_at_call 12; (with_reducible refine (HCK1.out _ HY.out).mono ?_); rintro e w9 ⟨rfl, hb⟩; have HY := Lib.hid (HY.out.trans (hb.mono HY.out.size)); clear hb; obtain ⟨_, a0, a1⟩ := HX.out _ HY.out)
          | (go_at_call 13; (with_reducible refine (HCK2.out _ HY.out).mono ?_); rintro e w9 ⟨rfl, hb⟩; have HY := Lib.hid (HY.out.trans (hb.mono HY.out.size)); clear hb; obtain ⟨_, a0, a1⟩ := HX.out _ HY.out)
          | (go_at_call 14; (with_reducible refine (HOP1.out _ HY.out).mono ?_); rintro e w9 ⟨rfl, hb⟩; have HY := Lib.hid (HY.out.trans (hb.mono HY.out.size)); clear hb; obtain ⟨_, a0, a1⟩ := HX.out _ HY.out)
          | (go_at_call 15; (with_reducible refine (HOP2.out _ HY.out).mono ?_); rintro e w9 ⟨rfl, hb⟩; have HY := Lib.hid (HY.out.trans (hb.mono HY.out.size)); clear hb; obtain ⟨_, a0, a1⟩ := HX.out _ HY.out)
          | (go_at_call 16; (with_reducible refine (HMA1.out _ HY.out).mono ?_); rintro e w9 ⟨rfl, hb⟩; have HY := Lib.hid (HY.out.trans (hb.mono HY.out.size)); clear hb; obtain ⟨_, a0, a1⟩ := HX.out _ HY.out)
          | (go_at_call 17; (with_reducible refine (HMA2.out _ HY.out).mono ?_); rintro e w9 ⟨rfl, hb⟩; have HY := Lib.hid (HY.out.trans (hb.mono HY.out.size)); clear hb; obtain ⟨_, a0, a1⟩ := HX.out _ HY.out))
        all_goals (go_wp2; go_ret; exact ⟨rfl, HB1.out.trans (HY.out.mono HB1.out.size)⟩)
end Go.Proofs.YtobbcekehmmdhaaGreatDoor
