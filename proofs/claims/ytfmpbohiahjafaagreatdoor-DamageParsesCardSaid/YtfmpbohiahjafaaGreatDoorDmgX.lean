/- Reports of damage: DamageBack. -/
import Derived.Test.YtfmpbohiahjafaaGreatDoorDmgW
import Derived.Deep.RegionHeld3
namespace Go.Proofs.YtfmpbohiahjafaaGreatDoor
open Go.RowKit Go.Lib Go.Shelf Go.Sort

theorem prs_err : ∀ (P : List (List UInt8)) (W : List WD) (L : List LO) (n : Nat), (prs P W L n).2.2.2 = 0 ∨ (prs P W L n).1 = [] ∧ (prs P W L n).2.1 = [] ∧ (prs P W L n).2.2.2 ≠ 0
  | [], W, L, n => .inl rfl
  | [r], W, L, n => by
    rw [prs]
    split
    · exact .inl rfl
    · exact .inr ⟨rfl, rfl, (by decide : (6 : Int) ≠ 0)⟩
  | p :: q :: rest, W, L, n => by
    rw [prs]
    split
    · split
      · exact .inr ⟨rfl, rfl, (by decide : (7 : Int) ≠ 0)⟩
      · exact prs_err (q :: rest) _ _ _
    · split
      · split
        · exact .inr ⟨rfl, rfl, (by decide : (6 : Int) ≠ 0)⟩
        · split
          · exact .inr ⟨rfl, rfl, (by decide : (7 : Int) ≠ 0)⟩
          · exact prs_err (q :: rest) _ _ _
      · exact .inr ⟨rfl, rfl, (by decide : (6 : Int) ≠ 0)⟩
/-- What is read of a text: right, with that text; or nothing. -/
theorem prs_two (T : List UInt8) : (∃ W L, prsT T = (W, L, 0, 0) ∧ txL W L = T ∧ ckE W L = 0) ∨ (∃ m e, prsT T = ([], [], m, e) ∧ e ≠ 0) := by
  rcases hp : prsT T with ⟨W, L, m, e⟩
  rcases prs_err (spl 10 T) [] [] 1 with h0 | h0
  · have h1 : e = 0 := by
      have : (prsT T).2.2.2 = 0 := h0
      rw [hp] at this; exact this
    subst h1
    obtain ⟨h2, h3, h4⟩ := prs_back hp
    subst h4
    exact .inl ⟨W, L, rfl, by unfold txL; rw [if_pos h3]; exact h2, h3⟩
  · have h1 : (prsT T).1 = [] ∧ (prsT T).2.1 = [] ∧ (prsT T).2.2.2 ≠ 0 := h0
    rw [hp] at h1
    obtain ⟨a, b, c⟩ := h1
    have a : W = [] := a
    have b : L = [] := b
    subst a; subst b
    exact .inr ⟨m, e, rfl, c⟩
theorem ks_ok {W : List WD} {L : List LO} (h : ckE W L = 0) : KsOk W := by
  intro x hx
  have := (wdOk_iff.1 ((ckE_iff.1 h).2.1 x hx)).1
  omega
set_option maxHeartbeats 32000000 in
set_option maxRecDepth 100000 in
theorem damageBack_any {w : World} {u v : Value} {W : List WD} {L : List LO} {T : List UInt8} (hu : WdS w u W) (hv : LoS w v L) (hK : KsOk W) (hD : DmW w) :
    Calls Tryz.prog 5 #[.agg #[u, v], .string ⟨T.toArray⟩] w fun e w' => e = .returned (.bool true) ∧ Below w.heap.size w w' := by
  obtain ⟨w1, hw1⟩ : ∃ w1, w1 = w.alloc (.cells #[u, v] 25) := ⟨_, rfl⟩
  have hb1 : Below w.heap.size w w1 := by rw [hw1]; exact below_new w _
  have hc1 := cell2 w u v 25
  rw [← hw1] at hc1
  have HB1 := Lib.hid hb1
  have HX : Hid (∀ V, Below w1.heap.size w1 V → (WdS V u W ∧ LoS V v L ∧ DmW V) ∧ V.cell? ⟨w.heap.size, 0, none⟩ = some u ∧ V.cell? ⟨w.heap.size, 1, none⟩ = some v) := Lib.hid (fun V hb =>
    ⟨⟨(hu.below hb1 (Nat.le_refl _)).below hb (Nat.le_refl _), (hv.below hb1 (Nat.le_refl _)).below hb (Nat.le_refl _), (hD.below hb1).below hb⟩, cell_keep hb hc1.1, cell_keep hb hc1.2⟩)
  have HKS := Lib.hid hK
  have HW1 := Lib.hid hw1
  obtain ⟨A, ca, rfl⟩ := hu.form
  obtain ⟨B, cb, rfl⟩ := hv.form
  have hLv := dmgLives_any (hD.below hb1)
  have hst := bsz T
  clear hw1 hb1 hc1 hu hv hK hD
  by_cases hbig : W.length ≤ 300 ∧ L.length ≤ 300 ∧ T.length ≤ 16384
  case neg =>
    have HBG : Hid (¬ (W.length ≤ 300 ∧ L.length ≤ 300 ∧ T.length ≤ 16384)) := Lib.hid hbig
    clear hbig
    generalize W.length = n at HX HBG HW1 ⊢
    generalize L.length = m at HX HBG HW1 ⊢
    generalize T.length = tl at hst HBG
    by_cases h1 : 300 < n
    · have d1 : decide ((300 : Int) < (n : Int)) = true := decide_eq_true (by omega)
      have d1' : 300 < n := h1
      go_enter Tryz.func5, Tryz.ntmps5
      go_upto_region 1 with fail
      rw [← HW1.out]
      go_wp2_with (go_at_call 6; (with_reducible refine hLv.mono ?_); rintro e w2 ⟨rfl, hb2⟩; have HB2 := Lib.hid hb2; obtain ⟨_, y0, y1⟩ := HX.out w2 hb2; clear hb2)
      go_ret
      exact ⟨rfl, HB1.out.trans (HB2.out.mono HB1.out.size)⟩
    have d1 : decide ((300 : Int) < (n : Int)) = false := decide_eq_false (by omega)
    have d1' : ¬ 300 < n := h1
    by_cases h2 : 300 < m
    · have d2 : decide ((300 : Int) < (m : Int)) = true := decide_eq_true (by omega)
      go_enter Tryz.func5, Tryz.ntmps5
      go_upto_region 1 with fail
      rw [← HW1.out]
      go_wp2_with (go_at_call 6; (with_reducible refine hLv.mono ?_); rintro e w2 ⟨rfl, hb2⟩; have HB2 := Lib.hid hb2; obtain ⟨_, y0, y1⟩ := HX.out w2 hb2; clear hb2)
      go_ret
      exact ⟨rfl, HB1.out.trans (HB2.out.mono HB1.out.size)⟩
    have d2 : decide ((300 : Int) < (m : Int)) = false := decide_eq_false (by omega)
    have h3 : 16384 < tl := by have := HBG.out; omega
    have d3 : decide ((16384 : Int) < (tl : Int)) = true := decide_eq_true (by omega)
    go_enter Tryz.func5, Tryz.ntmps5
    go_upto_region 1 with fail
    rw [← HW1.out]
    go_wp2_with (go_at_call 6; (with_reducible refine hLv.mono ?_); rintro e w2 ⟨rfl, hb2⟩; have HB2 := Lib.hid hb2; obtain ⟨_, y0, y1⟩ := HX.out w2 hb2; clear hb2)
    go_ret
    exact ⟨rfl, HB1.out.trans (HB2.out.mono HB1.out.size)⟩
  obtain ⟨hn, hm, htl⟩ := hbig
  have HLN : Hid (W.length ≤ 300 ∧ L.length ≤ 300 ∧ T.length ≤ 16384) := Lib.hid ⟨hn, hm, htl⟩
  have d1 : decide ((300 : Int) < (W.length : Int)) = false := decide_eq_false (by omega)
  have d2 : decide ((300 : Int) < (L.length : Int)) = false := decide_eq_false (by omega)
  have d3 : decide ((16384 : Int) < (T.length : Int)) = false := decide_eq_false (by omega)
  have HT1 : Hid (∀ V, Below w1.heap.size w1 V → _) := Lib.hid (fun V hb => dmgText_any (HX.out V hb).1.1 (HX.out V hb).1.2.1 HKS.out (HX.out V hb).1.2.2)
  have hT1L : (txL W L).length ≤ 500000 := by
    unfold txL
    split
    · rename_i h
      have h2 := ckE_iff.1 h
      have h3 := txW_bound h2.2.1
      have h4 := txLo_bound h2.2.2
      unfold txB
      rw [List.length_append]; omega
    · simp
  have HP1 : Hid (∀ V, Below w1.heap.size w1 V → _) := Lib.hid (fun V hb => dmgParse_any (T := txL W L) hT1L (HX.out V hb).1.2.2)
  have HP2 : Hid (∀ V, Below w1.heap.size w1 V → _) := Lib.hid (fun V hb => dmgParse_any (T := T) (by have := HLN.out; omega) (HX.out V hb).1.2.2)
  have hp1 : (ckE W L = 0 ∧ prsT (txL W L) = (W, L, 0, 0)) ∨ (ckE W L ≠ 0 ∧ prsT (txL W L) = ([], [], 0, 0)) := by
    by_cases h : ckE W L = 0
    · exact .inl ⟨h, by unfold txL; rw [if_pos h]; exact prs_txt h⟩
    · refine .inr ⟨h, ?_⟩
      unfold txL; rw [if_neg h]; exact prs_end [] [] 1
  have hp2 := prs_two T
  have HSO : Hid (∀ V, Below w1.heap.size w1 V → _) := Lib.hid (fun V hb => dmgSort_any (HX.out V hb).1.1 (by have := HLN.out; omega))
  have HOP : Hid (∀ V, Below w1.heap.size w1 V → _) := Lib.hid (fun V hb => dmgOpen_any (HX.out V hb).1.1 (HX.out V hb).1.2.1)
  have HSRL : Hid ((srt W).length = W.length) := Lib.hid (srt_len W)
  clear hn hm htl hT1L
  obtain ⟨oq, hoq⟩ : ∃ oq, opn W = oq := ⟨_, rfl⟩
  have HOQ := Lib.hid hoq
  clear hoq
  rcases hp1 with ⟨hr, hpp⟩ | ⟨hr, hpp⟩
  · rw [hpp] at HP1
    rw [hr] at HT1
    rcases hp2 with ⟨W2, L2, hp2, htx2, hck2⟩ | ⟨m2, e2, hp2, he2⟩
    · rw [hp2] at HP2
      clear hpp hr hp2
      go_enter Tryz.func5, Tryz.ntmps5
      go_upto_region 1 with fail
      rw [← HW1.out]
      go_upto_region 5 with (go_at_call 6; (with_reducible refine hLv.mono ?_); rintro e w2 ⟨rfl, hb2⟩; have HB2 := Lib.hid hb2; have hT1 := HT1.out w2 hb2; obtain ⟨_, y0, y1⟩ := HX.out w2 hb2; clear hb2)
      clear d1 d2 d3
      go_upto_region 6 with (go_at_call 7; (with_reducible refine hT1.mono ?_); rintro e w3 ⟨rfl, hb3⟩; have HB3 : Hid (Below w1.heap.size w1 w3) := Lib.hid (HB2.out.trans (hb3.mono HB2.out.size)); have hP1 := HP1.out w3 HB3.out; clear hb3)
      clear hT1 y0 y1
      go_upto_region 7 with (go_at_call 18; (with_reducible refine hP1.mono ?_); rintro e w4 ⟨⟨u5, v5, rfl, hu, hv⟩, hb4⟩; (obtain ⟨uA, uc, rfl⟩ := hu.form); (obtain ⟨vA, vc, rfl⟩ := hv.form); have HU4 := Lib.hid hu; have HV4 := Lib.hid hv; have HB4 : Hid (Below w1.heap.size w1 w4) := Lib.hid (HB3.out.trans (hb4.mono HB3.out.size)); clear hb4 hu hv)
      obtain ⟨w5, hw5⟩ : ∃ w5, w5 = w4.alloc (.cells #[.slice uA W.length uc, .slice vA L.length vc] 25) := ⟨_, rfl⟩
      have hb5 : Below w4.heap.size w4 w5 := by rw [hw5]; exact below_new w4 _
      have hc5 := cell2 w4 (.slice uA W.length uc) (.slice vA L.length vc) 25
      rw [← hw5] at hc5
      have HB5 : Hid (Below w1.heap.size w1 w5) := Lib.hid (HB4.out.trans (hb5.mono HB4.out.size))
      have hu5 : WdS w5 (.slice uA W.length uc) W := HU4.out.below hb5 (Nat.le_refl _)
      have hv5 : LoS w5 (.slice vA L.length vc) L := HV4.out.below hb5 (Nat.le_refl _)
      have HX5 : Hid (∀ V, Below w5.heap.size w5 V → V.cell? ⟨w4.heap.size, 0, none⟩ = some (.slice uA W.length uc) ∧ V.cell? ⟨w4.heap.size, 1, none⟩ = some (.slice vA L.length vc) ∧ WdS V (.slice uA W.length uc) W ∧ LoS V (.slice vA L.length vc) L) := Lib.hid (fun V hb => ⟨cell_keep hb hc5.1, cell_keep hb hc5.2, hu5.below hb (Nat.le_refl _), hv5.below hb (Nat.le_refl _)⟩)
      change Code.wp _ _ _ _ (w4.alloc (.cells #[.slice uA W.length uc, .slice vA L.length vc] 25))
      rw [← hw5]
      have hP2 := HP2.out w5 HB5.out
      clear hw5 hb5 hc5 hu5 hv5 HU4 HV4 hP1
      go_upto_region 8 with (go_at_call 18; (with_reducible refine hP2.mono ?_); rintro e w6 ⟨⟨u7, v7, rfl, hu, hv⟩, hb6⟩; (obtain ⟨yA, yc, rfl⟩ := hu.form); (obtain ⟨zA, zc, rfl⟩ := hv.form); have HU6 := Lib.hid hu; have HV6 := Lib.hid hv; have HB6 : Hid (Below w5.heap.size w5 w6) := Lib.hid hb6; clear hb6 hu hv)
      obtain ⟨w7, hw7⟩ : ∃ w7, w7 = w6.alloc (.cells #[.slice yA W2.length yc, .slice zA L2.length zc] 25) := ⟨_, rfl⟩
      have hb7 : Below w6.heap.size w6 w7 := by rw [hw7]; exact below_new w6 _
      have hc7 := cell2 w6 (.slice yA W2.length yc) (.slice zA L2.length zc) 25
      rw [← hw7] at hc7
      have HB7 : Hid (Below w5.heap.size w5 w7) := Lib.hid (HB6.out.trans (hb7.mono HB6.out.size))
      have HBW7 : Hid (Below w1.heap.size w1 w7) := Lib.hid (HB5.out.trans (HB7.out.mono HB5.out.size))
      have hu7 : WdS w7 (.slice yA W2.length yc) W2 := HU6.out.below hb7 (Nat.le_refl _)
      have hv7 : LoS w7 (.slice zA L2.length zc) L2 := HV6.out.below hb7 (Nat.le_refl _)
      have hT2 := dmgText_any hu7 hv7 (ks_ok hck2) (HX.out w7 HBW7.out).1.2.2
      rw [htx2, hck2] at hT2
      change Code.wp _ _ _ _ (w6.alloc (.cells #[.slice yA W2.length yc, .slice zA L2.length zc] 25))
      rw [← hw7]
      obtain ⟨k0, k1⟩ := hc7
      clear hw7 hb7 hu7 hv7 HU6 HV6 hP2
      go_upto_region 9 with (go_at_call 7; (with_reducible refine hT2.mono ?_); rintro e w8 ⟨rfl, hb8⟩; have HB8 : Hid (Below w5.heap.size w5 w8) := Lib.hid (HB7.out.trans (hb8.mono HB7.out.size)); have HBW8 : Hid (Below w1.heap.size w1 w8) := Lib.hid (HB5.out.trans (HB8.out.mono HB5.out.size)); clear hb8)
      clear hT2 k0 k1
      have hS1 := HSO.out w8 HBW8.out
      obtain ⟨_, y0, y1⟩ := HX.out w8 HBW8.out
      go_upto_region 10 with (go_at_call 10; (with_reducible refine hS1.mono ?_); rintro e w9 ⟨sr, rfl, hsr, hb9⟩; (obtain ⟨sA, sc, rfl⟩ := hsr.form); have HSR9 := Lib.hid hsr; have HB9 : Hid (Below w5.heap.size w5 w9) := Lib.hid (HB8.out.trans (hb9.mono HB8.out.size)); have HBW9 : Hid (Below w1.heap.size w1 w9) := Lib.hid (HBW8.out.trans (hb9.mono HBW8.out.size)); clear hb9 hsr)
      rw [HSRL.out] at HSR9 ⊢
      clear hS1 y0 y1
      have hsr9 := HSR9.out
      have HC : Hid (∀ V, Below w9.heap.size w9 V → WdS V (.slice sA W.length sc) (srt W) ∧ V.cell? ⟨w.heap.size, 0, none⟩ = some (.slice A W.length ca) ∧ V.cell? ⟨w.heap.size, 1, none⟩ = some (.slice B L.length cb)) := Lib.hid (fun V hb => ⟨hsr9.below hb (Nat.le_refl _), (HX.out V (HBW9.out.trans (hb.mono HBW9.out.size))).2⟩)
      have hSo : ∀ V, Below w9.heap.size w9 V → Calls Tryz.prog 10 #[.slice sA W.length sc] V fun e w' => ∃ r, e = .returned r ∧ WdS w' r (srt W) ∧ Below V.heap.size V w' := fun V hb => by
        have h := dmgSort_any (HC.out V hb).1 (by rw [HSRL.out]; have := HLN.out; omega)
        rw [srt_srt] at h
        exact h
      have hO1 : ∀ V, Below w9.heap.size w9 V → Calls Tryz.prog 14 #[.agg #[.slice sA W.length sc, .slice none 0 0]] V fun e w' => e = .returned (.int .i64 oq) ∧ Below V.heap.size V w' := fun V hb => by
        have h := dmgOpen_any (HC.out V hb).1 (StS.nil V (k := 3) (enc := LO.enc) (z := LO.zero))
        rw [opn_srt, HOQ.out] at h
        exact h
      have hO2 : ∀ V, Below w9.heap.size w9 V → Calls Tryz.prog 14 #[.agg #[.slice A W.length ca, .slice B L.length cb]] V fun e w' => e = .returned (.int .i64 oq) ∧ Below V.heap.size V w' := fun V hb => by
        have h := HOP.out V (HBW9.out.trans (hb.mono HBW9.out.size))
        rw [HOQ.out] at h
        exact h
      have HD0 : Hid (Below w9.heap.size w9 w9.drew) := Lib.hid (Below.refl _ _).drew
      obtain ⟨_, y0, y1⟩ := HC.out w9 (Below.refl _ _)
      have HSM : Hid (∀ V, Below w9.heap.size w9 V → _) := Lib.hid (fun V hb => sameR_self (HX5.out V (HB9.out.trans (hb.mono HB9.out.size))).2.2.1 (HX5.out V (HB9.out.trans (hb.mono HB9.out.size))).2.2.2 (HX.out V (HBW9.out.trans (hb.mono HBW9.out.size))).1.1 (HX.out V (HBW9.out.trans (hb.mono HBW9.out.size))).1.2.1)
      clear hsr9 y0 y1
      go_region_held3 (fun V => V.cell? ⟨w.heap.size, 0, none⟩ = some (.slice A W.length ca) ∧ V.cell? ⟨w.heap.size, 1, none⟩ = some (.slice B L.length cb)) (first | with_reducible exact (HC.out _ HD0.out).2 | with_reducible exact (HC.out _ H10.out).2 | with_reducible exact (HC.out _ H11.out).2 | with_reducible exact (HC.out _ H12.out).2 | with_reducible exact (HC.out _ H13.out).2)
        (first
        | (go_at_call 10; (with_reducible refine (hSo _ HD0.out).mono ?_); rintro e w10 ⟨tr, rfl, htr, hb⟩; (obtain ⟨tA, tc, rfl⟩ := htr.form); have HTR := Lib.hid htr; have H10 : Hid (Below w9.heap.size w9 w10) := Lib.hid (HD0.out.trans (hb.mono HD0.out.size)); clear hb htr; obtain ⟨_, a0, a1⟩ := HC.out w10 H10.out)
        | (go_at_call 9; (with_reducible refine (sameW_self HTR.out (HC.out w10 H10.out).1).mono ?_); rintro e w11 ⟨rfl, hb⟩; have H11 : Hid (Below w9.heap.size w9 w11) := Lib.hid (H10.out.trans (hb.mono H10.out.size)); clear hb; obtain ⟨_, b0, b1⟩ := HC.out w11 H11.out)
        | (go_at_call 14; (with_reducible refine (hO1 _ (by first | exact H11.out | exact H13.out)).mono ?_); rintro e w12 ⟨rfl, hb⟩; have H12 : Hid (Below w9.heap.size w9 w12) := Lib.hid (by first | exact H11.out.trans (hb.mono H11.out.size) | exact H13.out.trans (hb.mono H13.out.size)); clear hb; obtain ⟨_, c0, c1⟩ := HC.out w12 H12.out)
        | (go_at_call 14; (with_reducible refine (hO2 _ (by first | exact H11.out | exact H12.out)).mono ?_); rintro e w13 ⟨rfl, hb⟩; have H13 : Hid (Below w9.heap.size w9 w13) := Lib.hid (by first | exact H11.out.trans (hb.mono H11.out.size) | exact H12.out.trans (hb.mono H12.out.size)); clear hb; obtain ⟨_, e0, e1⟩ := HC.out w13 H13.out))
      all_goals first
        | (obtain ⟨k0, k1, _, _⟩ := HX5.out w13 (HB9.out.trans (H13.out.mono HB9.out.size)); have hSm := HSM.out w13 H13.out; obtain ⟨_, g0, g1⟩ := HC.out w13 H13.out; go_wp2_with (go_at_call 20; (with_reducible refine hSm.mono ?_); rintro e w14 ⟨rfl, hb⟩; have H14 : Hid (Below w9.heap.size w9 w14) := Lib.hid (H13.out.trans (hb.mono H13.out.size)); clear hb); go_ret; exact ⟨rfl, HB1.out.trans ((HBW9.out.trans (H14.out.mono HBW9.out.size)).mono HB1.out.size)⟩)
        | (obtain ⟨k0, k1, _, _⟩ := HX5.out w12 (HB9.out.trans (H12.out.mono HB9.out.size)); have hSm := HSM.out w12 H12.out; obtain ⟨_, g0, g1⟩ := HC.out w12 H12.out; go_wp2_with (go_at_call 20; (with_reducible refine hSm.mono ?_); rintro e w14 ⟨rfl, hb⟩; have H14 : Hid (Below w9.heap.size w9 w14) := Lib.hid (H12.out.trans (hb.mono H12.out.size)); clear hb); go_ret; exact ⟨rfl, HB1.out.trans ((HBW9.out.trans (H14.out.mono HBW9.out.size)).mono HB1.out.size)⟩)
    · rw [hp2] at HP2
      have q0 : (e2 != 0) = true := by rw [bne_iff_ne]; exact he2
      have q1 : (e2 == 0) = false := by rw [beq_eq_false_iff_ne]; exact he2
      clear hpp hr hp2 he2
      go_enter Tryz.func5, Tryz.ntmps5
      go_upto_region 1 with fail
      rw [← HW1.out]
      go_upto_region 5 with (go_at_call 6; (with_reducible refine hLv.mono ?_); rintro e w2 ⟨rfl, hb2⟩; have HB2 := Lib.hid hb2; have hT1 := HT1.out w2 hb2; obtain ⟨_, y0, y1⟩ := HX.out w2 hb2; clear hb2)
      clear d1 d2 d3
      go_upto_region 6 with (go_at_call 7; (with_reducible refine hT1.mono ?_); rintro e w3 ⟨rfl, hb3⟩; have HB3 : Hid (Below w1.heap.size w1 w3) := Lib.hid (HB2.out.trans (hb3.mono HB2.out.size)); have hP1 := HP1.out w3 HB3.out; clear hb3)
      clear hT1 y0 y1
      go_upto_region 7 with (go_at_call 18; (with_reducible refine hP1.mono ?_); rintro e w4 ⟨⟨u5, v5, rfl, hu, hv⟩, hb4⟩; (obtain ⟨uA, uc, rfl⟩ := hu.form); (obtain ⟨vA, vc, rfl⟩ := hv.form); have HU4 := Lib.hid hu; have HV4 := Lib.hid hv; have HB4 : Hid (Below w1.heap.size w1 w4) := Lib.hid (HB3.out.trans (hb4.mono HB3.out.size)); clear hb4 hu hv)
      obtain ⟨w5, hw5⟩ : ∃ w5, w5 = w4.alloc (.cells #[.slice uA W.length uc, .slice vA L.length vc] 25) := ⟨_, rfl⟩
      have hb5 : Below w4.heap.size w4 w5 := by rw [hw5]; exact below_new w4 _
      have hc5 := cell2 w4 (.slice uA W.length uc) (.slice vA L.length vc) 25
      rw [← hw5] at hc5
      have HB5 : Hid (Below w1.heap.size w1 w5) := Lib.hid (HB4.out.trans (hb5.mono HB4.out.size))
      have hu5 : WdS w5 (.slice uA W.length uc) W := HU4.out.below hb5 (Nat.le_refl _)
      have hv5 : LoS w5 (.slice vA L.length vc) L := HV4.out.below hb5 (Nat.le_refl _)
      have HX5 : Hid (∀ V, Below w5.heap.size w5 V → V.cell? ⟨w4.heap.size, 0, none⟩ = some (.slice uA W.length uc) ∧ V.cell? ⟨w4.heap.size, 1, none⟩ = some (.slice vA L.length vc) ∧ WdS V (.slice uA W.length uc) W ∧ LoS V (.slice vA L.length vc) L) := Lib.hid (fun V hb => ⟨cell_keep hb hc5.1, cell_keep hb hc5.2, hu5.below hb (Nat.le_refl _), hv5.below hb (Nat.le_refl _)⟩)
      change Code.wp _ _ _ _ (w4.alloc (.cells #[.slice uA W.length uc, .slice vA L.length vc] 25))
      rw [← hw5]
      have hP2 := HP2.out w5 HB5.out
      clear hw5 hb5 hc5 hu5 hv5 HU4 HV4 hP1
      go_upto_region 8 with (go_at_call 18; (with_reducible refine hP2.mono ?_); rintro e w6 ⟨⟨u7, v7, rfl, hu, hv⟩, hb6⟩; (obtain ⟨yA, yc, rfl⟩ := hu.form); (obtain ⟨zA, zc, rfl⟩ := hv.form); have HU6 := Lib.hid hu; have HV6 := Lib.hid hv; have HB6 : Hid (Below w5.heap.size w5 w6) := Lib.hid hb6; clear hb6 hu hv)
      obtain ⟨w7, hw7⟩ : ∃ w7, w7 = w6.alloc (.cells #[.slice yA 0 yc, .slice zA 0 zc] 25) := ⟨_, rfl⟩
      have hb7 : Below w6.heap.size w6 w7 := by rw [hw7]; exact below_new w6 _
      have hc7 := cell2 w6 (.slice yA 0 yc) (.slice zA 0 zc) 25
      rw [← hw7] at hc7
      have HB7 : Hid (Below w5.heap.size w5 w7) := Lib.hid (HB6.out.trans (hb7.mono HB6.out.size))
      have HBW7 : Hid (Below w1.heap.size w1 w7) := Lib.hid (HB5.out.trans (HB7.out.mono HB5.out.size))
      have hu7 : WdS w7 (.slice yA 0 yc) [] := HU6.out.below hb7 (Nat.le_refl _)
      have hv7 : LoS w7 (.slice zA 0 zc) [] := HV6.out.below hb7 (Nat.le_refl _)
      have hT2 := dmgText_any hu7 hv7 (fun x hx => (by cases hx)) (HX.out w7 HBW7.out).1.2.2
      rw [show txL [] [] = [] from rfl, show ckE [] [] = 0 from rfl] at hT2
      change Code.wp _ _ _ _ (w6.alloc (.cells #[.slice yA 0 yc, .slice zA 0 zc] 25))
      rw [← hw7]
      obtain ⟨k0, k1⟩ := hc7
      clear hw7 hb7 hu7 hv7 HU6 HV6 hP2
      go_upto_region 9 with (go_at_call 7; (with_reducible refine hT2.mono ?_); rintro e w8 ⟨rfl, hb8⟩; have HB8 : Hid (Below w5.heap.size w5 w8) := Lib.hid (HB7.out.trans (hb8.mono HB7.out.size)); have HBW8 : Hid (Below w1.heap.size w1 w8) := Lib.hid (HB5.out.trans (HB8.out.mono HB5.out.size)); clear hb8)
      clear hT2 k0 k1
      have hS1 := HSO.out w8 HBW8.out
      obtain ⟨_, y0, y1⟩ := HX.out w8 HBW8.out
      go_upto_region 10 with (go_at_call 10; (with_reducible refine hS1.mono ?_); rintro e w9 ⟨sr, rfl, hsr, hb9⟩; (obtain ⟨sA, sc, rfl⟩ := hsr.form); have HSR9 := Lib.hid hsr; have HB9 : Hid (Below w5.heap.size w5 w9) := Lib.hid (HB8.out.trans (hb9.mono HB8.out.size)); have HBW9 : Hid (Below w1.heap.size w1 w9) := Lib.hid (HBW8.out.trans (hb9.mono HBW8.out.size)); clear hb9 hsr)
      rw [HSRL.out] at HSR9 ⊢
      clear hS1 y0 y1
      have hsr9 := HSR9.out
      have HC : Hid (∀ V, Below w9.heap.size w9 V → WdS V (.slice sA W.length sc) (srt W) ∧ V.cell? ⟨w.heap.size, 0, none⟩ = some (.slice A W.length ca) ∧ V.cell? ⟨w.heap.size, 1, none⟩ = some (.slice B L.length cb)) := Lib.hid (fun V hb => ⟨hsr9.below hb (Nat.le_refl _), (HX.out V (HBW9.out.trans (hb.mono HBW9.out.size))).2⟩)
      have hSo : ∀ V, Below w9.heap.size w9 V → Calls Tryz.prog 10 #[.slice sA W.length sc] V fun e w' => ∃ r, e = .returned r ∧ WdS w' r (srt W) ∧ Below V.heap.size V w' := fun V hb => by
        have h := dmgSort_any (HC.out V hb).1 (by rw [HSRL.out]; have := HLN.out; omega)
        rw [srt_srt] at h
        exact h
      have hO1 : ∀ V, Below w9.heap.size w9 V → Calls Tryz.prog 14 #[.agg #[.slice sA W.length sc, .slice none 0 0]] V fun e w' => e = .returned (.int .i64 oq) ∧ Below V.heap.size V w' := fun V hb => by
        have h := dmgOpen_any (HC.out V hb).1 (StS.nil V (k := 3) (enc := LO.enc) (z := LO.zero))
        rw [opn_srt, HOQ.out] at h
        exact h
      have hO2 : ∀ V, Below w9.heap.size w9 V → Calls Tryz.prog 14 #[.agg #[.slice A W.length ca, .slice B L.length cb]] V fun e w' => e = .returned (.int .i64 oq) ∧ Below V.heap.size V w' := fun V hb => by
        have h := HOP.out V (HBW9.out.trans (hb.mono HBW9.out.size))
        rw [HOQ.out] at h
        exact h
      have HD0 : Hid (Below w9.heap.size w9 w9.drew) := Lib.hid (Below.refl _ _).drew
      obtain ⟨_, y0, y1⟩ := HC.out w9 (Below.refl _ _)
      have HSM : Hid (∀ V, Below w9.heap.size w9 V → _) := Lib.hid (fun V hb => sameR_self (HX5.out V (HB9.out.trans (hb.mono HB9.out.size))).2.2.1 (HX5.out V (HB9.out.trans (hb.mono HB9.out.size))).2.2.2 (HX.out V (HBW9.out.trans (hb.mono HBW9.out.size))).1.1 (HX.out V (HBW9.out.trans (hb.mono HBW9.out.size))).1.2.1)
      clear hsr9 y0 y1
      go_region_held3 (fun V => V.cell? ⟨w.heap.size, 0, none⟩ = some (.slice A W.length ca) ∧ V.cell? ⟨w.heap.size, 1, none⟩ = some (.slice B L.length cb)) (first | with_reducible exact (HC.out _ HD0.out).2 | with_reducible exact (HC.out _ H10.out).2 | with_reducible exact (HC.out _ H11.out).2 | with_reducible exact (HC.out _ H12.out).2 | with_reducible exact (HC.out _ H13.out).2)
        (first
        | (go_at_call 10; (with_reducible refine (hSo _ HD0.out).mono ?_); rintro e w10 ⟨tr, rfl, htr, hb⟩; (obtain ⟨tA, tc, rfl⟩ := htr.form); have HTR := Lib.hid htr; have H10 : Hid (Below w9.heap.size w9 w10) := Lib.hid (HD0.out.trans (hb.mono HD0.out.size)); clear hb htr; obtain ⟨_, a0, a1⟩ := HC.out w10 H10.out)
        | (go_at_call 9; (with_reducible refine (sameW_self HTR.out (HC.out w10 H10.out).1).mono ?_); rintro e w11 ⟨rfl, hb⟩; have H11 : Hid (Below w9.heap.size w9 w11) := Lib.hid (H10.out.trans (hb.mono H10.out.size)); clear hb; obtain ⟨_, b0, b1⟩ := HC.out w11 H11.out)
        | (go_at_call 14; (with_reducible refine (hO1 _ (by first | exact H11.out | exact H13.out)).mono ?_); rintro e w12 ⟨rfl, hb⟩; have H12 : Hid (Below w9.heap.size w9 w12) := Lib.hid (by first | exact H11.out.trans (hb.mono H11.out.size) | exact H13.out.trans (hb.mono H13.out.size)); clear hb; obtain ⟨_, c0, c1⟩ := HC.out w12 H12.out)
        | (go_at_call 14; (with_reducible refine (hO2 _ (by first | exact H11.out | exact H12.out)).mono ?_); rintro e w13 ⟨rfl, hb⟩; have H13 : Hid (Below w9.heap.size w9 w13) := Lib.hid (by first | exact H11.out.trans (hb.mono H11.out.size) | exact H12.out.trans (hb.mono H12.out.size)); clear hb; obtain ⟨_, e0, e1⟩ := HC.out w13 H13.out))
      all_goals first
        | (obtain ⟨k0, k1, _, _⟩ := HX5.out w13 (HB9.out.trans (H13.out.mono HB9.out.size)); have hSm := HSM.out w13 H13.out; obtain ⟨_, g0, g1⟩ := HC.out w13 H13.out; go_wp2_with (go_at_call 20; (with_reducible refine hSm.mono ?_); rintro e w14 ⟨rfl, hb⟩; have H14 : Hid (Below w9.heap.size w9 w14) := Lib.hid (H13.out.trans (hb.mono H13.out.size)); clear hb); go_ret; exact ⟨rfl, HB1.out.trans ((HBW9.out.trans (H14.out.mono HBW9.out.size)).mono HB1.out.size)⟩)
        | (obtain ⟨k0, k1, _, _⟩ := HX5.out w12 (HB9.out.trans (H12.out.mono HB9.out.size)); have hSm := HSM.out w12 H12.out; obtain ⟨_, g0, g1⟩ := HC.out w12 H12.out; go_wp2_with (go_at_call 20; (with_reducible refine hSm.mono ?_); rintro e w14 ⟨rfl, hb⟩; have H14 : Hid (Below w9.heap.size w9 w14) := Lib.hid (H12.out.trans (hb.mono H12.out.size)); clear hb); go_ret; exact ⟨rfl, HB1.out.trans ((HBW9.out.trans (H14.out.mono HBW9.out.size)).mono HB1.out.size)⟩)
  · rw [hpp] at HP1
    have p0 : (ckE W L != 0) = true := by rw [bne_iff_ne]; exact hr
    have p1 : (ckE W L == 0) = false := by rw [beq_eq_false_iff_ne]; exact hr
    rcases hp2 with ⟨W2, L2, hp2, htx2, hck2⟩ | ⟨m2, e2, hp2, he2⟩
    · rw [hp2] at HP2
      clear hpp hr hp2
      go_enter Tryz.func5, Tryz.ntmps5
      go_upto_region 1 with fail
      rw [← HW1.out]
      go_upto_region 5 with (go_at_call 6; (with_reducible refine hLv.mono ?_); rintro e w2 ⟨rfl, hb2⟩; have HB2 := Lib.hid hb2; have hT1 := HT1.out w2 hb2; obtain ⟨_, y0, y1⟩ := HX.out w2 hb2; clear hb2)
      clear d1 d2 d3
      go_upto_region 6 with (go_at_call 7; (with_reducible refine hT1.mono ?_); rintro e w3 ⟨rfl, hb3⟩; have HB3 : Hid (Below w1.heap.size w1 w3) := Lib.hid (HB2.out.trans (hb3.mono HB2.out.size)); have hP1 := HP1.out w3 HB3.out; clear hb3)
      clear hT1 y0 y1
      go_upto_region 7 with (go_at_call 18; (with_reducible refine hP1.mono ?_); rintro e w4 ⟨⟨u5, v5, rfl, hu, hv⟩, hb4⟩; (obtain ⟨uA, uc, rfl⟩ := hu.form); (obtain ⟨vA, vc, rfl⟩ := hv.form); have HU4 := Lib.hid hu; have HV4 := Lib.hid hv; have HB4 : Hid (Below w1.heap.size w1 w4) := Lib.hid (HB3.out.trans (hb4.mono HB3.out.size)); clear hb4 hu hv)
      obtain ⟨w5, hw5⟩ : ∃ w5, w5 = w4.alloc (.cells #[.slice uA 0 uc, .slice vA 0 vc] 25) := ⟨_, rfl⟩
      have hb5 : Below w4.heap.size w4 w5 := by rw [hw5]; exact below_new w4 _
      have hc5 := cell2 w4 (.slice uA 0 uc) (.slice vA 0 vc) 25
      rw [← hw5] at hc5
      have HB5 : Hid (Below w1.heap.size w1 w5) := Lib.hid (HB4.out.trans (hb5.mono HB4.out.size))
      have hu5 : WdS w5 (.slice uA 0 uc) [] := HU4.out.below hb5 (Nat.le_refl _)
      have hv5 : LoS w5 (.slice vA 0 vc) [] := HV4.out.below hb5 (Nat.le_refl _)
      have HX5 : Hid (∀ V, Below w5.heap.size w5 V → V.cell? ⟨w4.heap.size, 0, none⟩ = some (.slice uA 0 uc) ∧ V.cell? ⟨w4.heap.size, 1, none⟩ = some (.slice vA 0 vc) ∧ WdS V (.slice uA 0 uc) [] ∧ LoS V (.slice vA 0 vc) []) := Lib.hid (fun V hb => ⟨cell_keep hb hc5.1, cell_keep hb hc5.2, hu5.below hb (Nat.le_refl _), hv5.below hb (Nat.le_refl _)⟩)
      change Code.wp _ _ _ _ (w4.alloc (.cells #[.slice uA 0 uc, .slice vA 0 vc] 25))
      rw [← hw5]
      have hP2 := HP2.out w5 HB5.out
      clear hw5 hb5 hc5 hu5 hv5 HU4 HV4 hP1
      go_upto_region 8 with (go_at_call 18; (with_reducible refine hP2.mono ?_); rintro e w6 ⟨⟨u7, v7, rfl, hu, hv⟩, hb6⟩; (obtain ⟨yA, yc, rfl⟩ := hu.form); (obtain ⟨zA, zc, rfl⟩ := hv.form); have HU6 := Lib.hid hu; have HV6 := Lib.hid hv; have HB6 : Hid (Below w5.heap.size w5 w6) := Lib.hid hb6; clear hb6 hu hv)
      obtain ⟨w7, hw7⟩ : ∃ w7, w7 = w6.alloc (.cells #[.slice yA W2.length yc, .slice zA L2.length zc] 25) := ⟨_, rfl⟩
      have hb7 : Below w6.heap.size w6 w7 := by rw [hw7]; exact below_new w6 _
      have hc7 := cell2 w6 (.slice yA W2.length yc) (.slice zA L2.length zc) 25
      rw [← hw7] at hc7
      have HB7 : Hid (Below w5.heap.size w5 w7) := Lib.hid (HB6.out.trans (hb7.mono HB6.out.size))
      have HBW7 : Hid (Below w1.heap.size w1 w7) := Lib.hid (HB5.out.trans (HB7.out.mono HB5.out.size))
      have hu7 : WdS w7 (.slice yA W2.length yc) W2 := HU6.out.below hb7 (Nat.le_refl _)
      have hv7 : LoS w7 (.slice zA L2.length zc) L2 := HV6.out.below hb7 (Nat.le_refl _)
      have hT2 := dmgText_any hu7 hv7 (ks_ok hck2) (HX.out w7 HBW7.out).1.2.2
      rw [htx2, hck2] at hT2
      change Code.wp _ _ _ _ (w6.alloc (.cells #[.slice yA W2.length yc, .slice zA L2.length zc] 25))
      rw [← hw7]
      obtain ⟨k0, k1⟩ := hc7
      clear hw7 hb7 hu7 hv7 HU6 HV6 hP2
      go_upto_region 9 with (go_at_call 7; (with_reducible refine hT2.mono ?_); rintro e w8 ⟨rfl, hb8⟩; have HB8 : Hid (Below w5.heap.size w5 w8) := Lib.hid (HB7.out.trans (hb8.mono HB7.out.size)); have HBW8 : Hid (Below w1.heap.size w1 w8) := Lib.hid (HB5.out.trans (HB8.out.mono HB5.out.size)); clear hb8)
      clear hT2 k0 k1
      have hS1 := HSO.out w8 HBW8.out
      obtain ⟨_, y0, y1⟩ := HX.out w8 HBW8.out
      go_upto_region 10 with (go_at_call 10; (with_reducible refine hS1.mono ?_); rintro e w9 ⟨sr, rfl, hsr, hb9⟩; (obtain ⟨sA, sc, rfl⟩ := hsr.form); have HSR9 := Lib.hid hsr; have HB9 : Hid (Below w5.heap.size w5 w9) := Lib.hid (HB8.out.trans (hb9.mono HB8.out.size)); have HBW9 : Hid (Below w1.heap.size w1 w9) := Lib.hid (HBW8.out.trans (hb9.mono HBW8.out.size)); clear hb9 hsr)
      rw [HSRL.out] at HSR9 ⊢
      clear hS1 y0 y1
      have hsr9 := HSR9.out
      have HC : Hid (∀ V, Below w9.heap.size w9 V → WdS V (.slice sA W.length sc) (srt W) ∧ V.cell? ⟨w.heap.size, 0, none⟩ = some (.slice A W.length ca) ∧ V.cell? ⟨w.heap.size, 1, none⟩ = some (.slice B L.length cb)) := Lib.hid (fun V hb => ⟨hsr9.below hb (Nat.le_refl _), (HX.out V (HBW9.out.trans (hb.mono HBW9.out.size))).2⟩)
      have hSo : ∀ V, Below w9.heap.size w9 V → Calls Tryz.prog 10 #[.slice sA W.length sc] V fun e w' => ∃ r, e = .returned r ∧ WdS w' r (srt W) ∧ Below V.heap.size V w' := fun V hb => by
        have h := dmgSort_any (HC.out V hb).1 (by rw [HSRL.out]; have := HLN.out; omega)
        rw [srt_srt] at h
        exact h
      have hO1 : ∀ V, Below w9.heap.size w9 V → Calls Tryz.prog 14 #[.agg #[.slice sA W.length sc, .slice none 0 0]] V fun e w' => e = .returned (.int .i64 oq) ∧ Below V.heap.size V w' := fun V hb => by
        have h := dmgOpen_any (HC.out V hb).1 (StS.nil V (k := 3) (enc := LO.enc) (z := LO.zero))
        rw [opn_srt, HOQ.out] at h
        exact h
      have hO2 : ∀ V, Below w9.heap.size w9 V → Calls Tryz.prog 14 #[.agg #[.slice A W.length ca, .slice B L.length cb]] V fun e w' => e = .returned (.int .i64 oq) ∧ Below V.heap.size V w' := fun V hb => by
        have h := HOP.out V (HBW9.out.trans (hb.mono HBW9.out.size))
        rw [HOQ.out] at h
        exact h
      have HD0 : Hid (Below w9.heap.size w9 w9.drew) := Lib.hid (Below.refl _ _).drew
      obtain ⟨_, y0, y1⟩ := HC.out w9 (Below.refl _ _)
      clear hsr9 y0 y1
      go_region_held3 (fun V => V.cell? ⟨w.heap.size, 0, none⟩ = some (.slice A W.length ca) ∧ V.cell? ⟨w.heap.size, 1, none⟩ = some (.slice B L.length cb)) (first | with_reducible exact (HC.out _ HD0.out).2 | with_reducible exact (HC.out _ H10.out).2 | with_reducible exact (HC.out _ H11.out).2 | with_reducible exact (HC.out _ H12.out).2 | with_reducible exact (HC.out _ H13.out).2)
        (first
        | (go_at_call 10; (with_reducible refine (hSo _ HD0.out).mono ?_); rintro e w10 ⟨tr, rfl, htr, hb⟩; (obtain ⟨tA, tc, rfl⟩ := htr.form); have HTR := Lib.hid htr; have H10 : Hid (Below w9.heap.size w9 w10) := Lib.hid (HD0.out.trans (hb.mono HD0.out.size)); clear hb htr; obtain ⟨_, a0, a1⟩ := HC.out w10 H10.out)
        | (go_at_call 9; (with_reducible refine (sameW_self HTR.out (HC.out w10 H10.out).1).mono ?_); rintro e w11 ⟨rfl, hb⟩; have H11 : Hid (Below w9.heap.size w9 w11) := Lib.hid (H10.out.trans (hb.mono H10.out.size)); clear hb; obtain ⟨_, b0, b1⟩ := HC.out w11 H11.out)
        | (go_at_call 14; (with_reducible refine (hO1 _ (by first | exact H11.out | exact H13.out)).mono ?_); rintro e w12 ⟨rfl, hb⟩; have H12 : Hid (Below w9.heap.size w9 w12) := Lib.hid (by first | exact H11.out.trans (hb.mono H11.out.size) | exact H13.out.trans (hb.mono H13.out.size)); clear hb; obtain ⟨_, c0, c1⟩ := HC.out w12 H12.out)
        | (go_at_call 14; (with_reducible refine (hO2 _ (by first | exact H11.out | exact H12.out)).mono ?_); rintro e w13 ⟨rfl, hb⟩; have H13 : Hid (Below w9.heap.size w9 w13) := Lib.hid (by first | exact H11.out.trans (hb.mono H11.out.size) | exact H12.out.trans (hb.mono H12.out.size)); clear hb; obtain ⟨_, e0, e1⟩ := HC.out w13 H13.out))
      all_goals first
        | (go_wp2; go_ret; exact ⟨rfl, HB1.out.trans ((HBW9.out.trans (H13.out.mono HBW9.out.size)).mono HB1.out.size)⟩)
        | (go_wp2; go_ret; exact ⟨rfl, HB1.out.trans ((HBW9.out.trans (H12.out.mono HBW9.out.size)).mono HB1.out.size)⟩)
    · rw [hp2] at HP2
      have q0 : (e2 != 0) = true := by rw [bne_iff_ne]; exact he2
      have q1 : (e2 == 0) = false := by rw [beq_eq_false_iff_ne]; exact he2
      clear hpp hr hp2 he2
      go_enter Tryz.func5, Tryz.ntmps5
      go_upto_region 1 with fail
      rw [← HW1.out]
      go_upto_region 5 with (go_at_call 6; (with_reducible refine hLv.mono ?_); rintro e w2 ⟨rfl, hb2⟩; have HB2 := Lib.hid hb2; have hT1 := HT1.out w2 hb2; obtain ⟨_, y0, y1⟩ := HX.out w2 hb2; clear hb2)
      clear d1 d2 d3
      go_upto_region 6 with (go_at_call 7; (with_reducible refine hT1.mono ?_); rintro e w3 ⟨rfl, hb3⟩; have HB3 : Hid (Below w1.heap.size w1 w3) := Lib.hid (HB2.out.trans (hb3.mono HB2.out.size)); have hP1 := HP1.out w3 HB3.out; clear hb3)
      clear hT1 y0 y1
      go_upto_region 7 with (go_at_call 18; (with_reducible refine hP1.mono ?_); rintro e w4 ⟨⟨u5, v5, rfl, hu, hv⟩, hb4⟩; (obtain ⟨uA, uc, rfl⟩ := hu.form); (obtain ⟨vA, vc, rfl⟩ := hv.form); have HU4 := Lib.hid hu; have HV4 := Lib.hid hv; have HB4 : Hid (Below w1.heap.size w1 w4) := Lib.hid (HB3.out.trans (hb4.mono HB3.out.size)); clear hb4 hu hv)
      obtain ⟨w5, hw5⟩ : ∃ w5, w5 = w4.alloc (.cells #[.slice uA 0 uc, .slice vA 0 vc] 25) := ⟨_, rfl⟩
      have hb5 : Below w4.heap.size w4 w5 := by rw [hw5]; exact below_new w4 _
      have hc5 := cell2 w4 (.slice uA 0 uc) (.slice vA 0 vc) 25
      rw [← hw5] at hc5
      have HB5 : Hid (Below w1.heap.size w1 w5) := Lib.hid (HB4.out.trans (hb5.mono HB4.out.size))
      have hu5 : WdS w5 (.slice uA 0 uc) [] := HU4.out.below hb5 (Nat.le_refl _)
      have hv5 : LoS w5 (.slice vA 0 vc) [] := HV4.out.below hb5 (Nat.le_refl _)
      have HX5 : Hid (∀ V, Below w5.heap.size w5 V → V.cell? ⟨w4.heap.size, 0, none⟩ = some (.slice uA 0 uc) ∧ V.cell? ⟨w4.heap.size, 1, none⟩ = some (.slice vA 0 vc) ∧ WdS V (.slice uA 0 uc) [] ∧ LoS V (.slice vA 0 vc) []) := Lib.hid (fun V hb => ⟨cell_keep hb hc5.1, cell_keep hb hc5.2, hu5.below hb (Nat.le_refl _), hv5.below hb (Nat.le_refl _)⟩)
      change Code.wp _ _ _ _ (w4.alloc (.cells #[.slice uA 0 uc, .slice vA 0 vc] 25))
      rw [← hw5]
      have hP2 := HP2.out w5 HB5.out
      clear hw5 hb5 hc5 hu5 hv5 HU4 HV4 hP1
      go_upto_region 8 with (go_at_call 18; (with_reducible refine hP2.mono ?_); rintro e w6 ⟨⟨u7, v7, rfl, hu, hv⟩, hb6⟩; (obtain ⟨yA, yc, rfl⟩ := hu.form); (obtain ⟨zA, zc, rfl⟩ := hv.form); have HU6 := Lib.hid hu; have HV6 := Lib.hid hv; have HB6 : Hid (Below w5.heap.size w5 w6) := Lib.hid hb6; clear hb6 hu hv)
      obtain ⟨w7, hw7⟩ : ∃ w7, w7 = w6.alloc (.cells #[.slice yA 0 yc, .slice zA 0 zc] 25) := ⟨_, rfl⟩
      have hb7 : Below w6.heap.size w6 w7 := by rw [hw7]; exact below_new w6 _
      have hc7 := cell2 w6 (.slice yA 0 yc) (.slice zA 0 zc) 25
      rw [← hw7] at hc7
      have HB7 : Hid (Below w5.heap.size w5 w7) := Lib.hid (HB6.out.trans (hb7.mono HB6.out.size))
      have HBW7 : Hid (Below w1.heap.size w1 w7) := Lib.hid (HB5.out.trans (HB7.out.mono HB5.out.size))
      have hu7 : WdS w7 (.slice yA 0 yc) [] := HU6.out.below hb7 (Nat.le_refl _)
      have hv7 : LoS w7 (.slice zA 0 zc) [] := HV6.out.below hb7 (Nat.le_refl _)
      have hT2 := dmgText_any hu7 hv7 (fun x hx => (by cases hx)) (HX.out w7 HBW7.out).1.2.2
      rw [show txL [] [] = [] from rfl, show ckE [] [] = 0 from rfl] at hT2
      change Code.wp _ _ _ _ (w6.alloc (.cells #[.slice yA 0 yc, .slice zA 0 zc] 25))
      rw [← hw7]
      obtain ⟨k0, k1⟩ := hc7
      clear hw7 hb7 hu7 hv7 HU6 HV6 hP2
      go_upto_region 9 with (go_at_call 7; (with_reducible refine hT2.mono ?_); rintro e w8 ⟨rfl, hb8⟩; have HB8 : Hid (Below w5.heap.size w5 w8) := Lib.hid (HB7.out.trans (hb8.mono HB7.out.size)); have HBW8 : Hid (Below w1.heap.size w1 w8) := Lib.hid (HB5.out.trans (HB8.out.mono HB5.out.size)); clear hb8)
      clear hT2 k0 k1
      have hS1 := HSO.out w8 HBW8.out
      obtain ⟨_, y0, y1⟩ := HX.out w8 HBW8.out
      go_upto_region 10 with (go_at_call 10; (with_reducible refine hS1.mono ?_); rintro e w9 ⟨sr, rfl, hsr, hb9⟩; (obtain ⟨sA, sc, rfl⟩ := hsr.form); have HSR9 := Lib.hid hsr; have HB9 : Hid (Below w5.heap.size w5 w9) := Lib.hid (HB8.out.trans (hb9.mono HB8.out.size)); have HBW9 : Hid (Below w1.heap.size w1 w9) := Lib.hid (HBW8.out.trans (hb9.mono HBW8.out.size)); clear hb9 hsr)
      rw [HSRL.out] at HSR9 ⊢
      clear hS1 y0 y1
      have hsr9 := HSR9.out
      have HC : Hid (∀ V, Below w9.heap.size w9 V → WdS V (.slice sA W.length sc) (srt W) ∧ V.cell? ⟨w.heap.size, 0, none⟩ = some (.slice A W.length ca) ∧ V.cell? ⟨w.heap.size, 1, none⟩ = some (.slice B L.length cb)) := Lib.hid (fun V hb => ⟨hsr9.below hb (Nat.le_refl _), (HX.out V (HBW9.out.trans (hb.mono HBW9.out.size))).2⟩)
      have hSo : ∀ V, Below w9.heap.size w9 V → Calls Tryz.prog 10 #[.slice sA W.length sc] V fun e w' => ∃ r, e = .returned r ∧ WdS w' r (srt W) ∧ Below V.heap.size V w' := fun V hb => by
        have h := dmgSort_any (HC.out V hb).1 (by rw [HSRL.out]; have := HLN.out; omega)
        rw [srt_srt] at h
        exact h
      have hO1 : ∀ V, Below w9.heap.size w9 V → Calls Tryz.prog 14 #[.agg #[.slice sA W.length sc, .slice none 0 0]] V fun e w' => e = .returned (.int .i64 oq) ∧ Below V.heap.size V w' := fun V hb => by
        have h := dmgOpen_any (HC.out V hb).1 (StS.nil V (k := 3) (enc := LO.enc) (z := LO.zero))
        rw [opn_srt, HOQ.out] at h
        exact h
      have hO2 : ∀ V, Below w9.heap.size w9 V → Calls Tryz.prog 14 #[.agg #[.slice A W.length ca, .slice B L.length cb]] V fun e w' => e = .returned (.int .i64 oq) ∧ Below V.heap.size V w' := fun V hb => by
        have h := HOP.out V (HBW9.out.trans (hb.mono HBW9.out.size))
        rw [HOQ.out] at h
        exact h
      have HD0 : Hid (Below w9.heap.size w9 w9.drew) := Lib.hid (Below.refl _ _).drew
      obtain ⟨_, y0, y1⟩ := HC.out w9 (Below.refl _ _)
      clear hsr9 y0 y1
      go_region_held3 (fun V => V.cell? ⟨w.heap.size, 0, none⟩ = some (.slice A W.length ca) ∧ V.cell? ⟨w.heap.size, 1, none⟩ = some (.slice B L.length cb)) (first | with_reducible exact (HC.out _ HD0.out).2 | with_reducible exact (HC.out _ H10.out).2 | with_reducible exact (HC.out _ H11.out).2 | with_reducible exact (HC.out _ H12.out).2 | with_reducible exact (HC.out _ H13.out).2)
        (first
        | (go_at_call 10; (with_reducible refine (hSo _ HD0.out).mono ?_); rintro e w10 ⟨tr, rfl, htr, hb⟩; (obtain ⟨tA, tc, rfl⟩ := htr.form); have HTR := Lib.hid htr; have H10 : Hid (Below w9.heap.size w9 w10) := Lib.hid (HD0.out.trans (hb.mono HD0.out.size)); clear hb htr; obtain ⟨_, a0, a1⟩ := HC.out w10 H10.out)
        | (go_at_call 9; (with_reducible refine (sameW_self HTR.out (HC.out w10 H10.out).1).mono ?_); rintro e w11 ⟨rfl, hb⟩; have H11 : Hid (Below w9.heap.size w9 w11) := Lib.hid (H10.out.trans (hb.mono H10.out.size)); clear hb; obtain ⟨_, b0, b1⟩ := HC.out w11 H11.out)
        | (go_at_call 14; (with_reducible refine (hO1 _ (by first | exact H11.out | exact H13.out)).mono ?_); rintro e w12 ⟨rfl, hb⟩; have H12 : Hid (Below w9.heap.size w9 w12) := Lib.hid (by first | exact H11.out.trans (hb.mono H11.out.size) | exact H13.out.trans (hb.mono H13.out.size)); clear hb; obtain ⟨_, c0, c1⟩ := HC.out w12 H12.out)
        | (go_at_call 14; (with_reducible refine (hO2 _ (by first | exact H11.out | exact H12.out)).mono ?_); rintro e w13 ⟨rfl, hb⟩; have H13 : Hid (Below w9.heap.size w9 w13) := Lib.hid (by first | exact H11.out.trans (hb.mono H11.out.size) | exact H12.out.trans (hb.mono H12.out.size)); clear hb; obtain ⟨_, e0, e1⟩ := HC.out w13 H13.out))
      all_goals first
        | (go_wp2; go_ret; exact ⟨rfl, HB1.out.trans ((HBW9.out.trans (H13.out.mono HBW9.out.size)).mono HB1.out.size)⟩)
        | (go_wp2; go_ret; exact ⟨rfl, HB1.out.trans ((HBW9.out.trans (H12.out.mono HBW9.out.size)).mono HB1.out.size)⟩)
end Go.Proofs.YtfmpbohiahjafaaGreatDoor
