/- Scripts: ScriptBack. -/
import Derived.Test.YtfmpbohiahjafaaDoorScrW
namespace Go.Proofs.YtfmpbohiahjafaaDoor
open Go.RowKit Go.Lib Go.Shelf Go.Sort

set_option maxHeartbeats 32000000 in
set_option maxRecDepth 100000 in
theorem scriptBack_any {w : World} {c : SU} {v : Value} {L : List DD} {T R : List UInt8} (hv : DdS w v L) (hc : SUok c) (hL : ∀ d ∈ L, DDok d) (hD : ScW w) :
    Calls Tryd.prog 5 #[.agg c.enc.toArray, v, .string ⟨T.toArray⟩, .string ⟨R.toArray⟩] w fun e w' => e = .returned (.bool true) ∧ Below w.heap.size w w' := by
  have HCO := Lib.hid hc
  have HLO := Lib.hid hL
  obtain ⟨s, k, m, cc, l⟩ := c
  show Calls Tryd.prog 5 #[.agg #[.int .i64 s, .int .i64 k, .int .i64 m, .int .i64 cc, .int .i64 l], v, .string ⟨T.toArray⟩, .string ⟨R.toArray⟩] w fun e w' => e = .returned (.bool true) ∧ Below w.heap.size w w'
  obtain ⟨w1, hw1⟩ : ∃ w1, w1 = w.alloc (.cells #[.int .i64 s, .int .i64 k, .int .i64 m, .int .i64 cc, .int .i64 l] 35) := ⟨_, rfl⟩
  have hb1 : Below w.heap.size w w1 := by rw [hw1]; exact below_new w _
  have c1 := C5.new w (.int .i64 s) (.int .i64 k) (.int .i64 m) (.int .i64 cc) (.int .i64 l) 35
  rw [← hw1] at c1
  have HB1 := Lib.hid hb1
  have HX : Hid (∀ V, Below w1.heap.size w1 V → ScW V ∧ DdS V v L ∧ C5 V w.heap.size (.int .i64 s) (.int .i64 k) (.int .i64 m) (.int .i64 cc) (.int .i64 l)) := Lib.hid (fun V hb =>
    ⟨(hD.below hb1).below hb, (hv.below hb1 (Nat.le_refl _)).below hb (Nat.le_refl _), c1.below hb⟩)
  have HW1 := Lib.hid hw1
  obtain ⟨A, ca, rfl⟩ := hv.form
  have hLv := scrLives_any (hD.below hb1)
  have hst := bsz T
  have hsr := bsz R
  clear hw1 hb1 c1 hv hD hc hL
  by_cases hbig : L.length ≤ 200 ∧ T.length ≤ 65536 ∧ R.length ≤ 32768
  case neg =>
    have HBG : Hid (¬ (L.length ≤ 200 ∧ T.length ≤ 65536 ∧ R.length ≤ 32768)) := Lib.hid hbig
    clear hbig
    clear HLO
    generalize L.length = n at HX HBG HW1 ⊢
    generalize T.length = tl at hst HBG
    generalize R.length = rl at hsr HBG
    by_cases h1 : 200 < n
    · have d1 : decide ((200 : Int) < (n : Int)) = true := decide_eq_true (by omega)
      go_enter Tryd.func5, Tryd.ntmps5
      go_upto_region 1 with fail
      rw [← HW1.out]
      go_wp2_with (go_at_call 6; (with_reducible refine hLv.mono ?_); rintro e w2 ⟨rfl, hb2⟩; have HB2 := Lib.hid hb2; clear hb2)
      go_ret
      exact ⟨rfl, HB1.out.trans (HB2.out.mono HB1.out.size)⟩
    have d1 : decide ((200 : Int) < (n : Int)) = false := decide_eq_false (by omega)
    by_cases h2 : 65536 < tl
    · have d2 : decide ((65536 : Int) < (tl : Int)) = true := decide_eq_true (by omega)
      go_enter Tryd.func5, Tryd.ntmps5
      go_upto_region 1 with fail
      rw [← HW1.out]
      go_wp2_with (go_at_call 6; (with_reducible refine hLv.mono ?_); rintro e w2 ⟨rfl, hb2⟩; have HB2 := Lib.hid hb2; clear hb2)
      go_ret
      exact ⟨rfl, HB1.out.trans (HB2.out.mono HB1.out.size)⟩
    have d2 : decide ((65536 : Int) < (tl : Int)) = false := decide_eq_false (by omega)
    have h3 : 32768 < rl := by have := HBG.out; omega
    have d3 : decide ((32768 : Int) < (rl : Int)) = true := decide_eq_true (by omega)
    go_enter Tryd.func5, Tryd.ntmps5
    go_upto_region 1 with fail
    rw [← HW1.out]
    go_wp2_with (go_at_call 6; (with_reducible refine hLv.mono ?_); rintro e w2 ⟨rfl, hb2⟩; have HB2 := Lib.hid hb2; clear hb2)
    go_ret
    exact ⟨rfl, HB1.out.trans (HB2.out.mono HB1.out.size)⟩
  obtain ⟨hn, hm, htl⟩ := hbig
  have HLN : Hid (L.length ≤ 200 ∧ T.length ≤ 65536 ∧ R.length ≤ 32768) := Lib.hid ⟨hn, hm, htl⟩
  have d1 : decide ((200 : Int) < (L.length : Int)) = false := decide_eq_false (by omega)
  have d2 : decide ((65536 : Int) < (T.length : Int)) = false := decide_eq_false (by omega)
  have d3 : decide ((32768 : Int) < (R.length : Int)) = false := decide_eq_false (by omega)
  clear hn hm htl
  -- the text: what is read, and written again
  obtain ⟨c2, L2, a2, e2, hg2, hc2, hL2, p3, e3, hp3, hF⟩ : ∃ c2 L2 a2 e2, getS T = (c2, L2, a2, e2) ∧ SUok c2 ∧ (∀ d ∈ L2, DDok d) ∧ ∃ p3 e3, putS c2 L2 = (p3, e3) ∧ ((e2 != 0) = true ∨ e2 = 0 ∧ e3 = 0 ∧ p3 = T) := by
    rcases getS_two T with ⟨c2, L2, h1, h2, h3, h4⟩ | ⟨a, e, h1, h2⟩
    · exact ⟨c2, L2, 0, 0, h1, h3, h4, T, 0, h2, .inr ⟨rfl, rfl, rfl⟩⟩
    · exact ⟨SU.zero, [], a, e, h1, su_zero_ok, fun d hd => (by cases hd), _, _, rfl, .inl (bne_iff_ne.2 h2)⟩
  obtain ⟨d5, e5, l6, e6, hd5, hp5, hn6, hF2⟩ : ∃ d5 e5 l6 e6, DDok d5 ∧ ((psD R).getD DD.zero = d5 ∧ (if (psD R).isSome then (0 : Int) else 6) = e5) ∧ ((lnD d5).getD [] = l6 ∧ eN (lnD d5) = e6) ∧ ((e5 != 0) = true ∨ e5 = 0 ∧ e6 = 0 ∧ l6 = R) := by
    cases h : psD R with
    | none => exact ⟨DD.zero, 6, _, _, ⟨by decide, by decide, i6z, i6z, i6z⟩, ⟨rfl, rfl⟩, ⟨rfl, rfl⟩, .inl (by decide)⟩
    | some d => exact ⟨d, 0, R, 0, psD_ok h, ⟨rfl, rfl⟩, ⟨by rw [lnD_of h]; rfl, by rw [lnD_of h]; rfl⟩, .inr ⟨rfl, rfl, rfl⟩⟩
  have HC2 := Lib.hid hc2
  have HL2 := Lib.hid hL2
  have HG2 : Hid (∀ V, Below w1.heap.size w1 V → Calls Tryd.prog 13 #[.string ⟨T.toArray⟩] V fun e w' => (∃ A cap, e = .returned (.tuple #[.agg #[.int .i64 c2.s, .int .i64 c2.k, .int .i64 c2.m, .int .i64 c2.c, .int .i64 c2.l], .slice A L2.length cap, .int .i64 a2, .int .i64 e2]) ∧ DdS w' (.slice A L2.length cap) L2) ∧ Below V.heap.size V w') := Lib.hid (fun V hb => get_is (T := T) (by have := HLN.out; omega) (HX.out V hb).1 hg2)
  have HP3 : Hid (∀ (V : World) (u : Value), Below w1.heap.size w1 V → DdS V u L2 → Calls Tryd.prog 11 #[.agg c2.enc.toArray, u] V fun e w' => e = .returned (.tuple #[.string ⟨p3.toArray⟩, .int .i64 e3]) ∧ Below V.heap.size V w') := Lib.hid (fun V u hb hu => by
    have h := put_any HC2.out HL2.out hu (HX.out V hb).1
    rw [hp3] at h
    exact h)
  have HP5 : Hid (∀ V, Below w1.heap.size w1 V → Calls Tryd.prog 9 #[.string ⟨R.toArray⟩] V fun e w' => e = .returned (.tuple #[.agg #[.int .u8 d5.k, .int .i64 d5.a, .int .i64 d5.b, .int .i64 d5.n, .string ⟨d5.t.toArray⟩], .int .i64 e5]) ∧ Below V.heap.size V w') := Lib.hid (fun V hb => by
    have h := parseD_tup (l := R) (by have := HLN.out; omega) (HX.out V hb).1
    rw [hp5.1, hp5.2] at h
    exact h)
  have HN6 : Hid (∀ V, Below w1.heap.size w1 V → Calls Tryd.prog 7 #[.agg #[.int .u8 d5.k, .int .i64 d5.a, .int .i64 d5.b, .int .i64 d5.n, .string ⟨d5.t.toArray⟩]] V fun e w' => e = .returned (.tuple #[.string ⟨l6.toArray⟩, .int .i64 e6]) ∧ Below V.heap.size V w') := Lib.hid (fun V hb => by
    have h := line_tup hd5 (HX.out V hb).1
    rw [hn6.1, hn6.2] at h
    exact h)
  have HF := Lib.hid hF
  have HF2 := Lib.hid hF2
  clear hg2 hc2 hL2 hp3 hF hd5 hp5 hn6 hF2 HC2 HL2
  obtain ⟨s2, k2, m2, cc2, l2⟩ := c2
  obtain ⟨n2, hn2⟩ : ∃ n2, L2.length = n2 := ⟨_, rfl⟩
  rw [hn2] at HG2
  dsimp only at HG2
  obtain ⟨dk, da, db, dn, dt⟩ := d5
  dsimp only at HP5 HN6
  rcases putS_two ⟨s, k, m, cc, l⟩ L with ⟨hp, hg⟩ | ⟨e1, hp, he1⟩
  · obtain ⟨p1, hp1⟩ : ∃ p1, p1 = putT ⟨s, k, m, cc, l⟩ L := ⟨_, rfl⟩
    have hlen := putT_len HCO.out HLO.out HLN.out.1 hp
    rw [← hp1] at hp hg hlen
    have HG1 : Hid (∀ V, Below w1.heap.size w1 V → Calls Tryd.prog 13 #[.string ⟨p1.toArray⟩] V fun e w' => (∃ A cap, e = .returned (.tuple #[.agg #[.int .i64 s, .int .i64 k, .int .i64 m, .int .i64 cc, .int .i64 l], .slice A L.length cap, .int .i64 0, .int .i64 0]) ∧ DdS w' (.slice A L.length cap) L) ∧ Below V.heap.size V w') := Lib.hid (fun V hb => get_is (T := p1) hlen (HX.out V hb).1 hg)
    have HP1 : Hid (∀ V, Below w1.heap.size w1 V → Calls Tryd.prog 11 #[.agg #[.int .i64 s, .int .i64 k, .int .i64 m, .int .i64 cc, .int .i64 l], .slice A L.length ca] V fun e w' => e = .returned (.tuple #[.string ⟨p1.toArray⟩, .int .i64 0]) ∧ Below V.heap.size V w') := Lib.hid (fun V hb => by
      have h := put_any HCO.out HLO.out (HX.out V hb).2.1 (HX.out V hb).1
      rw [hp] at h
      exact h)
    clear hp hg hlen hp1
    go_enter Tryd.func5, Tryd.ntmps5
    go_upto_region 1 with fail
    rw [← HW1.out]
    go_upto_region 5 with (go_at_call 6; (with_reducible refine hLv.mono ?_); rintro e w2 ⟨rfl, hb2⟩; have HB2 := Lib.hid hb2; have hP1 := HP1.out w2 hb2; obtain ⟨_, _, x0, x1, x2, x3, x4⟩ := HX.out w2 hb2; clear hb2)
    clear d1 d2 d3 hst hsr
    go_upto_region 6 with (go_at_call 11; (with_reducible refine hP1.mono ?_); rintro e w3 ⟨rfl, hb3⟩; have HB3 : Hid (Below w1.heap.size w1 w3) := Lib.hid (HB2.out.trans (hb3.mono HB2.out.size)); have hG1 := HG1.out w3 HB3.out; clear hb3)
    clear hP1 x0 x1 x2 x3 x4
    go_upto_region 7 with (go_at_call 13; (with_reducible refine hG1.mono ?_); rintro e w4 ⟨⟨gA, gc, rfl, hg⟩, hb4⟩; have HG4 := Lib.hid hg; have HB4 : Hid (Below w1.heap.size w1 w4) := Lib.hid (HB3.out.trans (hb4.mono HB3.out.size)); clear hb4 hg)
    obtain ⟨w5, hw5⟩ : ∃ w5, w5 = w4.alloc (.cells #[.int .i64 s, .int .i64 k, .int .i64 m, .int .i64 cc, .int .i64 l] 35) := ⟨_, rfl⟩
    have hb5 : Below w4.heap.size w4 w5 := by rw [hw5]; exact below_new w4 _
    have c5 := C5.new w4 (.int .i64 s) (.int .i64 k) (.int .i64 m) (.int .i64 cc) (.int .i64 l) 35
    rw [← hw5] at c5
    have HB5 : Hid (Below w1.heap.size w1 w5) := Lib.hid (HB4.out.trans (hb5.mono HB4.out.size))
    have hg5 : DdS w5 (.slice gA L.length gc) L := HG4.out.below hb5 (Nat.le_refl _)
    obtain ⟨y0, y1, y2, y3, y4⟩ := c5
    obtain ⟨_, hv5, x0, x1, x2, x3, x4⟩ := HX.out w5 HB5.out
    change Code.wp _ _ _ _ (w4.alloc (.cells #[.int .i64 s, .int .i64 k, .int .i64 m, .int .i64 cc, .int .i64 l] 35))
    rw [← hw5]
    clear hw5 hb5 hG1 HG4
    have hSM := sameD_self hg5 hv5
    clear hv5 hg5
    go_upto_region 9 with (go_at_call 15; (with_reducible refine hSM.mono ?_); rintro e w6 ⟨rfl, hb⟩; have HB6 : Hid (Below w1.heap.size w1 w6) := Lib.hid (HB5.out.trans (hb.mono HB5.out.size)); clear hb)
    clear hSM
    clear x0 x1 x2 x3 x4 y0 y1 y2 y3 y4
    have hG2 := HG2.out w6 HB6.out
    go_upto_region 10 with (go_at_call 13; (with_reducible refine hG2.mono ?_); rintro e w7 ⟨⟨hA, hcp, rfl, hg⟩, hb7⟩; have HG7 := Lib.hid hg; have HB7 : Hid (Below w1.heap.size w1 w7) := Lib.hid (HB6.out.trans (hb7.mono HB6.out.size)); clear hb7 hg)
    obtain ⟨w8, hw8⟩ : ∃ w8, w8 = w7.alloc (.cells #[.int .i64 s2, .int .i64 k2, .int .i64 m2, .int .i64 cc2, .int .i64 l2] 35) := ⟨_, rfl⟩
    have hb8 : Below w7.heap.size w7 w8 := by rw [hw8]; exact below_new w7 _
    have c8 := C5.new w7 (.int .i64 s2) (.int .i64 k2) (.int .i64 m2) (.int .i64 cc2) (.int .i64 l2) 35
    rw [← hw8] at c8
    have HB8 : Hid (Below w1.heap.size w1 w8) := Lib.hid (HB7.out.trans (hb8.mono HB7.out.size))
    have hP3 : Calls Tryd.prog 11 #[.agg #[.int .i64 s2, .int .i64 k2, .int .i64 m2, .int .i64 cc2, .int .i64 l2], .slice hA n2 hcp] w8 fun e w' => e = .returned (.tuple #[.string ⟨p3.toArray⟩, .int .i64 e3]) ∧ Below w8.heap.size w8 w' := HP3.out _ _ HB8.out (HG7.out.below hb8 (Nat.le_refl _))
    obtain ⟨y0, y1, y2, y3, y4⟩ := c8
    change Code.wp _ _ _ _ (w7.alloc (.cells #[.int .i64 s2, .int .i64 k2, .int .i64 m2, .int .i64 cc2, .int .i64 l2] 35))
    rw [← hw8]
    clear hw8 hb8 hG2 HG7
    go_upto_region 11 with (go_at_call 11; (with_reducible refine hP3.mono ?_); rintro e w9 ⟨rfl, hb9⟩; have HB9 : Hid (Below w1.heap.size w1 w9) := Lib.hid (HB8.out.trans (hb9.mono HB8.out.size)); have hP5 := HP5.out w9 HB9.out; clear hb9)
    clear hP3 y0 y1 y2 y3 y4
    go_upto_region 12 with (go_at_call 9; (with_reducible refine hP5.mono ?_); rintro e w10 ⟨rfl, hb10⟩; have HB10 : Hid (Below w1.heap.size w1 w10) := Lib.hid (HB9.out.trans (hb10.mono HB9.out.size)); clear hb10)
    obtain ⟨w11, hw11⟩ : ∃ w11, w11 = w10.alloc (.cells #[.int .u8 dk, .int .i64 da, .int .i64 db, .int .i64 dn, .string ⟨dt.toArray⟩] 24) := ⟨_, rfl⟩
    have hb11 : Below w10.heap.size w10 w11 := by rw [hw11]; exact below_new w10 _
    have c11 := C5.new w10 (.int .u8 dk) (.int .i64 da) (.int .i64 db) (.int .i64 dn) (.string ⟨dt.toArray⟩) 24
    rw [← hw11] at c11
    have HB11 : Hid (Below w1.heap.size w1 w11) := Lib.hid (HB10.out.trans (hb11.mono HB10.out.size))
    have hN6 := HN6.out w11 HB11.out
    obtain ⟨y0, y1, y2, y3, y4⟩ := c11
    change Code.wp _ _ _ _ (w10.alloc (.cells #[.int .u8 dk, .int .i64 da, .int .i64 db, .int .i64 dn, .string ⟨dt.toArray⟩] 24))
    rw [← hw11]
    clear hw11 hb11 hP5
    go_upto_region 13 with (go_at_call 7; (with_reducible refine hN6.mono ?_); rintro e w12 ⟨rfl, hb12⟩; have HB12 : Hid (Below w1.heap.size w1 w12) := Lib.hid (HB11.out.trans (hb12.mono HB11.out.size)); clear hb12)
    clear hN6 y0 y1 y2 y3 y4
    rcases HF.out with f1 | ⟨rfl, rfl, rfl⟩ <;> rcases HF2.out with f2 | ⟨rfl, rfl, rfl⟩
    all_goals
      go_wp2
      go_ret
      exact ⟨rfl, HB1.out.trans (HB12.out.mono HB1.out.size)⟩
  · have HG1 : Hid (∀ V, Below w1.heap.size w1 V → Calls Tryd.prog 13 #[.string ⟨#[]⟩] V fun e w' => (∃ A cap, e = .returned (.tuple #[.agg #[.int .i64 0, .int .i64 0, .int .i64 0, .int .i64 0, .int .i64 0], .slice A 0 cap, .int .i64 1, .int .i64 6]) ∧ DdS w' (.slice A 0 cap) []) ∧ Below V.heap.size V w') := Lib.hid (fun V hb => get_is (T := []) (by decide) (HX.out V hb).1 lv_get0)
    have q0 : (e1 == 0) = false := by rw [beq_eq_false_iff_ne]; exact he1
    have HP1 : Hid (∀ V, Below w1.heap.size w1 V → Calls Tryd.prog 11 #[.agg #[.int .i64 s, .int .i64 k, .int .i64 m, .int .i64 cc, .int .i64 l], .slice A L.length ca] V fun e w' => e = .returned (.tuple #[.string ⟨#[]⟩, .int .i64 e1]) ∧ Below V.heap.size V w') := Lib.hid (fun V hb => by
      have h := put_any HCO.out HLO.out (HX.out V hb).2.1 (HX.out V hb).1
      rw [hp] at h
      exact h)
    clear hp he1
    go_enter Tryd.func5, Tryd.ntmps5
    go_upto_region 1 with fail
    rw [← HW1.out]
    go_upto_region 5 with (go_at_call 6; (with_reducible refine hLv.mono ?_); rintro e w2 ⟨rfl, hb2⟩; have HB2 := Lib.hid hb2; have hP1 := HP1.out w2 hb2; obtain ⟨_, _, x0, x1, x2, x3, x4⟩ := HX.out w2 hb2; clear hb2)
    clear d1 d2 d3 hst hsr
    go_upto_region 6 with (go_at_call 11; (with_reducible refine hP1.mono ?_); rintro e w3 ⟨rfl, hb3⟩; have HB3 : Hid (Below w1.heap.size w1 w3) := Lib.hid (HB2.out.trans (hb3.mono HB2.out.size)); have hG1 := HG1.out w3 HB3.out; clear hb3)
    clear hP1 x0 x1 x2 x3 x4
    go_upto_region 7 with (go_at_call 13; (with_reducible refine hG1.mono ?_); rintro e w4 ⟨⟨gA, gc, rfl, hg⟩, hb4⟩; have HG4 := Lib.hid hg; have HB4 : Hid (Below w1.heap.size w1 w4) := Lib.hid (HB3.out.trans (hb4.mono HB3.out.size)); clear hb4 hg)
    obtain ⟨w5, hw5⟩ : ∃ w5, w5 = w4.alloc (.cells #[.int .i64 0, .int .i64 0, .int .i64 0, .int .i64 0, .int .i64 0] 35) := ⟨_, rfl⟩
    have hb5 : Below w4.heap.size w4 w5 := by rw [hw5]; exact below_new w4 _
    have c5 := C5.new w4 (.int .i64 0) (.int .i64 0) (.int .i64 0) (.int .i64 0) (.int .i64 0) 35
    rw [← hw5] at c5
    have HB5 : Hid (Below w1.heap.size w1 w5) := Lib.hid (HB4.out.trans (hb5.mono HB4.out.size))
    have hg5 : DdS w5 (.slice gA 0 gc) [] := HG4.out.below hb5 (Nat.le_refl _)
    obtain ⟨y0, y1, y2, y3, y4⟩ := c5
    obtain ⟨_, hv5, x0, x1, x2, x3, x4⟩ := HX.out w5 HB5.out
    change Code.wp _ _ _ _ (w4.alloc (.cells #[.int .i64 0, .int .i64 0, .int .i64 0, .int .i64 0, .int .i64 0] 35))
    rw [← hw5]
    clear hw5 hb5 hG1 HG4
    clear hv5 hg5
    go_upto_region 9 with fail
    have HB6 := HB5
    obtain ⟨w6, hw6⟩ : ∃ w6, w6 = w5 := ⟨_, rfl⟩
    rw [← hw6] at HB6 ⊢
    clear hw6
    clear x0 x1 x2 x3 x4 y0 y1 y2 y3 y4
    have hG2 := HG2.out w6 HB6.out
    go_upto_region 10 with (go_at_call 13; (with_reducible refine hG2.mono ?_); rintro e w7 ⟨⟨hA, hcp, rfl, hg⟩, hb7⟩; have HG7 := Lib.hid hg; have HB7 : Hid (Below w1.heap.size w1 w7) := Lib.hid (HB6.out.trans (hb7.mono HB6.out.size)); clear hb7 hg)
    obtain ⟨w8, hw8⟩ : ∃ w8, w8 = w7.alloc (.cells #[.int .i64 s2, .int .i64 k2, .int .i64 m2, .int .i64 cc2, .int .i64 l2] 35) := ⟨_, rfl⟩
    have hb8 : Below w7.heap.size w7 w8 := by rw [hw8]; exact below_new w7 _
    have c8 := C5.new w7 (.int .i64 s2) (.int .i64 k2) (.int .i64 m2) (.int .i64 cc2) (.int .i64 l2) 35
    rw [← hw8] at c8
    have HB8 : Hid (Below w1.heap.size w1 w8) := Lib.hid (HB7.out.trans (hb8.mono HB7.out.size))
    have hP3 : Calls Tryd.prog 11 #[.agg #[.int .i64 s2, .int .i64 k2, .int .i64 m2, .int .i64 cc2, .int .i64 l2], .slice hA n2 hcp] w8 fun e w' => e = .returned (.tuple #[.string ⟨p3.toArray⟩, .int .i64 e3]) ∧ Below w8.heap.size w8 w' := HP3.out _ _ HB8.out (HG7.out.below hb8 (Nat.le_refl _))
    obtain ⟨y0, y1, y2, y3, y4⟩ := c8
    change Code.wp _ _ _ _ (w7.alloc (.cells #[.int .i64 s2, .int .i64 k2, .int .i64 m2, .int .i64 cc2, .int .i64 l2] 35))
    rw [← hw8]
    clear hw8 hb8 hG2 HG7
    go_upto_region 11 with (go_at_call 11; (with_reducible refine hP3.mono ?_); rintro e w9 ⟨rfl, hb9⟩; have HB9 : Hid (Below w1.heap.size w1 w9) := Lib.hid (HB8.out.trans (hb9.mono HB8.out.size)); have hP5 := HP5.out w9 HB9.out; clear hb9)
    clear hP3 y0 y1 y2 y3 y4
    go_upto_region 12 with (go_at_call 9; (with_reducible refine hP5.mono ?_); rintro e w10 ⟨rfl, hb10⟩; have HB10 : Hid (Below w1.heap.size w1 w10) := Lib.hid (HB9.out.trans (hb10.mono HB9.out.size)); clear hb10)
    obtain ⟨w11, hw11⟩ : ∃ w11, w11 = w10.alloc (.cells #[.int .u8 dk, .int .i64 da, .int .i64 db, .int .i64 dn, .string ⟨dt.toArray⟩] 24) := ⟨_, rfl⟩
    have hb11 : Below w10.heap.size w10 w11 := by rw [hw11]; exact below_new w10 _
    have c11 := C5.new w10 (.int .u8 dk) (.int .i64 da) (.int .i64 db) (.int .i64 dn) (.string ⟨dt.toArray⟩) 24
    rw [← hw11] at c11
    have HB11 : Hid (Below w1.heap.size w1 w11) := Lib.hid (HB10.out.trans (hb11.mono HB10.out.size))
    have hN6 := HN6.out w11 HB11.out
    obtain ⟨y0, y1, y2, y3, y4⟩ := c11
    change Code.wp _ _ _ _ (w10.alloc (.cells #[.int .u8 dk, .int .i64 da, .int .i64 db, .int .i64 dn, .string ⟨dt.toArray⟩] 24))
    rw [← hw11]
    clear hw11 hb11 hP5
    go_upto_region 13 with (go_at_call 7; (with_reducible refine hN6.mono ?_); rintro e w12 ⟨rfl, hb12⟩; have HB12 : Hid (Below w1.heap.size w1 w12) := Lib.hid (HB11.out.trans (hb12.mono HB11.out.size)); clear hb12)
    clear hN6 y0 y1 y2 y3 y4
    rcases HF.out with f1 | ⟨rfl, rfl, rfl⟩ <;> rcases HF2.out with f2 | ⟨rfl, rfl, rfl⟩
    all_goals
      go_wp2
      go_ret
      exact ⟨rfl, HB1.out.trans (HB12.out.mono HB1.out.size)⟩
end Go.Proofs.YtfmpbohiahjafaaDoor
