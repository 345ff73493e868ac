/- Uses of clusters: the walk of SpaceTells. -/
import Derived.Test.YtoaofhgkpnpglaaSpcH
namespace Go.Proofs.Ytoaofhgkpnpglaa
open Go.RowKit

theorem used2_any {w : World} {v : Value} {Q : List Bool} (h : UseS w v Q) (hq : Q.length ≤ 5000) :
    Calls Try.prog 19 #[v] w fun e w' => ∃ r, e = .returned r ∧ IdxS w' r (intsN (fr true Q)) ∧ Below w.heap.size w w' :=
  (rfUsed_any h hq).mono fun _ _ ⟨r, he, hr, hb⟩ => ⟨r, he, idxS_of (by rw [← ivs_ints]; exact hr), hb⟩
set_option maxRecDepth 100000 in
set_option maxHeartbeats 4000000 in
theorem spaceTells_few {w : World} {u a : Value} {Q : List Bool} {L : List Int} (h : UseS w u Q) (ha : IdxS w a L) (n c : Int) (hc : ¬ (c > 300 ∧ c ≤ 4096)) (hq : Q.length ≤ 5000) (hL : L.length ≤ 300) :
    Calls Try.prog 3 #[u, a, .int .i64 n, .int .i64 c] w fun e w' => e = .returned (.bool true) ∧ Below w.heap.size w w' := by
  have hL5 : L.length ≤ 5000 := by omega
  have hC1 := fun (W : World) (h1 : UseS W u Q) (h2 : IdxS W a L) => spMark_any h1 h2 hq hL5
  have hC2 := fun (W : World) (h1 : UseS W u Q) (h2 : IdxS W a L) => rfMark_any h1 h2 hq hL5
  have hC3 := fun (W : World) (h1 : UseS W u Q) (h2 : IdxS W a L) => spGive_any h1 h2 hq hL5
  have hC4 := fun (W : World) (h1 : UseS W u Q) (h2 : IdxS W a L) => rfGive_any h1 h2 hq hL5
  have hC5 := fun (W : World) (h1 : UseS W u Q) => spTake_any h1 hq n
  have hC6 := fun (W : World) (h1 : UseS W u Q) => rfTake_any h1 hq n
  have hC7 := fun (W : World) => spNew_any c W
  have hC8 := fun (W : World) => rfNew_any c W
  have hC9 := fun (W : World) (h1 : UseS W u Q) => free_any h1 hq
  have hC10 := fun (W : World) (h1 : UseS W u Q) => rfFree_any h1 hq
  have hC11 := fun (W : World) (h1 : UseS W u Q) => used_any h1 hq
  have hC12 := fun (W : World) (h1 : UseS W u Q) => used2_any h1 hq
  have HU := Lib.hid h
  have HI := Lib.hid ha
  obtain ⟨A, cap, rfl, -⟩ := h
  obtain ⟨A0, cap0, rfl, -⟩ := ha
  have g1 : decide ((Q.length : Int) > 5000) = false := decide_eq_false (by omega)
  have g2 : decide ((L.length : Int) > 300) = false := decide_eq_false (by omega)
  have g3 : decide (c > 300) = false ∨ decide (c > 300) = true ∧ decide (c ≤ 4096) = false := by
    by_cases k : c > 300
    · exact .inr ⟨decide_eq_true k, decide_eq_false (fun e => hc ⟨k, e⟩)⟩
    · exact .inl (decide_eq_false k)
  generalize turnF true 4 Q L Q = t1 at hC1 hC2
  obtain ⟨t1, z1⟩ := t1
  generalize turnF false 3 Q L Q = t3 at hC3 hC4
  obtain ⟨t3, z3⟩ := t3
  generalize takeU Q n = t5 at hC5 hC6
  generalize takeE Q n = z5 at hC5 hC6
  generalize intsN (takeL Q n) = l5 at hC5 hC6
  generalize newU c = t7 at hC7 hC8
  generalize newE c = z7 at hC7 hC8
  generalize (fr false Q).length = nf at hC9 hC10
  generalize intsN (fr true Q) = lu at hC11 hC12
  dsimp only at hC1 hC2 hC3 hC4
  have HB := Lib.hid (Below.refl w.heap.size w)
  have HC1 := Lib.hid hC1
  have HC2 := Lib.hid hC2
  have HC3 := Lib.hid hC3
  have HC4 := Lib.hid hC4
  have HC5 := Lib.hid hC5
  have HC6 := Lib.hid hC6
  have HC7 := Lib.hid hC7
  have HC8 := Lib.hid hC8
  have HC9 := Lib.hid hC9
  have HC10 := Lib.hid hC10
  have HC11 := Lib.hid hC11
  have HC12 := Lib.hid hC12
  clear hc hq hL hL5 hC1 hC2 hC3 hC4 hC5 hC6 hC7 hC8 hC9 hC10 hC11 hC12
  go_enter Try.func3, Try.ntmps3
  rcases g3 with g3 | ⟨g3, g4⟩
  all_goals go_upto_region 4 with (go_at_call 6; refine (HC1.out _ HU.out HI.out).mono ?_; rintro e w9 ⟨r, rfl, hO, hb⟩; replace HU := Lib.hid (HU.out.below hb (Nat.le_refl _)); replace HI := Lib.hid (HI.out.below hb (Nat.le_refl _)); replace HB := Lib.hid (HB.out.trans (hb.mono HB.out.size)); have HA1 := Lib.hid hO.use; obtain ⟨B1, k1, rfl, -⟩ := hO; clear hb)
  all_goals go_upto_region 5 with (go_at_call 7; refine (HC2.out _ HU.out HI.out).mono ?_; rintro e w9 ⟨r, rfl, hO, hb⟩; replace HU := Lib.hid (HU.out.below hb (Nat.le_refl _)); replace HI := Lib.hid (HI.out.below hb (Nat.le_refl _)); replace HA1 := Lib.hid (HA1.out.below hb (Nat.le_refl _)); replace HB := Lib.hid (HB.out.trans (hb.mono HB.out.size)); have HA2 := Lib.hid hO.use; obtain ⟨B2, k2, rfl, -⟩ := hO; clear hb)
  all_goals go_upto_region 6 with (go_at_call 8; refine (HC3.out _ HU.out HI.out).mono ?_; rintro e w9 ⟨r, rfl, hO, hb⟩; replace HU := Lib.hid (HU.out.below hb (Nat.le_refl _)); replace HI := Lib.hid (HI.out.below hb (Nat.le_refl _)); replace HA1 := Lib.hid (HA1.out.below hb (Nat.le_refl _)); replace HA2 := Lib.hid (HA2.out.below hb (Nat.le_refl _)); replace HB := Lib.hid (HB.out.trans (hb.mono HB.out.size)); have HA3 := Lib.hid hO.use; obtain ⟨B3, k3, rfl, -⟩ := hO; clear hb)
  all_goals go_upto_region 7 with (go_at_call 9; refine (HC4.out _ HU.out HI.out).mono ?_; rintro e w9 ⟨r, rfl, hO, hb⟩; replace HU := Lib.hid (HU.out.below hb (Nat.le_refl _)); replace HI := Lib.hid (HI.out.below hb (Nat.le_refl _)); replace HA1 := Lib.hid (HA1.out.below hb (Nat.le_refl _)); replace HA2 := Lib.hid (HA2.out.below hb (Nat.le_refl _)); replace HA3 := Lib.hid (HA3.out.below hb (Nat.le_refl _)); replace HB := Lib.hid (HB.out.trans (hb.mono HB.out.size)); have HA4 := Lib.hid hO.use; obtain ⟨B4, k4, rfl, -⟩ := hO; clear hb)
  all_goals go_upto_region 8 with (go_at_call 10; refine (HC5.out _ HU.out).mono ?_; rintro e w9 ⟨r, l, rfl, hO, hi, hb⟩; replace HU := Lib.hid (HU.out.below hb (Nat.le_refl _)); replace HI := Lib.hid (HI.out.below hb (Nat.le_refl _)); replace HA1 := Lib.hid (HA1.out.below hb (Nat.le_refl _)); replace HA2 := Lib.hid (HA2.out.below hb (Nat.le_refl _)); replace HA3 := Lib.hid (HA3.out.below hb (Nat.le_refl _)); replace HA4 := Lib.hid (HA4.out.below hb (Nat.le_refl _)); replace HB := Lib.hid (HB.out.trans (hb.mono HB.out.size)); have HA5 := Lib.hid hO.use; have HL1 := Lib.hid hi; obtain ⟨B5, k5, rfl, -⟩ := hO; obtain ⟨D5, d5, rfl, -⟩ := hi; clear hb)
  all_goals go_upto_region 9 with (go_at_call 11; refine (HC6.out _ HU.out).mono ?_; rintro e w9 ⟨r, l, rfl, hO, hi, hb⟩; replace HU := Lib.hid (HU.out.below hb (Nat.le_refl _)); replace HI := Lib.hid (HI.out.below hb (Nat.le_refl _)); replace HA1 := Lib.hid (HA1.out.below hb (Nat.le_refl _)); replace HA2 := Lib.hid (HA2.out.below hb (Nat.le_refl _)); replace HA3 := Lib.hid (HA3.out.below hb (Nat.le_refl _)); replace HA4 := Lib.hid (HA4.out.below hb (Nat.le_refl _)); replace HA5 := Lib.hid (HA5.out.below hb (Nat.le_refl _)); replace HL1 := Lib.hid (HL1.out.below hb (Nat.le_refl _)); replace HB := Lib.hid (HB.out.trans (hb.mono HB.out.size)); have HA6 := Lib.hid hO.use; have HL2 := Lib.hid hi; obtain ⟨B6, k6, rfl, -⟩ := hO; obtain ⟨D6, d6, rfl, -⟩ := hi; clear hb)
  all_goals go_upto_region 10 with (go_at_call 12; refine (HC7.out _).mono ?_; rintro e w9 ⟨r, rfl, hO, hb⟩; replace HU := Lib.hid (HU.out.below hb (Nat.le_refl _)); replace HI := Lib.hid (HI.out.below hb (Nat.le_refl _)); replace HA1 := Lib.hid (HA1.out.below hb (Nat.le_refl _)); replace HA2 := Lib.hid (HA2.out.below hb (Nat.le_refl _)); replace HA3 := Lib.hid (HA3.out.below hb (Nat.le_refl _)); replace HA4 := Lib.hid (HA4.out.below hb (Nat.le_refl _)); replace HA5 := Lib.hid (HA5.out.below hb (Nat.le_refl _)); replace HL1 := Lib.hid (HL1.out.below hb (Nat.le_refl _)); replace HA6 := Lib.hid (HA6.out.below hb (Nat.le_refl _)); replace HL2 := Lib.hid (HL2.out.below hb (Nat.le_refl _)); replace HB := Lib.hid (HB.out.trans (hb.mono HB.out.size)); have HA7 := Lib.hid hO.use; obtain ⟨B7, k7, rfl, -⟩ := hO; clear hb)
  all_goals go_upto_region 11 with (go_at_call 13; refine (HC8.out _).mono ?_; rintro e w9 ⟨r, rfl, hO, hb⟩; replace HU := Lib.hid (HU.out.below hb (Nat.le_refl _)); replace HI := Lib.hid (HI.out.below hb (Nat.le_refl _)); replace HA1 := Lib.hid (HA1.out.below hb (Nat.le_refl _)); replace HA2 := Lib.hid (HA2.out.below hb (Nat.le_refl _)); replace HA3 := Lib.hid (HA3.out.below hb (Nat.le_refl _)); replace HA4 := Lib.hid (HA4.out.below hb (Nat.le_refl _)); replace HA5 := Lib.hid (HA5.out.below hb (Nat.le_refl _)); replace HL1 := Lib.hid (HL1.out.below hb (Nat.le_refl _)); replace HA6 := Lib.hid (HA6.out.below hb (Nat.le_refl _)); replace HL2 := Lib.hid (HL2.out.below hb (Nat.le_refl _)); replace HA7 := Lib.hid (HA7.out.below hb (Nat.le_refl _)); replace HB := Lib.hid (HB.out.trans (hb.mono HB.out.size)); have HA8 := Lib.hid hO.use; obtain ⟨B8, k8, rfl, -⟩ := hO; clear hb)
  all_goals go_wp2_with (first
    | (go_at_call 5; (with_reducible refine (spLives_any _).mono ?_); rintro e w9 ⟨rfl, hb⟩; replace HU := Lib.hid (HU.out.below hb (Nat.le_refl _)); replace HI := Lib.hid (HI.out.below hb (Nat.le_refl _)); replace HA1 := Lib.hid (HA1.out.below hb (Nat.le_refl _)); replace HA2 := Lib.hid (HA2.out.below hb (Nat.le_refl _)); replace HA3 := Lib.hid (HA3.out.below hb (Nat.le_refl _)); replace HA4 := Lib.hid (HA4.out.below hb (Nat.le_refl _)); replace HA5 := Lib.hid (HA5.out.below hb (Nat.le_refl _)); replace HL1 := Lib.hid (HL1.out.below hb (Nat.le_refl _)); replace HA6 := Lib.hid (HA6.out.below hb (Nat.le_refl _)); replace HL2 := Lib.hid (HL2.out.below hb (Nat.le_refl _)); replace HA7 := Lib.hid (HA7.out.below hb (Nat.le_refl _)); replace HA8 := Lib.hid (HA8.out.below hb (Nat.le_refl _)); replace HB := Lib.hid (HB.out.trans (hb.mono HB.out.size)); clear hb)
    | (go_at_call 14; (with_reducible refine (l_sameU HA1.out HA2.out).mono ?_); rintro e w9 ⟨rfl, hb⟩; replace HU := Lib.hid (HU.out.below hb (Nat.le_refl _)); replace HI := Lib.hid (HI.out.below hb (Nat.le_refl _)); replace HA1 := Lib.hid (HA1.out.below hb (Nat.le_refl _)); replace HA2 := Lib.hid (HA2.out.below hb (Nat.le_refl _)); replace HA3 := Lib.hid (HA3.out.below hb (Nat.le_refl _)); replace HA4 := Lib.hid (HA4.out.below hb (Nat.le_refl _)); replace HA5 := Lib.hid (HA5.out.below hb (Nat.le_refl _)); replace HL1 := Lib.hid (HL1.out.below hb (Nat.le_refl _)); replace HA6 := Lib.hid (HA6.out.below hb (Nat.le_refl _)); replace HL2 := Lib.hid (HL2.out.below hb (Nat.le_refl _)); replace HA7 := Lib.hid (HA7.out.below hb (Nat.le_refl _)); replace HA8 := Lib.hid (HA8.out.below hb (Nat.le_refl _)); replace HB := Lib.hid (HB.out.trans (hb.mono HB.out.size)); clear hb)
    | (go_at_call 14; (with_reducible refine (l_sameU HA3.out HA4.out).mono ?_); rintro e w9 ⟨rfl, hb⟩; replace HU := Lib.hid (HU.out.below hb (Nat.le_refl _)); replace HI := Lib.hid (HI.out.below hb (Nat.le_refl _)); replace HA1 := Lib.hid (HA1.out.below hb (Nat.le_refl _)); replace HA2 := Lib.hid (HA2.out.below hb (Nat.le_refl _)); replace HA3 := Lib.hid (HA3.out.below hb (Nat.le_refl _)); replace HA4 := Lib.hid (HA4.out.below hb (Nat.le_refl _)); replace HA5 := Lib.hid (HA5.out.below hb (Nat.le_refl _)); replace HL1 := Lib.hid (HL1.out.below hb (Nat.le_refl _)); replace HA6 := Lib.hid (HA6.out.below hb (Nat.le_refl _)); replace HL2 := Lib.hid (HL2.out.below hb (Nat.le_refl _)); replace HA7 := Lib.hid (HA7.out.below hb (Nat.le_refl _)); replace HA8 := Lib.hid (HA8.out.below hb (Nat.le_refl _)); replace HB := Lib.hid (HB.out.trans (hb.mono HB.out.size)); clear hb)
    | (go_at_call 14; (with_reducible refine (l_sameU HA5.out HA6.out).mono ?_); rintro e w9 ⟨rfl, hb⟩; replace HU := Lib.hid (HU.out.below hb (Nat.le_refl _)); replace HI := Lib.hid (HI.out.below hb (Nat.le_refl _)); replace HA1 := Lib.hid (HA1.out.below hb (Nat.le_refl _)); replace HA2 := Lib.hid (HA2.out.below hb (Nat.le_refl _)); replace HA3 := Lib.hid (HA3.out.below hb (Nat.le_refl _)); replace HA4 := Lib.hid (HA4.out.below hb (Nat.le_refl _)); replace HA5 := Lib.hid (HA5.out.below hb (Nat.le_refl _)); replace HL1 := Lib.hid (HL1.out.below hb (Nat.le_refl _)); replace HA6 := Lib.hid (HA6.out.below hb (Nat.le_refl _)); replace HL2 := Lib.hid (HL2.out.below hb (Nat.le_refl _)); replace HA7 := Lib.hid (HA7.out.below hb (Nat.le_refl _)); replace HA8 := Lib.hid (HA8.out.below hb (Nat.le_refl _)); replace HB := Lib.hid (HB.out.trans (hb.mono HB.out.size)); clear hb)
    | (go_at_call 14; (with_reducible refine (l_sameU HA7.out HA8.out).mono ?_); rintro e w9 ⟨rfl, hb⟩; replace HU := Lib.hid (HU.out.below hb (Nat.le_refl _)); replace HI := Lib.hid (HI.out.below hb (Nat.le_refl _)); replace HA1 := Lib.hid (HA1.out.below hb (Nat.le_refl _)); replace HA2 := Lib.hid (HA2.out.below hb (Nat.le_refl _)); replace HA3 := Lib.hid (HA3.out.below hb (Nat.le_refl _)); replace HA4 := Lib.hid (HA4.out.below hb (Nat.le_refl _)); replace HA5 := Lib.hid (HA5.out.below hb (Nat.le_refl _)); replace HL1 := Lib.hid (HL1.out.below hb (Nat.le_refl _)); replace HA6 := Lib.hid (HA6.out.below hb (Nat.le_refl _)); replace HL2 := Lib.hid (HL2.out.below hb (Nat.le_refl _)); replace HA7 := Lib.hid (HA7.out.below hb (Nat.le_refl _)); replace HA8 := Lib.hid (HA8.out.below hb (Nat.le_refl _)); replace HB := Lib.hid (HB.out.trans (hb.mono HB.out.size)); clear hb)
    | (go_at_call 15; (with_reducible refine (l_same HL1.out HL2.out).mono ?_); rintro e w9 ⟨rfl, hb⟩; replace HU := Lib.hid (HU.out.below hb (Nat.le_refl _)); replace HI := Lib.hid (HI.out.below hb (Nat.le_refl _)); replace HA1 := Lib.hid (HA1.out.below hb (Nat.le_refl _)); replace HA2 := Lib.hid (HA2.out.below hb (Nat.le_refl _)); replace HA3 := Lib.hid (HA3.out.below hb (Nat.le_refl _)); replace HA4 := Lib.hid (HA4.out.below hb (Nat.le_refl _)); replace HA5 := Lib.hid (HA5.out.below hb (Nat.le_refl _)); replace HL1 := Lib.hid (HL1.out.below hb (Nat.le_refl _)); replace HA6 := Lib.hid (HA6.out.below hb (Nat.le_refl _)); replace HL2 := Lib.hid (HL2.out.below hb (Nat.le_refl _)); replace HA7 := Lib.hid (HA7.out.below hb (Nat.le_refl _)); replace HA8 := Lib.hid (HA8.out.below hb (Nat.le_refl _)); replace HB := Lib.hid (HB.out.trans (hb.mono HB.out.size)); clear hb)
    | (go_at_call 16; (with_reducible refine (HC9.out _ HU.out).mono ?_); rintro e w9 ⟨rfl, hb⟩; replace HU := Lib.hid (HU.out.below hb (Nat.le_refl _)); replace HI := Lib.hid (HI.out.below hb (Nat.le_refl _)); replace HA1 := Lib.hid (HA1.out.below hb (Nat.le_refl _)); replace HA2 := Lib.hid (HA2.out.below hb (Nat.le_refl _)); replace HA3 := Lib.hid (HA3.out.below hb (Nat.le_refl _)); replace HA4 := Lib.hid (HA4.out.below hb (Nat.le_refl _)); replace HA5 := Lib.hid (HA5.out.below hb (Nat.le_refl _)); replace HL1 := Lib.hid (HL1.out.below hb (Nat.le_refl _)); replace HA6 := Lib.hid (HA6.out.below hb (Nat.le_refl _)); replace HL2 := Lib.hid (HL2.out.below hb (Nat.le_refl _)); replace HA7 := Lib.hid (HA7.out.below hb (Nat.le_refl _)); replace HA8 := Lib.hid (HA8.out.below hb (Nat.le_refl _)); replace HB := Lib.hid (HB.out.trans (hb.mono HB.out.size)); clear hb)
    | (go_at_call 17; (with_reducible refine (HC10.out _ HU.out).mono ?_); rintro e w9 ⟨rfl, hb⟩; replace HU := Lib.hid (HU.out.below hb (Nat.le_refl _)); replace HI := Lib.hid (HI.out.below hb (Nat.le_refl _)); replace HA1 := Lib.hid (HA1.out.below hb (Nat.le_refl _)); replace HA2 := Lib.hid (HA2.out.below hb (Nat.le_refl _)); replace HA3 := Lib.hid (HA3.out.below hb (Nat.le_refl _)); replace HA4 := Lib.hid (HA4.out.below hb (Nat.le_refl _)); replace HA5 := Lib.hid (HA5.out.below hb (Nat.le_refl _)); replace HL1 := Lib.hid (HL1.out.below hb (Nat.le_refl _)); replace HA6 := Lib.hid (HA6.out.below hb (Nat.le_refl _)); replace HL2 := Lib.hid (HL2.out.below hb (Nat.le_refl _)); replace HA7 := Lib.hid (HA7.out.below hb (Nat.le_refl _)); replace HA8 := Lib.hid (HA8.out.below hb (Nat.le_refl _)); replace HB := Lib.hid (HB.out.trans (hb.mono HB.out.size)); clear hb)
    | (go_at_call 18; (with_reducible refine (HC11.out _ HU.out).mono ?_); rintro e w9 ⟨r, rfl, hi, hb⟩; replace HU := Lib.hid (HU.out.below hb (Nat.le_refl _)); replace HI := Lib.hid (HI.out.below hb (Nat.le_refl _)); replace HA1 := Lib.hid (HA1.out.below hb (Nat.le_refl _)); replace HA2 := Lib.hid (HA2.out.below hb (Nat.le_refl _)); replace HA3 := Lib.hid (HA3.out.below hb (Nat.le_refl _)); replace HA4 := Lib.hid (HA4.out.below hb (Nat.le_refl _)); replace HA5 := Lib.hid (HA5.out.below hb (Nat.le_refl _)); replace HA6 := Lib.hid (HA6.out.below hb (Nat.le_refl _)); replace HL2 := Lib.hid (HL2.out.below hb (Nat.le_refl _)); replace HA7 := Lib.hid (HA7.out.below hb (Nat.le_refl _)); replace HA8 := Lib.hid (HA8.out.below hb (Nat.le_refl _)); replace HB := Lib.hid (HB.out.trans (hb.mono HB.out.size)); replace HL1 := Lib.hid hi; obtain ⟨D7, d7, rfl, -⟩ := hi; clear hb)
    | (go_at_call 19; (with_reducible refine (HC12.out _ HU.out).mono ?_); rintro e w9 ⟨r, rfl, hi, hb⟩; replace HU := Lib.hid (HU.out.below hb (Nat.le_refl _)); replace HI := Lib.hid (HI.out.below hb (Nat.le_refl _)); replace HA1 := Lib.hid (HA1.out.below hb (Nat.le_refl _)); replace HA2 := Lib.hid (HA2.out.below hb (Nat.le_refl _)); replace HA3 := Lib.hid (HA3.out.below hb (Nat.le_refl _)); replace HA4 := Lib.hid (HA4.out.below hb (Nat.le_refl _)); replace HA5 := Lib.hid (HA5.out.below hb (Nat.le_refl _)); replace HL1 := Lib.hid (HL1.out.below hb (Nat.le_refl _)); replace HA6 := Lib.hid (HA6.out.below hb (Nat.le_refl _)); replace HA7 := Lib.hid (HA7.out.below hb (Nat.le_refl _)); replace HA8 := Lib.hid (HA8.out.below hb (Nat.le_refl _)); replace HB := Lib.hid (HB.out.trans (hb.mono HB.out.size)); replace HL2 := Lib.hid hi; obtain ⟨D8, d8, rfl, -⟩ := hi; clear hb))
  all_goals go_ret
  all_goals exact ⟨rfl, HB.out⟩
set_option maxRecDepth 100000 in
set_option maxHeartbeats 4000000 in
theorem spaceTells_walk {w : World} {u a : Value} {Q : List Bool} {L : List Int} (h : UseS w u Q) (ha : IdxS w a L) (n c : Int) :
    Calls Try.prog 3 #[u, a, .int .i64 n, .int .i64 c] w fun e w' => e = .returned (.bool true) ∧ Below w.heap.size w w' := by
  by_cases hc : c > 300 ∧ c ≤ 4096
  · have g1 : decide (c > 300) = true := decide_eq_true hc.1
    have g2 : decide (c ≤ 4096) = true := decide_eq_true hc.2
    have hl := spLives_any w
    obtain ⟨A, cap, rfl, -⟩ := h
    obtain ⟨A0, cap0, rfl, -⟩ := ha
    clear hc
    go_enter Try.func3, Try.ntmps3
    go_wp2_with (go_at_call 5; refine hl.mono ?_; rintro e w9 ⟨rfl, hb⟩)
    go_ret
    exact ⟨rfl, hb⟩
  · by_cases hq : Q.length ≤ 5000
    · by_cases hL : L.length ≤ 300
      · exact spaceTells_few h ha n c hc hq hL
      · have g1 : decide ((Q.length : Int) > 5000) = false := decide_eq_false (by omega)
        have g2 : decide ((L.length : Int) > 300) = true := decide_eq_true (by omega)
        have g3 : decide (c > 300) = false ∨ decide (c > 300) = true ∧ decide (c ≤ 4096) = false := by
          by_cases k : c > 300
          · exact .inr ⟨decide_eq_true k, decide_eq_false (fun e => hc ⟨k, e⟩)⟩
          · exact .inl (decide_eq_false k)
        have hl := spLives_any w
        obtain ⟨A, cap, rfl, -⟩ := h
        obtain ⟨A0, cap0, rfl, -⟩ := ha
        clear hc hq hL
        go_enter Try.func3, Try.ntmps3
        rcases g3 with g3 | ⟨g3, g4⟩
        all_goals go_wp2_with (go_at_call 5; refine hl.mono ?_; rintro e w9 ⟨rfl, hb⟩)
        all_goals go_ret
        all_goals exact ⟨rfl, hb⟩
    · have g1 : decide ((Q.length : Int) > 5000) = true := decide_eq_true (by omega)
      have g3 : decide (c > 300) = false ∨ decide (c > 300) = true ∧ decide (c ≤ 4096) = false := by
        by_cases k : c > 300
        · exact .inr ⟨decide_eq_true k, decide_eq_false (fun e => hc ⟨k, e⟩)⟩
        · exact .inl (decide_eq_false k)
      have hl := spLives_any w
      obtain ⟨A, cap, rfl, -⟩ := h
      obtain ⟨A0, cap0, rfl, -⟩ := ha
      clear hc hq
      go_enter Try.func3, Try.ntmps3
      rcases g3 with g3 | ⟨g3, g4⟩
      all_goals go_wp2_with (go_at_call 5; refine hl.mono ?_; rintro e w9 ⟨rfl, hb⟩)
      all_goals go_ret
      all_goals exact ⟨rfl, hb⟩
end Go.Proofs.Ytoaofhgkpnpglaa
