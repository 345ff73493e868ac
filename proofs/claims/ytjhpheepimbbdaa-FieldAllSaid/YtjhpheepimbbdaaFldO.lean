/- The walk of FieldAll. -/
import Derived.Test.YtjhpheepimbbdaaFldN
namespace Go.Proofs.Ytjhpheepimbbdaa
open Go.RowKit

set_option maxRecDepth 100000 in
set_option maxHeartbeats 4000000 in
theorem fieldAll_walk {w : World} {s : ByteArray} {v u : Value} {ks : List Int} {ns : List Nat} (hk : NumV w v (i64s ks)) (hu : NumV w u (u64s ns)) (hns : ∀ n ∈ ns, n < 18446744073709551616) :
    Calls Try.prog 4 #[.string s, v, u] w fun e w' => e = .returned (.bool true) ∧ Below w.heap.size w w' := by
  have HK := Lib.hid hk
  have HU := Lib.hid hu
  have e0 := i64s_len ks
  obtain ⟨A, cap, rfl, hc1, hc2, _⟩ := hk
  obtain ⟨A2, cap2, rfl, _, _, _⟩ := hu
  rw [e0] at HK hc1 ⊢
  rw [u64s_len] at HU ⊢
  clear e0
  by_cases hl : ks.length ≤ 200
  case neg =>
    have d0 : decide ((200 : Int) < (ks.length : Int)) = true := decide_eq_true (by omega)
    clear hl
    go_enter Try.func4, Try.ntmps4
    go_wp2_with (go_at_call 16; with_reducible refine (fldLives_any _).mono ?_; rintro e w1 ⟨rfl, hb1⟩)
    go_ret
    exact ⟨rfl, hb1⟩
  case pos =>
  have d0 : decide ((200 : Int) < (ks.length : Int)) = false := decide_eq_false (by omega)
  have h1 : ∀ W, NumV W (.slice A ks.length cap) (i64s ks) → _ := fun W hW => fldAll_any s ks _ W hW hl
  have h2 : ∀ W, NumV W (.slice A ks.length cap) (i64s ks) → _ := fun W hW => refAll_any s ks _ W hW hl
  have h3 : ∀ W, NumV W (.slice A ks.length cap) (i64s ks) → NumV W (.slice A2 ns.length cap2) (u64s ns) → _ := fun W hW hW2 => fldJoin_any ks ns _ _ W hW hW2 hl
  have h4 : ∀ W, NumV W (.slice A ks.length cap) (i64s ks) → NumV W (.slice A2 ns.length cap2) (u64s ns) → _ := fun W hW hW2 => refJoin_any ks ns _ _ W hW hW2 hl hns
  generalize (⟨(allT s.data.toList ks).toArray⟩ : ByteArray) = z1 at *
  generalize allE s.data.toList ks = e1 at *
  generalize allV s.data.toList ks = l1 at *
  generalize (⟨(joinS ks ns).toArray⟩ : ByteArray) = z2 at *
  generalize joinE ks ns = e2 at *
  clear hl hc1 hc2 hns
  go_enter Try.func4, Try.ntmps4
  go_wp2_with (first
    | (go_at_call 17; with_reducible refine (h1 _ HK.out).mono ?_; rintro e w1 ⟨⟨x1, rfl, hx1⟩, hb1⟩; have HX1 := Lib.hid hx1.num; have HK1 := Lib.hid (HK.out.below hb1 (Nat.le_refl _)); have HU1 := Lib.hid (HU.out.below hb1 (Nat.le_refl _)); have HB1 := Lib.hid hb1; clear hb1 hx1 h1)
    | (go_at_call 18; with_reducible refine (h2 _ HK1.out).mono ?_; rintro e w2 ⟨⟨x2, rfl, hx2⟩, hb2⟩; have HX2 := Lib.hid hx2.num; have HX12 := Lib.hid (HX1.out.below hb2 (Nat.le_refl _)); have HK2 := Lib.hid (HK1.out.below hb2 (Nat.le_refl _)); have HU2 := Lib.hid (HU1.out.below hb2 (Nat.le_refl _)); have HB2 := Lib.hid (HB1.out.trans (hb2.mono HB1.out.size)); clear hb2 hx2 h2)
    | (go_at_call 19; with_reducible refine (h3 _ HK2.out HU2.out).mono ?_; rintro e w3 ⟨rfl, hb3⟩; have HX13 := Lib.hid (HX12.out.below hb3 (Nat.le_refl _)); have HX23 := Lib.hid (HX2.out.below hb3 (Nat.le_refl _)); have HK3 := Lib.hid (HK2.out.below hb3 (Nat.le_refl _)); have HU3 := Lib.hid (HU2.out.below hb3 (Nat.le_refl _)); have HB3 := Lib.hid (HB2.out.trans (hb3.mono HB2.out.size)); clear hb3 h3)
    | (go_at_call 20; with_reducible refine (h4 _ HK3.out HU3.out).mono ?_; rintro e w4 ⟨rfl, hb4⟩; have HX14 := Lib.hid (HX13.out.below hb4 (Nat.le_refl _)); have HX24 := Lib.hid (HX23.out.below hb4 (Nat.le_refl _)); have HB4 := Lib.hid (HB3.out.trans (hb4.mono HB3.out.size)); clear hb4 h4)
    | (go_at_call 16; with_reducible refine (fldLives_any _).mono ?_; rintro e w5 ⟨rfl, hb5⟩; have HX15 := Lib.hid (HX14.out.below hb5 (Nat.le_refl _)); have HX25 := Lib.hid (HX24.out.below hb5 (Nat.le_refl _)); have HB5 := Lib.hid (HB4.out.trans (hb5.mono HB4.out.size)); clear hb5)
    | (go_at_call 21; with_reducible refine (fldSame_any HX15.out HX25.out).mono ?_; rintro e w6 ⟨rfl, hb6⟩; have HB6 := Lib.hid (HB5.out.trans (hb6.mono HB5.out.size)); clear hb6))
  go_ret
  exact ⟨by simp, HB6.out⟩
end Go.Proofs.Ytjhpheepimbbdaa
