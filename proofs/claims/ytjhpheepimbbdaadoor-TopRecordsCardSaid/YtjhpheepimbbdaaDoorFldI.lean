/- Fields: the contract of the document's Same. -/
import Derived.Test.YtjhpheepimbbdaaDoorFldH
import Derived.RegionTactic
namespace Go.Proofs.YtjhpheepimbbdaaDoor
open Go.RowKit

set_option maxHeartbeats 1000000 in
theorem fldSame_any {w : World} {u v : Value} {K L : List Nat} (hu : NumV w u (u64s K)) (hv : NumV w v (u64s L)) :
    Calls Tryd.prog 17 #[u, v] w fun e w' => e = .returned (.bool (decide (K = L))) ∧ Below w.heap.size w w' := by
  obtain ⟨A, c1, rfl, k1, k2, k3⟩ := hu
  obtain ⟨B, c2, rfl, l1, l2, l3⟩ := hv
  replace k2 : c1 ≤ 9223372036854775807 := by unfold maxLen at k2; omega
  replace l2 : c2 ≤ 9223372036854775807 := by unfold maxLen at l2; omega
  have g1 := u64s_len K
  have g2 := u64s_len L
  rw [g1] at k1 ⊢
  rw [g2] at l1 ⊢
  by_cases hl : K.length = L.length
  case neg =>
    have e1 : ((K.length : Int) != (L.length : Int)) = true := by rw [bne_iff_ne]; omega
    have e2 : ((K.length : Int) == (L.length : Int)) = false := by rw [beq_eq_false_iff_ne]; omega
    have hd : decide (K = L) = false := decide_eq_false (fun e => hl (by rw [e]))
    rw [hd]
    clear k3 l3 hl hd g1 g2
    go_enter Tryd.func17, Tryd.ntmps17
    go_wp2
    go_ret
    exact ⟨rfl, Below.refl _ _⟩
  case pos =>
  obtain ⟨r, hr⟩ : ∃ r, r = decide (K = L) := ⟨_, rfl⟩
  rw [← hr]
  have HRR := Lib.hid hr
  clear hr
  obtain ⟨m, hm⟩ : ∃ m, m = K.length := ⟨_, rfl⟩
  have HM := Lib.hid hm
  have HML : Hid (m = L.length) := Lib.hid (hm.trans hl)
  have HK := Lib.hid k3
  have HL := Lib.hid l3
  have HG1 : Hid ((u64s K).length = m) := Lib.hid (g1.trans hm.symm)
  have HG2 : Hid ((u64s L).length = m) := Lib.hid (g2.trans HML.out.symm)
  rw [← HML.out] at l1 ⊢
  rw [← hm] at k1 ⊢
  clear k3 l3 hl hm g1 g2
  have e1 : ((m : Int) != (m : Int)) = false := by simp
  go_enter Tryd.func17, Tryd.ntmps17
  go_wp2_with fail
  go_loopw [13] (fun ix wr => ∃ j : Nat, j ≤ m ∧ ix = .int .i64 (j : Int) ∧ (∀ q, q < j → K.getD q 0 = L.getD q 0) ∧ (∀ p, wr.cell? p = w.cell? p) ∧ Below w.heap.size w wr) (fun ix _ => m - (intOf ix).toNat)
  case atStart => exact ⟨0, Nat.zero_le _, rfl, (fun q hq => by omega), (fun _ => rfl), Below.refl _ _⟩
  case round =>
    obtain ⟨j, hj, rfl, hq, hc, hb⟩ := hrel
    have HQ := Lib.hid hq
    have HC := Lib.hid hc
    have HB := Lib.hid hb
    clear hq hc hb
    by_cases hlt : j < m
    · obtain ⟨b, o, rfl, _, hk⟩ := HK.out.resolve_left (by intro e; have := HG1.out; rw [e] at this; simp at this; omega)
      obtain ⟨b', o', rfl, _, hl⟩ := HL.out.resolve_left (by intro e; have := HG2.out; rw [e] at this; simp at this; omega)
      have ck : wr.cell? ⟨b, o + j, none⟩ = some (.int .u64 ((K.getD j 0 : Nat) : Int)) := (HC.out _).trans ((hk j (by rw [HG1.out]; exact hlt)).trans (u64s_at (by rw [← HM.out]; exact hlt)))
      have cl : wr.cell? ⟨b', o' + j, none⟩ = some (.int .u64 ((L.getD j 0 : Nat) : Int)) := (HC.out _).trans ((hl j (by rw [HG2.out]; exact hlt)).trans (u64s_at (by rw [← HML.out]; exact hlt)))
      have HE : Hid (∀ x y : Int, ((K.getD j 0 : Nat) : Int) = x → ((L.getD j 0 : Nat) : Int) = y → (x = y → ∀ q, q < j + 1 → K.getD q 0 = L.getD q 0) ∧ (x ≠ y → decide (K = L) = false)) := Lib.hid (fun x y hx hy => ⟨fun e q hq => by
        by_cases g : q = j
        · rw [g]; omega
        · exact HQ.out q (by omega), fun ne => decide_eq_false (fun e => ne (by rw [← hx, ← hy, e]))⟩)
      generalize hx : ((K.getD j 0 : Nat) : Int) = x at ck
      generalize hy : ((L.getD j 0 : Nat) : Int) = y at cl
      obtain ⟨E1, E2⟩ := HE.out x y hx hy
      have HE1 := Lib.hid E1
      have HE2 := Lib.hid E2
      clear E1 E2 HE hk hl hx hy
      have hi0 : (0 : Int) ≤ (j : Int) := by omega
      have hi1 : (j : Int) < (m : Int) := by omega
      by_cases hxy : x = y
      · have HQ2 := Lib.hid (HE1.out hxy)
        subst hxy
        have hb : (x != x) = false := by simp
        clear HE1 HE2 HQ
        go_wp2_with fail
        go_region
        all_goals go_wp2
        all_goals go_roundw
        case rel => exact ⟨j + 1, by omega, by go_num, HQ2.out, HC.out, HB.out.drew⟩
        case measure => simp [intOf]; omega
      · have hr := HRR.out.trans (HE2.out hxy)
        have hb : (x == y) = false := by rw [beq_eq_false_iff_ne]; exact hxy
        have hb2 : (x != y) = true := by rw [bne_iff_ne]; exact hxy
        clear HE1 HE2 HQ HRR hxy
        subst hr
        go_wp2_with fail
        go_region
        all_goals go_wp2
        all_goals go_ret
        all_goals exact ⟨rfl, HB.out.drew⟩
    · obtain rfl : j = m := by omega
      have hd : decide (K = L) = true := decide_eq_true (List.ext_getElem (HM.out.symm.trans HML.out) (fun q h1 h2 => by
        have := HQ.out q (by rw [HM.out]; exact h1)
        rw [List.getD, List.getD, List.getElem?_eq_getElem h1, List.getElem?_eq_getElem h2] at this; exact this))
      have hr := HRR.out.trans hd
      clear hd HK HL HM HML HQ HRR
      subst hr
      go_wp2
      go_ret
      exact ⟨rfl, HB.out⟩
end Go.Proofs.YtjhpheepimbbdaaDoor
