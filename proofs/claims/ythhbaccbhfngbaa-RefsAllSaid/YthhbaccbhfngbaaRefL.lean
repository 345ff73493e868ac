/- References: the law's small. -/
import Derived.Test.YthhbaccbhfngbaaMc05
namespace Go.Proofs.Ythhbaccbhfngbaa
open Go.RowKit

set_option maxHeartbeats 4000000 in
set_option maxRecDepth 100000 in
theorem refSmall8_any {w : World} {v : Value} {C : List CH} (hv : ChsS w v C) :
    Calls Try.prog 6 #[v] w fun e w' => ∃ b, e = .returned (.bool b) ∧ (b = true → FewC C ∧ C.length ≤ 8) ∧ Below w.heap.size w w' := by
  obtain ⟨A, c1, rfl, k1, k2, k3⟩ := hv
  obtain ⟨N, hN⟩ : ∃ N, N = C.length := ⟨_, rfl⟩
  have HN := Lib.hid hN
  rw [← hN] at k1 ⊢
  have HK := Lib.hid k3
  have HMX := Lib.hid (Nat.le_trans k1 k2)
  clear hN k3 k1 k2
  go_enter Try.func6, Try.ntmps6
  go_wp2
  go_loopw [7] (fun ix wr => ∃ j : Nat, j ≤ N ∧ j ≤ 8 ∧ ix = .int .i64 (j : Int) ∧ (∀ q, q < j → (C.getD q CH.zero).blocks ≤ 400) ∧ Below w.heap.size w wr) (fun ix _ => N - idxOf ix)
  case atStart => exact ⟨0, Nat.zero_le _, by omega, rfl, fun q hq => absurd hq (by omega), Below.refl _ _⟩
  case round =>
    obtain ⟨j, hj, hj8, rfl, hlow, hb⟩ := hrel
    have HB := Lib.hid hb
    have HLOW := Lib.hid hlow
    clear hb hlow
    by_cases hlt : j < N
    · obtain ⟨g, o, rfl, hglt, hk⟩ := HK.out.resolve_left (by intro e; have := HN.out; rw [e] at this; simp at this; omega)
      have hjL : j < C.length := by rw [← HN.out]; exact hlt
      obtain ⟨tA, tc, q0, q1, -⟩ := hk j hjL
      replace q0 := (HB.out.cell (p := ⟨g, o + j * 2, none⟩) hglt).trans q0
      replace q1 := (HB.out.cell (p := ⟨g, o + j * 2 + 1, none⟩) hglt).trans q1
      have HNX : Hid ((C.getD j CH.zero).blocks ≤ 400 → ∀ q, q < j + 1 → (C.getD q CH.zero).blocks ≤ 400) := Lib.hid (fun h q hq => by
        by_cases e : q = j
        · rw [e]; exact h
        · exact HLOW.out q (by omega))
      generalize C.getD j CH.zero = c at q0 q1 HNX
      obtain ⟨B, T⟩ := c
      dsimp only at q0 q1 HNX
      have hi0 : (0 : Int) ≤ (j : Int) := by omega
      have hi1 : (j : Int) < (N : Int) := by omega
      have HBX : Hid (Below w.heap.size w (wr.alloc (.cells #[.int .i64 B, .slice tA T.length tc] 44))) := Lib.hid (HB.out.alloc HB.out.size _)
      obtain ⟨hw1, hw2⟩ := nextR hlt HMX.out
      clear hk hjL hglt
      by_cases h8 : j = 8
      · have d8 : ((j : Int) == 8) = true := by rw [beq_iff_eq]; omega
        subst h8
        clear hw1 hw2
        go_wp2
        go_ret
        exact ⟨false, rfl, fun h => (Bool.false_ne_true h).elim, HBX.out⟩
      · have d8 : ((j : Int) == 8) = false := by rw [beq_eq_false_iff_ne]; omega
        have HJ : Hid (j + 1 ≤ N ∧ j + 1 ≤ 8 ∧ N - (j + 1) < N - j) := Lib.hid ⟨hlt, by omega, by omega⟩
        clear h8
        by_cases hB : 400 < B
        · have dB : decide (400 < B) = true := decide_eq_true hB
          clear hw1 hw2
          go_wp2
          go_ret
          exact ⟨false, rfl, fun h => (Bool.false_ne_true h).elim, HBX.out⟩
        · have dB : decide (400 < B) = false := decide_eq_false hB
          have HN2 := Lib.hid (HNX.out (by omega))
          clear hB HNX
          go_wp2
          go_roundw
          case rel => exact ⟨j + 1, HJ.out.1, HJ.out.2.1, by go_num, HN2.out, HBX.out⟩
          case measure => have h := HJ.out.2.2; clear hw1 hw2; simp only [idxOf]; omega
    · obtain rfl : j = N := by omega
      have hno : ¬ ((j : Int) < (j : Int)) := by omega
      have HF : Hid (FewC C ∧ C.length ≤ 8) := Lib.hid ⟨⟨by rw [← HN.out]; omega, fun c hc => by
        obtain ⟨i, hi, rfl⟩ := List.mem_iff_getElem.1 hc
        have := HLOW.out i (by rw [HN.out]; exact hi)
        rwa [List.getD, List.getElem?_eq_getElem hi] at this⟩, by rw [← HN.out]; omega⟩
      go_wp2
      go_ret
      exact .inr ⟨rfl, HF.out.1, HB.out⟩
theorem refSmall_any {w : World} {v : Value} {C : List CH} (hv : ChsS w v C) :
    Calls Try.prog 6 #[v] w fun e w' => ∃ b, e = .returned (.bool b) ∧ (b = true → FewC C) ∧ Below w.heap.size w w' :=
  (refSmall8_any hv).mono fun _ _ ⟨b, h1, h2, h3⟩ => ⟨b, h1, fun h => (h2 h).1, h3⟩
end Go.Proofs.Ythhbaccbhfngbaa
