/- Entries: Same. -/
import Derived.Test.YtifhbaacljkleaaEntU
namespace Go.Proofs.Ytifhbaacljkleaa
open Go.RowKit

theorem same_all {A B : List EN} (hl : A.length = B.length) (h : ∀ i, i < A.length → A.getD i EN.zero = B.getD i EN.zero) : A = B := by
  apply List.ext_getElem hl
  intro i h1 h2
  have := h i h1
  rw [List.getD, List.getD, List.getElem?_eq_getElem h1, List.getElem?_eq_getElem h2] at this
  exact this
theorem wrap_succ {j n cap : Nat} (h : j < n) (h1 : n ≤ cap) (h2 : cap ≤ maxLen) : wrap64 ((j : Int) + 1) = (j : Int) + 1 := by
  unfold maxLen at h2; unfold wrap64; omega
set_option maxRecDepth 100000 in
set_option maxHeartbeats 2000000 in
theorem rentSame_any (A B : List EN) (va vb : Value) (w : World) (ha : EntsS w va A) (hb : EntsS w vb B) :
    Calls Try.prog 21 #[va, vb] w fun e w' => e = .returned (.bool (decide (A = B))) ∧ Below w.heap.size w w' := by
  obtain ⟨PA, capA, rfl, ha1, ha2, ha3⟩ := ha
  obtain ⟨PB, capB, rfl, hb1, hb2, hb3⟩ := hb
  have HA := Lib.hid ha3
  have HBB := Lib.hid hb3
  clear ha3 hb3
  by_cases hl : A.length = B.length
  case neg =>
    have d0 : ((A.length : Int) == (B.length : Int)) = false := by rw [beq_eq_false_iff_ne]; omega
    have d1 : ((A.length : Int) != (B.length : Int)) = true := by rw [bne_iff_ne]; omega
    have HF : Hid (decide (A = B) = false) := Lib.hid (decide_eq_false (fun e => hl (by rw [e])))
    clear hl
    go_enter Try.func21, Try.ntmps21
    go_wp2
    go_ret
    exact ⟨by rw [HF.out]; rfl, Below.refl _ _⟩
  case pos =>
  have d0 : ((A.length : Int) == (B.length : Int)) = true := by rw [beq_iff_eq]; omega
  have d1 : ((A.length : Int) != (B.length : Int)) = false := by rw [bne_eq_false_iff_eq]; omega
  have HL := Lib.hid hl
  clear hl
  go_enter Try.func21, Try.ntmps21
  go_wp2
  clear d0 d1
  go_loopw [13] (fun ix wr => ∃ (j : Nat), j ≤ A.length ∧ ix = .int .i64 (j : Int) ∧ (∀ i, i < j → A.getD i EN.zero = B.getD i EN.zero) ∧ Below w.heap.size w wr) (fun ix _ => A.length - (intOf ix).toNat)
  case atStart => exact ⟨0, Nat.zero_le _, rfl, (fun i h => absurd h (by omega)), Below.refl _ _⟩
  case round =>
    obtain ⟨j, hj, rfl, hp, hB⟩ := hrel
    have HB := Lib.hid hB
    have HP := Lib.hid hp
    clear hB hp
    by_cases hlt : j < A.length
    · have hlt2 : j < B.length := by have := HL.out; omega
      obtain ⟨b, off, rfl, hb, hcell⟩ := HA.out.resolve_left (by intro e; rw [e] at hlt; simp at hlt)
      obtain ⟨b2, off2, rfl, hb2, hcell2⟩ := HBB.out.resolve_left (by intro e; rw [e] at hlt2; simp at hlt2)
      obtain ⟨q0, q1, q2, q3⟩ := (hcell j hlt).below HB.out hb
      obtain ⟨r0, r1, r2, r3⟩ := (hcell2 j hlt2).below HB.out hb2
      have hdl : decide ((j : Int) < (B.length : Int)) = true := decide_eq_true (by omega)
      have HEQ : Hid (A.getD j EN.zero = B.getD j EN.zero → ∀ i, i < j + 1 → A.getD i EN.zero = B.getD i EN.zero) := Lib.hid (fun h i hi => by
        by_cases e : i = j
        · rw [e]; exact h
        · exact HP.out i (by omega))
      have HNE0 : Hid (A.getD j EN.zero ≠ B.getD j EN.zero → A ≠ B) := Lib.hid (fun h e => h (by rw [e]))
      clear hcell hcell2 hb hb2
      generalize A.getD j EN.zero = p at q0 q1 q2 q3 HEQ HNE0
      generalize B.getD j EN.zero = q at r0 r1 r2 r3 HEQ HNE0
      obtain ⟨k, st, mb, fr⟩ := p
      obtain ⟨k', st', mb', fr'⟩ := q
      dsimp only at q0 q1 q2 q3 r0 r1 r2 r3
      by_cases hk : k = k'
      · have b0 : (k == k') = true := by rw [beq_iff_eq]; exact hk
        by_cases hs : st = st'
        · have b1 : (st == st') = true := by rw [beq_iff_eq]; exact hs
          by_cases hm : mb = mb'
          · have b2 : (mb == mb') = true := by rw [beq_iff_eq]; exact hm
            by_cases hf : fr = fr'
            · have b3 : (fr == fr') = true := by rw [beq_iff_eq]; exact hf
              have HJ := Lib.hid (HEQ.out (by rw [hk, hs, hm, hf]))
              clear HEQ HNE0 hk hs hm hf
              have hw1 := wrap_succ hlt ha1 ha2
              go_upto_region 6 with fail
              go_quiet (fail)
              go_wp2
              clear hdl b0 b1 b2 b3
              rw [hw1]
              clear hw1
              go_roundw
              case rel => exact ⟨j + 1, by omega, by go_num, HJ.out, below_drewN HB.out _⟩
              case measure => simp [intOf]; omega
            · have hd : (fr == fr') = false := by rw [beq_eq_false_iff_ne]; exact hf
              have HF : Hid (decide (A = B) = false) := Lib.hid (decide_eq_false (HNE0.out (fun e => hf (by injection e))))
              clear hf hm hs hk HEQ HNE0
              go_upto_region 6 with fail
              go_quiet (fail)
              go_wp2
              go_ret
              exact ⟨by rw [HF.out]; rfl, below_drewN HB.out _⟩
          · have hd : (mb == mb') = false := by rw [beq_eq_false_iff_ne]; exact hm
            have HF : Hid (decide (A = B) = false) := Lib.hid (decide_eq_false (HNE0.out (fun e => hm (by injection e))))
            clear hm hs hk HEQ HNE0
            go_upto_region 6 with fail
            go_quiet (fail)
            go_wp2
            go_ret
            exact ⟨by rw [HF.out]; rfl, below_drewN HB.out _⟩
        · have hd : (st == st') = false := by rw [beq_eq_false_iff_ne]; exact hs
          have HF : Hid (decide (A = B) = false) := Lib.hid (decide_eq_false (HNE0.out (fun e => hs (by injection e))))
          clear hs hk HEQ HNE0
          go_upto_region 6 with fail
          go_quiet (fail)
          go_wp2
          go_ret
          exact ⟨by rw [HF.out]; rfl, below_drewN HB.out _⟩
      · have hd : (k == k') = false := by rw [beq_eq_false_iff_ne]; exact hk
        have HF : Hid (decide (A = B) = false) := Lib.hid (decide_eq_false (HNE0.out (fun e => hk (by injection e))))
        clear hk HEQ HNE0
        go_upto_region 6 with fail
        go_quiet (fail)
        go_wp2
        go_ret
        exact ⟨by rw [HF.out]; rfl, below_drewN HB.out _⟩
    · obtain rfl : j = A.length := by omega
      have HF : Hid (decide (A = B) = true) := Lib.hid (decide_eq_true (same_all HL.out HP.out))
      go_wp2
      go_ret
      exact ⟨by rw [HF.out]; rfl, HB.out⟩
end Go.Proofs.Ytifhbaacljkleaa
