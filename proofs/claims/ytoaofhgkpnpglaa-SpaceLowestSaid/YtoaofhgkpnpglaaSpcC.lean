/- Uses of clusters: marked and given back, by the code and by the document. -/
import Derived.Test.YtoaofhgkpnpglaaSpcA
namespace Go.Proofs.Ytoaofhgkpnpglaa
open Go.RowKit

set_option maxRecDepth 100000 in
set_option maxHeartbeats 2000000 in
theorem spTurn_any {w : World} {v a : Value} {Q : List Bool} {L : List Int} (h : UseS w v Q) (ha : IdxS w a L) (hq : Q.length ≤ 5000) (hL : L.length ≤ 5000) (b : Bool) (bad : Int) :
    Calls Try.prog 20 #[v, a, .bool b, .int .i64 bad] w fun e w' => ∃ r, e = .returned (.tuple #[r, .int .i64 (turnF b bad Q L Q).2]) ∧ OwnU w' w.heap.size r (turnF b bad Q L Q).1 ∧ Below w.heap.size w w' := by
  have hCl := fun W (hb : Below w.heap.size w W) => cloneU_any (h.below hb (Nat.le_refl _)) hq
  have HU := Lib.hid h
  have HI := Lib.hid ha
  obtain ⟨A, cap, rfl, _⟩ := h
  obtain ⟨A2, cap2, rfl, _⟩ := ha
  have HQ := Lib.hid hq
  have HL := Lib.hid hL
  obtain ⟨R, hR⟩ : ∃ R, R = turnF b bad Q L Q := ⟨_, rfl⟩
  rw [← hR]
  have HR := Lib.hid hR
  have hCb := Lib.hid hCl
  clear hR hq hL hCl
  go_enter Try.func20, Try.ntmps20
  go_wp2_with (go_at_call 22; refine (hCb.out _ (Below.refl _ _)).mono ?_; rintro e w1 ⟨v1, rfl, hO1, hb1⟩; obtain ⟨A1, cap1, rfl, _⟩ := id hO1; have HO1 := Lib.hid hO1; have HB1 := Lib.hid hb1; clear hO1 hb1)
  go_loopw [17] (fun ix wr => ∃ (j : Nat) (N : List Bool), j ≤ L.length ∧ ix = .int .i64 (j : Int) ∧ N.length = Q.length ∧ turnF b bad Q (L.drop j) N = R ∧ OwnU wr w.heap.size (.slice A1 Q.length cap1) N ∧ Below w.heap.size w wr) (fun ix _ => L.length - idxOf ix)
  case atStart => exact ⟨0, Q, Nat.zero_le _, rfl, rfl, HR.out.symm, HO1.out, HB1.out⟩
  case round =>
    obtain ⟨j, N, hj, rfl, hN, hT, hO, hb⟩ := hrel
    by_cases hlt : j < L.length
    · obtain ⟨A', c', hv, _, _, h3⟩ := HI.out.below hb (Nat.le_refl _)
      injection hv with e1 e2 e3
      subst e1 e3
      obtain ⟨g, off, rfl, _, hc⟩ := h3.resolve_left (by intro e; rw [e] at hlt; simp at hlt)
      have ce := hc j hlt
      have hS := turnF_drop (b := b) (bad := bad) (Q := Q) (N := N) hlt
      rw [hT] at hS
      have HB := Lib.hid hb
      have HOO := Lib.hid hO
      have HN := Lib.hid hN
      have HLT := Lib.hid hlt
      have d0 : decide ((j : Int) < (L.length : Int)) = true := decide_eq_true (by omega)
      have hi0 : (0 : Int) ≤ (j : Int) := by omega
      have hi1 : (j : Int) < (L.length : Int) := by omega
      have hw2 : IntKind.i64.wrap ((j : Int) + 1) = (j : Int) + 1 := by have := HL.out; rw [IntKind.wrap_i64]; omega
      generalize L.getD j 0 = c at ce hS
      clear hc h3 hT hO hN hb HO1 HB1 HR
      by_cases hc0 : c < 0
      · have d1 : decide (c < 0) = true := decide_eq_true hc0
        rw [if_pos (.inl hc0)] at hS
        have HS := Lib.hid hS
        clear hS hc0
        go_wp2_with (go_at_call 22; refine (hCb.out _ HB.out).mono ?_; rintro e w2 ⟨v2, rfl, hO2, hb2⟩; have HO2 := Lib.hid hO2; have HB2 := Lib.hid hb2; clear hO2 hb2)
        go_ret2
        rw [HS.out]
        exact ⟨_, rfl, HO2.out.base HB.out.size, HB.out.trans (HB2.out.mono HB.out.size)⟩
      · by_cases hc1 : (Q.length : Int) ≤ c
        · have d1 : decide (c < 0) = false := decide_eq_false hc0
          have d2 : decide ((Q.length : Int) ≤ c) = true := decide_eq_true hc1
          have d3 : decide (c ≥ (Q.length : Int)) = true := decide_eq_true hc1
          rw [if_pos (.inr hc1)] at hS
          have HS := Lib.hid hS
          clear hS hc0 hc1
          go_wp2_with (go_at_call 22; refine (hCb.out _ HB.out).mono ?_; rintro e w2 ⟨v2, rfl, hO2, hb2⟩; have HO2 := Lib.hid hO2; have HB2 := Lib.hid hb2; clear hO2 hb2)
          go_ret2
          rw [HS.out]
          exact ⟨_, rfl, HO2.out.base HB.out.size, HB.out.trans (HB2.out.mono HB.out.size)⟩
        · obtain ⟨i, rfl⟩ : ∃ i : Nat, c = (i : Int) := ⟨c.toNat, by omega⟩
          have hiq : i < Q.length := by omega
          rw [if_neg (by omega), Int.toNat_natCast] at hS
          have d1 : decide ((i : Int) < 0) = false := decide_eq_false hc0
          have d2 : decide ((Q.length : Int) ≤ (i : Int)) = false := decide_eq_false hc1
          have d3 : decide ((i : Int) ≥ (Q.length : Int)) = false := decide_eq_false hc1
          have hii0 : (0 : Int) ≤ (i : Int) := by omega
          have hii1 : (i : Int) < (Q.length : Int) := by omega
          obtain ⟨Ax, cx, hvx, _, _, h4⟩ := HOO.out
          injection hvx with e1 e2 e3
          subst e1 e3
          clear e2
          obtain ⟨gn, rfl, hgB, _, hcn⟩ := h4.resolve_left (by rintro ⟨_, e⟩; have := HN.out; rw [e] at this; simp at this; omega)
          obtain ⟨cn, fn⟩ := hcn i (by rw [HN.out]; exact hiq)
          have HGB := Lib.hid hgB
          clear h4 hcn hc0 hc1 hgB
          by_cases he : N.getD i false = b
          · rw [if_pos he] at hS
            rw [he] at cn
            have eb1 : (b == b) = true := beq_self_eq_true b
            have eb2 : decide (b = b) = true := by simp
            have HS := Lib.hid hS
            clear hS he
            go_wp2_with (go_at_call 22; refine (hCb.out _ HB.out).mono ?_; rintro e w2 ⟨v2, rfl, hO2, hb2⟩; have HO2 := Lib.hid hO2; have HB2 := Lib.hid hb2; clear hO2 hb2)
            go_ret2
            rw [HS.out]
            exact ⟨_, rfl, HO2.out.base HB.out.size, HB.out.trans (HB2.out.mono HB.out.size)⟩
          · rw [if_neg he] at hS
            rw [show N.getD i false = !b by cases hh : N.getD i false <;> cases b <;> simp_all] at cn
            have HS := Lib.hid hS
            have HIQ := Lib.hid hiq
            clear hS he
            go_wp2
            go_roundw
            case rel => exact ⟨j + 1, N.set i b, by have := HLT.out; omega, by simp, by rw [List.length_set]; exact HN.out, HS.out.symm, HOO.out.set i (by rw [HN.out]; exact HIQ.out) b, HB.out.setCell (p := ⟨gn, i, none⟩) HGB.out _⟩
            case measure => simp [idxOf]; have := HLT.out; omega
    · obtain rfl : j = L.length := by omega
      rw [List.drop_length] at hT
      have HT := Lib.hid hT
      have HOO := Lib.hid hO
      have HB := Lib.hid hb
      clear hT hO hb HO1 HB1
      go_wp2
      go_ret2
      rw [← HT.out]
      exact ⟨_, rfl, HOO.out, HB.out⟩
set_option maxHeartbeats 1000000 in
theorem spMark_any {w : World} {v a : Value} {Q : List Bool} {L : List Int} (h : UseS w v Q) (ha : IdxS w a L) (hq : Q.length ≤ 5000) (hL : L.length ≤ 5000) :
    Calls Try.prog 6 #[v, a] w fun e w' => ∃ r, e = .returned (.tuple #[r, .int .i64 (turnF true 4 Q L Q).2]) ∧ OwnU w' w.heap.size r (turnF true 4 Q L Q).1 ∧ Below w.heap.size w w' := by
  have hC := spTurn_any h ha hq hL true 4
  obtain ⟨A, cap, rfl, _⟩ := h
  obtain ⟨A2, cap2, rfl, _⟩ := ha
  go_enter Try.func6, Try.ntmps6
  go_wp2_with (go_at_call 20; refine hC.mono ?_; rintro e w1 ⟨r, rfl, hO, hb⟩; obtain ⟨A3, cap3, rfl, _⟩ := id hO)
  go_ret2
  exact ⟨_, rfl, hO, hb⟩
set_option maxHeartbeats 1000000 in
theorem spGive_any {w : World} {v a : Value} {Q : List Bool} {L : List Int} (h : UseS w v Q) (ha : IdxS w a L) (hq : Q.length ≤ 5000) (hL : L.length ≤ 5000) :
    Calls Try.prog 8 #[v, a] w fun e w' => ∃ r, e = .returned (.tuple #[r, .int .i64 (turnF false 3 Q L Q).2]) ∧ OwnU w' w.heap.size r (turnF false 3 Q L Q).1 ∧ Below w.heap.size w w' := by
  have hC := spTurn_any h ha hq hL false 3
  obtain ⟨A, cap, rfl, _⟩ := h
  obtain ⟨A2, cap2, rfl, _⟩ := ha
  go_enter Try.func8, Try.ntmps8
  go_wp2_with (go_at_call 20; refine hC.mono ?_; rintro e w1 ⟨r, rfl, hO, hb⟩; obtain ⟨A3, cap3, rfl, _⟩ := id hO)
  go_ret2
  exact ⟨_, rfl, hO, hb⟩
end Go.Proofs.Ytoaofhgkpnpglaa
