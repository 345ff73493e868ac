/- Spans: what SpanAll reckons (no program). -/
import Derived.Test.YtdcpgjkaimekbaaSpnM
namespace Go.Proofs.Ytdcpgjkaimekbaa

def upF (S O : Nat) : Nat := (O + S - 1) / S
/-- Where SpanAll has come to: j spans were gone through, up to the byte o, r bytes are left, wh blocks were whole. -/
structure SA (S O N : Nat) (L : List SP) (j o r wh : Nat) : Prop where
  sum : o + r = O + N
  dr : L.drop j = cutN S o r
  jl : j ≤ L.length
  lo : O ≤ o
  wh : wh = o / S - upF S O
  al : 0 < j → 0 < r → o % S = 0 ∧ (L.getD (j - 1) SP.zero).b + 1 = ((o / S : Nat) : Int)
  ze : j = 0 → o = O
theorem SA.start {S O N : Nat} (hs : 0 < S) : SA S O N (cutN S O N) 0 O N 0 := by
  refine ⟨rfl, rfl, Nat.zero_le _, Nat.le_refl _, ?_, fun h => absurd h (by omega), fun _ => rfl⟩
  unfold upF
  rw [up_div hs]
  split <;> omega
theorem div_up {S O o : Nat} (hs : 0 < S) (h : O ≤ o) (hm : o % S = 0) : upF S O ≤ o / S := by
  unfold upF
  rw [up_div hs]
  have h1 : O / S ≤ o / S := Nat.div_le_div_right h
  split
  · exact h1
  · rename_i h2
    rcases Nat.lt_or_ge (O / S) (o / S) with h3 | h3
    · exact h3
    · have e : O / S = o / S := by omega
      have a := Nat.div_add_mod O S
      have b := Nat.div_add_mod o S
      rw [e] at a
      omega
theorem SA.step {S O N : Nat} {L : List SP} {j o r wh : Nat} (hs : 0 < S) (h : SA S O N L j o r wh) (hr : r ≠ 0) : ∃ q u k : Nat, q = o / S ∧ q * S + u = o ∧ 0 < k ∧ k ≤ r ∧ u + k ≤ S ∧ j < L.length ∧ L.getD j SP.zero = ⟨(q : Int), (u : Int), ((u + k : Nat) : Int)⟩ ∧
    (k = S → upF S O ≤ q ∧ q < (O + N) / S) ∧ (0 < j → (L.getD (j - 1) SP.zero).b + 1 = (q : Int)) ∧ SA S O N L (j + 1) (o + k) (r - k) (if k = S then wh + 1 else wh) := by
  obtain ⟨h1, h2, h3⟩ := cut_drop hs h.dr hr
  have hk := stp_pos (off := o) hs hr
  have hk2 := stp_le S o r
  have hm := Nat.mod_lt o hs
  have hk3 : o % S + stp S o r ≤ S := by unfold stp; omega
  have hkd : stp S o r = min (S - o % S) r := rfl
  have hdm := Nat.div_add_mod o S
  obtain ⟨k, hkk⟩ : ∃ k, k = stp S o r := ⟨_, rfl⟩
  rw [← hkk] at h2 h3 hk hk2 hk3 hkd
  obtain ⟨q, hq⟩ : ∃ q, q = o / S := ⟨_, rfl⟩
  obtain ⟨u, hu⟩ : ∃ u, u = o % S := ⟨_, rfl⟩
  have hw := h.wh
  rw [← hu, ← hq] at h2
  rw [← hu] at hk3 hkd hm
  rw [← hq, ← hu] at hdm
  rw [← hq] at hw
  have hmul : q * S + u = o := by rw [Nat.mul_comm]; exact hdm
  have hsum := h.sum
  have hlo := h.lo
  have dq : u + k = S → (o + k) / S = q + 1 := fun e => by
    have : o + k = (q + 1) * S := by rw [Nat.add_mul]; omega
    rw [this]; exact Nat.mul_div_cancel _ hs
  have dq2 : u + k < S → (o + k) / S = q := fun e => by
    have : o + k = (u + k) + q * S := by omega
    rw [this, Nat.add_mul_div_right _ _ hs, Nat.div_eq_of_lt e, Nat.zero_add]
  have dm : u + k = S → (o + k) % S = 0 := fun e => by
    have : o + k = (q + 1) * S := by rw [Nat.add_mul]; omega
    rw [this]; exact Nat.mul_mod_left _ _
  have full : k = S → upF S O ≤ q ∧ q < (O + N) / S := fun e => by
    have hu0 : u = 0 := by omega
    refine ⟨by rw [hq]; exact div_up hs hlo (by rw [← hu]; exact hu0), ?_⟩
    have h5 : (o + k) / S ≤ (O + N) / S := Nat.div_le_div_right (by omega)
    have := dq (by omega)
    omega
  have prev : 0 < j → (L.getD (j - 1) SP.zero).b + 1 = (q : Int) := fun hj => by rw [hq]; exact (h.al hj (by omega)).2
  refine ⟨q, u, k, hq, hmul, hk, hk2, hk3, h1, h2, full, prev, by omega, h3, h1, by omega, ?_, fun _ hr' => ?_, fun e => absurd e (by omega)⟩
  · by_cases e : k = S
    · rw [if_pos e, dq (by omega)]
      have := (full e).1
      omega
    · rw [if_neg e]
      by_cases e2 : u + k = S
      · -- the first one, from the middle of a block on
        rw [dq e2]
        have hu0 : u ≠ 0 := by omega
        have hj0 : j = 0 := by
          rcases Nat.eq_zero_or_pos j with h0 | h0
          · exact h0
          · have := (h.al h0 (by omega)).1; omega
        have ho := h.ze hj0
        have hF : upF S O = q + 1 := by
          unfold upF
          rw [up_div hs, ← ho, ← hu, if_neg hu0, ← hq]
        rw [hF] at hw ⊢
        omega
      · rw [dq2 (by omega)]
        exact hw
  · have e2 : u + k = S := by omega
    refine ⟨dm e2, ?_⟩
    rw [Nat.add_sub_cancel, h2, dq e2]
    show (q : Int) + 1 = ((q + 1 : Nat) : Int)
    push_cast; rfl
theorem SA.done {S O N : Nat} {L : List SP} {j o wh : Nat} (h : SA S O N L j o 0 wh) : j = L.length ∧ wh = (O + N) / S - upF S O := by
  have h1 := cut_done h.dr
  have h2 := h.jl
  have h3 := h.sum
  refine ⟨by omega, ?_⟩
  rw [h.wh, show o = O + N by omega]
end Go.Proofs.Ytdcpgjkaimekbaa
