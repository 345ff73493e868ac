/- Places of a row of bools that are so, in their order. -/
import Derived.Test.YtmnjcmpikbihaaaKit
namespace Go.Proofs.Ytmnjcmpikbihaaa
open Go.RowKit

/-- The clusters below n that are so. -/
def frI (b : Bool) (Q : List Bool) (n : Nat) : List Nat := (List.range n).filter (fun i => Q.getD i false == b)
def fr (b : Bool) (Q : List Bool) : List Nat := frI b Q Q.length
theorem frI_zero (b : Bool) (Q : List Bool) : frI b Q 0 = [] := rfl
theorem frI_yes {b : Bool} {Q : List Bool} {n : Nat} (h : Q.getD n false = b) : frI b Q (n + 1) = frI b Q n ++ [n] := by
  unfold frI; rw [List.range_succ, List.filter_append, List.filter_cons_of_pos (by rw [h]; exact beq_self_eq_true b)]; rfl
theorem frI_no {b : Bool} {Q : List Bool} {n : Nat} (h : Q.getD n false ≠ b) : frI b Q (n + 1) = frI b Q n := by
  unfold frI; rw [List.range_succ, List.filter_append]
  rw [List.filter_cons_of_neg (by rw [beq_iff_eq]; exact h), List.filter_nil, List.append_nil]
theorem frI_mem {b : Bool} {Q : List Bool} {n i : Nat} : i ∈ frI b Q n ↔ i < n ∧ Q.getD i false = b := by
  unfold frI; rw [List.mem_filter, List.mem_range]; simp
theorem frI_len (b : Bool) (Q : List Bool) (n : Nat) : (frI b Q n).length ≤ n := by
  unfold frI; have := List.length_filter_le (fun i => Q.getD i false == b) (List.range n); rw [List.length_range] at this; exact this
theorem frI_pre {b : Bool} {Q : List Bool} {i : Nat} : ∀ n, i ≤ n → ∃ r, frI b Q n = frI b Q i ++ r
  | 0, h => by obtain rfl : i = 0 := by omega
               exact ⟨[], by simp⟩
  | n + 1, h => by
    by_cases e : i = n + 1
    · exact ⟨[], by rw [e]; simp⟩
    · obtain ⟨r, hr⟩ := frI_pre (b := b) (Q := Q) (i := i) n (by omega)
      by_cases g : Q.getD n false = b
      · exact ⟨r ++ [n], by rw [frI_yes g, hr, List.append_assoc]⟩
      · exact ⟨r, by rw [frI_no g, hr]⟩
theorem frI_at {b : Bool} {Q : List Bool} {i n : Nat} (h : i < n) (g : Q.getD i false = b) : (frI b Q i).length < (frI b Q n).length ∧ (frI b Q n).getD (frI b Q i).length 0 = i ∧ (frI b Q n).take ((frI b Q i).length + 1) = frI b Q i ++ [i] := by
  obtain ⟨r, hr⟩ := frI_pre (b := b) (Q := Q) (i := i + 1) n (by omega)
  rw [frI_yes g] at hr
  rw [hr]
  refine ⟨by simp, ?_, ?_⟩
  · simp [List.getD]
  · rw [List.take_append_of_le_length (by simp), List.take_of_length_le (by simp)]
theorem frI_take {b : Bool} {Q : List Bool} {i n : Nat} (h : i ≤ n) : (frI b Q n).take (frI b Q i).length = frI b Q i := by
  obtain ⟨r, hr⟩ := frI_pre (b := b) (Q := Q) n h
  rw [hr]; simp
theorem frI_pw (b : Bool) (Q : List Bool) (n : Nat) : (frI b Q n).Pairwise (· < ·) := (List.pairwise_lt_range).filter _
theorem frI_nodup (b : Bool) (Q : List Bool) (n : Nat) : (frI b Q n).Nodup := (frI_pw b Q n).imp (fun h => Nat.ne_of_lt h)
end Go.Proofs.Ytmnjcmpikbihaaa
