/- What TopSolved's pieces bring back. -/
import Derived.Test.YtpldnbfbpajbkabDoorRsMath2
namespace Go.Proofs.YtpldnbfbpajbkabDoor
open Go.RowKit
open Caulk.Lin (Fn2 invM sx sx_congr stack)

/-- All pieces, those that are lost marked so. -/
def pcM (T : List ByteArray) (q : Nat → Bool) (c : Nat) : List (Bool × ByteArray) := (List.range c).map fun i => (!q i, T.getD i ByteArray.empty)
theorem pcM_len (T : List ByteArray) (q : Nat → Bool) (c : Nat) : (pcM T q c).length = c := by simp [pcM]
theorem pcM_at (T : List ByteArray) (q : Nat → Bool) {c i : Nat} (h : i < c) : (pcM T q c).getD i (false, ByteArray.empty) = (!q i, T.getD i ByteArray.empty) := by simp [pcM, List.getD, h]
theorem pcM_succ (T : List ByteArray) (q : Nat → Bool) (c : Nat) : pcM T q (c + 1) = pcM T q c ++ [(!q c, T.getD c ByteArray.empty)] := by simp [pcM, List.range_succ]
theorem thL_M (T : List ByteArray) (q : Nat → Bool) (c : Nat) : thL (pcM T q c) = thAt (fun i => !q i) c := by
  unfold thL thAt
  rw [pcM_len]
  exact List.filter_congr (fun i hi => by unfold thQ; rw [pcM_at T q (List.mem_range.1 hi)])
theorem thL_L (T : List ByteArray) (q : Nat → Bool) (c : Nat) : thL (pcL T q c) = thAt (fun i => !q i) c := by
  unfold thL thAt
  rw [pcL_len]
  exact List.filter_congr (fun i hi => pcL_q T q (List.mem_range.1 hi))
theorem thS_M (T : List ByteArray) (q : Nat → Bool) (c : Nat) : thS (pcM T q c) = thS (pcL T q c) := by
  unfold thS
  rw [thL_M, ← thL_L T q c]
  refine List.map_congr_left (fun i hi => ?_)
  have h := thL_there T q c hi
  rw [h.2]
  unfold thD
  rw [pcM_at T q h.1]
theorem dec_M (k m : Int) (T : List ByteArray) (q : Nat → Bool) (c : Nat) : decE k m (pcM T q c) = decE k m (pcL T q c) ∧ decL k m (pcM T q c) = decL k m (pcL T q c) ∧ ∀ K, backX K (pcM T q c) = backX K (pcL T q c) := by
  have h1 : decE k m (pcM T q c) = decE k m (pcL T q c) := by unfold decE; rw [pcM_len, pcL_len, thS_M, thL_M, thL_L]
  have h2 : ∀ K, backX K (pcM T q c) = backX K (pcL T q c) := fun K => by unfold backX; rw [thL_M, thL_L]
  exact ⟨h1, by unfold decL; rw [h1, h2, thS_M], h2⟩
theorem pcM_short {T : List ByteArray} {q : Nat → Bool} {c : Nat} (h : ∀ s, s ∈ T → s.size ≤ maxLen) (hc : c ≤ T.length) : ∀ p, p ∈ pcM T q c → p.2.size ≤ maxLen := fun p hp => by
  obtain ⟨i, hi, rfl⟩ := List.mem_map.1 hp
  have hi2 := List.mem_range.1 hi
  refine h _ ?_
  show T.getD i ByteArray.empty ∈ T
  rw [List.getD, List.getElem?_eq_getElem (by omega)]
  exact List.getElem_mem _
/-- The first K places that are there. -/
def atL (q : Nat → Bool) (K x : Nat) : List Nat := (thAt (fun i => !q i) x).take K
theorem atL_zero (q : Nat → Bool) (K : Nat) : atL q K 0 = [] := by simp [atL, thAt]
theorem atL_lost {q : Nat → Bool} {K x : Nat} (h : q x = true) : atL q K (x + 1) = atL q K x := by
  unfold atL; rw [thAt_succ, h]; simp
theorem atL_full {q : Nat → Bool} {K x : Nat} (h : ¬ (atL q K x).length < K) : atL q K (x + 1) = atL q K x := by
  unfold atL at h ⊢
  rw [List.length_take] at h
  rw [thAt_succ, List.take_append_of_le_length (by omega)]
theorem atL_more {q : Nat → Bool} {K x : Nat} (h : q x = false) (h2 : (atL q K x).length < K) : atL q K (x + 1) = atL q K x ++ [x] := by
  unfold atL at h2 ⊢
  rw [List.length_take] at h2
  have h3 : (thAt (fun i => !q i) x).length < K := by omega
  rw [thAt_succ, h]
  simp only [Bool.not_false, if_true]
  rw [List.take_of_length_le (by rw [List.length_append]; simp; omega), List.take_of_length_le (by omega)]
theorem atL_len (q : Nat → Bool) (K x : Nat) : (atL q K x).length ≤ K ∧ (atL q K x).length ≤ x := by
  unfold atL
  rw [List.length_take]
  have := thAt_len (fun i => !q i) x
  omega
theorem thAt_cnt (q : Nat → Bool) (x : Nat) : (thAt (fun i => !q i) x).length = cntB q x := by
  rw [← thL_L [] q x, thL_cnt]
theorem atL_cnt (q : Nat → Bool) (K x : Nat) : (atL q K x).length < K ↔ cntB q x < K := by
  unfold atL
  rw [List.length_take, thAt_cnt]
  omega
/-- Each of the data is what the inverse makes of the pieces that are there. -/
theorem top_weave {K M n : Nat} {D : List ByteArray} (hk : 1 ≤ K) (hkm : K + M ≤ 255) (hl : D.length = K) (hn : ∀ j, j < K → (D.getD j ByteArray.empty).size = n) (hn2 : n ≤ 65536) (q : Nat → Bool) (hc : K ≤ cntB q (K + M)) {i : Nat} (hi : i < K) :
    weaveS K n (backX K (pcL (stripeL K M D) q (K + M))) (thS (pcL (stripeL K M D) q (K + M))) i = D.getD i ByteArray.empty := by
  obtain ⟨e1, e2⟩ := (back_res (M := M) hk hkm hl hn hn2 q).2 hc
  have hsz := stripe_alike (M := M) hk hl hn q
  have hlen : (thS (pcL (stripeL K M D) q (K + M))).length = cntB q (K + M) := by rw [thS_len, thL_cnt]
  obtain ⟨P, hP⟩ : ∃ P, P = pcL (stripeL K M D) q (K + M) := ⟨_, rfl⟩
  rw [← hP] at e1 e2 hsz hlen ⊢
  unfold decL at e2
  rw [if_pos e1, Int.toNat_natCast, Int.toNat_natCast] at e2
  have h0 : ((thS P).getD 0 ByteArray.empty).size = n := hsz 0 (by omega)
  have e3 : (decAll K M (backX K P) (thS P)).getD i ByteArray.empty = weaveS K n (backX K P) ((thS P).take K) i := by
    rw [decAll_stripe hk, stripe_low (decData_len _ _ _) hi]
    unfold decData
    rw [weaveL_getD _ _ hi, h0]
  rw [e2, stripe_low hl hi] at e3
  rw [e3]
  unfold weaveS
  congr 2
  refine rowL_congr (fun b _ => ?_)
  unfold weaveF
  exact sx_congr (fun j hj => by simp [List.getD, hj])
end Go.Proofs.YtpldnbfbpajbkabDoor
