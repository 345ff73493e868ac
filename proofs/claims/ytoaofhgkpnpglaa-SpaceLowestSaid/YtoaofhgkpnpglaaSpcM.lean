/- Uses of clusters: which are so; what is marked, given back, taken; and what follows of these. -/
import Derived.Test.YtoaofhgkpnpglaaKit
namespace Go.Proofs.Ytoaofhgkpnpglaa
open Go.RowKit

/-- These places turned to b. -/
def setB (b : Bool) : List Nat → List Bool → List Bool
  | [], N => N
  | i :: r, N => setB b r (N.set i b)
theorem setB_len (b : Bool) : ∀ (L : List Nat) (N : List Bool), (setB b L N).length = N.length
  | [], _ => rfl
  | i :: r, N => by unfold setB; rw [setB_len b r, List.length_set]
theorem setB_at (b : Bool) : ∀ (L : List Nat) (N : List Bool) (i : Nat), i < N.length → (setB b L N).getD i false = if i ∈ L then b else N.getD i false
  | [], N, i, _ => by simp [setB]
  | j :: r, N, i, hi => by
    unfold setB
    rw [setB_at b r _ i (by rw [List.length_set]; exact hi)]
    by_cases h : i ∈ r
    · rw [if_pos h, if_pos (List.mem_cons_of_mem _ h)]
    · rw [if_neg h]
      by_cases e : i = j
      · subst e; rw [if_pos (List.mem_cons_self ..)]; simp [List.getD, hi]
      · rw [if_neg (by simp [e, h])]
        simp [List.getD, List.getElem?_set_ne (Ne.symm e)]
theorem setB_snoc (b : Bool) : ∀ (L : List Nat) (N : List Bool) (i : Nat), setB b (L ++ [i]) N = (setB b L N).set i b
  | [], _, _ => rfl
  | j :: r, N, i => by show setB b (r ++ [i]) (N.set j b) = _; rw [setB_snoc b r]; rfl
theorem getD_ext {N M : List Bool} (h : N.length = M.length) (k : ∀ i, i < N.length → N.getD i false = M.getD i false) : N = M := by
  refine List.ext_getElem h (fun i h1 h2 => ?_)
  have := k i h1
  rw [List.getD, List.getD, List.getElem?_eq_getElem h1, List.getElem?_eq_getElem h2] at this
  exact this

/-- The clusters below n that are so. -/
def frI (b : Bool) (Q : List Bool) (n : Nat) : List Nat := (List.range n).filter (fun i => Q.getD i false == b)
def fr (b : Bool) (Q : List Bool) : List Nat := frI b Q Q.length
theorem frI_zero (b : Bool) (Q : List Bool) : frI b Q 0 = [] := rfl
theorem frI_yes {b : Bool} {Q : List Bool} {n : Nat} (h : Q.getD n false = b) : frI b Q (n + 1) = frI b Q n ++ [n] := by
  unfold frI; rw [List.range_succ, List.filter_append, List.filter_cons_of_pos (by rw [h]; exact beq_self_eq_true b)]; rfl
theorem frI_no {b : Bool} {Q : List Bool} {n : Nat} (h : Q.getD n false ≠ b) : frI b Q (n + 1) = frI b Q n := by
  unfold frI; rw [List.range_succ, List.filter_append]
  rw [List.filter_cons_of_neg (by rw [beq_iff_eq]; exact h), List.filter_nil, List.append_nil]
theorem frI_mem {b : Bool} {Q : List Bool} {n i : Nat} : i ∈ frI b Q n ↔ i < n ∧ Q.getD i false = b := by
  unfold frI; rw [List.mem_filter, List.mem_range]; simp
theorem frI_len (b : Bool) (Q : List Bool) (n : Nat) : (frI b Q n).length ≤ n := by
  unfold frI; have := List.length_filter_le (fun i => Q.getD i false == b) (List.range n); rw [List.length_range] at this; exact this
theorem frI_pre {b : Bool} {Q : List Bool} {i : Nat} : ∀ n, i ≤ n → ∃ r, frI b Q n = frI b Q i ++ r
  | 0, h => by obtain rfl : i = 0 := by omega
               exact ⟨[], by simp⟩
  | n + 1, h => by
    by_cases e : i = n + 1
    · exact ⟨[], by rw [e]; simp⟩
    · obtain ⟨r, hr⟩ := frI_pre (b := b) (Q := Q) (i := i) n (by omega)
      by_cases g : Q.getD n false = b
      · exact ⟨r ++ [n], by rw [frI_yes g, hr, List.append_assoc]⟩
      · exact ⟨r, by rw [frI_no g, hr]⟩
theorem frI_at {b : Bool} {Q : List Bool} {i n : Nat} (h : i < n) (g : Q.getD i false = b) : (frI b Q i).length < (frI b Q n).length ∧ (frI b Q n).getD (frI b Q i).length 0 = i ∧ (frI b Q n).take ((frI b Q i).length + 1) = frI b Q i ++ [i] := by
  obtain ⟨r, hr⟩ := frI_pre (b := b) (Q := Q) (i := i + 1) n (by omega)
  rw [frI_yes g] at hr
  rw [hr]
  refine ⟨by simp, ?_, ?_⟩
  · simp [List.getD]
  · rw [List.take_append_of_le_length (by simp), List.take_of_length_le (by simp)]
theorem frI_take {b : Bool} {Q : List Bool} {i n : Nat} (h : i ≤ n) : (frI b Q n).take (frI b Q i).length = frI b Q i := by
  obtain ⟨r, hr⟩ := frI_pre (b := b) (Q := Q) n h
  rw [hr]; simp
theorem frI_pw (b : Bool) (Q : List Bool) (n : Nat) : (frI b Q n).Pairwise (· < ·) := (List.pairwise_lt_range).filter _
theorem frI_nodup (b : Bool) (Q : List Bool) (n : Nat) : (frI b Q n).Nodup := (frI_pw b Q n).imp (fun h => Nat.ne_of_lt h)
theorem fr_len2 (Q : List Bool) : ∀ n, (frI true Q n).length + (frI false Q n).length = n
  | 0 => rfl
  | n + 1 => by
    have ih := fr_len2 Q n
    by_cases g : Q.getD n false = true
    · rw [frI_yes g, frI_no (b := false) (by rw [g]; decide), List.length_append]; simp; omega
    · have g2 : Q.getD n false = false := by simpa using g
      rw [frI_no (b := true) g, frI_yes g2, List.length_append]; simp; omega

/-- Clusters are turned, one by one; and why not. -/
def turnF (b : Bool) (bad : Int) (Q : List Bool) : List Int → List Bool → List Bool × Int
  | [], N => (N, 0)
  | c :: r, N => if c < 0 ∨ (Q.length : Int) ≤ c then (Q, 1) else if N.getD c.toNat false = b then (Q, bad) else turnF b bad Q r (N.set c.toNat b)
theorem turnF_drop {b : Bool} {bad : Int} {Q N : List Bool} {L : List Int} {j : Nat} (hj : j < L.length) :
    turnF b bad Q (L.drop j) N = if L.getD j 0 < 0 ∨ (Q.length : Int) ≤ L.getD j 0 then (Q, 1) else if N.getD (L.getD j 0).toNat false = b then (Q, bad) else turnF b bad Q (L.drop (j + 1)) (N.set (L.getD j 0).toNat b) := by
  rw [List.drop_eq_getElem_cons hj]
  have : L[j] = L.getD j 0 := by rw [List.getD, List.getElem?_eq_getElem hj]; rfl
  rw [this]; rfl
theorem turnF_len (b : Bool) (bad : Int) (Q : List Bool) : ∀ (L : List Int) (N : List Bool), N.length = Q.length → (turnF b bad Q L N).1.length = Q.length
  | [], N, h => h
  | c :: r, N, h => by
    unfold turnF
    split
    · rfl
    · split
      · rfl
      · exact turnF_len b bad Q r _ (by rw [List.length_set]; exact h)
/-- What is taken. -/
def takeE (Q : List Bool) (n : Int) : Int := if n < 0 then 1 else if ((fr false Q).length : Int) < n then 11 else 0
def takeL (Q : List Bool) (n : Int) : List Nat := if takeE Q n = 0 then (fr false Q).take n.toNat else []
def takeU (Q : List Bool) (n : Int) : List Bool := setB true (takeL Q n) Q
def intsN (L : List Nat) : List Int := L.map (fun i : Nat => (i : Int))
theorem intsN_len (L : List Nat) : (intsN L).length = L.length := List.length_map ..
theorem intsN_at {L : List Nat} {j : Nat} (h : j < L.length) : (intsN L).getD j 0 = (L.getD j 0 : Nat) := by
  unfold intsN; simp [List.getD, h]
/-- A use that is made. -/
def newE (c : Int) : Int := if c < 4 ∨ 4096 < c then 1 else 0
def newU (c : Int) : List Bool := if newE c = 0 then setB true [0, 1] (List.replicate c.toNat false) else []

theorem takeE_pos {Q : List Bool} {n : Int} (h : takeE Q n = 0) : 0 ≤ n ∧ n ≤ ((fr false Q).length : Int) := by
  unfold takeE at h
  split at h
  · omega
  · split at h
    · omega
    · omega
theorem takeL_len {Q : List Bool} {n : Int} (h : takeE Q n = 0) : ((takeL Q n).length : Int) = n := by
  have := takeE_pos h
  unfold takeL; rw [if_pos h, List.length_take]; omega
theorem takeU_len (Q : List Bool) (n : Int) : (takeU Q n).length = Q.length := setB_len ..
theorem filter_take {L : List Nat} (h : L.Nodup) (k : Nat) : L.filter (fun i => !decide (i ∈ L.take k)) = L.drop k := by
  have e : L = L.take k ++ L.drop k := (List.take_append_drop k L).symm
  have hd : ∀ i ∈ L.drop k, i ∉ L.take k := by
    intro i hi hi2
    rw [e, List.nodup_append] at h
    exact h.2.2 i hi2 i hi rfl
  conv => lhs; arg 2; rw [e]
  rw [List.filter_append]
  have e1 : (L.take k).filter (fun i => !decide (i ∈ L.take k)) = [] := by
    rw [List.filter_eq_nil_iff]; intro i hi; simp [hi]
  have e2 : (L.drop k).filter (fun i => !decide (i ∈ L.take k)) = L.drop k := by
    rw [List.filter_eq_self]; intro i hi; simp [hd i hi]
  rw [e1, e2, List.nil_append]
/-- Behind a taking as many fewer are free. -/
theorem take_free {Q : List Bool} {n : Int} (h : takeE Q n = 0) : ((fr false (takeU Q n)).length : Int) = ((fr false Q).length : Int) - n := by
  have hp := takeE_pos h
  have e : fr false (takeU Q n) = (fr false Q).drop n.toNat := by
    unfold fr
    rw [takeU_len, ← filter_take (frI_nodup false Q Q.length) n.toNat]
    unfold frI
    rw [List.filter_filter]
    refine List.filter_congr (fun i hi => ?_)
    rw [List.mem_range] at hi
    have hT : takeL Q n = (frI false Q Q.length).take n.toNat := by unfold takeL; rw [if_pos h]; rfl
    have hs : (takeU Q n).getD i false = if i ∈ takeL Q n then true else Q.getD i false := setB_at true _ _ i hi
    rw [hs, hT]
    unfold frI
    generalize ((List.range Q.length).filter (fun i => Q.getD i false == false)).take n.toNat = T
    by_cases g : i ∈ T
    · rw [if_pos g, decide_eq_true g]; cases Q.getD i false <;> rfl
    · rw [if_neg g, decide_eq_false g]; cases Q.getD i false <;> rfl
  rw [e, List.length_drop]; omega
/-- What was taken was free, and is used; it rises. -/
theorem take_each {Q : List Bool} {n : Int} {j : Nat} (hj : j < (takeL Q n).length) :
    (takeL Q n).getD j 0 < Q.length ∧ Q.getD ((takeL Q n).getD j 0) false = false ∧ (takeU Q n).getD ((takeL Q n).getD j 0) false = true := by
  have hm : (takeL Q n).getD j 0 ∈ takeL Q n := by rw [List.getD, List.getElem?_eq_getElem hj]; exact List.getElem_mem ..
  have hm2 : (takeL Q n).getD j 0 ∈ fr false Q := by
    have h2 := hm
    unfold takeL at h2 ⊢
    split at h2
    · rename_i g
      rw [if_pos g]; exact List.mem_of_mem_take h2
    · simp at h2
  have h3 := frI_mem.1 hm2
  refine ⟨h3.1, h3.2, ?_⟩
  unfold takeU
  rw [setB_at _ _ _ _ h3.1, if_pos hm]
theorem takeL_pw (Q : List Bool) (n : Int) : (takeL Q n).Pairwise (· < ·) := by
  unfold takeL
  split
  · exact (frI_pw false Q Q.length).sublist (List.take_sublist ..)
  · exact List.Pairwise.nil
theorem take_rise {Q : List Bool} {n : Int} {j : Nat} (hj : j + 1 < (takeL Q n).length) : (takeL Q n).getD j 0 < (takeL Q n).getD (j + 1) 0 := by
  have h := List.pairwise_iff_getElem.1 (takeL_pw Q n) j (j + 1) (by omega) hj (by omega)
  simpa [List.getD, hj, show j < (takeL Q n).length by omega] using h
/-- Below the last one that was taken nothing is free. -/
theorem take_low {Q : List Bool} {n : Int} (h : takeE Q n = 0) {j i : Nat} (hj : j < (takeL Q n).length) (hi : i < (takeL Q n).getD j 0) : (takeU Q n).getD i false = true := by
  obtain ⟨h1, h2, _⟩ := take_each hj
  have hil : i < Q.length := by omega
  unfold takeU
  rw [setB_at _ _ _ _ hil]
  by_cases g : Q.getD i false = true
  · rw [g]; simp
  · have g2 : Q.getD i false = false := by simpa using g
    have hp := takeE_pos h
    have hT : takeL Q n = (fr false Q).take n.toNat := by unfold takeL; rw [if_pos h]
    rw [if_pos]
    rw [hT] at hj hi ⊢
    rw [List.length_take] at hj
    have hlt : j < (frI false Q Q.length).length := Nat.lt_of_lt_of_le hj (Nat.min_le_right _ _)
    obtain ⟨a1, a2, _⟩ := frI_at (b := false) (Q := Q) (n := Q.length) hil g2
    have e1 : ((fr false Q).take n.toNat).getD j 0 = (fr false Q).getD j 0 := by rw [List.getD, List.getD, List.getElem?_take, if_pos (by omega)]
    rw [e1] at hi
    have hk : (frI false Q i).length < j := by
      refine Nat.lt_of_not_le (fun hle => ?_)
      rcases Nat.lt_or_ge j (frI false Q i).length with hlt2 | hge
      · have hpw := List.pairwise_iff_getElem.1 (frI_pw false Q Q.length) j (frI false Q i).length hlt a1 hlt2
        have x1 : (frI false Q Q.length)[j] = (fr false Q).getD j 0 := by show _ = (frI false Q Q.length).getD j 0; rw [List.getD, List.getElem?_eq_getElem hlt]; rfl
        have x2 : (frI false Q Q.length)[(frI false Q i).length] = i := by rw [List.getD, List.getElem?_eq_getElem a1] at a2; exact a2
        rw [x1, x2] at hpw; omega
      · obtain rfl : j = (frI false Q i).length := by omega
        have : (fr false Q).getD (frI false Q i).length 0 = i := a2
        omega
    rw [List.mem_iff_getElem?]
    refine ⟨(frI false Q i).length, ?_⟩
    rw [List.getElem?_take, if_pos (by omega)]
    show (frI false Q Q.length)[(frI false Q i).length]? = _
    rw [List.getElem?_eq_getElem a1]
    rw [List.getD, List.getElem?_eq_getElem a1] at a2
    exact congrArg some a2
/-- What is turned back, each once, that is the other way. -/
theorem turnF_back (b : Bool) (bad : Int) (Q : List Bool) : ∀ (L : List Nat) (N : List Bool), N.length = Q.length → L.Nodup → (∀ i ∈ L, i < Q.length ∧ N.getD i false ≠ b) → turnF b bad Q (intsN L) N = (setB b L N, 0)
  | [], N, _, _, _ => rfl
  | i :: r, N, hl, hn, h => by
    have hi := h i (List.mem_cons_self ..)
    show turnF b bad Q ((i : Int) :: intsN r) N = _
    unfold turnF
    rw [if_neg (by omega), Int.toNat_natCast, if_neg hi.2]
    rw [List.nodup_cons] at hn
    rw [turnF_back b bad Q r _ (by rw [List.length_set]; exact hl) hn.2 (fun k hk => ⟨(h k (List.mem_cons_of_mem _ hk)).1, ?_⟩)]
    · rfl
    · have hne : i ≠ k := fun e => hn.1 (e ▸ hk)
      have := (h k (List.mem_cons_of_mem _ hk)).2
      simpa [List.getD, List.getElem?_set_ne hne] using this
/-- Given back, all is as it was. -/
theorem take_back {Q : List Bool} {n : Int} (bad : Int) : turnF false bad (takeU Q n) (intsN (takeL Q n)) (takeU Q n) = (Q, 0) := by
  have hm : ∀ i ∈ takeL Q n, i < Q.length ∧ Q.getD i false = false ∧ (takeU Q n).getD i false = true := by
    intro i hi
    obtain ⟨j, hj, rfl⟩ := List.getElem_of_mem hi
    have := take_each (Q := Q) (n := n) hj
    rw [List.getD, List.getElem?_eq_getElem hj] at this
    exact this
  rw [turnF_back false bad _ _ _ rfl ((takeL_pw Q n).imp (fun h => Nat.ne_of_lt h)) (fun i hi => ⟨by rw [takeU_len]; exact (hm i hi).1, by rw [(hm i hi).2.2]; decide⟩)]
  congr 1
  refine getD_ext (by rw [setB_len, takeU_len]) (fun i hi => ?_)
  rw [setB_len, takeU_len] at hi
  rw [setB_at _ _ _ _ (by rw [takeU_len]; exact hi)]
  by_cases g : i ∈ takeL Q n
  · rw [if_pos g, (hm i g).2.1]
  · rw [if_neg g]
    unfold takeU
    rw [setB_at _ _ _ _ hi, if_neg g]
end Go.Proofs.Ytoaofhgkpnpglaa
