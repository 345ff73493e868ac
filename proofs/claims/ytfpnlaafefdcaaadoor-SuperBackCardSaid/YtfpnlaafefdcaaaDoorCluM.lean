/- Clusters: the plain model: writing, and reading, sector by sector. -/
import Derived.Test.YtfpnlaafefdcaaaDoorDevD
namespace Go.Proofs.YtfpnlaafefdcaaaDoor
open Go.RowKit

/-- The bytes of one sector of a text. -/
def partS (s : ByteArray) (j : Nat) : ByteArray := s.extract (j * 512) (j * 512 + 512)
/-- One write, as long as none failed. -/
def wrStep (F : Nat) (s : ByteArray) (st : DM × Int) (j : Nat) : DM × Int :=
  if st.2 = 0 then (writeM st.1 ((F + j : Nat) : Int) (partS s j), writeE st.1 ((F + j : Nat) : Int) (partS s j)) else st
def wrS (M : DM) (F : Nat) (s : ByteArray) (j : Nat) : DM × Int := (List.range j).foldl (wrStep F s) (M, 0)
theorem wrS_succ (M : DM) (F : Nat) (s : ByteArray) (j : Nat) : wrS M F s (j + 1) = wrStep F s (wrS M F s j) j := by
  unfold wrS; rw [List.range_succ, List.foldl_append]; rfl
theorem writeM_n (M : DM) (a : Int) (s : ByteArray) : (writeM M a s).n = M.n := by
  have h := (burnM_fresh M).2.1
  unfold writeM; split
  · exact h
  · split
    · rfl
    · exact h
theorem writeM_wr (M : DM) (a : Int) (s : ByteArray) : M.writes ≤ (writeM M a s).writes ∧ (writeM M a s).writes ≤ M.writes + 1 := by
  have h := (burnM_fresh M).2.2.1
  unfold writeM; split
  · exact ⟨Nat.le_succ _, Nat.le_refl _⟩
  · split
    · exact ⟨Nat.le_refl _, Nat.le_succ _⟩
    · rw [h]; exact ⟨Nat.le_refl _, Nat.le_succ _⟩
theorem wrStep_b (F : Nat) (s : ByteArray) (st : DM × Int) (j : Nat) : (wrStep F s st j).1.n = st.1.n ∧ (wrStep F s st j).1.writes ≤ st.1.writes + 1 := by
  unfold wrStep
  split
  · exact ⟨writeM_n _ _ _, (writeM_wr _ _ _).2⟩
  · exact ⟨rfl, Nat.le_succ _⟩
theorem wrFold_b (F : Nat) (s : ByteArray) : ∀ (l : List Nat) (st : DM × Int), (l.foldl (wrStep F s) st).1.n = st.1.n ∧ (l.foldl (wrStep F s) st).1.writes ≤ st.1.writes + l.length
  | [], st => ⟨rfl, Nat.le_refl _⟩
  | j :: r, st => by
    obtain ⟨h1, h2⟩ := wrStep_b F s st j
    obtain ⟨h3, h4⟩ := wrFold_b F s r (wrStep F s st j)
    rw [List.foldl_cons, List.length_cons]
    exact ⟨h3.trans h1, by omega⟩
theorem wrFold_stop (F : Nat) (s : ByteArray) : ∀ (l : List Nat) (st : DM × Int), st.2 ≠ 0 → l.foldl (wrStep F s) st = st
  | [], _, _ => rfl
  | j :: r, st, h => by
    have e : wrStep F s st j = st := if_neg h
    rw [List.foldl_cons, e]; exact wrFold_stop F s r st h
theorem wrS_b (M : DM) (F : Nat) (s : ByteArray) (j : Nat) : (wrS M F s j).1.n = M.n ∧ (wrS M F s j).1.writes ≤ M.writes + j := by
  have h := wrFold_b F s (List.range j) (M, 0)
  rw [List.length_range] at h
  exact h
/-- The first error stands. -/
theorem wrS_stop (M : DM) (F : Nat) (s : ByteArray) {i j : Nat} (h : (wrS M F s i).2 ≠ 0) (hij : i ≤ j) : wrS M F s j = wrS M F s i := by
  obtain ⟨k, rfl⟩ := Nat.le.dest hij
  have e : List.range (i + k) = List.range i ++ (List.range k).map (i + ·) := List.range_add
  unfold wrS at h ⊢
  rw [e, List.foldl_append]
  exact wrFold_stop F s _ _ h

/-- One read, as long as none failed. -/
def rdStep (M : DM) (F : Nat) (st : List UInt8 × Int) (j : Nat) : List UInt8 × Int :=
  if st.2 = 0 then (if readE M ((F + j : Nat) : Int) = 0 then (st.1 ++ readV M ((F + j : Nat) : Int), 0) else ([], readE M ((F + j : Nat) : Int))) else st
def rdS (M : DM) (F : Nat) (j : Nat) : List UInt8 × Int := (List.range j).foldl (rdStep M F) ([], 0)
theorem rdS_succ (M : DM) (F j : Nat) : rdS M F (j + 1) = rdStep M F (rdS M F j) j := by
  unfold rdS; rw [List.range_succ, List.foldl_append]; rfl
theorem rdFold_stop (M : DM) (F : Nat) : ∀ (l : List Nat) (st : List UInt8 × Int), st.2 ≠ 0 → l.foldl (rdStep M F) st = st
  | [], _, _ => rfl
  | j :: r, st, h => by
    have e : rdStep M F st j = st := if_neg h
    rw [List.foldl_cons, e]; exact rdFold_stop M F r st h
theorem rdS_stop (M : DM) (F : Nat) {i j : Nat} (h : (rdS M F i).2 ≠ 0) (hij : i ≤ j) : rdS M F j = rdS M F i := by
  obtain ⟨k, rfl⟩ := Nat.le.dest hij
  have e : List.range (i + k) = List.range i ++ (List.range k).map (i + ·) := List.range_add
  unfold rdS at h ⊢
  rw [e, List.foldl_append]
  exact rdFold_stop M F _ _ h
theorem rdStep_len (M : DM) (F : Nat) (st : List UInt8 × Int) (j : Nat) (hr : ∀ a, (readV M a).length ≤ 512) : (rdStep M F st j).1.length ≤ st.1.length + 512 := by
  unfold rdStep
  split
  · split
    · rw [List.length_append]; have := hr ((F + j : Nat) : Int); omega
    · simp
  · omega
theorem rdFold_len (M : DM) (F : Nat) (hr : ∀ a, (readV M a).length ≤ 512) : ∀ (l : List Nat) (st : List UInt8 × Int), (l.foldl (rdStep M F) st).1.length ≤ st.1.length + 512 * l.length
  | [], _ => Nat.le_refl _
  | j :: r, st => by
    have h1 := rdStep_len M F st j hr
    have h2 := rdFold_len M F hr r (rdStep M F st j)
    rw [List.foldl_cons, List.length_cons]; omega
end Go.Proofs.YtfpnlaafefdcaaaDoor
