/- Charts: the document's own blank and Check. -/
import Derived.Test.YtngkbcaflkinhaaDoorChtE
namespace Go.Proofs.YtngkbcaflkinhaaDoor
open Go.RowKit

theorem any_take_drop {l : List EN} {m : Nat} (h : (l.drop m).any fullB = false) : (l.take m).any fullB = l.any fullB := by
  have : l.any fullB = (l.take m ++ l.drop m).any fullB := by rw [List.take_append_drop]
  rw [this, List.any_append, h, Bool.or_false]
theorem drop_any {l : List EN} {m : Nat} : (l.drop m).any fullB = false ↔ ∀ i, i < l.length → m ≤ i → fullB (l.getD i EN.zero) = false := by
  constructor
  · intro h i hi hm
    have h1 : l[i] ∈ l.drop m := List.mem_iff_getElem.2 ⟨i - m, by rw [List.length_drop]; omega, by rw [List.getElem_drop]; congr 1; omega⟩
    have h2 := List.any_eq_false.1 h _ h1
    rw [List.getD, List.getElem?_eq_getElem hi]
    simpa using h2
  · intro h
    rw [List.any_eq_false]
    intro x hx
    obtain ⟨k, hk, rfl⟩ := List.mem_iff_getElem.1 hx
    rw [List.length_drop] at hk
    have := h (m + k) (by omega) (by omega)
    rw [List.getD, List.getElem?_eq_getElem (by omega)] at this
    rw [List.getElem_drop]
    simpa using this
theorem any_wrong {l : List EN} : l.any wrongB = false ↔ ∀ i, i < l.length → EOk (l.getD i EN.zero) := by
  rw [List.any_eq_false]
  constructor
  · intro h i hi
    have := h l[i] (List.getElem_mem _)
    rw [List.getD, List.getElem?_eq_getElem hi]
    unfold wrongB at this
    simpa using this
  · intro h x hx
    obtain ⟨k, hk, rfl⟩ := List.mem_iff_getElem.1 hx
    have := h k hk
    rw [List.getD, List.getElem?_eq_getElem hk] at this
    unfold wrongB
    simpa using this
/-- A table, entry by entry. -/
def eachOk (l : List EN) (n : Nat) (i : Nat) : Prop := EOk (l.getD i EN.zero) ∧ (n ≤ i → fullB (l.getD i EN.zero) = false)
theorem tbl_ref (E n : Nat) (l : List EN) (hl : l.length = E) : tblB (E : Int) l (n : Int) = true ↔ (l.any fullB = true ∧ ∀ i, i < l.length → eachOk l n i) := by
  unfold tblB eachOk
  have hmin : (min (n : Int) (E : Int)).toNat = min n E := by omega
  rw [hmin]
  simp only [Bool.and_eq_true, decide_eq_true_eq, Bool.not_eq_true']
  constructor
  · rintro ⟨⟨⟨_, h1⟩, h2⟩, h3⟩
    rw [any_take_drop h3] at h2
    exact ⟨h2, fun i hi => ⟨any_wrong.1 h1 i hi, fun hn => drop_any.1 h3 i hi (by omega)⟩⟩
  · rintro ⟨h1, h2⟩
    have h3 : (l.drop (min n E)).any fullB = false := drop_any.2 (fun i hi hm => (h2 i hi).2 (by omega))
    exact ⟨⟨⟨by omega, any_wrong.2 (fun i hi => (h2 i hi).1)⟩, by rw [any_take_drop h3]; exact h1⟩, h3⟩
end Go.Proofs.YtngkbcaflkinhaaDoor

