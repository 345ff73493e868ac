/- Fields: the contracts of the document's own Get, and of Text. -/
import Derived.Test.YtjhpheepimbbdaaDoorFldD
import Derived.Test.YtjhpheepimbbdaaDoorFldC
namespace Go.Proofs.YtjhpheepimbbdaaDoor
open Go.RowKit

theorem leN_drop {l : List UInt8} {j : Nat} (h : j < l.length) : leN (l.drop j) = (l[j]).toNat + 256 * leN (l.drop (j + 1)) := by
  rw [List.drop_eq_getElem_cons h, leN]
theorem leN_drop_lt (l : List UInt8) (j : Nat) (h : l.length ≤ 8) : leN (l.drop j) < 18446744073709551616 := by
  have h1 := leN_lt (l.drop j)
  have h2 : 256 ^ (l.drop j).length ≤ 256 ^ 8 := Nat.pow_le_pow_right (by omega) (by rw [List.length_drop]; omega)
  exact Nat.lt_of_lt_of_le h1 (Nat.le_trans h2 (by decide))

theorem row_one (W : World) (b : UInt8) : Row8 (W.alloc (.cells #[.int .u8 (b.toNat : Int)] 5)) W.heap.size 0 [b] := by
  refine ⟨by simp, fun j hj => ?_⟩
  obtain rfl : j = 0 := by simpa using hj
  constructor
  · rw [cell_of_row _ _ _ _ 5 (0, 0) (heap_alloc_new W _)]; rfl
  · exact frozen_of_row _ _ _ _ 5 (heap_alloc_new W _)
theorem conv_one (W : World) (b : UInt8) : (convert 58 9 (.slice (some ⟨W.heap.size, 0, none⟩) 1 1)).run Tryd.prog (W.alloc (.cells #[.int .u8 (b.toNat : Int)] 5)) = .ok (.string ⟨#[b]⟩) (W.alloc (.cells #[.int .u8 (b.toNat : Int)] 5)) :=
  string_of_row (P := Tryd.prog) (cap := 1) 1 rfl (row_one W b) 58 9 5 Tryd.underlying58 Tryd.underlying5 Tryd.underlying9
theorem text_val (s : ByteArray) (y : UInt8) (h : s.size ≤ 32) (hy : (s.size : Int) = (y.toNat : Int)) : (⟨#[y]⟩ ++ s : ByteArray) = ⟨(textS s.data.toList).toArray⟩ := by
  have e : UInt8.ofNat s.size = y := UInt8.toNat_inj.1 (by rw [UInt8.toNat_ofNat']; have := y.toNat_lt; omega)
  have e2 : textS s.data.toList = y :: s.data.toList := by unfold textS; rw [size_toList, if_pos h, e]
  rw [e2]
  apply ByteArray.ext
  rw [ByteArray.data_append]
  apply Array.ext'
  simp
theorem text_err (s : ByteArray) : textE s.data.toList = if s.size ≤ 32 then 0 else 7 := by unfold textE; rw [size_toList]
theorem text_no (s : ByteArray) (h : ¬ s.size ≤ 32) : textS s.data.toList = [] := by unfold textS; rw [size_toList, if_neg h]
end Go.Proofs.YtjhpheepimbbdaaDoor
