/- Fields: the contracts of the document's own Get, and of Text. -/
import Derived.Test.YtifhbaacljkleaaFldD
import Derived.Test.YtifhbaacljkleaaFldC
namespace Go.Proofs.Ytifhbaacljkleaa
open Go.RowKit

theorem leN_drop {l : List UInt8} {j : Nat} (h : j < l.length) : leN (l.drop j) = (l[j]).toNat + 256 * leN (l.drop (j + 1)) := by
  rw [List.drop_eq_getElem_cons h, leN]
theorem leN_drop_lt (l : List UInt8) (j : Nat) (h : l.length ≤ 8) : leN (l.drop j) < 18446744073709551616 := by
  have h1 := leN_lt (l.drop j)
  have h2 : 256 ^ (l.drop j).length ≤ 256 ^ 8 := Nat.pow_le_pow_right (by omega) (by rw [List.length_drop]; omega)
  exact Nat.lt_of_lt_of_le h1 (Nat.le_trans h2 (by decide))
set_option maxHeartbeats 1000000 in
theorem refGet_ok (K : Nat) (s : ByteArray) (hK : 1 ≤ K ∧ K ≤ 8) (hW : isW (K : Int) = true) (hs : K ≤ s.size) (w : World) :
    Calls Try.prog 61 #[.int .i64 (K : Int), .string s] w fun e w' => e = .returned (.tuple #[.int .u64 ((leN (s.data.toList.take K) : Nat) : Int), .int .i64 0]) ∧ Below w.heap.size w w' := by
  have hI := refIsW_any (K : Int)
  rw [hW] at hI
  obtain ⟨hK1, hK8⟩ := hK
  have d0 : decide (s.size < K) = false := decide_eq_false (by omega)
  have HL : Hid ((s.data.toList.take K).length = K) := Lib.hid (by rw [List.length_take, Nat.min_eq_left (by simp; omega)])
  clear hW
  go_enter Try.func61, Try.ntmps61
  go_wp2_with (go_at_call 76; refine (hI _).mono ?_; rintro e w' ⟨rfl, rfl⟩)
  clear hI
  go_loopw [6, 7] (fun nn ix wr => ∃ (j m : Nat), j ≤ K ∧ ix = .int .i64 ((j : Int) - 1) ∧ nn = .int .u64 (m : Int) ∧ m = leN ((s.data.toList.take K).drop j) ∧ wr = w) (fun _ ix _ => (intOf ix + 1).toNat)
  case atStart => exact ⟨K, 0, Nat.le_refl _, rfl, rfl, by rw [List.drop_of_length_le (by rw [HL.out]; exact Nat.le_refl _)]; rfl, rfl⟩
  case round =>
    obtain ⟨j, m, hj, rfl, rfl, hm, rfl⟩ := hrel
    by_cases h0 : 0 < j
    · obtain ⟨i, rfl⟩ : ∃ i, j = i + 1 := ⟨j - 1, by omega⟩
      have hij : ((i + 1 : Nat) : Int) - 1 = (i : Int) := by omega
      rw [hij]
      have his : i < s.size := by omega
      have hlt := leN_drop_lt (s.data.toList.take K) i (by rw [HL.out]; exact hK8)
      have hst : leN ((s.data.toList.take K).drop i) = s[i].toNat + 256 * m := by
        rw [leN_drop (by rw [HL.out]; omega), hm, List.getElem_take]; rfl
      have hb := s[i].toNat_lt
      have hw1 : IntKind.u64.wrap (256 * (m : Int)) = ((256 * m : Nat) : Int) := by rw [IntKind.wrap_u64]; omega
      have hw2 : IntKind.u64.wrap ((s[i].toNat : Nat) : Int) = ((s[i].toNat : Nat) : Int) := by rw [IntKind.wrap_u64]; omega
      have hw3 : IntKind.u64.wrap (256 * (m : Int) + ((s[i].toNat : Nat) : Int)) = ((256 * m + s[i].toNat : Nat) : Int) := by rw [IntKind.wrap_u64]; omega
      have HST := Lib.hid hst
      clear hm hlt hst hb hij
      go_wp2
      go_roundw
      case rel => exact ⟨i, 256 * m + s[i].toNat, by omega, rfl, by simp, by rw [HST.out, Nat.add_comm], trivial⟩
      case measure => simp [intOf]
    · obtain rfl : j = 0 := by omega
      have HM := Lib.hid hm
      clear hm
      go_wp2
      go_ret2
      exact ⟨by rw [HM.out]; rfl, Below.refl _ _⟩
set_option maxHeartbeats 1000000 in
theorem refGet_no1 (k : Int) (s : ByteArray) (hW : isW k = false) (w : World) :
    Calls Try.prog 61 #[.int .i64 k, .string s] w fun e w' => e = .returned (.tuple #[.int .u64 0, .int .i64 1]) ∧ Below w.heap.size w w' := by
  have hI := refIsW_any k
  rw [hW] at hI
  clear hW
  go_enter Try.func61, Try.ntmps61
  go_wp2_with (go_at_call 76; refine (hI _).mono ?_; rintro e w' ⟨rfl, rfl⟩)
  go_ret2
  exact ⟨rfl, Below.refl _ _⟩
set_option maxHeartbeats 1000000 in
theorem refGet_no2 (K : Nat) (s : ByteArray) (hW : isW (K : Int) = true) (hs : s.size < K) (w : World) :
    Calls Try.prog 61 #[.int .i64 (K : Int), .string s] w fun e w' => e = .returned (.tuple #[.int .u64 0, .int .i64 5]) ∧ Below w.heap.size w w' := by
  have hI := refIsW_any (K : Int)
  rw [hW] at hI
  have d0 : decide (s.size < K) = true := decide_eq_true hs
  clear hW
  go_enter Try.func61, Try.ntmps61
  go_wp2_with (go_at_call 76; refine (hI _).mono ?_; rintro e w' ⟨rfl, rfl⟩)
  go_ret2
  exact ⟨rfl, Below.refl _ _⟩
theorem refGet_any (k : Int) (s : ByteArray) (w : World) :
    Calls Try.prog 61 #[.int .i64 k, .string s] w fun e w' => e = .returned (.tuple #[.int .u64 ((getN k s.data.toList : Nat) : Int), .int .i64 (getE k s.data.toList)]) ∧ Below w.heap.size w w' := by
  unfold getN getE
  rw [size_toList]
  by_cases hW : isW k = true
  · have h8 := isW_le hW
    obtain ⟨K, rfl⟩ : ∃ K : Nat, k = (K : Int) := ⟨k.toNat, by omega⟩
    rw [Int.toNat_natCast, if_pos hW]
    by_cases hs : K ≤ s.size
    · rw [if_pos ⟨hW, hs⟩, if_pos hs]; exact refGet_ok K s (by omega) hW hs w
    · rw [if_neg (fun h => hs h.2), if_neg hs]; exact refGet_no2 K s hW (by omega) w
  · rw [if_neg (fun h => hW h.1), if_neg hW]; exact refGet_no1 k s (by simpa using hW) w

/-! ### Text -/
theorem row_one (W : World) (b : UInt8) : Row8 (W.alloc (.cells #[.int .u8 (b.toNat : Int)] 5)) W.heap.size 0 [b] := by
  refine ⟨by simp, fun j hj => ?_⟩
  obtain rfl : j = 0 := by simpa using hj
  constructor
  · rw [cell_of_row _ _ _ _ 5 (0, 0) (heap_alloc_new W _)]; rfl
  · exact frozen_of_row _ _ _ _ 5 (heap_alloc_new W _)
theorem conv_one (W : World) (b : UInt8) : (convert 75 9 (.slice (some ⟨W.heap.size, 0, none⟩) 1 1)).run Try.prog (W.alloc (.cells #[.int .u8 (b.toNat : Int)] 5)) = .ok (.string ⟨#[b]⟩) (W.alloc (.cells #[.int .u8 (b.toNat : Int)] 5)) :=
  string_of_row (P := Try.prog) (cap := 1) 1 rfl (row_one W b) 75 9 5 Try.underlying75 Try.underlying5 Try.underlying9
theorem text_val (s : ByteArray) (y : UInt8) (h : s.size ≤ 32) (hy : (s.size : Int) = (y.toNat : Int)) : (⟨#[y]⟩ ++ s : ByteArray) = ⟨(textS s.data.toList).toArray⟩ := by
  have e : UInt8.ofNat s.size = y := UInt8.toNat_inj.1 (by rw [UInt8.toNat_ofNat']; have := y.toNat_lt; omega)
  have e2 : textS s.data.toList = y :: s.data.toList := by unfold textS; rw [size_toList, if_pos h, e]
  rw [e2]
  apply ByteArray.ext
  rw [ByteArray.data_append]
  apply Array.ext'
  simp
theorem text_err (s : ByteArray) : textE s.data.toList = if s.size ≤ 32 then 0 else 7 := by unfold textE; rw [size_toList]
theorem text_no (s : ByteArray) (h : ¬ s.size ≤ 32) : textS s.data.toList = [] := by unfold textS; rw [size_toList, if_neg h]
end Go.Proofs.Ytifhbaacljkleaa
