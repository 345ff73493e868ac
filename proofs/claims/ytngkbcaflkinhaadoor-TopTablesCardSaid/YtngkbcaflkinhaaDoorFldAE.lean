/- Fields: the contracts of isWidth and Put. Fields: the contracts of Put, the program's and the document's. Fields: the contract of Get. Fields: the contract of the document's own Put. Fields: the contracts of the document's own Get, and of Text. -/
import Derived.Test.YtngkbcaflkinhaaDoorFldEM
import Derived.Test.YtngkbcaflkinhaaDoorByteAll
import Derived.Laws.Shifts
import Derived.Laws.AppendOwn
import Derived.Laws.AppendOwnNone
import Derived.OwnWalk
import Derived.Maps.AppendAt
namespace Go.Proofs.YtngkbcaflkinhaaDoor
open Go.RowKit

theorem fldIsW_any (k : Int) (w : World) : Calls Tryd.prog 54 #[.int .i64 k] w fun e w' => e = .returned (.bool (isW k)) ∧ w = w' := by
  by_cases h1 : k = 1
  · subst h1
    go_enter Tryd.func54, Tryd.ntmps54
    go_wp2
    go_ret
    exact ⟨rfl, rfl⟩
  by_cases h2 : k = 2
  · subst h2
    go_enter Tryd.func54, Tryd.ntmps54
    go_wp2
    go_ret
    exact ⟨rfl, rfl⟩
  by_cases h4 : k = 4
  · subst h4
    go_enter Tryd.func54, Tryd.ntmps54
    go_wp2
    go_ret
    exact ⟨rfl, rfl⟩
  by_cases h8 : k = 8
  · subst h8
    go_enter Tryd.func54, Tryd.ntmps54
    go_wp2
    go_ret
    exact ⟨rfl, rfl⟩
  have e : isW k = false := by unfold isW; simp [h1, h2, h4, h8]
  rw [e]
  have d1 : (k == 1) = false := by simpa using h1
  have d2 : (k == 2) = false := by simpa using h2
  have d4 : (k == 4) = false := by simpa using h4
  have d8 : (k == 8) = false := by simpa using h8
  clear e h1 h2 h4 h8
  go_enter Tryd.func54, Tryd.ntmps54
  go_wp2
  go_ret
  exact ⟨rfl, rfl⟩
theorem makeB (n : Nat) (h : n ≤ 140737488355328) (W : World) : (Instr.makeSlice 64 (.int .i64 (n : Int)) (.int .i64 (n : Int))).run Tryd.prog W = .ok (.slice (some ⟨W.heap.size, 0, none⟩) n n) (W.alloc (.cells (madeCells #[.int .u8 0] n) 5)) :=
  run_make_row' (P := Tryd.prog) 64 5 (.int .u8 0) 1 Tryd.underlying64 infoU8 rfl .i64 .i64 n (by omega) (by omega) W
end Go.Proofs.YtngkbcaflkinhaaDoor
namespace Go.Proofs.YtngkbcaflkinhaaDoor
open Go.RowKit

/-- What the loop has put at its start: j of the bytes, and noughts. -/
def putL (K n j : Nat) : List UInt8 := leB j n ++ List.replicate (K - j) 0
theorem putL_len {K n j : Nat} (h : j ≤ K) : (putL K n j).length = K := by unfold putL; rw [List.length_append, leB_len, List.length_replicate]; omega
theorem putL_step {K n j : Nat} (h : j < K) : (putL K n j).set j (UInt8.ofNat (n / 256 ^ j)) = putL K n (j + 1) := by
  unfold putL
  rw [List.set_append_right _ _ (by rw [leB_len]; exact Nat.le_refl _), leB_len, Nat.sub_self, leB_snoc, List.append_assoc]
  congr 1
  rw [show K - j = (K - (j + 1)) + 1 by omega, List.replicate_succ]; rfl
theorem u8_shr (n j : Nat) : (n : Int) / 2 ^ (8 * j) % 256 = ((UInt8.ofNat (n / 256 ^ j)).toNat : Int) := by
  rw [UInt8.toNat_ofNat', show (2 : Int) ^ (8 * j) = ((256 ^ j : Nat) : Int) by rw [Int.pow_mul]; simp]; simp
theorem shr_zero (n K : Nat) (h : n < 256 ^ K) : (n : Int) / 2 ^ (8 * K) = 0 := by
  rw [show (2 : Int) ^ (8 * K) = ((256 ^ K : Nat) : Int) by rw [Int.pow_mul]; simp, ← Int.natCast_ediv, Nat.div_eq_of_lt h]; rfl
theorem shr_more (n K : Nat) (h : ¬ n < 256 ^ K) : ((n : Int) / 2 ^ (8 * K) == 0) = false := by
  rw [show (2 : Int) ^ (8 * K) = ((256 ^ K : Nat) : Int) by rw [Int.pow_mul]; simp, ← Int.natCast_ediv, beq_eq_false_iff_ne]
  have : 0 < n / 256 ^ K := Nat.div_pos (by omega) (Nat.pow_pos (by omega))
  omega
theorem mul8 (K : Nat) (h : K ≤ 8) : wrap64 (8 * (K : Int)) = ((8 * K : Nat) : Int) := by
  unfold wrap64; omega
set_option maxHeartbeats 1000000 in
theorem fldPut_ok (K n : Nat) (hK : 1 ≤ K ∧ K ≤ 8) (hW : isW (K : Int) = true) (hn : n < 256 ^ K) (w : World) :
    Calls Tryd.prog 43 #[.int .i64 (K : Int), .int .u64 (n : Int)] w fun e w' => e = .returned (.tuple #[.string ⟨(leB K n).toArray⟩, .int .i64 0]) ∧ Below w.heap.size w w' := by
  have hI := fldIsW_any (K : Int)
  rw [hW] at hI
  have hmk := makeB K (by omega)
  obtain ⟨hK1, hK8⟩ := hK
  have hm := mul8 K hK8
  have hq := shr_zero n K hn
  clear hW hn
  go_enter Tryd.func43, Tryd.ntmps43
  go_wp2_with (go_at_call 54; refine (hI _).mono ?_; rintro e w' ⟨rfl, rfl⟩)
  have HR := Lib.hid (row_made w K 5)
  have HB : Hid (Below w.heap.size w (w.alloc (.cells (madeCells #[.int .u8 0] K) 5))) := Lib.hid ((Below.refl _ _).alloc (Nat.le_refl _) _)
  generalize w.alloc (.cells (madeCells #[.int .u8 0] K) 5) = w1 at HR HB ⊢
  clear hmk hI hm hq
  go_loopw [22] (fun ix wr => ∃ j : Nat, j ≤ K ∧ ix = .int .i64 (j : Int) ∧ Row8 wr w.heap.size 0 (putL K n j) ∧ Below w.heap.size w wr) (fun ix _ => K - (intOf ix).toNat)
  case atStart => exact ⟨0, Nat.zero_le _, rfl, by unfold putL; simp only [leB, List.nil_append, Nat.sub_zero]; exact HR.out, HB.out⟩
  case round =>
    obtain ⟨j, hj, rfl, hrow, hb⟩ := hrel
    have HROW := Lib.hid hrow
    have HBR := Lib.hid hb
    clear hrow hb HR HB
    by_cases hlt : j < K
    · have hcell := (HROW.out.2 j (by rw [putL_len hj]; exact hlt)).1
      have hfz := (HROW.out.2 j (by rw [putL_len hj]; exact hlt)).2
      rw [Nat.zero_add] at hcell hfz
      generalize (putL K n j).getD j 0 = y at hcell
      have hm := mul8 j (by omega)
      go_wp2
      go_roundw
      case rel => exact ⟨j + 1, by omega, by go_num, by have := HROW.out.set j (by rw [putL_len hj]; exact hlt) (UInt8.ofNat (n / 256 ^ j)); rw [putL_step hlt, Nat.zero_add, ← u8_shr] at this; exact this, HBR.out.setCell (p := ⟨w.heap.size, j, none⟩) (Nat.le_refl _) _⟩
      case measure => simp [intOf]; omega
    · obtain rfl : j = K := by omega
      have hs := fun (W : World) (h : Row8 W w.heap.size 0 (leB j n)) => string_of_row (P := Tryd.prog) (cap := j) j (leB_len j n).symm h 64 9 5 Tryd.underlying64 Tryd.underlying5 Tryd.underlying9
      have hcv := hs wr (by have := HROW.out; unfold putL at this; rw [Nat.sub_self, List.replicate_zero, List.append_nil] at this; exact this)
      clear hs
      go_wp2
      go_ret2
      exact ⟨rfl, HBR.out⟩
set_option maxHeartbeats 1000000 in
theorem fldPut_no1 (k : Int) (n : Nat) (hW : isW k = false) (w : World) :
    Calls Tryd.prog 43 #[.int .i64 k, .int .u64 (n : Int)] w fun e w' => e = .returned (.tuple #[.string ⟨#[]⟩, .int .i64 1]) ∧ Below w.heap.size w w' := by
  have hI := fldIsW_any k
  rw [hW] at hI
  clear hW
  go_enter Tryd.func43, Tryd.ntmps43
  go_wp2_with (go_at_call 54; refine (hI _).mono ?_; rintro e w' ⟨rfl, rfl⟩)
  go_ret2
  exact ⟨rfl, Below.refl _ _⟩
set_option maxHeartbeats 1000000 in
theorem fldPut_no2 (K n : Nat) (hK : 1 ≤ K ∧ K ≤ 8) (hW : isW (K : Int) = true) (hn : ¬ n < 256 ^ K) (w : World) :
    Calls Tryd.prog 43 #[.int .i64 (K : Int), .int .u64 (n : Int)] w fun e w' => e = .returned (.tuple #[.string ⟨#[]⟩, .int .i64 1]) ∧ Below w.heap.size w w' := by
  have hI := fldIsW_any (K : Int)
  rw [hW] at hI
  obtain ⟨hK1, hK8⟩ := hK
  have hm := mul8 K hK8
  have hq := shr_more n K hn
  clear hW hn
  go_enter Tryd.func43, Tryd.ntmps43
  go_wp2_with (go_at_call 54; refine (hI _).mono ?_; rintro e w' ⟨rfl, rfl⟩)
  go_ret2
  exact ⟨rfl, Below.refl _ _⟩
theorem fldPut_any (k : Int) (n : Nat) (w : World) :
    Calls Tryd.prog 43 #[.int .i64 k, .int .u64 (n : Int)] w fun e w' => e = .returned (.tuple #[.string ⟨(putS k n).toArray⟩, .int .i64 (putE k n)]) ∧ Below w.heap.size w w' := by
  unfold putS putE
  by_cases hW : isW k = true
  · have h8 := isW_le hW
    obtain ⟨K, rfl⟩ : ∃ K : Nat, k = (K : Int) := ⟨k.toNat, by omega⟩
    rw [Int.toNat_natCast]
    by_cases hn : n < 256 ^ K
    · rw [if_pos ⟨hW, hn⟩, if_pos ⟨hW, hn⟩]; exact fldPut_ok K n (by omega) hW hn w
    · rw [if_neg (fun h => hn h.2), if_neg (fun h => hn h.2)]; exact fldPut_no2 K n (by omega) hW hn w
  · rw [if_neg (fun h => hW h.1), if_neg (fun h => hW h.1)]; exact fldPut_no1 k n (by simpa using hW) w
end Go.Proofs.YtngkbcaflkinhaaDoor
namespace Go.Proofs.YtngkbcaflkinhaaDoor
open Go.RowKit

theorem or_fits {m j b : Nat} (hm : m < 256 ^ j) (hb : b < 256) (hj : j ≤ 7) :
    bits .or .u64 (m : Int) (IntKind.u64.wrap (IntKind.u64.wrap (b : Int) * 2 ^ (8 * j))) = ((m + 256 ^ j * b : Nat) : Int) := by
  have hp : (2 : Nat) ^ (8 * j) = 256 ^ j := by rw [Nat.pow_mul]
  have hle : 256 ^ j ≤ 256 ^ 7 := Nat.pow_le_pow_right (by omega) hj
  have hbig : 256 ^ j * b + 256 ^ j ≤ 18446744073709551616 := by
    have h1 : 256 ^ j * (b + 1) ≤ 256 ^ 7 * 256 := Nat.mul_le_mul hle (by omega)
    rw [Nat.mul_add, Nat.mul_one] at h1
    exact Nat.le_trans h1 (by decide)
  have e1 : IntKind.u64.wrap (b : Int) = (b : Int) := by rw [IntKind.wrap_u64]; omega
  have e2 : IntKind.u64.wrap ((b : Int) * 2 ^ (8 * j)) = ((256 ^ j * b : Nat) : Int) := by
    rw [show (b : Int) * 2 ^ (8 * j) = ((256 ^ j * b : Nat) : Int) by rw [← hp, Int.natCast_mul, Int.natCast_pow, Int.mul_comm]; rfl, IntKind.wrap_u64]; omega
  rw [e1, e2]
  show IntKind.u64.wrap ((BitVec.ofInt 64 (m : Int) ||| BitVec.ofInt 64 ((256 ^ j * b : Nat) : Int)).toNat : Int) = _
  rw [BitVec.toNat_or, BitVec.ofInt_natCast, BitVec.ofInt_natCast, BitVec.toNat_ofNat, BitVec.toNat_ofNat, Nat.mod_eq_of_lt (by omega), Nat.mod_eq_of_lt (by omega)]
  have e3 : m ||| 256 ^ j * b = m + 256 ^ j * b := by
    have h := Nat.two_pow_add_eq_or_of_lt (i := 8 * j) (b := m) (by rw [hp]; exact hm) b
    rw [hp] at h
    rw [Nat.or_comm, ← h, Nat.add_comm]
  rw [e3, IntKind.wrap_u64]; omega
set_option maxHeartbeats 1000000 in
theorem fldGet_ok (K : Nat) (s : ByteArray) (hK : 1 ≤ K ∧ K ≤ 8) (hW : isW (K : Int) = true) (hs : K ≤ s.size) (w : World) :
    Calls Tryd.prog 46 #[.int .i64 (K : Int), .string s] w fun e w' => e = .returned (.tuple #[.int .u64 ((leN (s.data.toList.take K) : Nat) : Int), .int .i64 0]) ∧ Below w.heap.size w w' := by
  have hI := fldIsW_any (K : Int)
  rw [hW] at hI
  obtain ⟨hK1, hK8⟩ := hK
  have d0 : decide (s.size < K) = false := decide_eq_false (by omega)
  clear hW
  go_enter Tryd.func46, Tryd.ntmps46
  go_wp2_with (go_at_call 54; refine (hI _).mono ?_; rintro e w' ⟨rfl, rfl⟩)
  clear hI
  go_loopw [6, 16] (fun nn ix wr => ∃ (j m : Nat), j ≤ K ∧ ix = .int .i64 (j : Int) ∧ nn = .int .u64 (m : Int) ∧ m = leN (s.data.toList.take j) ∧ wr = w) (fun _ ix _ => K - (intOf ix).toNat)
  case atStart => exact ⟨0, 0, Nat.zero_le _, rfl, rfl, rfl, rfl⟩
  case round =>
    obtain ⟨j, m, hj, rfl, rfl, hm, rfl⟩ := hrel
    by_cases hlt : j < K
    · have h8 := mul8 j (by omega)
      have hjs : j < s.size := by omega
      have HM := Lib.hid hm
      clear hm
      have hor := or_fits (m := m) (j := j) (b := s[j].toNat) (by rw [HM.out]; have := leN_lt (s.data.toList.take j); rw [List.length_take, Nat.min_eq_left (by simp; omega)] at this; exact this) s[j].toNat_lt (by omega)
      have HST : Hid (m + 256 ^ j * s[j].toNat = leN (s.data.toList.take (j + 1))) := Lib.hid (by rw [take_snoc s j hjs, leN_snoc, ← HM.out, List.length_take, Nat.min_eq_left (by simp; omega)])
      go_wp2
      go_roundw
      case rel => exact ⟨j + 1, m + 256 ^ j * s[j].toNat, by omega, by go_num, by simp, HST.out, trivial⟩
      case measure => simp [intOf]; omega
    · obtain rfl : j = K := by omega
      have HM := Lib.hid hm
      clear hm
      go_wp2
      go_ret2
      exact ⟨by rw [HM.out]; rfl, Below.refl _ _⟩
set_option maxHeartbeats 1000000 in
theorem fldGet_no1 (k : Int) (s : ByteArray) (hW : isW k = false) (w : World) :
    Calls Tryd.prog 46 #[.int .i64 k, .string s] w fun e w' => e = .returned (.tuple #[.int .u64 0, .int .i64 1]) ∧ Below w.heap.size w w' := by
  have hI := fldIsW_any k
  rw [hW] at hI
  clear hW
  go_enter Tryd.func46, Tryd.ntmps46
  go_wp2_with (go_at_call 54; refine (hI _).mono ?_; rintro e w' ⟨rfl, rfl⟩)
  go_ret2
  exact ⟨rfl, Below.refl _ _⟩
set_option maxHeartbeats 1000000 in
theorem fldGet_no2 (K : Nat) (s : ByteArray) (hW : isW (K : Int) = true) (hs : s.size < K) (w : World) :
    Calls Tryd.prog 46 #[.int .i64 (K : Int), .string s] w fun e w' => e = .returned (.tuple #[.int .u64 0, .int .i64 5]) ∧ Below w.heap.size w w' := by
  have hI := fldIsW_any (K : Int)
  rw [hW] at hI
  have d0 : decide (s.size < K) = true := decide_eq_true hs
  clear hW
  go_enter Tryd.func46, Tryd.ntmps46
  go_wp2_with (go_at_call 54; refine (hI _).mono ?_; rintro e w' ⟨rfl, rfl⟩)
  go_ret2
  exact ⟨rfl, Below.refl _ _⟩
theorem size_toList (s : ByteArray) : s.data.toList.length = s.size := by simp
theorem fldGet_any (k : Int) (s : ByteArray) (w : World) :
    Calls Tryd.prog 46 #[.int .i64 k, .string s] w fun e w' => e = .returned (.tuple #[.int .u64 ((getN k s.data.toList : Nat) : Int), .int .i64 (getE k s.data.toList)]) ∧ Below w.heap.size w w' := by
  unfold getN getE
  rw [size_toList]
  by_cases hW : isW k = true
  · have h8 := isW_le hW
    obtain ⟨K, rfl⟩ : ∃ K : Nat, k = (K : Int) := ⟨k.toNat, by omega⟩
    rw [Int.toNat_natCast, if_pos hW]
    by_cases hs : K ≤ s.size
    · rw [if_pos ⟨hW, hs⟩, if_pos hs]; exact fldGet_ok K s (by omega) hW hs w
    · rw [if_neg (fun h => hs h.2), if_neg hs]; exact fldGet_no2 K s hW (by omega) w
  · rw [if_neg (fun h => hW h.1), if_neg hW]; exact fldGet_no1 k s (by simpa using hW) w
end Go.Proofs.YtngkbcaflkinhaaDoor
namespace Go.Proofs.YtngkbcaflkinhaaDoor
open Go.RowKit

theorem u8_rem (m : Nat) : (m : Int) % 256 = ((UInt8.ofNat m).toNat : Int) := by
  rw [UInt8.toNat_ofNat']; simp
theorem ownB_len {w : World} {B : Nat} {v : Value} {l : List UInt8} (h : OwnB w B v l) (n : Nat) (hn : n = l.length) : w.ownsRow B 5 1 v n (U8s l) := by subst hn; exact h
end Go.Proofs.YtngkbcaflkinhaaDoor
namespace Go.Proofs.YtngkbcaflkinhaaDoor
open Go.RowKit

theorem leN_drop {l : List UInt8} {j : Nat} (h : j < l.length) : leN (l.drop j) = (l[j]).toNat + 256 * leN (l.drop (j + 1)) := by
  rw [List.drop_eq_getElem_cons h, leN]
theorem leN_drop_lt (l : List UInt8) (j : Nat) (h : l.length ≤ 8) : leN (l.drop j) < 18446744073709551616 := by
  have h1 := leN_lt (l.drop j)
  have h2 : 256 ^ (l.drop j).length ≤ 256 ^ 8 := Nat.pow_le_pow_right (by omega) (by rw [List.length_drop]; omega)
  exact Nat.lt_of_lt_of_le h1 (Nat.le_trans h2 (by decide))
theorem row_one (W : World) (b : UInt8) : Row8 (W.alloc (.cells #[.int .u8 (b.toNat : Int)] 5)) W.heap.size 0 [b] := by
  refine ⟨by simp, fun j hj => ?_⟩
  obtain rfl : j = 0 := by simpa using hj
  constructor
  · rw [cell_of_row _ _ _ _ 5 (0, 0) (heap_alloc_new W _)]; rfl
  · exact frozen_of_row _ _ _ _ 5 (heap_alloc_new W _)
theorem conv_one (W : World) (b : UInt8) : (convert 64 9 (.slice (some ⟨W.heap.size, 0, none⟩) 1 1)).run Tryd.prog (W.alloc (.cells #[.int .u8 (b.toNat : Int)] 5)) = .ok (.string ⟨#[b]⟩) (W.alloc (.cells #[.int .u8 (b.toNat : Int)] 5)) :=
  string_of_row (P := Tryd.prog) (cap := 1) 1 rfl (row_one W b) 64 9 5 Tryd.underlying64 Tryd.underlying5 Tryd.underlying9
theorem text_val (s : ByteArray) (y : UInt8) (h : s.size ≤ 32) (hy : (s.size : Int) = (y.toNat : Int)) : (⟨#[y]⟩ ++ s : ByteArray) = ⟨(textS s.data.toList).toArray⟩ := by
  have e : UInt8.ofNat s.size = y := UInt8.toNat_inj.1 (by rw [UInt8.toNat_ofNat']; have := y.toNat_lt; omega)
  have e2 : textS s.data.toList = y :: s.data.toList := by unfold textS; rw [size_toList, if_pos h, e]
  rw [e2]
  apply ByteArray.ext
  rw [ByteArray.data_append]
  apply Array.ext'
  simp
theorem text_err (s : ByteArray) : textE s.data.toList = if s.size ≤ 32 then 0 else 7 := by unfold textE; rw [size_toList]
theorem text_no (s : ByteArray) (h : ¬ s.size ≤ 32) : textS s.data.toList = [] := by unfold textS; rw [size_toList, if_neg h]
end Go.Proofs.YtngkbcaflkinhaaDoor
