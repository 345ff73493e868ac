/- Fields: the contract of Get. -/
import Derived.Test.YtifhbaacljkleaaFldB
namespace Go.Proofs.Ytifhbaacljkleaa
open Go.RowKit

theorem or_fits {m j b : Nat} (hm : m < 256 ^ j) (hb : b < 256) (hj : j ≤ 7) :
    bits .or .u64 (m : Int) (IntKind.u64.wrap (IntKind.u64.wrap (b : Int) * 2 ^ (8 * j))) = ((m + 256 ^ j * b : Nat) : Int) := by
  have hp : (2 : Nat) ^ (8 * j) = 256 ^ j := by rw [Nat.pow_mul]
  have hle : 256 ^ j ≤ 256 ^ 7 := Nat.pow_le_pow_right (by omega) hj
  have hbig : 256 ^ j * b + 256 ^ j ≤ 18446744073709551616 := by
    have h1 : 256 ^ j * (b + 1) ≤ 256 ^ 7 * 256 := Nat.mul_le_mul hle (by omega)
    rw [Nat.mul_add, Nat.mul_one] at h1
    exact Nat.le_trans h1 (by decide)
  have e1 : IntKind.u64.wrap (b : Int) = (b : Int) := by rw [IntKind.wrap_u64]; omega
  have e2 : IntKind.u64.wrap ((b : Int) * 2 ^ (8 * j)) = ((256 ^ j * b : Nat) : Int) := by
    rw [show (b : Int) * 2 ^ (8 * j) = ((256 ^ j * b : Nat) : Int) by rw [← hp, Int.natCast_mul, Int.natCast_pow, Int.mul_comm]; rfl, IntKind.wrap_u64]; omega
  rw [e1, e2]
  show IntKind.u64.wrap ((BitVec.ofInt 64 (m : Int) ||| BitVec.ofInt 64 ((256 ^ j * b : Nat) : Int)).toNat : Int) = _
  rw [BitVec.toNat_or, BitVec.ofInt_natCast, BitVec.ofInt_natCast, BitVec.toNat_ofNat, BitVec.toNat_ofNat, Nat.mod_eq_of_lt (by omega), Nat.mod_eq_of_lt (by omega)]
  have e3 : m ||| 256 ^ j * b = m + 256 ^ j * b := by
    have h := Nat.two_pow_add_eq_or_of_lt (i := 8 * j) (b := m) (by rw [hp]; exact hm) b
    rw [hp] at h
    rw [Nat.or_comm, ← h, Nat.add_comm]
  rw [e3, IntKind.wrap_u64]; omega
set_option maxHeartbeats 1000000 in
theorem fldGet_ok (K : Nat) (s : ByteArray) (hK : 1 ≤ K ∧ K ≤ 8) (hW : isW (K : Int) = true) (hs : K ≤ s.size) (w : World) :
    Calls Try.prog 43 #[.int .i64 (K : Int), .string s] w fun e w' => e = .returned (.tuple #[.int .u64 ((leN (s.data.toList.take K) : Nat) : Int), .int .i64 0]) ∧ Below w.heap.size w w' := by
  have hI := fldIsW_any (K : Int)
  rw [hW] at hI
  obtain ⟨hK1, hK8⟩ := hK
  have d0 : decide (s.size < K) = false := decide_eq_false (by omega)
  clear hW
  go_enter Try.func43, Try.ntmps43
  go_wp2_with (go_at_call 59; refine (hI _).mono ?_; rintro e w' ⟨rfl, rfl⟩)
  clear hI
  go_loopw [6, 16] (fun nn ix wr => ∃ (j m : Nat), j ≤ K ∧ ix = .int .i64 (j : Int) ∧ nn = .int .u64 (m : Int) ∧ m = leN (s.data.toList.take j) ∧ wr = w) (fun _ ix _ => K - (intOf ix).toNat)
  case atStart => exact ⟨0, 0, Nat.zero_le _, rfl, rfl, rfl, rfl⟩
  case round =>
    obtain ⟨j, m, hj, rfl, rfl, hm, rfl⟩ := hrel
    by_cases hlt : j < K
    · have h8 := mul8 j (by omega)
      have hjs : j < s.size := by omega
      have HM := Lib.hid hm
      clear hm
      have hor := or_fits (m := m) (j := j) (b := s[j].toNat) (by rw [HM.out]; have := leN_lt (s.data.toList.take j); rw [List.length_take, Nat.min_eq_left (by simp; omega)] at this; exact this) s[j].toNat_lt (by omega)
      have HST : Hid (m + 256 ^ j * s[j].toNat = leN (s.data.toList.take (j + 1))) := Lib.hid (by rw [take_snoc s j hjs, leN_snoc, ← HM.out, List.length_take, Nat.min_eq_left (by simp; omega)])
      go_wp2
      go_roundw
      case rel => exact ⟨j + 1, m + 256 ^ j * s[j].toNat, by omega, by go_num, by simp, HST.out, trivial⟩
      case measure => simp [intOf]; omega
    · obtain rfl : j = K := by omega
      have HM := Lib.hid hm
      clear hm
      go_wp2
      go_ret2
      exact ⟨by rw [HM.out]; rfl, Below.refl _ _⟩
set_option maxHeartbeats 1000000 in
theorem fldGet_no1 (k : Int) (s : ByteArray) (hW : isW k = false) (w : World) :
    Calls Try.prog 43 #[.int .i64 k, .string s] w fun e w' => e = .returned (.tuple #[.int .u64 0, .int .i64 1]) ∧ Below w.heap.size w w' := by
  have hI := fldIsW_any k
  rw [hW] at hI
  clear hW
  go_enter Try.func43, Try.ntmps43
  go_wp2_with (go_at_call 59; refine (hI _).mono ?_; rintro e w' ⟨rfl, rfl⟩)
  go_ret2
  exact ⟨rfl, Below.refl _ _⟩
set_option maxHeartbeats 1000000 in
theorem fldGet_no2 (K : Nat) (s : ByteArray) (hW : isW (K : Int) = true) (hs : s.size < K) (w : World) :
    Calls Try.prog 43 #[.int .i64 (K : Int), .string s] w fun e w' => e = .returned (.tuple #[.int .u64 0, .int .i64 5]) ∧ Below w.heap.size w w' := by
  have hI := fldIsW_any (K : Int)
  rw [hW] at hI
  have d0 : decide (s.size < K) = true := decide_eq_true hs
  clear hW
  go_enter Try.func43, Try.ntmps43
  go_wp2_with (go_at_call 59; refine (hI _).mono ?_; rintro e w' ⟨rfl, rfl⟩)
  go_ret2
  exact ⟨rfl, Below.refl _ _⟩
theorem size_toList (s : ByteArray) : s.data.toList.length = s.size := by simp
theorem fldGet_any (k : Int) (s : ByteArray) (w : World) :
    Calls Try.prog 43 #[.int .i64 k, .string s] w fun e w' => e = .returned (.tuple #[.int .u64 ((getN k s.data.toList : Nat) : Int), .int .i64 (getE k s.data.toList)]) ∧ Below w.heap.size w w' := by
  unfold getN getE
  rw [size_toList]
  by_cases hW : isW k = true
  · have h8 := isW_le hW
    obtain ⟨K, rfl⟩ : ∃ K : Nat, k = (K : Int) := ⟨k.toNat, by omega⟩
    rw [Int.toNat_natCast, if_pos hW]
    by_cases hs : K ≤ s.size
    · rw [if_pos ⟨hW, hs⟩, if_pos hs]; exact fldGet_ok K s (by omega) hW hs w
    · rw [if_neg (fun h => hs h.2), if_neg hs]; exact fldGet_no2 K s hW (by omega) w
  · rw [if_neg (fun h => hW h.1), if_neg hW]; exact fldGet_no1 k s (by simpa using hW) w
end Go.Proofs.Ytifhbaacljkleaa
