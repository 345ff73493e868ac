/- Fields: the contracts of Put, the program's and the document's. -/
import Derived.Test.YtifhbaacljkleaaFldA
namespace Go.Proofs.Ytifhbaacljkleaa
open Go.RowKit

/-- What the loop has put at its start: j of the bytes, and noughts. -/
def putL (K n j : Nat) : List UInt8 := leB j n ++ List.replicate (K - j) 0
theorem putL_len {K n j : Nat} (h : j ≤ K) : (putL K n j).length = K := by unfold putL; rw [List.length_append, leB_len, List.length_replicate]; omega
theorem putL_step {K n j : Nat} (h : j < K) : (putL K n j).set j (UInt8.ofNat (n / 256 ^ j)) = putL K n (j + 1) := by
  unfold putL
  rw [List.set_append_right _ _ (by rw [leB_len]; exact Nat.le_refl _), leB_len, Nat.sub_self, leB_snoc, List.append_assoc]
  congr 1
  rw [show K - j = (K - (j + 1)) + 1 by omega, List.replicate_succ]; rfl
theorem u8_shr (n j : Nat) : (n : Int) / 2 ^ (8 * j) % 256 = ((UInt8.ofNat (n / 256 ^ j)).toNat : Int) := by
  rw [UInt8.toNat_ofNat', show (2 : Int) ^ (8 * j) = ((256 ^ j : Nat) : Int) by rw [Int.pow_mul]; simp]; simp
theorem shr_zero (n K : Nat) (h : n < 256 ^ K) : (n : Int) / 2 ^ (8 * K) = 0 := by
  rw [show (2 : Int) ^ (8 * K) = ((256 ^ K : Nat) : Int) by rw [Int.pow_mul]; simp, ← Int.natCast_ediv, Nat.div_eq_of_lt h]; rfl
theorem shr_more (n K : Nat) (h : ¬ n < 256 ^ K) : ((n : Int) / 2 ^ (8 * K) == 0) = false := by
  rw [show (2 : Int) ^ (8 * K) = ((256 ^ K : Nat) : Int) by rw [Int.pow_mul]; simp, ← Int.natCast_ediv, beq_eq_false_iff_ne]
  have : 0 < n / 256 ^ K := Nat.div_pos (by omega) (Nat.pow_pos (by omega))
  omega
theorem mul8 (K : Nat) (h : K ≤ 8) : wrap64 (8 * (K : Int)) = ((8 * K : Nat) : Int) := by
  unfold wrap64; omega
set_option maxHeartbeats 1000000 in
theorem fldPut_ok (K n : Nat) (hK : 1 ≤ K ∧ K ≤ 8) (hW : isW (K : Int) = true) (hn : n < 256 ^ K) (w : World) :
    Calls Try.prog 40 #[.int .i64 (K : Int), .int .u64 (n : Int)] w fun e w' => e = .returned (.tuple #[.string ⟨(leB K n).toArray⟩, .int .i64 0]) ∧ Below w.heap.size w w' := by
  have hI := fldIsW_any (K : Int)
  rw [hW] at hI
  have hmk := makeB K (by omega)
  obtain ⟨hK1, hK8⟩ := hK
  have hm := mul8 K hK8
  have hq := shr_zero n K hn
  clear hW hn
  go_enter Try.func40, Try.ntmps40
  go_wp2_with (go_at_call 59; refine (hI _).mono ?_; rintro e w' ⟨rfl, rfl⟩)
  have HR := Lib.hid (row_made w K 5)
  have HB : Hid (Below w.heap.size w (w.alloc (.cells (madeCells #[.int .u8 0] K) 5))) := Lib.hid ((Below.refl _ _).alloc (Nat.le_refl _) _)
  generalize w.alloc (.cells (madeCells #[.int .u8 0] K) 5) = w1 at HR HB ⊢
  clear hmk hI hm hq
  go_loopw [22] (fun ix wr => ∃ j : Nat, j ≤ K ∧ ix = .int .i64 (j : Int) ∧ Row8 wr w.heap.size 0 (putL K n j) ∧ Below w.heap.size w wr) (fun ix _ => K - (intOf ix).toNat)
  case atStart => exact ⟨0, Nat.zero_le _, rfl, by unfold putL; simp only [leB, List.nil_append, Nat.sub_zero]; exact HR.out, HB.out⟩
  case round =>
    obtain ⟨j, hj, rfl, hrow, hb⟩ := hrel
    have HROW := Lib.hid hrow
    have HBR := Lib.hid hb
    clear hrow hb HR HB
    by_cases hlt : j < K
    · have hcell := (HROW.out.2 j (by rw [putL_len hj]; exact hlt)).1
      have hfz := (HROW.out.2 j (by rw [putL_len hj]; exact hlt)).2
      rw [Nat.zero_add] at hcell hfz
      generalize (putL K n j).getD j 0 = y at hcell
      have hm := mul8 j (by omega)
      go_wp2
      go_roundw
      case rel => exact ⟨j + 1, by omega, by go_num, by have := HROW.out.set j (by rw [putL_len hj]; exact hlt) (UInt8.ofNat (n / 256 ^ j)); rw [putL_step hlt, Nat.zero_add, ← u8_shr] at this; exact this, HBR.out.setCell (p := ⟨w.heap.size, j, none⟩) (Nat.le_refl _) _⟩
      case measure => simp [intOf]; omega
    · obtain rfl : j = K := by omega
      have hs := fun (W : World) (h : Row8 W w.heap.size 0 (leB j n)) => string_of_row (P := Try.prog) (cap := j) j (leB_len j n).symm h 75 9 5 Try.underlying75 Try.underlying5 Try.underlying9
      have hcv := hs wr (by have := HROW.out; unfold putL at this; rw [Nat.sub_self, List.replicate_zero, List.append_nil] at this; exact this)
      clear hs
      go_wp2
      go_ret2
      exact ⟨rfl, HBR.out⟩
set_option maxHeartbeats 1000000 in
theorem fldPut_no1 (k : Int) (n : Nat) (hW : isW k = false) (w : World) :
    Calls Try.prog 40 #[.int .i64 k, .int .u64 (n : Int)] w fun e w' => e = .returned (.tuple #[.string ⟨#[]⟩, .int .i64 1]) ∧ Below w.heap.size w w' := by
  have hI := fldIsW_any k
  rw [hW] at hI
  clear hW
  go_enter Try.func40, Try.ntmps40
  go_wp2_with (go_at_call 59; refine (hI _).mono ?_; rintro e w' ⟨rfl, rfl⟩)
  go_ret2
  exact ⟨rfl, Below.refl _ _⟩
set_option maxHeartbeats 1000000 in
theorem fldPut_no2 (K n : Nat) (hK : 1 ≤ K ∧ K ≤ 8) (hW : isW (K : Int) = true) (hn : ¬ n < 256 ^ K) (w : World) :
    Calls Try.prog 40 #[.int .i64 (K : Int), .int .u64 (n : Int)] w fun e w' => e = .returned (.tuple #[.string ⟨#[]⟩, .int .i64 1]) ∧ Below w.heap.size w w' := by
  have hI := fldIsW_any (K : Int)
  rw [hW] at hI
  obtain ⟨hK1, hK8⟩ := hK
  have hm := mul8 K hK8
  have hq := shr_more n K hn
  clear hW hn
  go_enter Try.func40, Try.ntmps40
  go_wp2_with (go_at_call 59; refine (hI _).mono ?_; rintro e w' ⟨rfl, rfl⟩)
  go_ret2
  exact ⟨rfl, Below.refl _ _⟩
theorem fldPut_any (k : Int) (n : Nat) (w : World) :
    Calls Try.prog 40 #[.int .i64 k, .int .u64 (n : Int)] w fun e w' => e = .returned (.tuple #[.string ⟨(putS k n).toArray⟩, .int .i64 (putE k n)]) ∧ Below w.heap.size w w' := by
  unfold putS putE
  by_cases hW : isW k = true
  · have h8 := isW_le hW
    obtain ⟨K, rfl⟩ : ∃ K : Nat, k = (K : Int) := ⟨k.toNat, by omega⟩
    rw [Int.toNat_natCast]
    by_cases hn : n < 256 ^ K
    · rw [if_pos ⟨hW, hn⟩, if_pos ⟨hW, hn⟩]; exact fldPut_ok K n (by omega) hW hn w
    · rw [if_neg (fun h => hn h.2), if_neg (fun h => hn h.2)]; exact fldPut_no2 K n (by omega) hW hn w
  · rw [if_neg (fun h => hW h.1), if_neg (fun h => hW h.1)]; exact fldPut_no1 k n (by simpa using hW) w
end Go.Proofs.Ytifhbaacljkleaa
