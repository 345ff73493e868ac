/- The contracts of the document's own answer for crc. -/
import Derived.Test.YtfpnlaafefdcaaaDoorCrcC
namespace Go.Proofs.YtfpnlaafefdcaaaDoor
open Go.RowKit
open Caulk.Crc (W P stp stpN byt nib tabV bit bitsTo tabN)

/-- A bit as a number. -/
def B01 (b : Bool) : Int := if b then 1 else 0
/-- A rest's lowest bit; a byte's bit. -/
def lowB (x : W) : Bool := x.getLsbD 0
def bitK (b : UInt8) (k : Nat) : Bool := b.toBitVec.getLsbD k
theorem u32_and1 (x : W) : bits .and .u32 (U32 x) 1 = B01 (lowB x) := by
  unfold lowB
  rw [show (1 : Int) = U32 1#32 by decide, u32_and]
  unfold U32 B01
  rw [BitVec.toNat_and, show (1#32 : W).toNat = 1 by decide, Nat.and_one_is_mod]
  have : x.getLsbD 0 = decide (x.toNat % 2 = 1) := by
    rw [BitVec.getLsbD, Nat.testBit_zero]
  rw [this]
  by_cases h : x.toNat % 2 = 1
  · simp [h]
  · have : x.toNat % 2 = 0 := by omega
    simp [this]
theorem u32_bit (k : Nat) (b : UInt8) : bits .and .u32 (U32 (wide b) / 2 ^ k) 1 = B01 (bitK b k) := by
  have e : U32 (wide b) / 2 ^ k = U32 (wide b >>> k) := by
    unfold U32
    rw [BitVec.toNat_ushiftRight, Nat.shiftRight_eq_div_pow]
    simp
  rw [e, u32_and1]
  unfold lowB bitK
  rw [BitVec.getLsbD_ushiftRight]
  congr 1
theorem b01_bne (x y : Bool) : (B01 x != B01 y) = (x != y) := by cases x <;> cases y <;> rfl
theorem u32_half (a : W) : (U32 a).tdiv 2 % (4294967296 : Int) = U32 (a >>> 1) := by
  unfold U32
  rw [BitVec.toNat_ushiftRight, Nat.shiftRight_eq_div_pow, Int.tdiv_eq_ediv_of_nonneg (by omega)]
  have := a.isLt
  omega
theorem u32_P (a : W) : bits .xor .u32 (U32 a) 2197175160 = U32 (a ^^^ P) := u32_xor a P
theorem bit_yes (r : W) (b : UInt8) (j : Nat) (h : (lowB (bitsTo r b j) != bitK b j) = true) : bitsTo r b (j + 1) = (bitsTo r b j >>> 1) ^^^ P := by
  unfold lowB bitK at h; simp only [bitsTo, bit]; rw [h]; rfl
theorem bit_no (r : W) (b : UInt8) (j : Nat) (h : (lowB (bitsTo r b j) != bitK b j) = false) : bitsTo r b (j + 1) = bitsTo r b j >>> 1 := by
  unfold lowB bitK at h; simp only [bitsTo, bit]; rw [h]; rfl
theorem ref_snoc (r : W) (s : ByteArray) (k : Nat) (h : k < s.size) :
    Caulk.Crc.add r (s.data.toList.take (k + 1)) = bitsTo (Caulk.Crc.add r (s.data.toList.take k)) s[k] 8 := by
  rw [take_snoc s k h, Caulk.Crc.add_append, Caulk.Crc.bits_byt]; rfl

set_option maxRecDepth 100000 in
set_option maxHeartbeats 400000 in
theorem refAdd_any (r : W) (s : ByteArray) (hs : s.size ≤ maxLen) (w : World) :
    Calls Tryd.prog 110 #[.int .u32 (U32 r), .string s] w fun e w' => e = .returned (.int .u32 (U32 (Caulk.Crc.add r s.data.toList))) ∧ w = w' := by
  unfold maxLen at hs
  go_enter Tryd.func110, Tryd.ntmps110
  go_wp2
  go_loop [0, 5] (fun x i => ∃ k : Nat, k ≤ s.size ∧ i = .int .i64 k ∧ x = .int .u32 (U32 (Caulk.Crc.add r (s.data.toList.take k)))) (fun _ i => s.size - (intOf i).toNat)
  case atStart => exact ⟨0, Nat.zero_le _, rfl, rfl⟩
  case round =>
    obtain ⟨k, hk, rfl, rfl⟩ := hrel
    by_cases hlt : k < s.size
    · obtain ⟨bb, hbb⟩ : ∃ bb, s[k] = bb := ⟨_, rfl⟩
      have HBB := Lib.hid hbb
      clear hbb
      have HS := Lib.hid (ref_snoc r s k hlt)
      have h4 := u32_wide
      go_wp2
      generalize hR : Caulk.Crc.add r (s.data.toList.take k) = R at *
      have HR := Lib.hid hR
      clear hR
      go_loop [0, 6] (fun x i => ∃ j : Nat, j ≤ 8 ∧ i = .int .i64 j ∧ x = .int .u32 (U32 (bitsTo R bb j))) (fun _ i => 8 - (intOf i).toNat)
      case atStart => exact ⟨0, Nat.zero_le _, rfl, rfl⟩
      case round =>
        obtain ⟨j, hj, rfl, rfl⟩ := hrel
        by_cases hl8 : j < 8
        · have hd : decide ((j : Int) < 8) = true := by simp; omega
          have h1 := u32_and1
          have h2 := u32_bit j
          have h3 := b01_bne
          have h5 := u32_half
          have h6 := u32_P
          have h7 := u32_0
          have h8 := HBB.out
          cases ho : (lowB (bitsTo R bb j) != bitK bb j) with
          | true =>
            have HB := Lib.hid (bit_yes _ _ _ ho)
            go_wp2
            go_round
            case rel => exact ⟨j + 1, by omega, by go_num, by rw [HB.out, ← u32_P, ← u32_half]⟩
            case measure => simp [intOf]; omega
          | false =>
            have HB := Lib.hid (bit_no _ _ _ ho)
            go_wp2
            go_round
            case rel => exact ⟨j + 1, by omega, by go_num, by rw [HB.out, ← u32_half]⟩
            case measure => simp [intOf]; omega
        · obtain rfl : j = 8 := by omega
          go_wp2
          go_round
          case rel => exact ⟨k + 1, by omega, by go_num, by rw [HS.out, HBB.out]⟩
          case measure => simp [intOf]; omega
    · go_wp2
      go_ret
      exact ⟨ret_int (by rw [List.take_of_length_le (by simp; omega)]), rfl⟩

set_option maxHeartbeats 400000 in
theorem refSum_any (s : ByteArray) (hs : s.size ≤ maxLen) (w : World) :
    Calls Tryd.prog 52 #[.string s] w fun e w' => e = .returned (.int .u32 (U32 (Caulk.Crc.sum s.data.toList))) ∧ w = w' := by
  have h1 : ∀ r : W, bits .xor .u32 (U32 r) 4294967295 = U32 (~~~r) := by
    intro r
    rw [show (4294967295 : Int) = U32 0xffffffff#32 by decide, u32_xor, show (0xffffffff#32 : W) = BitVec.allOnes 32 by decide, BitVec.xor_allOnes]
  go_enter Tryd.func52, Tryd.ntmps52
  go_wp2_with (go_at_call 110; refine (refAdd_any 0xffffffff#32 s hs _).mono ?_; rintro e w' ⟨rfl, rfl⟩)
  go_ret
  exact ⟨rfl, rfl⟩
set_option maxHeartbeats 400000 in
theorem refCrcBytes_any (s : ByteArray) (hs : s.size ≤ maxLen) (w : World) :
    Calls Tryd.prog 74 #[.string s] w fun e w' => e = .returned (.string (sumBytes (Caulk.Crc.sum s.data.toList))) ∧ Below w.heap.size w w' := by
  have h0 := byte0
  have h1 := byte1
  have h2 := byte2
  have h3 := byte3
  have h4 := u32_0
  have h5 := u32_lt
  have h6 := conv4
  go_enter Tryd.func74, Tryd.ntmps74
  go_wp2_with (go_at_call 52; refine (refSum_any s hs _).mono ?_; rintro e w' ⟨rfl, rfl⟩)
  go_ret
  exact ⟨rfl, (Below.refl _ _).alloc (Nat.le_refl _) _⟩

end Go.Proofs.YtfpnlaafefdcaaaDoor
