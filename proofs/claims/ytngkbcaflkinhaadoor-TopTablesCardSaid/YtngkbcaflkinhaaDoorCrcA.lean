/- The contracts of package crc and of the document's own answer for it. -/
import Derived.Test.YtngkbcaflkinhaaDoorCrcMath
import Derived.Test.YtngkbcaflkinhaaDoorKit
namespace Go.Proofs.YtngkbcaflkinhaaDoor
open Go.RowKit
open Caulk.Crc (W P stp stpN byt nib tabV bit bitsTo tabN)

/-- A number of 32 bits, as the walk carries it. -/
def U32 (x : W) : Int := x.toNat
theorem u32_0 (x : W) : 0 ≤ U32 x := by unfold U32; omega
theorem u32_lt (x : W) : U32 x < 4294967296 := by unfold U32; have := x.isLt; omega
theorem u32_inj {x y : W} (h : U32 x = U32 y) : x = y := by unfold U32 at h; exact BitVec.eq_of_toNat_eq (by omega)
theorem ofInt_u32' (x : W) : BitVec.ofInt 32 (U32 x) = x := by unfold U32; simp
theorem wrap_u32' (n : W) : IntKind.u32.wrap (n.toNat : Int) = U32 n := by
  unfold U32; rw [IntKind.wrap_u32']; have := n.isLt; omega
theorem u32_xor (a b : W) : bits .xor .u32 (U32 a) (U32 b) = U32 (a ^^^ b) := by
  show IntKind.u32.wrap ((BitVec.ofInt 32 (U32 a) ^^^ BitVec.ofInt 32 (U32 b)).toNat : Int) = _
  rw [ofInt_u32', ofInt_u32', wrap_u32']
theorem u32_and (a b : W) : bits .and .u32 (U32 a) (U32 b) = U32 (a &&& b) := by
  show IntKind.u32.wrap ((BitVec.ofInt 32 (U32 a) &&& BitVec.ofInt 32 (U32 b)).toNat : Int) = _
  rw [ofInt_u32', ofInt_u32', wrap_u32']
def lo (a : W) : W := a &&& 15#32
def hi4 (a : W) : W := a >>> 4
def nibL (a : W) : W := tabV (lo a).toNat
def wide (b : UInt8) : W := b.toBitVec.setWidth 32
theorem u32_lo (a : W) : bits .and .u32 (U32 a) 15 = U32 (lo a) := u32_and a 15#32
theorem u32_hi (a : W) : U32 a / 16 = U32 (hi4 a) := by
  unfold U32 hi4
  rw [BitVec.toNat_ushiftRight, Nat.shiftRight_eq_div_pow]
  omega
theorem u32_wide (b : UInt8) : (b.toNat : Int) % 4294967296 = U32 (wide b) := by
  have h := b.toNat_lt
  have e : (wide b).toNat = b.toNat := by
    unfold wide; rw [BitVec.toNat_setWidth]; exact Nat.mod_eq_of_lt (by have : b.toBitVec.toNat = b.toNat := rfl; omega)
  unfold U32; rw [e]; omega
theorem lo_lt (a : W) : U32 (lo a) < 16 := by unfold U32; have := Caulk.Crc.low_lt a; unfold lo; omega

/-- The table lies as the program's text lays it. -/
def Tab (w : World) : Prop := 0 < w.heap.size ∧ ∀ x : W, w.cell? ⟨0, (U32 (lo x)).toNat, none⟩ = some (.int .u32 (U32 (nibL x)))
theorem Tab.below {B : Nat} {w w' : World} (h : Tab w) (hb : Below B w w') (hB : w.heap.size ≤ B) : Tab w' :=
  ⟨Nat.lt_of_lt_of_le h.1 hb.size, fun x => (hb.cell (p := ⟨0, _, none⟩) (Nat.lt_of_lt_of_le h.1 hB)).trans (h.2 x)⟩
theorem Tab.drew {w : World} (h : Tab w) : Tab w.drew := h
theorem Tab.drewN {w : World} (h : Tab w) (n : Nat) : Tab (w.drewN n) := h
theorem Tab.alloc {w : World} (h : Tab w) (o : Obj) : Tab (w.alloc o) := h.below ((Below.refl _ _).alloc (Nat.le_refl _) o) (Nat.le_refl _)

theorem add_snoc (r : W) (s : ByteArray) (k : Nat) (h : k < s.size) :
    Caulk.Crc.add r (s.data.toList.take (k + 1)) = nib (nib (Caulk.Crc.add r (s.data.toList.take k) ^^^ wide s[k])) := by
  rw [take_snoc s k h, Caulk.Crc.add_append, wide, Caulk.Crc.byt_nib]; rfl
theorem nib_of (x : W) : nibL x ^^^ hi4 x = nib x := rfl

set_option maxHeartbeats 400000 in
theorem crcAdd_any (r : W) (s : ByteArray) (hs : s.size ≤ maxLen) (w : World) (hT : Tab w) :
    Calls Tryd.prog 28 #[.int .u32 (U32 r), .string s] w fun e w' => e = .returned (.int .u32 (U32 (Caulk.Crc.add r s.data.toList))) ∧ w = w' := by
  unfold maxLen at hs
  have HT := Lib.hid hT
  clear hT
  go_enter Tryd.func28, Tryd.ntmps28
  go_wp2
  go_loop [0, 8] (fun x i => ∃ k : Nat, k ≤ s.size ∧ i = .int .i64 k ∧ x = .int .u32 (U32 (Caulk.Crc.add r (s.data.toList.take k)))) (fun _ i => s.size - (intOf i).toNat)
  case atStart => exact ⟨0, Nat.zero_le _, rfl, rfl⟩
  case round =>
    obtain ⟨k, hk, rfl, rfl⟩ := hrel
    by_cases hlt : k < s.size
    · have HS := Lib.hid (add_snoc r s k hlt)
      have h1 := u32_xor
      have h2 := u32_lo
      have h3 := u32_hi
      have h4 := u32_wide
      have h5 := lo_lt
      have h6 := u32_0
      have hc := HT.out.2
      go_wp2
      go_round
      case rel => exact ⟨k + 1, by omega, by go_num, by rw [HS.out]; rfl⟩
      case measure => simp [intOf]; omega
    · go_wp2
      go_ret
      exact ⟨ret_int (by rw [List.take_of_length_le (by simp; omega)]), rfl⟩
end Go.Proofs.YtngkbcaflkinhaaDoor
