/- The contracts of package crc, further. -/
import Derived.Test.YtngkbcaflkinhaaDoorCrcA
namespace Go.Proofs.YtngkbcaflkinhaaDoor
open Go.RowKit
open Caulk.Crc (W P stp stpN byt nib tabV bit bitsTo tabN)

theorem u32_not (a : W) : IntKind.u32.wrap (-1 - U32 a) = U32 (~~~a) := by
  unfold U32; rw [IntKind.wrap_u32', BitVec.toNat_not]; have := a.isLt; omega
theorem crcStart_any (w : World) : Calls Tryd.prog 29 #[] w fun e w' => e = .returned (.int .u32 (U32 0xffffffff#32)) ∧ w = w' := by
  go_enter Tryd.func29, Tryd.ntmps29
  go_wp2
  go_ret
  exact ⟨rfl, rfl⟩
theorem crcEnd_any (r : W) (w : World) : Calls Tryd.prog 27 #[.int .u32 (U32 r)] w fun e w' => e = .returned (.int .u32 (U32 (~~~r))) ∧ w = w' := by
  have h1 : bits .xor .u32 IntKind.u32.max (U32 r) = U32 (~~~r) := by
    rw [show IntKind.u32.max = U32 0xffffffff#32 by decide, u32_xor, show (0xffffffff#32 : W) = BitVec.allOnes 32 by decide, BitVec.allOnes_xor]
  have h2 : IntKind.u32.signed = false := rfl
  go_enter Tryd.func27, Tryd.ntmps27
  go_wp2
  go_ret
  exact ⟨rfl, rfl⟩
theorem crcSum_any (s : ByteArray) (hs : s.size ≤ maxLen) (w : World) (hT : Tab w) :
    Calls Tryd.prog 14 #[.string s] w fun e w' => e = .returned (.int .u32 (U32 (Caulk.Crc.sum s.data.toList))) ∧ w = w' := by
  have HT := Lib.hid hT
  clear hT
  go_enter Tryd.func14, Tryd.ntmps14
  go_wp2_with (first
    | (go_at_call 29; refine (crcStart_any _).mono ?_; rintro e w' ⟨rfl, rfl⟩)
    | (go_at_call 28; refine (crcAdd_any _ s hs _ HT.out).mono ?_; rintro e w' ⟨rfl, rfl⟩)
    | (go_at_call 27; refine (crcEnd_any _ _).mono ?_; rintro e w' ⟨rfl, rfl⟩))
  go_ret
  exact ⟨rfl, rfl⟩
def crcByteAt (x : W) (i : Nat) : UInt8 := UInt8.ofBitVec ((x >>> (8 * i)).setWidth 8)
def sumBytes (x : W) : ByteArray := ⟨#[crcByteAt x 0, crcByteAt x 1, crcByteAt x 2, crcByteAt x 3]⟩
theorem byte_at (x : W) (i : Nat) : U32 x / 2 ^ (8 * i) % 256 = (crcByteAt x i).toNat := by
  unfold U32 crcByteAt
  have e : (UInt8.ofBitVec ((x >>> (8 * i)).setWidth 8)).toNat = x.toNat / 2 ^ (8 * i) % 256 := by
    show ((x >>> (8 * i)).setWidth 8).toNat = _
    rw [BitVec.toNat_setWidth, BitVec.toNat_ushiftRight, Nat.shiftRight_eq_div_pow]
  rw [e]
  simp
theorem byte0 (x : W) : U32 x % 256 = (crcByteAt x 0).toNat := by rw [← byte_at]; simp
theorem byte1 (x : W) : U32 x / 256 % 256 = (crcByteAt x 1).toNat := by rw [← byte_at]; rfl
theorem byte2 (x : W) : U32 x / 65536 % 256 = (crcByteAt x 2).toNat := by rw [← byte_at]; rfl
theorem byte3 (x : W) : U32 x / 16777216 % 256 = (crcByteAt x 3).toNat := by rw [← byte_at]; rfl
theorem conv4 (t : Nat) (w : World) (b0 b1 b2 b3 : UInt8) :
    (convert 64 9 (.slice (some ⟨w.heap.size, 0, none⟩) 4 4)).run Tryd.prog (w.alloc (.cells #[.int .u8 b0.toNat, .int .u8 b1.toNat, .int .u8 b2.toNat, .int .u8 b3.toNat] t)) =
      .ok (.string ⟨#[b0, b1, b2, b3]⟩) (w.alloc (.cells #[.int .u8 b0.toNat, .int .u8 b1.toNat, .int .u8 b2.toNat, .int .u8 b3.toNat] t)) :=
  run_convert_bytes_back _ _ _ _ _ 4 [b0, b1, b2, b3] Tryd.underlying64 Tryd.underlying5 Tryd.underlying9 (fun j hj => by
    rw [show (⟨w.heap.size, 0, none⟩ : Addr).add j = ⟨w.heap.size, j, none⟩ by unfold Addr.add; split <;> simp_all, World.cell?_alloc_mark]
    simp only [List.length_cons, List.length_nil] at hj
    rcases j with _ | _ | _ | _ | j
    all_goals first | rfl | omega)
end Go.Proofs.YtngkbcaflkinhaaDoor

