/- The contract of the document's own inverse. -/
import Derived.Test.YtpldnbfbpajbkaaGfR
namespace Go.Proofs.Ytpldnbfbpajbkaa
open Go.RowKit
open Caulk.Gf (dbl mul pw lg)

theorem byte_of_int (i : Nat) (h : i < 256) : (i : Int) = ((UInt8.ofNat i).toNat : Int) := by
  rw [UInt8.toNat_ofNat']; omega
theorem byte_one (x : UInt8) : ((x.toNat : Int) == 1) = decide (x = 1) := by revert x; apply Caulk.Gf.bytes_all; decide +kernel
theorem byte_same (x y : UInt8) : ((x.toNat : Int) == (y.toNat : Int)) = decide (x = y) := by
  by_cases h : x = y
  · subst h; simp
  · rw [decide_eq_false h, beq_eq_false_iff_ne]; exact fun e => h (byte_eq_int e)
theorem inv_of {a : UInt8} {i : Nat} (hi : i < 256) (h : mul a (UInt8.ofNat i) = 1) : a ≠ 0 ∧ ((i : Int) = ((invB a).toNat : Int)) := by
  have ha : a ≠ 0 := by
    intro e; rw [e, Caulk.Gf.mul_zeroL] at h; exact absurd h (by decide)
  refine ⟨ha, ?_⟩
  unfold invB
  rw [if_neg ha, ← Caulk.Gf.inv_one a _ ha h]
  exact byte_of_int i hi
set_option maxHeartbeats 1000000 in
theorem refInv_any (a : UInt8) (w : World) :
    Calls Try.prog 40 #[.int .u8 (a.toNat : Int)] w fun e w' => e = .returned (.tuple #[.int .u8 ((invB a).toNat : Int), .int .i64 (errI a)]) ∧ w = w' := by
  go_enter Try.func40, Try.ntmps40
  go_wp2_with fail
  go_loop [4] (fun x => ∃ i : Nat, 1 ≤ i ∧ i ≤ 256 ∧ x = .int .i64 i ∧ ∀ j, 1 ≤ j → j < i → mul a (UInt8.ofNat j) ≠ 1) (fun x => 256 - (intOf x).toNat)
  case atStart => exact ⟨1, by omega, by omega, rfl, fun j h1 h2 => by omega⟩
  case round =>
    obtain ⟨i, h1, h2, rfl, hno⟩ := hrel
    have HNO := Lib.hid hno
    clear hno
    by_cases hlt : i < 256
    · have hd : decide ((i : Int) < 256) = true := by simp; omega
      have hbi := byte_of_int i hlt
      have HBI := Lib.hid hbi
      clear hbi
      by_cases hf : mul a (UInt8.ofNat i) = 1
      · obtain ⟨ha, hi⟩ := inv_of hlt hf
        have HE : Hid (errI a = 0) := Lib.hid (by unfold errI; rw [if_neg ha])
        have HI := Lib.hid hi
        have hone : (((mul a (UInt8.ofNat i)).toNat : Int) == 1) = true := by rw [byte_one, decide_eq_true hf]
        clear ha hi hf
        go_wp2_with (go_at_call 38; rw [HBI.out]; (with_reducible refine (refMul_any _ _ _).mono ?_); rintro e w' ⟨rfl, rfl⟩)
        go_ret2
        exact ⟨by rw [HE.out]; show Ending.returned (.tuple #[.int .u8 ((i : Int) % 256), .int .i64 0]) = _; rw [show ((i : Int) % 256) = (i : Int) by omega, HI.out], rfl⟩
      · have hone : (((mul a (UInt8.ofNat i)).toNat : Int) == 1) = false := by rw [byte_one, decide_eq_false hf]
        have HF := Lib.hid hf
        clear hf
        go_wp2_with (go_at_call 38; rw [HBI.out]; (with_reducible refine (refMul_any _ _ _).mono ?_); rintro e w' ⟨rfl, rfl⟩)
        go_round
        case rel =>
          refine ⟨i + 1, by omega, by omega, by go_num, fun j h3 h4 => ?_⟩
          by_cases e : j = i
          · subst e; exact HF.out
          · exact HNO.out j h3 (by omega)
        case measure => simp [intOf]; omega
    · obtain rfl : i = 256 := by omega
      have ha : a = 0 := by
        by_cases h : a = 0
        · exact h
        · have h3 := Caulk.Gf.mul_inv a h
          have h4 : Caulk.Gf.inv a ≠ 0 := by intro e; rw [e, Caulk.Gf.mul_zeroR] at h3; exact absurd h3 (by decide)
          have h5 : (Caulk.Gf.inv a).toNat ≠ 0 := fun e => h4 (zero_of _ e)
          exact absurd (by rw [UInt8.ofNat_toNat]; exact h3) (HNO.out (Caulk.Gf.inv a).toNat (by omega) (Caulk.Gf.inv a).toNat_lt)
      have HA : Hid (errI a = 13 ∧ invB a = 0) := Lib.hid (by unfold errI invB; rw [if_pos ha, if_pos ha]; exact ⟨rfl, rfl⟩)
      clear ha
      have hd : decide (((256 : Nat) : Int) < 256) = false := by decide
      go_wp2
      go_ret2
      exact ⟨by rw [HA.out.1, HA.out.2]; rfl, rfl⟩
end Go.Proofs.Ytpldnbfbpajbkaa
