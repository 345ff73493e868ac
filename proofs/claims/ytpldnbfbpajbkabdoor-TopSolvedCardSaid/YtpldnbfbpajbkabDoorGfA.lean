/- The contracts of package gf: double and Mul. -/
import Derived.Test.YtpldnbfbpajbkabDoorGfMath
import Derived.Test.YtpldnbfbpajbkabDoorBytes
import Derived.Outline
namespace Go.Proofs.YtpldnbfbpajbkabDoor
open Go.RowKit
open Caulk.Gf (dbl mul mulN pw lg)

theorem dbl_int (a : UInt8) : bits .xor .u8 ((a.toNat : Int) * 2 % 256) (29 * ((a.toNat : Int) / 128)) = ((dbl a).toNat : Int) := by
  revert a; apply Caulk.Gf.bytes_all; decide +kernel
set_option maxHeartbeats 400000 in
theorem double_any (a : UInt8) (w : World) : Calls Tryd.prog 37 #[.int .u8 (a.toNat : Int)] w fun e w' => e = .returned (.int .u8 ((dbl a).toNat : Int)) ∧ w = w' := by
  have h2 := a.toNat_lt
  go_enter Tryd.func37, Tryd.ntmps37
  go_wp2
  go_ret
  exact ⟨ret_int (dbl_int a), rfl⟩
theorem low_yes (b : UInt8) (h : b &&& 1 = 1) : bits .and .u8 (b.toNat : Int) 1 = 1 := by
  have : ∀ b : UInt8, b &&& 1 = 1 → bits .and .u8 (b.toNat : Int) 1 = 1 := by apply Caulk.Gf.bytes_all; decide +kernel
  exact this b h
theorem low_no (b : UInt8) (h : ¬ b &&& 1 = 1) : bits .and .u8 (b.toNat : Int) 1 = 0 := by
  have : ∀ b : UInt8, ¬ b &&& 1 = 1 → bits .and .u8 (b.toNat : Int) 1 = 0 := by apply Caulk.Gf.bytes_all; decide +kernel
  exact this b h
theorem half_int (b : UInt8) : (b.toNat : Int) / (2 : Int) = ((b >>> 1).toNat : Int) := by revert b; apply Caulk.Gf.bytes_all; decide +kernel
theorem half_nat (b : UInt8) : (b >>> 1).toNat = b.toNat / 2 := by revert b; apply Caulk.Gf.bytes_all; decide +kernel
theorem xor_none (b : UInt8) : bits .xor .u8 (b.toNat : Int) 0 = (b.toNat : Int) := by revert b; apply Caulk.Gf.bytes_all; decide +kernel
theorem zero_of (b : UInt8) (h : b.toNat = 0) : b = 0 := by
  have := congrArg UInt8.ofNat h
  simpa using this
/-- A byte, as the walk carries it. -/
def B8 (x : UInt8) : Value := .int .u8 (x.toNat : Int)
set_option maxHeartbeats 400000 in
theorem gfMul_any (a b : UInt8) (w : World) : Calls Tryd.prog 35 #[.int .u8 (a.toNat : Int), .int .u8 (b.toNat : Int)] w fun e w' => e = .returned (.int .u8 ((mul a b).toNat : Int)) ∧ w = w' := by
  go_enter Tryd.func35, Tryd.ntmps35
  go_wp2_with fail
  go_loop [0, 1, 5] (fun x y z => ∃ (n : Nat) (c d p : UInt8), n ≤ 8 ∧ d.toNat < 2 ^ n ∧ x = .int .u8 (c.toNat : Int) ∧ y = .int .u8 (d.toNat : Int) ∧ z = .int .u8 (p.toNat : Int) ∧ p ^^^ mulN n c d = mul a b) (fun _ y _ => (intOf y).toNat)
  case atStart => exact ⟨8, a, b, 0, Nat.le_refl _, b.toNat_lt, rfl, rfl, rfl, UInt8.zero_xor⟩
  case round =>
    obtain ⟨n, c, d, p, hn, hd, rfl, rfl, rfl, hm⟩ := hrel
    have HM := Lib.hid hm
    clear hm
    by_cases h0 : 0 < d.toNat
    · have h0i : (0 : Int) < (d.toNat : Int) := by omega
      obtain ⟨m, rfl⟩ : ∃ m, n = m + 1 := by
        rcases n with _ | m
        · simp at hd; omega
        · exact ⟨m, rfl⟩
      have hd2 : (d >>> 1).toNat < 2 ^ m := by rw [half_nat]; rw [Nat.pow_succ] at hd; omega
      have hlt : (d >>> 1).toNat < d.toNat := by rw [half_nat]; omega
      have HD := Lib.hid hd2
      have HL := Lib.hid hlt
      clear hd hd2 hlt
      have h4 := u8_xorb
      have h5 := c.toNat_lt
      by_cases hl : d &&& 1 = 1
      · have h6 := low_yes d hl
        have HE : Hid (p ^^^ c ^^^ mulN m (dbl c) (d >>> 1) = mul a b) := Lib.hid (by rw [← HM.out]; simp only [mulN, hl, if_true]; rw [UInt8.xor_assoc])
        clear hl
        go_wp2_with (go_at_call 37; refine (double_any _ _).mono ?_; rintro e w' ⟨rfl, rfl⟩)
        go_round
        case rel => exact ⟨m, dbl c, d >>> 1, p ^^^ c, by omega, HD.out, rfl, by rw [half_int], by rw [UInt8.toNat_xor], HE.out⟩
        case measure => rw [half_int]; exact HL.out
      · have h6 := low_no d hl
        have h7 := xor_none p
        have HE : Hid (p ^^^ mulN m (dbl c) (d >>> 1) = mul a b) := Lib.hid (by rw [← HM.out]; simp only [mulN, hl, if_false]; rw [UInt8.zero_xor])
        clear hl
        go_wp2_with (go_at_call 37; refine (double_any _ _).mono ?_; rintro e w' ⟨rfl, rfl⟩)
        go_round
        case rel => exact ⟨m, dbl c, d >>> 1, p, by omega, HD.out, rfl, by rw [half_int], by first | rfl | rw [xor_none], HE.out⟩
        case measure => rw [half_int]; exact HL.out
    · have h0i : ¬ (0 : Int) < (d.toNat : Int) := by omega
      have hd0 : d = 0 := zero_of d (by omega)
      have HE : Hid (p = mul a b) := Lib.hid (by rw [← HM.out, hd0, Caulk.Gf.mulN_zeroR, UInt8.xor_zero])
      clear hd0
      go_wp2
      go_ret
      exact ⟨ret_int (by rw [HE.out]), rfl⟩
end Go.Proofs.YtpldnbfbpajbkabDoor
