/- The walk of GfField. -/
import Derived.Test.YtmjfnnemokmdcabGfL
namespace Go.Proofs.Ytmjfnnemokmdcab
open Go.RowKit
open Caulk.Gf (dbl mul putL scaleL)

theorem int_zero (x : UInt8) : (((x.toNat : Int)) == 0) = decide (x = 0) := by revert x; apply Caulk.Gf.bytes_all; decide +kernel
theorem int_some (x : UInt8) : (((x.toNat : Int)) != 0) = !decide (x = 0) := by revert x; apply Caulk.Gf.bytes_all; decide +kernel
theorem bxor_mul (a b c : UInt8) : mul a (bxor b c) = bxor (mul a b) (mul a c) := Caulk.Gf.mul_xorR a b c
set_option maxRecDepth 100000 in
set_option maxHeartbeats 1000000 in
theorem field_0 (a b c : UInt8) (ha : a = 0) (w : World) :
    Calls Try.prog 4 #[.int .u8 (a.toNat : Int), .int .u8 (b.toNat : Int), .int .u8 (c.toNat : Int)] w fun e w' => e = .returned (.bool true) ∧ Below w.heap.size w w' := by
  have h1 := Caulk.Gf.mul_comm b a
  have h2 := Caulk.Gf.mul_assoc a b c
  have h3 := bxor_mul a b c
  have h4 := Caulk.Gf.one_mul a
  have h5 := u8_bxor
  have z1 := int_zero a
  have z2 := int_some a
  have z3 := int_zero b
  have z4 := int_zero (mul a b)
  have e1 : errI a = 13 := by unfold errI; rw [if_pos ha]
  have e2 : mul a b = 0 := by rw [ha]; exact Caulk.Gf.mul_zeroL b
  rw [e2] at z4
  rw [decide_eq_true ha] at z1 z2
  rw [decide_eq_true rfl] at z4
  have z5 : (((mul a b).toNat : Int) == 0) = true := by rw [e2]; exact z4
  clear ha e2 z4 z3
  go_enter Try.func4, Try.ntmps4
  go_wp2_with (first
    | (go_at_call 6; refine (lives2_any _).mono ?_; rintro e w1 ⟨rfl, hb1⟩)
    | (go_at_call 10; (with_reducible refine (gfInv_any _ _).mono ?_); rintro e w2 ⟨rfl, hb2⟩)
    | (go_at_call 11; (with_reducible refine (gfMul_any _ _ _).mono ?_); rintro e w3 ⟨rfl, rfl⟩)
    | (go_at_call 11; refine (gfMul_any 1 a _).mono ?_; rintro e w3 ⟨rfl, rfl⟩))
  go_ret
  exact ⟨rfl, hb1.trans (hb2.mono hb1.size)⟩
set_option maxRecDepth 100000 in
set_option maxHeartbeats 1000000 in
theorem field_1 (a b c : UInt8) (ha : a ≠ 0) (hb : b = 0) (w : World) :
    Calls Try.prog 4 #[.int .u8 (a.toNat : Int), .int .u8 (b.toNat : Int), .int .u8 (c.toNat : Int)] w fun e w' => e = .returned (.bool true) ∧ Below w.heap.size w w' := by
  have h1 := Caulk.Gf.mul_comm b a
  have h2 := Caulk.Gf.mul_assoc a b c
  have h3 := bxor_mul a b c
  have h4 := Caulk.Gf.one_mul a
  have h5 := u8_bxor
  have z1 := int_zero a
  have z2 := int_some a
  have z3 := int_zero b
  have z4 := int_zero (mul a b)
  have e1 : errI a = 0 := by unfold errI; rw [if_neg ha]
  have e3 : mul a (invB a) = 1 := by unfold invB; rw [if_neg ha]; exact Caulk.Gf.mul_inv a ha
  have e2 : mul a b = 0 := by rw [hb]; exact Caulk.Gf.mul_zeroR a
  rw [decide_eq_false ha] at z1 z2
  rw [decide_eq_true hb] at z3
  rw [decide_eq_true e2] at z4
  clear ha hb e2
  go_enter Try.func4, Try.ntmps4
  go_wp2_with (first
    | (go_at_call 6; refine (lives2_any _).mono ?_; rintro e w1 ⟨rfl, hb1⟩)
    | (go_at_call 10; (with_reducible refine (gfInv_any _ _).mono ?_); rintro e w2 ⟨rfl, hb2⟩)
    | (go_at_call 11; (with_reducible refine (gfMul_any _ _ _).mono ?_); rintro e w3 ⟨rfl, rfl⟩)
    | (go_at_call 11; refine (gfMul_any 1 a _).mono ?_; rintro e w3 ⟨rfl, rfl⟩))
  go_ret
  exact ⟨rfl, hb1.trans (hb2.mono hb1.size)⟩
set_option maxRecDepth 100000 in
set_option maxHeartbeats 1000000 in
theorem field_2 (a b c : UInt8) (ha : a ≠ 0) (hb : b ≠ 0) (w : World) :
    Calls Try.prog 4 #[.int .u8 (a.toNat : Int), .int .u8 (b.toNat : Int), .int .u8 (c.toNat : Int)] w fun e w' => e = .returned (.bool true) ∧ Below w.heap.size w w' := by
  have h1 := Caulk.Gf.mul_comm b a
  have h2 := Caulk.Gf.mul_assoc a b c
  have h3 := bxor_mul a b c
  have h4 := Caulk.Gf.one_mul a
  have h5 := u8_bxor
  have z1 := int_zero a
  have z2 := int_some a
  have z3 := int_zero b
  have z4 := int_zero (mul a b)
  have e1 : errI a = 0 := by unfold errI; rw [if_neg ha]
  have e3 : mul a (invB a) = 1 := by unfold invB; rw [if_neg ha]; exact Caulk.Gf.mul_inv a ha
  have e2 : mul a b ≠ 0 := Caulk.Gf.mul_ne a b ha hb
  rw [decide_eq_false ha] at z1 z2
  rw [decide_eq_false hb] at z3
  rw [decide_eq_false e2] at z4
  clear ha hb e2
  go_enter Try.func4, Try.ntmps4
  go_wp2_with (first
    | (go_at_call 6; refine (lives2_any _).mono ?_; rintro e w1 ⟨rfl, hb1⟩)
    | (go_at_call 10; (with_reducible refine (gfInv_any _ _).mono ?_); rintro e w2 ⟨rfl, hb2⟩)
    | (go_at_call 11; (with_reducible refine (gfMul_any _ _ _).mono ?_); rintro e w3 ⟨rfl, rfl⟩)
    | (go_at_call 11; refine (gfMul_any 1 a _).mono ?_; rintro e w3 ⟨rfl, rfl⟩))
  go_ret
  exact ⟨rfl, hb1.trans (hb2.mono hb1.size)⟩
theorem byte_open {n : Int} (h : (Lit.int .u8 n).wf = true) : ∃ r : UInt8, n = (r.toNat : Int) := by
  have : 0 ≤ n ∧ n < 256 := by
    simp [Lit.wf, IntKind.min, IntKind.max, IntKind.signed, IntKind.bits] at h
    omega
  refine ⟨UInt8.ofNat n.toNat, ?_⟩
  rw [UInt8.toNat_ofNat']
  omega
theorem gfField_walk (x : Int) (hx : (Lit.int .u8 x).wf = true) (y : Int) (hy : (Lit.int .u8 y).wf = true) (z : Int) (hz : (Lit.int .u8 z).wf = true) (w : World) :
    Calls Try.prog 4 #[.int .u8 x, .int .u8 y, .int .u8 z] w fun e w' => e = .returned (.bool true) ∧ Below w.heap.size w w' := by
  obtain ⟨a, rfl⟩ := byte_open hx
  obtain ⟨b, rfl⟩ := byte_open hy
  obtain ⟨c, rfl⟩ := byte_open hz
  by_cases ha : a = 0
  · exact field_0 a b c ha w
  by_cases hb : b = 0
  · exact field_1 a b c ha hb w
  exact field_2 a b c ha hb w
end Go.Proofs.Ytmjfnnemokmdcab
