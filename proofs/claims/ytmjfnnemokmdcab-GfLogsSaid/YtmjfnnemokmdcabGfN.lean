/- The walk of GfLogs. -/
import Derived.Test.YtmjfnnemokmdcabGfL
namespace Go.Proofs.Ytmjfnnemokmdcab
open Go.RowKit
open Caulk.Gf (dbl mul putL scaleL pwI pw lg)

theorem byte_openN {n : Int} (h : (Lit.int .u8 n).wf = true) : ∃ r : UInt8, n = (r.toNat : Int) := by
  have : 0 ≤ n ∧ n < 256 := by
    simp [Lit.wf, IntKind.min, IntKind.max, IntKind.signed, IntKind.bits] at h
    omega
  refine ⟨UInt8.ofNat n.toNat, ?_⟩
  rw [UInt8.toNat_ofNat']
  omega
theorem int_someN (x : UInt8) : (((x.toNat : Int)) != 0) = !decide (x = 0) := by revert x; apply Caulk.Gf.bytes_all; decide +kernel
theorem pwI_lg (a : UInt8) (h : a ≠ 0) : pwI (lg a : Int) = a := by
  unfold pwI
  have := Caulk.Gf.lg_lt a h
  rw [show ((lg a : Int) % 255).toNat = lg a by omega, Caulk.Gf.pw_lg a h]
theorem pwI_ne (m : Int) : pwI m ≠ 0 := Caulk.Gf.pw_ne _
theorem lg_pwI (m : Int) : lg (pwI m) = (m % 255).toNat := by
  unfold pwI; exact Caulk.Gf.lg_pw _ (by omega)
/-- What is taken from a number by its logarithm is a multiple of 255. -/
theorem rest_zero (m : Int) : (m - ((m % 255).toNat : Int)).tmod 255 = 0 := by
  have : m - ((m % 255).toNat : Int) = 255 * (m / 255) := by omega
  rw [this, Int.mul_tmod_right]

set_option maxRecDepth 100000 in
set_option maxHeartbeats 1000000 in
theorem logs_walk (m n : Int) (hm1 : -2147483648 ≤ m) (hm2 : m ≤ 2147483647) (hn1 : -2147483648 ≤ n) (hn2 : n ≤ 2147483647) (a : UInt8) (w : World) :
    Calls Try.prog 5 #[.int .i32 m, .int .i32 n, .int .u8 (a.toNat : Int)] w fun e w' => e = .returned (.bool true) ∧ Below w.heap.size w w' := by
  have z2 := int_someN a
  have p1 : errI (pwI m) = 0 := by unfold errI; rw [if_neg (pwI_ne m)]
  have p2 : logI (pwI m) = ((m % 255).toNat : Int) := by unfold logI; rw [if_neg (pwI_ne m), lg_pwI]
  have p3 := rest_zero m
  have p4 := Caulk.Gf.pwI_mul m n
  have p5 : (m % 255).toNat < 255 := by omega
  have hB : Below w.heap.size w w := Below.refl _ _
  generalize (m % 255).toNat = r at *
  by_cases ha : a = 0
  · rw [decide_eq_true ha] at z2
    clear ha
    go_enter Try.func5, Try.ntmps5
    go_wp2_with (first
      | (go_at_call 6; refine (lives2_any _).mono ?_; rintro e w1 ⟨rfl, hb⟩; replace hB := hB.trans (hb.mono hB.size); clear hb)
      | (go_at_call 12; (with_reducible refine (gfLog_in _ _).mono ?_); rintro e w2 ⟨rfl, hb⟩; replace hB := hB.trans (hb.mono hB.size); clear hb)
      | (go_at_call 13; (with_reducible refine (gfExp_in _ (wf_of (by omega) (by omega)) _).mono ?_); rintro e w3 ⟨rfl, hb⟩; replace hB := hB.trans (hb.mono hB.size); clear hb)
      | (go_at_call 11; (with_reducible refine (gfMul_any _ _ _).mono ?_); rintro e w4 ⟨rfl, rfl⟩))
    go_ret
    exact ⟨rfl, hB⟩
  · have q1 : errI a = 0 := by unfold errI; rw [if_neg ha]
    have q2 : logI a = (lg a : Int) := by unfold logI; rw [if_neg ha]
    have q3 := pwI_lg a ha
    have q4 := Caulk.Gf.lg_lt a ha
    rw [decide_eq_false ha] at z2
    generalize lg a = q at *
    clear ha
    go_enter Try.func5, Try.ntmps5
    go_wp2_with (first
      | (go_at_call 6; refine (lives2_any _).mono ?_; rintro e w1 ⟨rfl, hb⟩; replace hB := hB.trans (hb.mono hB.size); clear hb)
      | (go_at_call 12; (with_reducible refine (gfLog_in _ _).mono ?_); rintro e w2 ⟨rfl, hb⟩; replace hB := hB.trans (hb.mono hB.size); clear hb)
      | (go_at_call 13; (with_reducible refine (gfExp_in _ (wf_of (by omega) (by omega)) _).mono ?_); rintro e w3 ⟨rfl, hb⟩; replace hB := hB.trans (hb.mono hB.size); clear hb)
      | (go_at_call 11; (with_reducible refine (gfMul_any _ _ _).mono ?_); rintro e w4 ⟨rfl, rfl⟩))
    go_ret
    exact ⟨rfl, hB⟩
theorem i32_open {n : Int} (h : (Lit.int .i32 n).wf = true) : -2147483648 ≤ n ∧ n ≤ 2147483647 := by
  simp [Lit.wf, IntKind.min, IntKind.max, IntKind.signed, IntKind.bits] at h
  omega
theorem gfLogs_walk (x : Int) (hx : (Lit.int .i32 x).wf = true) (y : Int) (hy : (Lit.int .i32 y).wf = true) (z : Int) (hz : (Lit.int .u8 z).wf = true) (w : World) :
    Calls Try.prog 5 #[.int .i32 x, .int .i32 y, .int .u8 z] w fun e w' => e = .returned (.bool true) ∧ Below w.heap.size w w' := by
  obtain ⟨a, rfl⟩ := byte_openN hz
  exact logs_walk x y (i32_open hx).1 (i32_open hx).2 (i32_open hy).1 (i32_open hy).2 a w
end Go.Proofs.Ytmjfnnemokmdcab
