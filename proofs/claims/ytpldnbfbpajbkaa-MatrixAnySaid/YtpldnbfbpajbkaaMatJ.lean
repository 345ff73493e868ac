/- What Mul answers where there is no product. -/
import Derived.Test.YtpldnbfbpajbkaaMatI
namespace Go.Proofs.Ytpldnbfbpajbkaa
open Go.RowKit
open Caulk.Lin (Fn2)

theorem mul_formA {w : World} {B : Nat} {v u : Value} {M : List (List UInt8)} (hM : MatV w B v M) (h : ¬ RightM M) :
    Calls Try.prog 11 #[v, u] w fun e w' => e = .returned (.tuple #[.slice none 0 0, .int .i64 2]) ∧ w = w' := by
  have HC := check_any hM
  rw [ckE_no h] at HC
  go_enter Try.func11, Try.ntmps11
  go_wp2_with fail
  refine HC.mono ?_
  rintro e w' ⟨rfl, rfl⟩
  clear HC
  go_wp2
  go_ret2
  exact ⟨rfl, rfl⟩
theorem mul_formB {w : World} {B C : Nat} {v u : Value} {M N : List (List UInt8)} (hM : MatV w B v M) (hr : RightM M) (hN : MatV w C u N) (h : ¬ RightM N) :
    Calls Try.prog 11 #[v, u] w fun e w' => e = .returned (.tuple #[.slice none 0 0, .int .i64 2]) ∧ w = w' := by
  have HC := check_any hM
  rw [ckE_yes hr] at HC
  have HD := check_any hN
  rw [ckE_no h] at HD
  have HDD := Lib.hid HD
  clear HD
  go_enter Try.func11, Try.ntmps11
  go_wp2_with fail
  refine HC.mono ?_
  rintro e w' ⟨rfl, rfl⟩
  clear HC
  go_wp2_with fail
  refine HDD.out.mono ?_
  rintro e w' ⟨rfl, rfl⟩
  go_wp2
  go_ret2
  exact ⟨rfl, rfl⟩
theorem mul_range {w : World} {B C r n n2 k : Nat} {va vb : Value} {f g : Fn2} (hA : MatV w B va (rowsL r n f)) (hB : B ≤ w.heap.size) (hM : MatV w C vb (rowsL n2 k g)) (hC : C ≤ w.heap.size)
    (hr1 : 1 ≤ r) (hr2 : r ≤ 255) (hn1 : 1 ≤ n) (hn2 : n ≤ 255) (hm1 : 1 ≤ n2) (hm2 : n2 ≤ 255) (hk1 : 1 ≤ k) (hk2 : k ≤ 255) (hne : n2 ≠ n) :
    Calls Try.prog 11 #[va, vb] w fun e w' => e = .returned (.tuple #[.slice none 0 0, .int .i64 1]) ∧ w = w' := by
  have HC := check_any hA
  rw [ckE_yes (right_rowsL hr1 hr2 hn1 hn2)] at HC
  have HD := check_any hM
  rw [ckE_yes (right_rowsL hm1 hm2 hk1 hk2)] at HD
  have HDD := Lib.hid HD
  clear HD
  obtain ⟨b1, off1, cap1, rfl, hrc1, hcm1, hread1⟩ := hA.reads hB hr1 hn1
  obtain ⟨b2, off2, cap2, rfl, hrc2, hcm2, hread2⟩ := hM.reads hC hm1 hk1
  unfold maxLen at hcm1 hcm2
  obtain ⟨b3, off3, cap3, h03, _, hc3, hcm3, _⟩ := hread1 w (Below.refl _ _) 0 hr1
  rw [Nat.add_zero] at h03
  have hb1 : ((n2 : Int) == (n : Int)) = false := by simp; omega
  have hb2 : ((n2 : Int) != (n : Int)) = true := by simp; omega
  clear hread1 hread2 hA hM hne
  go_enter Try.func11, Try.ntmps11
  go_wp2_with fail
  refine HC.mono ?_
  rintro e w' ⟨rfl, rfl⟩
  clear HC
  go_wp2_with fail
  refine HDD.out.mono ?_
  rintro e w' ⟨rfl, rfl⟩
  go_wp2
  go_ret2
  exact ⟨rfl, rfl⟩
theorem refMatMul_formA {w : World} {B : Nat} {v u : Value} {M : List (List UInt8)} (hM : MatV w B v M) (h : ¬ RightM M) :
    Calls Try.prog 12 #[v, u] w fun e w' => e = .returned (.tuple #[.slice none 0 0, .int .i64 2]) ∧ w = w' := by
  have HC := refCheck_any hM
  rw [ckE_no h] at HC
  go_enter Try.func12, Try.ntmps12
  go_wp2_with fail
  refine HC.mono ?_
  rintro e w' ⟨rfl, rfl⟩
  clear HC
  go_wp2
  go_ret2
  exact ⟨rfl, rfl⟩
theorem refMatMul_formB {w : World} {B C : Nat} {v u : Value} {M N : List (List UInt8)} (hM : MatV w B v M) (hr : RightM M) (hN : MatV w C u N) (h : ¬ RightM N) :
    Calls Try.prog 12 #[v, u] w fun e w' => e = .returned (.tuple #[.slice none 0 0, .int .i64 2]) ∧ w = w' := by
  have HC := refCheck_any hM
  rw [ckE_yes hr] at HC
  have HD := refCheck_any hN
  rw [ckE_no h] at HD
  have HDD := Lib.hid HD
  clear HD
  go_enter Try.func12, Try.ntmps12
  go_wp2_with fail
  refine HC.mono ?_
  rintro e w' ⟨rfl, rfl⟩
  clear HC
  go_wp2_with fail
  refine HDD.out.mono ?_
  rintro e w' ⟨rfl, rfl⟩
  go_wp2
  go_ret2
  exact ⟨rfl, rfl⟩
theorem refMatMul_range {w : World} {B C r n n2 k : Nat} {va vb : Value} {f g : Fn2} (hA : MatV w B va (rowsL r n f)) (hB : B ≤ w.heap.size) (hM : MatV w C vb (rowsL n2 k g)) (hC : C ≤ w.heap.size)
    (hr1 : 1 ≤ r) (hr2 : r ≤ 255) (hn1 : 1 ≤ n) (hn2 : n ≤ 255) (hm1 : 1 ≤ n2) (hm2 : n2 ≤ 255) (hk1 : 1 ≤ k) (hk2 : k ≤ 255) (hne : n2 ≠ n) :
    Calls Try.prog 12 #[va, vb] w fun e w' => e = .returned (.tuple #[.slice none 0 0, .int .i64 1]) ∧ w = w' := by
  have HC := refCheck_any hA
  rw [ckE_yes (right_rowsL hr1 hr2 hn1 hn2)] at HC
  have HD := refCheck_any hM
  rw [ckE_yes (right_rowsL hm1 hm2 hk1 hk2)] at HD
  have HDD := Lib.hid HD
  clear HD
  obtain ⟨b1, off1, cap1, rfl, hrc1, hcm1, hread1⟩ := hA.reads hB hr1 hn1
  obtain ⟨b2, off2, cap2, rfl, hrc2, hcm2, hread2⟩ := hM.reads hC hm1 hk1
  unfold maxLen at hcm1 hcm2
  obtain ⟨b3, off3, cap3, h03, _, hc3, hcm3, _⟩ := hread1 w (Below.refl _ _) 0 hr1
  rw [Nat.add_zero] at h03
  have hb1 : ((n2 : Int) == (n : Int)) = false := by simp; omega
  have hb2 : ((n2 : Int) != (n : Int)) = true := by simp; omega
  clear hread1 hread2 hA hM hne
  go_enter Try.func12, Try.ntmps12
  go_wp2_with fail
  refine HC.mono ?_
  rintro e w' ⟨rfl, rfl⟩
  clear HC
  go_wp2_with fail
  refine HDD.out.mono ?_
  rintro e w' ⟨rfl, rfl⟩
  go_wp2
  go_ret2
  exact ⟨rfl, rfl⟩
end Go.Proofs.Ytpldnbfbpajbkaa
