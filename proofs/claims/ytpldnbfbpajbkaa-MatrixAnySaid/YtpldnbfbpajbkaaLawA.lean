/- caulklaw03.small and caulklaw03.lives. -/
import Derived.Test.YtpldnbfbpajbkaaRes
import Derived.Test.YtpldnbfbpajbkaaLawA0
namespace Go.Proofs.Ytpldnbfbpajbkaa
open Go.RowKit
open Caulk.Lin (Fn2 invM)

/-- A matrix of two rows and two columns that is written out. -/
theorem mat2 (w : World) (a b c d : UInt8) :
    MatS (((w.alloc (.cells #[.int .u8 (a.toNat : Int), .int .u8 (b.toNat : Int)] 5)).alloc (.cells #[.int .u8 (c.toNat : Int), .int .u8 (d.toNat : Int)] 5)).alloc (.cells #[.slice (some ⟨w.heap.size, 0, none⟩) 2 2, .slice (some ⟨w.heap.size + 1, 0, none⟩) 2 2] 37))
      (.slice (some ⟨w.heap.size + 1 + 1, 0, none⟩) 2 2) [[a, b], [c, d]] := by
  unfold MatS
  have hs : (((w.alloc (.cells #[.int .u8 (a.toNat : Int), .int .u8 (b.toNat : Int)] 5)).alloc (.cells #[.int .u8 (c.toNat : Int), .int .u8 (d.toNat : Int)] 5)).alloc (.cells #[.slice (some ⟨w.heap.size, 0, none⟩) 2 2, .slice (some ⟨w.heap.size + 1, 0, none⟩) 2 2] 37)).heap.size = w.heap.size + 1 + 1 + 1 := by simp
  rw [hs]
  have two : ∀ j, j < 2 → j = 0 ∨ j = 1 := fun j hj => by omega
  refine ⟨_, 2, rfl, by simp, Nat.le_refl _, by unfold maxLen; omega, .inr ⟨_, 0, rfl, by omega, fun i hi => ?_⟩⟩
  rcases two i hi with rfl | rfl
  · refine ⟨_, by rw [World.cell?_alloc_at _ _ _ _ (by simp)]; rfl, _, 2, rfl, by simp, Nat.le_refl _, by unfold maxLen; omega, .inr ⟨_, 0, rfl, by omega, fun j hj => ?_⟩⟩
    rw [World.cell?_alloc_past _ _ _ (by simp; omega), World.cell?_alloc_past _ _ _ (by simp), World.cell?_alloc_at _ _ _ _ rfl]
    rcases two j hj with rfl | rfl <;> rfl
  · refine ⟨_, by rw [World.cell?_alloc_at _ _ _ _ (by simp)]; rfl, _, 2, rfl, by simp, Nat.le_refl _, by unfold maxLen; omega, .inr ⟨_, 0, rfl, by omega, fun j hj => ?_⟩⟩
    rw [World.cell?_alloc_past _ _ _ (by simp), World.cell?_alloc_at _ _ _ _ (by simp)]
    rcases two j hj with rfl | rfl <;> rfl
/-- Few rows and columns, or not right. -/
def smallB (M : List (List UInt8)) : Bool := decide (ckE M ≠ 0 ∨ (M.length ≤ 12 ∧ colsN M ≤ 12))
theorem small_any {w : World} {B : Nat} {v : Value} {M : List (List UInt8)} (hM : MatV w B v M) (hB : B ≤ w.heap.size) :
    Calls Try.prog 9 #[v] w fun e w' => e = .returned (.bool (smallB M)) ∧ w = w' := by
  have HC := refCheck_any hM
  rcases ckE_iff M with ⟨hr, e1⟩ | ⟨hr, e1⟩
  · obtain ⟨eM, a1, a2, a3, a4⟩ := right_is hr
    rw [e1] at HC
    have hM' := hM
    rw [eM] at hM'
    obtain ⟨b1, off1, cap1, rfl, hrc1, hcm1, hread1⟩ := hM'.reads hB a1 a3
    unfold maxLen at hcm1
    obtain ⟨b2, off2, cap2, h2, _, hc2, hcm2, _⟩ := hread1 w (Below.refl _ _) 0 a1
    rw [Nat.add_zero] at h2
    unfold maxLen at hcm2
    have hsm : smallB M = (decide (M.length ≤ 12) && decide (colsN M ≤ 12)) := by
      unfold smallB
      rw [e1]
      by_cases q1 : M.length ≤ 12 <;> by_cases q2 : colsN M ≤ 12 <;> simp [q1, q2]
    rw [hsm]
    clear hread1 hM hM' eM hsm hr e1
    generalize M.length = r at *
    generalize colsN M = k at *
    by_cases q1 : r ≤ 12
    · have d1 : decide ((r : Int) ≤ 12) = true := by simp; omega
      have e1 : decide (r ≤ 12) = true := by simpa using q1
      rw [e1]
      clear q1 e1
      by_cases q2 : k ≤ 12
      · have d2 : decide ((k : Int) ≤ 12) = true := by simp; omega
        have e2 : decide (k ≤ 12) = true := by simpa using q2
        rw [e2]
        clear q2 e2
        go_enter Try.func9, Try.ntmps9
        go_wp2_with fail
        refine HC.mono ?_
        rintro e w' ⟨rfl, rfl⟩
        clear HC
        go_wp2
        go_ret
        exact ⟨rfl, rfl⟩
      · have d2 : decide ((k : Int) ≤ 12) = false := by simp; omega
        have e2 : decide (k ≤ 12) = false := by simpa using q2
        rw [e2]
        clear q2 e2
        go_enter Try.func9, Try.ntmps9
        go_wp2_with fail
        refine HC.mono ?_
        rintro e w' ⟨rfl, rfl⟩
        clear HC
        go_wp2
        go_ret
        exact ⟨rfl, rfl⟩
    · have d1 : decide ((r : Int) ≤ 12) = false := by simp; omega
      have e1 : decide (r ≤ 12) = false := by simpa using q1
      rw [e1]
      clear q1 e1
      go_enter Try.func9, Try.ntmps9
      go_wp2_with fail
      refine HC.mono ?_
      rintro e w' ⟨rfl, rfl⟩
      clear HC
      go_wp2
      go_ret
      exact ⟨rfl, rfl⟩
  · have hsm : smallB M = true := by unfold smallB; rw [e1]; simp
    rw [hsm]
    rw [e1] at HC
    clear hsm e1 hM hr
    go_enter Try.func9, Try.ntmps9
    go_wp2_with fail
    refine HC.mono ?_
    rintro e w' ⟨rfl, rfl⟩
    clear HC
    go_wp2
    go_ret
    exact ⟨rfl, rfl⟩

theorem c_inv : invE [[1, 1], [0, 2]] = 0 ∧ mulE [[1, 1], [0, 2]] (invL [[1, 1], [0, 2]]) = 0 ∧ mulL [[1, 1], [0, 2]] (invL [[1, 1], [0, 2]]) = unitL 2 := by decide +kernel
theorem c_one : invE [[1, 1], [1, 1]] = 13 := by decide +kernel
theorem c_cau : cauE 2 1 = 0 ∧ cauE 255 1 = 1 ∧ mulE [[1, 1], [0, 2]] (cauL 2 1) = 1 ∧ unitE 2 = 0 ∧ unitL 2 = [[1, 0], [0, 1]] := by decide +kernel
theorem c_rows : rowsE [[1, 1], [0, 2]] [1, 1] = 0 ∧ rowsLL [[1, 1], [0, 2]] [1, 1] = [[0, 2], [0, 2]] := by
  have h : rowsE [[1, 1], [0, 2]] [1, 1] = 0 := by
    have hin : InRows ([[1, 1], [0, 2]] : List (List UInt8)).length [1, 1] := by
      intro i hi
      have : i = 0 ∨ i = 1 := by simp at hi; omega
      rcases this with rfl | rfl <;> decide
    unfold rowsE
    rw [if_pos (by decide +kernel), if_pos ⟨by decide, by decide, hin⟩]
  exact ⟨h, by unfold rowsLL; rw [if_pos h]; decide +kernel⟩
theorem ints2 (w : World) : IntsV (w.alloc (.cells #[.int .i64 1, .int .i64 1] 3)) (w.alloc (.cells #[.int .i64 1, .int .i64 1] 3)).heap.size (.slice (some ⟨w.heap.size, 0, none⟩) 2 2) [1, 1] := by
  refine ⟨_, 2, rfl, Nat.le_refl _, by unfold maxLen; omega, fun x hx => by simp at hx; subst hx; omega, .inr ⟨_, 0, rfl, by simp, fun j hj => ?_⟩⟩
  rw [World.cell?_alloc_at _ _ _ _ rfl]
  have : j = 0 ∨ j = 1 := by simp at hj; omega
  rcases this with rfl | rfl <;> rfl
end Go.Proofs.Ytpldnbfbpajbkaa
