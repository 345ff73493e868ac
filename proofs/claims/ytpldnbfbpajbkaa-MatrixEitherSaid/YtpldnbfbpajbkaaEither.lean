/- Inverses as lists of rows: from both sides, of the inverse, of the product. -/
import Derived.Test.YtpldnbfbpajbkaaRes
import Derived.Test.YtpldnbfbpajbkaaLin2
namespace Go.Proofs.Ytpldnbfbpajbkaa
open Go.RowKit
open Caulk.Lin (Fn2 invM sx col)
open Caulk.Gf (mul)

theorem ck_rows {r k : Nat} {f : Fn2} (hr1 : 1 ≤ r) (hr2 : r ≤ 255) (hk1 : 1 ≤ k) (hk2 : k ≤ 255) : ckE (rowsL r k f) = 0 := ckE_yes (right_rowsL hr1 hr2 hk1 hk2)
theorem cols_rows {r k : Nat} {f : Fn2} (hr1 : 1 ≤ r) : colsN (rowsL r k f) = k := by
  unfold colsN; rw [rowsL_getD f hr1, rowL_len]
theorem ent_rows {r k : Nat} {f : Fn2} {i j : Nat} (hi : i < r) (hj : j < k) : entF (rowsL r k f) i j = f i j := by
  unfold entF; rw [rowsL_getD f hi, rowL_getD _ hj]
theorem mul_rows {r n k : Nat} {f g : Fn2} (hr1 : 1 ≤ r) (hr2 : r ≤ 255) (hn1 : 1 ≤ n) (hn2 : n ≤ 255) (hk1 : 1 ≤ k) (hk2 : k ≤ 255) :
    mulE (rowsL r n f) (rowsL n k g) = 0 ∧ mulL (rowsL r n f) (rowsL n k g) = rowsL r k (mulF n f g) := by
  obtain ⟨h1, h2⟩ := mulE_ok (ck_rows (f := f) hr1 hr2 hn1 hn2) (ck_rows (f := g) hn1 hn2 hk1 hk2) (by rw [rowsL_len, cols_rows hr1])
  refine ⟨h1, ?_⟩
  rw [h2, rowsL_len, rowsL_len, cols_rows hn1]
  refine rowsL_congr (fun i hi j hj => ?_)
  unfold mulF
  exact Caulk.Lin.sx_congr (fun t ht => by rw [ent_rows hi ht, ent_rows ht hj])
/-- An inverse there is. -/
theorem inv_there {A : List (List UInt8)} (h : invE A = 0) : ∃ X, 1 ≤ A.length ∧ A.length ≤ 255 ∧ A = rowsL A.length A.length (entF A) ∧ invM A.length (entF A) = some X ∧ invL A = rowsL A.length A.length X := by
  unfold invE at h
  rcases ckE_iff A with ⟨hr, e1⟩ | ⟨hr, e1⟩
  · rw [if_pos e1] at h
    by_cases h1 : colsN A = A.length
    · rw [if_pos h1] at h
      obtain ⟨eA, a1, a2, a3, a4⟩ := right_is hr
      rw [h1] at eA
      cases hX : invM A.length (entF A) with
      | none => rw [hX] at h; simp at h
      | some X => exact ⟨X, a1, a2, eA, rfl, by unfold invL; rw [if_pos e1, if_pos h1, hX]⟩
    · rw [if_neg h1] at h; simp at h
  · rw [if_neg (by rw [e1]; decide)] at h; simp at h
theorem inv_rows {n : Nat} {f X : Fn2} (h1 : 1 ≤ n) (h2 : n ≤ 255) (h : ∀ F, (∀ i, i < n → ∀ j, j < n → F i j = f i j) → ∃ Y, invM n F = some Y ∧ ∀ i, i < n → ∀ j, j < n → Y i j = X i j) :
    invE (rowsL n n f) = 0 ∧ invL (rowsL n n f) = rowsL n n X := by
  obtain ⟨Y, hY, hX⟩ := h (entF (rowsL n n f)) (fun i hi j hj => ent_rows hi hj)
  unfold invE invL
  rw [if_pos (ck_rows h1 h2 h1 h2), if_pos (by rw [cols_rows h1, rowsL_len]), if_pos (ck_rows h1 h2 h1 h2), if_pos (by rw [cols_rows h1, rowsL_len]), rowsL_len, hY]
  exact ⟨rfl, rowsL_congr hX⟩
theorem unitL_nat {n : Nat} (h1 : 1 ≤ n) (h2 : n ≤ 255) : unitE (n : Int) = 0 ∧ unitL (n : Int) = rowsL n n unitF := by
  unfold unitE unitL
  rw [if_pos (by omega), if_pos (by omega)]
  exact ⟨rfl, by rw [Int.toNat_natCast]⟩
/-- From both sides; and back. -/
theorem either_one {A : List (List UInt8)} (h : invE A = 0) : unitE (A.length : Int) = 0 ∧ mulE A (invL A) = 0 ∧ mulL A (invL A) = unitL (A.length : Int) ∧ mulE (invL A) A = 0 ∧ mulL (invL A) A = unitL (A.length : Int) ∧ invE (invL A) = 0 ∧ invL (invL A) = A := by
  obtain ⟨X, h1, h2, eA, hX, eX⟩ := inv_there h
  obtain ⟨u1, u2⟩ := unitL_nat h1 h2
  rw [eX, u2]
  have m1 := mul_rows (f := entF A) (g := X) h1 h2 h1 h2 h1 h2
  have m2 := mul_rows (f := X) (g := entF A) h1 h2 h1 h2 h1 h2
  rw [← eA] at m1 m2
  have b := inv_rows (f := X) (X := entF A) h1 h2 (fun F hF => Caulk.Lin.inv_back hX hF)
  rw [← eA] at b
  refine ⟨u1, m1.1, ?_, m2.1, ?_, b.1, b.2⟩
  · rw [m1.2]
    refine rowsL_congr (fun i hi j hj => ?_)
    exact Caulk.Lin.inv_right hX hi hj
  · rw [m2.2]
    refine rowsL_congr (fun i hi j hj => ?_)
    exact Caulk.Lin.inv_left hX hi hj
/-- The product's. -/
theorem either_two {A M : List (List UInt8)} (h : invE A = 0) (g : invE M = 0) (hl : M.length = A.length) : mulE A M = 0 ∧ invE (mulL A M) = 0 ∧ mulE (invL M) (invL A) = 0 ∧ invL (mulL A M) = mulL (invL M) (invL A) := by
  obtain ⟨X, h1, h2, eA, hX, eX⟩ := inv_there h
  obtain ⟨Y, g1, g2, eM, hY, eY⟩ := inv_there g
  rw [hl] at eM hY eY
  rw [eX, eY]
  have m1 := mul_rows (f := entF A) (g := entF M) h1 h2 h1 h2 h1 h2
  have m2 := mul_rows (f := Y) (g := X) h1 h2 h1 h2 h1 h2
  rw [← eA, ← eM] at m1
  rw [m1.2, m2.2]
  have b := inv_rows (f := mulF A.length (entF A) (entF M)) (X := mulF A.length Y X) h1 h2 (fun F hF => Caulk.Lin.inv_prod hX hY hF)
  exact ⟨m1.1, b.1, m2.1, b.2⟩
end Go.Proofs.Ytpldnbfbpajbkaa
