/- What the calls of layer 3 answer, whatever they are given: one word for the program and for the document's own answer. -/
import Derived.Test.YtpldnbfbpajbkaaInvF
import Derived.Test.YtpldnbfbpajbkaaMatF
namespace Go.Proofs.Ytpldnbfbpajbkaa
open Go.RowKit
open Caulk.Lin (Fn2 invM)

/-- A matrix and an error's number are answered. -/
def MatRes (w : World) (L : List (List UInt8)) (E : Int) (e : Ending) (w' : World) : Prop :=
  ∃ v, e = .returned (.tuple #[v, .int .i64 E]) ∧ MatV w' w'.heap.size v L ∧ Below w.heap.size w w'
def entF (M : List (List UInt8)) : Fn2 := fun i j => (M.getD i []).getD j 0
def colsN (M : List (List UInt8)) : Nat := (M.getD 0 []).length
theorem ckE_iff (M : List (List UInt8)) : (RightM M ∧ ckE M = 0) ∨ (¬ RightM M ∧ ckE M = 2) := by
  by_cases h : RightM M
  · exact .inl ⟨h, ckE_yes h⟩
  · exact .inr ⟨h, ckE_no h⟩
theorem right_is {M : List (List UInt8)} (h : RightM M) : M = rowsL M.length (colsN M) (entF M) ∧ 1 ≤ M.length ∧ M.length ≤ 255 ∧ 1 ≤ colsN M ∧ colsN M ≤ 255 := by
  obtain ⟨h1, h2, h3, h4, h5⟩ := h
  refine ⟨?_, h1, h2, h3, h4⟩
  apply List.ext_getElem (by rw [rowsL_len])
  intro i hi1 hi2
  have e : M.getD i [] = M[i] := by simp [List.getD, hi1]
  have e2 : (rowsL M.length (colsN M) (entF M)).getD i [] = (rowsL M.length (colsN M) (entF M))[i] := by rw [List.getD, List.getElem?_eq_getElem hi2]; rfl
  rw [← e, ← e2, rowsL_getD _ hi1]
  unfold colsN entF
  rw [← h5 i hi1]
  exact (list_rowL _).symm
theorem got_ok {w : World} {r k : Nat} {f : Fn2} {e : Ending} {w' : World} (h : GotGridOK w r k f e w') : MatRes w (rowsL r k f) 0 e w' := by
  obtain ⟨v, he, hg, hb⟩ := h
  exact ⟨v, he, hg.mat, hb⟩
theorem got_no {w : World} {E : Int} {e : Ending} {w' : World} (h : e = .returned (.tuple #[.slice none 0 0, .int .i64 E]) ∧ Below w.heap.size w w') : MatRes w [] E e w' :=
  ⟨_, h.1, matV_nil _ _, h.2⟩
theorem got_no' {w : World} {E : Int} {e : Ending} {w' : World} (h : e = .returned (.tuple #[.slice none 0 0, .int .i64 E]) ∧ w = w') : MatRes w [] E e w' := by
  obtain ⟨h1, rfl⟩ := h
  exact ⟨_, h1, matV_nil _ _, Below.refl _ _⟩

def mulE (A M : List (List UInt8)) : Int := if ckE A = 0 ∧ ckE M = 0 then (if M.length = colsN A then 0 else 1) else 2
def mulL (A M : List (List UInt8)) : List (List UInt8) := if mulE A M = 0 then rowsL A.length (colsN M) (mulF M.length (entF A) (entF M)) else []
theorem mulE_ok {A M : List (List UInt8)} (h1 : ckE A = 0) (h2 : ckE M = 0) (h3 : M.length = colsN A) : mulE A M = 0 ∧ mulL A M = rowsL A.length (colsN M) (mulF M.length (entF A) (entF M)) := by
  have e : mulE A M = 0 := by unfold mulE; rw [if_pos ⟨h1, h2⟩, if_pos h3]
  exact ⟨e, by unfold mulL; rw [if_pos e]⟩
theorem mulE_range {A M : List (List UInt8)} (h1 : ckE A = 0) (h2 : ckE M = 0) (h3 : M.length ≠ colsN A) : mulE A M = 1 ∧ mulL A M = [] := by
  have e : mulE A M = 1 := by unfold mulE; rw [if_pos ⟨h1, h2⟩, if_neg h3]
  exact ⟨e, by unfold mulL; rw [e, if_neg (by decide)]⟩
theorem mulE_form {A M : List (List UInt8)} (h : ¬ (ckE A = 0 ∧ ckE M = 0)) : mulE A M = 2 ∧ mulL A M = [] := by
  have e : mulE A M = 2 := by unfold mulE; rw [if_neg h]
  exact ⟨e, by unfold mulL; rw [e, if_neg (by decide)]⟩
theorem mul_res {w : World} {B C : Nat} {a b : Value} {A M : List (List UInt8)} (hA : MatV w B a A) (hB : B ≤ w.heap.size) (hM : MatV w C b M) (hC : C ≤ w.heap.size) :
    Calls Try.prog 11 #[a, b] w (MatRes w (mulL A M) (mulE A M)) := by
  rcases ckE_iff A with ⟨hr, e1⟩ | ⟨hr, e1⟩
  · rcases ckE_iff M with ⟨hs, e2⟩ | ⟨hs, e2⟩
    · obtain ⟨eA, a1, a2, a3, a4⟩ := right_is hr
      obtain ⟨eM, m1, m2, m3, m4⟩ := right_is hs
      rw [eA] at hA
      rw [eM] at hM
      by_cases e : M.length = colsN A
      · obtain ⟨r1, r2⟩ := mulE_ok e1 e2 e
        rw [r1, r2]
        rw [← e] at hA a3 a4
        exact (mul_any hA hB hM hC a1 a2 a3 a4 m3 m4).mono fun _ _ h => got_ok h
      · obtain ⟨r1, r2⟩ := mulE_range e1 e2 e
        rw [r1, r2]
        exact (mul_range hA hB hM hC a1 a2 a3 a4 m1 m2 m3 m4 e).mono fun _ _ h => got_no' h
    · obtain ⟨r1, r2⟩ := mulE_form (A := A) (M := M) (fun h => by rw [e2] at h; exact absurd h.2 (by decide))
      rw [r1, r2]
      exact (mul_formB hA hr hM hs).mono fun _ _ h => got_no' h
  · obtain ⟨r1, r2⟩ := mulE_form (A := A) (M := M) (fun h => by rw [e1] at h; exact absurd h.1 (by decide))
    rw [r1, r2]
    exact (mul_formA hA hr).mono fun _ _ h => got_no' h
theorem refMatMul_res {w : World} {B C : Nat} {a b : Value} {A M : List (List UInt8)} (hA : MatV w B a A) (hB : B ≤ w.heap.size) (hM : MatV w C b M) (hC : C ≤ w.heap.size) :
    Calls Try.prog 12 #[a, b] w (MatRes w (mulL A M) (mulE A M)) := by
  rcases ckE_iff A with ⟨hr, e1⟩ | ⟨hr, e1⟩
  · rcases ckE_iff M with ⟨hs, e2⟩ | ⟨hs, e2⟩
    · obtain ⟨eA, a1, a2, a3, a4⟩ := right_is hr
      obtain ⟨eM, m1, m2, m3, m4⟩ := right_is hs
      rw [eA] at hA
      rw [eM] at hM
      by_cases e : M.length = colsN A
      · obtain ⟨r1, r2⟩ := mulE_ok e1 e2 e
        rw [r1, r2]
        rw [← e] at hA a3 a4
        exact (refMatMul_any hA hB hM hC a1 a2 a3 a4 m3 m4).mono fun _ _ h => got_ok h
      · obtain ⟨r1, r2⟩ := mulE_range e1 e2 e
        rw [r1, r2]
        exact (refMatMul_range hA hB hM hC a1 a2 a3 a4 m1 m2 m3 m4 e).mono fun _ _ h => got_no' h
    · obtain ⟨r1, r2⟩ := mulE_form (A := A) (M := M) (fun h => by rw [e2] at h; exact absurd h.2 (by decide))
      rw [r1, r2]
      exact (refMatMul_formB hA hr hM hs).mono fun _ _ h => got_no' h
  · obtain ⟨r1, r2⟩ := mulE_form (A := A) (M := M) (fun h => by rw [e1] at h; exact absurd h.1 (by decide))
    rw [r1, r2]
    exact (refMatMul_formA hA hr).mono fun _ _ h => got_no' h
open Classical in
noncomputable def rowsE (M : List (List UInt8)) (R : List Int) : Int := if ckE M = 0 then (if 1 ≤ R.length ∧ R.length ≤ 255 ∧ InRows M.length R then 0 else 1) else 2
open Classical in
noncomputable def rowsLL (M : List (List UInt8)) (R : List Int) : List (List UInt8) := if rowsE M R = 0 then rowsL R.length (colsN M) (pickF (entF M) R) else []
theorem rows_post {w : World} {M : List (List UInt8)} {R : List Int} {e : Ending} {w' : World} (h0 : ckE M = 0) (h1 : 1 ≤ R.length ∧ R.length ≤ 255) (h : RowsPost w M.length (colsN M) (entF M) R e w') : MatRes w (rowsLL M R) (rowsE M R) e w' := by
  by_cases hin : InRows M.length R
  · have e1 : rowsE M R = 0 := by unfold rowsE; rw [if_pos h0, if_pos ⟨h1.1, h1.2, hin⟩]
    unfold rowsLL
    rw [e1, if_pos rfl]
    exact got_ok (h.1 hin)
  · have e1 : rowsE M R = 1 := by unfold rowsE; rw [if_pos h0, if_neg (fun hh => hin hh.2.2)]
    unfold rowsLL
    rw [e1, if_neg (by decide)]
    exact got_no (h.2 hin)
theorem rows_none {M : List (List UInt8)} {R : List Int} (h0 : ckE M = 0) (h1 : ¬ (1 ≤ R.length ∧ R.length ≤ 255)) : rowsE M R = 1 ∧ rowsLL M R = [] := by
  have e1 : rowsE M R = 1 := by unfold rowsE; rw [if_pos h0, if_neg (fun hh => h1 ⟨hh.1, hh.2.1⟩)]
  exact ⟨e1, by unfold rowsLL; rw [e1, if_neg (by decide)]⟩
theorem rows_bad {M : List (List UInt8)} {R : List Int} (h0 : ckE M = 2) : rowsE M R = 2 ∧ rowsLL M R = [] := by
  have e1 : rowsE M R = 2 := by unfold rowsE; rw [if_neg (by rw [h0]; decide)]
  exact ⟨e1, by unfold rowsLL; rw [e1, if_neg (by decide)]⟩
theorem rows_res {w : World} {B C : Nat} {v u : Value} {M : List (List UInt8)} {R : List Int} (hM : MatV w B v M) (hB : B ≤ w.heap.size) (hR : IntsV w C u R) (hC : C ≤ w.heap.size) :
    Calls Try.prog 13 #[v, u] w (MatRes w (rowsLL M R) (rowsE M R)) := by
  rcases ckE_iff M with ⟨hr, e1⟩ | ⟨hr, e1⟩
  · obtain ⟨eM, a1, a2, a3, a4⟩ := right_is hr
    by_cases h1 : 1 ≤ R.length ∧ R.length ≤ 255
    · have hM' := hM
      rw [eM] at hM'
      exact (rows_any hM' hB a1 a2 a3 a4 hR hC h1.1 h1.2).mono fun _ _ h => rows_post e1 h1 h
    · obtain ⟨r1, r2⟩ := rows_none (R := R) e1 h1
      rw [r1, r2]
      rw [eM] at hM
      obtain ⟨A, cap, rfl, _⟩ := hR
      exact (rows_len hM a1 a2 a3 a4 (by omega)).mono fun _ _ h => got_no' h
  · obtain ⟨r1, r2⟩ := rows_bad (R := R) e1
    rw [r1, r2]
    exact (rows_form hM hr).mono fun _ _ h => got_no' h
theorem refRows_res {w : World} {B C : Nat} {v u : Value} {M : List (List UInt8)} {R : List Int} (hM : MatV w B v M) (hB : B ≤ w.heap.size) (hR : IntsV w C u R) (hC : C ≤ w.heap.size) :
    Calls Try.prog 14 #[v, u] w (MatRes w (rowsLL M R) (rowsE M R)) := by
  rcases ckE_iff M with ⟨hr, e1⟩ | ⟨hr, e1⟩
  · obtain ⟨eM, a1, a2, a3, a4⟩ := right_is hr
    by_cases h1 : 1 ≤ R.length ∧ R.length ≤ 255
    · have hM' := hM
      rw [eM] at hM'
      exact (refRows_any hM' hB a1 a2 a3 a4 hR hC h1.1 h1.2).mono fun _ _ h => rows_post e1 h1 h
    · obtain ⟨r1, r2⟩ := rows_none (R := R) e1 h1
      rw [r1, r2]
      rw [eM] at hM
      obtain ⟨A, cap, rfl, _⟩ := hR
      exact (refRows_len hM a1 a2 a3 a4 (by omega)).mono fun _ _ h => got_no' h
  · obtain ⟨r1, r2⟩ := rows_bad (R := R) e1
    rw [r1, r2]
    exact (refRows_form hM hr).mono fun _ _ h => got_no' h
def unitE (n : Int) : Int := if 1 ≤ n ∧ n ≤ 255 then 0 else 1
def unitL (n : Int) : List (List UInt8) := if 1 ≤ n ∧ n ≤ 255 then rowsL n.toNat n.toNat unitF else []
theorem unit_res (n : Int) (w : World) : Calls Try.prog 15 #[.int .i64 n] w (MatRes w (unitL n) (unitE n)) := by
  unfold unitL unitE
  by_cases h : 1 ≤ n ∧ n ≤ 255
  · rw [if_pos h, if_pos h]
    obtain ⟨m, rfl⟩ : ∃ m : Nat, n = (m : Int) := ⟨n.toNat, by omega⟩
    exact (unit_any m (by omega) (by omega) w).mono fun _ _ h => got_ok h
  · rw [if_neg h, if_neg h]
    exact (unit_bad n (by omega) w).mono fun _ _ h => got_no' h
theorem refUnit_res (n : Int) (w : World) : Calls Try.prog 16 #[.int .i64 n] w (MatRes w (unitL n) (unitE n)) := by
  unfold unitL unitE
  by_cases h : 1 ≤ n ∧ n ≤ 255
  · rw [if_pos h, if_pos h]
    obtain ⟨m, rfl⟩ : ∃ m : Nat, n = (m : Int) := ⟨n.toNat, by omega⟩
    exact (refUnit_any m (by omega) (by omega) w).mono fun _ _ h => got_ok h
  · rw [if_neg h, if_neg h]
    exact (refUnit_bad n (by omega) w).mono fun _ _ h => got_no' h
def cauE (k m : Int) : Int := if 1 ≤ k ∧ 1 ≤ m ∧ k + m ≤ 255 then 0 else 1
def cauL (k m : Int) : List (List UInt8) := if 1 ≤ k ∧ 1 ≤ m ∧ k + m ≤ 255 then rowsL m.toNat k.toNat (cauF k.toNat) else []
theorem cauchy_res (k m : Int) (hk : -9223372036854775808 ≤ k ∧ k ≤ 9223372036854775807) (hm : -9223372036854775808 ≤ m ∧ m ≤ 9223372036854775807) (w : World) : Calls Try.prog 17 #[.int .i64 k, .int .i64 m] w (MatRes w (cauL k m) (cauE k m)) := by
  unfold cauL cauE
  by_cases h : 1 ≤ k ∧ 1 ≤ m ∧ k + m ≤ 255
  · rw [if_pos h, if_pos h]
    obtain ⟨p, rfl⟩ : ∃ p : Nat, k = (p : Int) := ⟨k.toNat, by omega⟩
    obtain ⟨q, rfl⟩ : ∃ q : Nat, m = (q : Int) := ⟨m.toNat, by omega⟩
    exact (cauchy_any p q (by omega) (by omega) (by omega) w).mono fun _ _ h => got_ok h
  · rw [if_neg h, if_neg h]
    exact (cauchy_bad k m hk hm h w).mono fun _ _ h => got_no' h
theorem refCauchy_res (k m : Int) (hk : -9223372036854775808 ≤ k ∧ k ≤ 9223372036854775807) (hm : -9223372036854775808 ≤ m ∧ m ≤ 9223372036854775807) (w : World) : Calls Try.prog 18 #[.int .i64 k, .int .i64 m] w (MatRes w (cauL k m) (cauE k m)) := by
  unfold cauL cauE
  by_cases h : 1 ≤ k ∧ 1 ≤ m ∧ k + m ≤ 255
  · rw [if_pos h, if_pos h]
    obtain ⟨p, rfl⟩ : ∃ p : Nat, k = (p : Int) := ⟨k.toNat, by omega⟩
    obtain ⟨q, rfl⟩ : ∃ q : Nat, m = (q : Int) := ⟨m.toNat, by omega⟩
    exact (refCauchy_any p q (by omega) (by omega) (by omega) w).mono fun _ _ h => got_ok h
  · rw [if_neg h, if_neg h]
    exact (refCauchy_bad k m hk hm h w).mono fun _ _ h => got_no' h
def invE (M : List (List UInt8)) : Int := if ckE M = 0 then (if colsN M = M.length then (match invM M.length (entF M) with | some _ => 0 | none => 13) else 1) else 2
def invL (M : List (List UInt8)) : List (List UInt8) := if ckE M = 0 then (if colsN M = M.length then (match invM M.length (entF M) with | some X => rowsL M.length M.length X | none => []) else []) else []
theorem inv_post {w : World} {M : List (List UInt8)} {e : Ending} {w' : World} (h0 : ckE M = 0) (h1 : colsN M = M.length) (h : InvPost w M.length (entF M) e w') : MatRes w (invL M) (invE M) e w' := by
  unfold invL invE
  rw [if_pos h0, if_pos h1, if_pos h0, if_pos h1]
  cases hX : invM M.length (entF M) with
  | some X => exact got_ok (h.1 X hX)
  | none => exact got_no (h.2 hX)
theorem invert_res {w : World} {B : Nat} {v : Value} {M : List (List UInt8)} (hM : MatV w B v M) (hB : B ≤ w.heap.size) : Calls Try.prog 22 #[v] w (MatRes w (invL M) (invE M)) := by
  rcases ckE_iff M with ⟨hr, e1⟩ | ⟨hr, e1⟩
  · obtain ⟨eM, a1, a2, a3, a4⟩ := right_is hr
    rw [eM] at hM
    by_cases h1 : colsN M = M.length
    · rw [h1] at hM
      exact (invert_any hM hB a1 a2).mono fun _ _ h => inv_post e1 h1 h
    · unfold invL invE
      rw [if_pos e1, if_neg h1, if_pos e1, if_neg h1]
      exact (invert_range hM hB a1 a2 a3 a4 (Ne.symm h1)).mono fun _ _ h => got_no' h
  · unfold invL invE
    rw [if_neg (by rw [e1]; decide), if_neg (by rw [e1]; decide)]
    exact (invert_form hM hr).mono fun _ _ h => got_no' h
theorem refInvert_res {w : World} {B : Nat} {v : Value} {M : List (List UInt8)} (hM : MatV w B v M) (hB : B ≤ w.heap.size) : Calls Try.prog 23 #[v] w (MatRes w (invL M) (invE M)) := by
  rcases ckE_iff M with ⟨hr, e1⟩ | ⟨hr, e1⟩
  · obtain ⟨eM, a1, a2, a3, a4⟩ := right_is hr
    rw [eM] at hM
    by_cases h1 : colsN M = M.length
    · rw [h1] at hM
      exact (refInvert_any hM hB a1 a2).mono fun _ _ h => inv_post e1 h1 h
    · unfold invL invE
      rw [if_pos e1, if_neg h1, if_pos e1, if_neg h1]
      exact (refInvert_range hM hB a1 a2 a3 a4 (Ne.symm h1)).mono fun _ _ h => got_no' h
  · unfold invL invE
    rw [if_neg (by rw [e1]; decide), if_neg (by rw [e1]; decide)]
    exact (refInvert_form hM hr).mono fun _ _ h => got_no' h
end Go.Proofs.Ytpldnbfbpajbkaa
