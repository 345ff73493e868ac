/- The contracts of matrix.Check and caulkref03.Check. -/
import Derived.Test.YtpldnbfbpajbkabDoorMat
import Derived.Outline
namespace Go.Proofs.YtpldnbfbpajbkabDoor
open Go.RowKit
open Caulk.Lin (Fn2)

/-- A matrix is right. -/
def RightM (M : List (List UInt8)) : Prop :=
  1 ≤ M.length ∧ M.length ≤ 255 ∧ 1 ≤ (M.getD 0 []).length ∧ (M.getD 0 []).length ≤ 255 ∧ ∀ i, i < M.length → (M.getD i []).length = (M.getD 0 []).length
/-- What Check answers. -/
def ckE (M : List (List UInt8)) : Int := if 1 ≤ M.length ∧ M.length ≤ 255 ∧ 1 ≤ (M.getD 0 []).length ∧ (M.getD 0 []).length ≤ 255 ∧ ∀ i, i < M.length → (M.getD i []).length = (M.getD 0 []).length then 0 else 2
theorem ckE_yes {M : List (List UInt8)} (h : RightM M) : ckE M = 0 := if_pos h
theorem ckE_no {M : List (List UInt8)} (h : ¬ RightM M) : ckE M = 2 := if_neg h
/-- The head of row i: a slice of so many bytes. -/
theorem MatV.head {w : World} {B : Nat} {b off n cap : Nat} {M : List (List UInt8)} (h : MatV w B (.slice (some ⟨b, off, none⟩) n cap) M) (i : Nat) (hi : i < n) :
    ∃ A c, w.cell? ⟨b, off + i, none⟩ = some (.slice A (M.getD i []).length c) := by
  obtain ⟨A, cap', e, h1, h2, h3, h4⟩ := h
  injection e with e1 e2 e3
  subst e2
  rcases h4 with h4 | ⟨b', off', e4, hlt, hc⟩
  · rw [h4] at hi; simp at hi
  · rw [e4] at e1
    injection e1 with e1
    injection e1 with e5 e6
    subst e5; subst e6
    obtain ⟨x, hx, A', c, rfl, _⟩ := hc i hi
    exact ⟨A', c, hx⟩

set_option maxHeartbeats 1000000 in
theorem check_any {w : World} {B : Nat} {v : Value} {M : List (List UInt8)} (h : MatV w B v M) :
    Calls Tryd.prog 22 #[v] w fun e w' => e = .returned (.int .i64 (ckE M)) ∧ w = w' := by
  have h' := h
  obtain ⟨A, cap, rfl, ha, hlc, hcm, _⟩ := h'
  unfold maxLen at hcm
  by_cases h0 : M.length < 1 ∨ 255 < M.length
  · have he : ckE M = 2 := ckE_no (fun hr => by obtain ⟨a, b, _⟩ := hr; omega)
    rw [he]
    clear he h
    generalize M.length = n at *
    by_cases h1 : n < 1
    · have hd : decide ((n : Int) < 1) = true := by simp; omega
      go_enter Tryd.func22, Tryd.ntmps22
      go_wp2
      go_ret
      exact ⟨rfl, rfl⟩
    · have hd : decide ((n : Int) < 1) = false := by simp; omega
      have hd2 : decide ((255 : Int) < (n : Int)) = true := by simp; omega
      go_enter Tryd.func22, Tryd.ntmps22
      go_wp2
      go_ret
      exact ⟨rfl, rfl⟩
  · have hd : decide ((M.length : Int) < 1) = false := by simp; omega
    have hd2 : decide ((255 : Int) < (M.length : Int)) = false := by simp; omega
    have hpos : 0 < M.length := by omega
    obtain ⟨b, off, rfl, hb⟩ : ∃ b off, A = some ⟨b, off, none⟩ ∧ b < B := by
      obtain ⟨A', cap', e, h1, h2, h3, h4⟩ := h
      injection e with e1 e2 e3
      subst e1
      rcases h4 with h4 | ⟨b, off, rfl, hb, _⟩
      · rw [h4] at hpos; simp at hpos
      · exact ⟨b, off, rfl, hb⟩
    have HH := Lib.hid (h.head)
    obtain ⟨A0, c0, hc0⟩ := h.head 0 hpos
    rw [Nat.add_zero] at hc0
    by_cases h1 : (M.getD 0 []).length < 1 ∨ 255 < (M.getD 0 []).length
    · have he : ckE M = 2 := ckE_no (fun hr => by obtain ⟨_, _, a, b, _⟩ := hr; omega)
      rw [he]
      clear he h HH
      generalize M.length = n at *
      generalize (M.getD 0 []).length = m at *
      by_cases h2 : m < 1
      · have hd3 : decide ((m : Int) < 1) = true := by simp; omega
        go_enter Tryd.func22, Tryd.ntmps22
        go_wp2
        go_ret
        exact ⟨rfl, rfl⟩
      · have hd3 : decide ((m : Int) < 1) = false := by simp; omega
        have hd4 : decide ((255 : Int) < (m : Int)) = true := by simp; omega
        go_enter Tryd.func22, Tryd.ntmps22
        go_wp2
        go_ret
        exact ⟨rfl, rfl⟩
    · have hd3 : decide (((M.getD 0 []).length : Int) < 1) = false := by simp only [decide_eq_false_iff_not]; omega
      have hd4 : decide ((255 : Int) < ((M.getD 0 []).length : Int)) = false := by simp only [decide_eq_false_iff_not]; omega
      have HYES : Hid ((∀ i, i < M.length → (M.getD i []).length = (M.getD 0 []).length) → ckE M = 0) := Lib.hid (fun hr => ckE_yes ⟨by omega, by omega, by omega, by omega, hr⟩)
      have HNO : Hid (∀ i, i < M.length → (M.getD i []).length ≠ (M.getD 0 []).length → ckE M = 2) := Lib.hid (fun i hi hne => ckE_no (fun hr => hne (hr.2.2.2.2 i hi)))
      clear h
      obtain ⟨ln, hln⟩ : ∃ ln : Nat → Nat, ln = fun i => (M.getD i []).length := ⟨_, rfl⟩
      have e1 : ∀ i, (M.getD i []).length = ln i := fun i => by rw [hln]
      rw [e1 0] at hc0 hd3 hd4
      simp only [e1] at HH HYES HNO
      clear e1 hln h1
      obtain ⟨E, hE⟩ : ∃ E, E = ckE M := ⟨_, rfl⟩
      rw [← hE] at HYES HNO ⊢
      clear hE
      generalize M.length = n at *
      go_enter Tryd.func22, Tryd.ntmps22
      go_wp2
      go_loop [26] (fun i => ∃ k : Nat, k ≤ n ∧ i = .int .i64 k ∧ ∀ j, j < k → ln j = ln 0) (fun i => n - (intOf i).toNat)
      case atStart => exact ⟨0, by omega, rfl, fun j hj => by omega⟩
      case round =>
        obtain ⟨k, hk, rfl, hall⟩ := hrel
        have HALL := Lib.hid hall
        clear hall
        by_cases hlt : k < n
        · obtain ⟨A1, c1, hc1⟩ := HH.out k hlt
          by_cases hsame : ln k = ln 0
          · have hb1 : ((ln k : Int) == (ln 0 : Int)) = true := by rw [hsame]; simp
            have hb2 : ((ln k : Int) != (ln 0 : Int)) = false := by rw [hsame]; simp
            have HS := Lib.hid hsame
            clear hsame
            go_wp2
            go_round
            case rel =>
              refine ⟨k + 1, by omega, by go_num, fun j hj => ?_⟩
              by_cases e : j = k
              · subst e; exact HS.out
              · exact HALL.out j (by omega)
            case measure => simp [intOf]; omega
          · have hb1 : ((ln k : Int) == (ln 0 : Int)) = false := by simp; omega
            have hb2 : ((ln k : Int) != (ln 0 : Int)) = true := by simp; omega
            have hno := HNO.out k hlt hsame
            clear hsame
            go_wp2
            go_ret
            exact ⟨rfl, rfl⟩
        · obtain rfl : k = n := by omega
          have hyes := HYES.out HALL.out
          go_wp2
          go_ret
          exact ⟨rfl, rfl⟩
end Go.Proofs.YtpldnbfbpajbkabDoor
