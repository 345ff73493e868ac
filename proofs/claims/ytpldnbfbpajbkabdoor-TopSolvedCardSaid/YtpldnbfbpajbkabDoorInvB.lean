/- The contracts of matrix.pivot and matrix.settle. -/
import Derived.Test.YtpldnbfbpajbkabDoorInvA
namespace Go.Proofs.YtpldnbfbpajbkabDoor
open Go.RowKit
open Caulk.Lin (Fn2 sx swp scl elm pv stp gjN wide0 invM)
open Caulk.Gf (mul putL scaleL)

/-- The row that is taken: the first that has no nought there, else the row itself. -/
def pvq (n : Nat) (W : Fn2) (c : Nat) : Nat := if pv W c (n - c) c < n then pv W c (n - c) c else c
theorem byte_zero (x : UInt8) : (((x.toNat : Int) == 0) = decide (x = 0)) ∧ (((x.toNat : Int) != 0) = !decide (x = 0)) := by
  have h : ((x.toNat : Int) == 0) = decide (x = 0) := by revert x; apply Caulk.Gf.bytes_all; decide +kernel
  exact ⟨h, by rw [bne, h]⟩
set_option maxHeartbeats 1000000 in
theorem pivot_any {w : World} {B b cap n k : Nat} {W : Fn2} (hg : Grid w B (.slice (some ⟨b, 0, none⟩) n cap) n k W) (c : Nat) (hc : c < n) (hck : c < k) (hn : n ≤ 255) (_hk : k ≤ 510) :
    Calls Tryd.prog 32 #[.slice (some ⟨b, 0, none⟩) n cap, .int .i64 (c : Int)] w fun e w' => e = .returned (.int .i64 (pvq n W c : Int)) ∧ w = w' := by
  have HG := Lib.hid hg
  have hcm : cap ≤ 9223372036854775807 := by
    obtain ⟨b2, n2, e, _, hm, _⟩ := hg.shape
    injection e with _ _ e3
    subst e3; unfold maxLen at hm; omega
  have HQ : Hid (∀ p, c ≤ p → p < n → (∀ j, c ≤ j → j < p → W j c = 0) → W p c ≠ 0 → pvq n W c = p) := Lib.hid (fun p h1 h2 h3 h4 => by
    have := Caulk.Lin.pv_unique (W := W) (c := c) (n := n - c) (i := c) (p := p) h1 (by omega) h3 (fun _ => h4)
    unfold pvq; rw [this, if_pos h2])
  have HN : Hid ((∀ j, c ≤ j → j < n → W j c = 0) → pvq n W c = c) := Lib.hid (fun h => by
    have := Caulk.Lin.pv_unique (W := W) (c := c) (n := n - c) (i := c) (p := n) (by omega) (by omega) h (fun h => by omega)
    unfold pvq; rw [this, if_neg (by omega)])
  obtain ⟨Q, hQ⟩ : ∃ Q, Q = pvq n W c := ⟨_, rfl⟩
  rw [← hQ] at HQ HN ⊢
  clear hQ hg
  go_enter Tryd.func32, Tryd.ntmps32
  go_wp2
  go_loop [5] (fun i => ∃ p : Nat, c ≤ p ∧ p ≤ n ∧ i = .int .i64 p ∧ ∀ j, c ≤ j → j < p → W j c = 0) (fun i => n - (intOf i).toNat)
  case atStart => exact ⟨c, Nat.le_refl _, by omega, rfl, fun j h1 h2 => by omega⟩
  case round =>
    obtain ⟨p, hp1, hp2, rfl, hz⟩ := hrel
    have HZ := Lib.hid hz
    clear hz
    by_cases hlt : p < n
    · obtain ⟨b5, off5, cap5, hh5, hx5, hz5, hB5, hl5, hn5, hset5⟩ := HG.out.byte p c hlt hck
      obtain ⟨x, hx⟩ : ∃ x, x = W p c := ⟨_, rfl⟩
      rw [← hx] at hx5
      obtain ⟨e1, e2⟩ := byte_zero x
      have HX := Lib.hid hx
      clear hset5 hx
      by_cases hx0 : x = 0
      · rw [decide_eq_true hx0] at e1 e2
        have HX0 := Lib.hid hx0
        clear hx0
        go_wp2
        go_round
        case rel =>
          refine ⟨p + 1, by omega, by omega, by go_num, fun j h1 h2 => ?_⟩
          by_cases e : j = p
          · subst e; rw [← HX.out]; exact HX0.out
          · exact HZ.out j h1 (by omega)
        case measure => simp [intOf]; omega
      · rw [decide_eq_false hx0] at e1 e2
        have HP : Hid (Q = p) := Lib.hid (HQ.out p hp1 hlt HZ.out (by rw [← HX.out]; exact hx0))
        clear hx0
        go_wp2
        go_ret
        exact ⟨ret_int (by rw [HP.out]), rfl⟩
    · obtain rfl : p = n := by omega
      have HP : Hid (Q = c) := Lib.hid (HN.out HZ.out)
      go_wp2
      go_ret
      exact ⟨ret_int (by rw [HP.out]), rfl⟩
end Go.Proofs.YtpldnbfbpajbkabDoor
