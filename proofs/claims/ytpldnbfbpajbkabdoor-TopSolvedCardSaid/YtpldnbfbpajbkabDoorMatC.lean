/- The contracts of matrix.Unit and caulkref03.Unit. -/
import Derived.Test.YtpldnbfbpajbkabDoorMatB
namespace Go.Proofs.YtpldnbfbpajbkabDoor
open Go.RowKit
open Caulk.Lin (Fn2)

/-- 1 where row and column are one. -/
def unitF : Fn2 := fun i j => if i = j then 1 else 0
theorem unit_next (n k : Nat) (_hk : k < n) : ∀ i, i < n → ∀ j, j < n → (if i = k ∧ j = k then (1 : UInt8) else if i < k then unitF i j else 0) = if i < k + 1 then unitF i j else 0 := by
  intro i _ j _
  rcases Nat.lt_trichotomy i k with h | h | h
  · simp only [if_pos h, if_pos (show i < k + 1 by omega), if_neg (show ¬ (i = k ∧ j = k) by omega)]
  · subst h
    simp only [if_neg (Nat.lt_irrefl i), if_pos (Nat.lt_succ_self i), true_and, unitF]
    by_cases e : j = i
    · subst e; simp
    · rw [if_neg e, if_neg (fun h => e h.symm)]
  · simp only [if_neg (show ¬ i < k by omega), if_neg (show ¬ i < k + 1 by omega), if_neg (show ¬ (i = k ∧ j = k) by omega)]
set_option maxHeartbeats 1000000 in
theorem unit_any (n : Nat) (h1 : 1 ≤ n) (h2 : n ≤ 255) (w : World) :
    Calls Tryd.prog 6 #[.int .i64 (n : Int)] w (GotGridOK w n n unitF) := by
  have hd : decide ((n : Int) < 1) = false := by simp; omega
  have hd2 : decide ((255 : Int) < (n : Int)) = false := by simp; omega
  go_enter Tryd.func6, Tryd.ntmps6
  go_wp2_with fail
  refine (blank_any n n (by omega) h1 (by omega) _).mono ?_
  rintro e w1 ⟨v, rfl, hg, hb⟩
  obtain ⟨b, cap, rfl, hnc, hcm, hbb⟩ := hg.shape
  have HG := Lib.hid hg
  have HB := Lib.hid hb
  clear hg hb
  unfold maxLen at hcm
  go_wp2
  go_loopw [17] (fun i wr => ∃ k : Nat, k ≤ n ∧ i = .int .i64 k ∧ Grid wr w.heap.size (.slice (some ⟨b, 0, none⟩) n cap) n n (fun i j => if i < k then unitF i j else 0) ∧ Below w.heap.size w wr) (fun i _ => n - (intOf i).toNat)
  case atStart => exact ⟨0, by omega, rfl, HG.out.congr (fun i _ j _ => by rw [if_neg (by omega)]), HB.out⟩
  case round =>
    obtain ⟨k, hk, rfl, hgr, hbe⟩ := hrel
    by_cases hlt : k < n
    · obtain ⟨b', off', cap', hc1, hc2, hf, hBb, hbl, hnb, hset⟩ := hgr.byte k k hlt hlt
      have HS : Hid (Grid (wr.setCell ⟨b', off' + k, none⟩ (.int .u8 1)) w.heap.size (.slice (some ⟨b, 0, none⟩) n cap) n n (fun i j => if i < k + 1 then unitF i j else 0)) := Lib.hid ((hset 1).congr (unit_next n k hlt))
      have HBE := Lib.hid hbe
      clear hgr hset hbe
      go_wp2
      go_roundw
      case rel => exact ⟨k + 1, by omega, by go_num, HS.out, HBE.out.setCell (p := ⟨b', off' + k, none⟩) hBb _⟩
      case measure => simp [intOf]; omega
    · obtain rfl : k = n := by omega
      have HGR : Hid (Grid wr w.heap.size (.slice (some ⟨b, 0, none⟩) k cap) k k unitF) := Lib.hid (hgr.congr (fun i hi j _ => by rw [if_pos hi]))
      clear hgr
      go_wp2
      go_ret2
      exact ⟨_, rfl, HGR.out, hbe⟩
theorem int_out {n : Int} (h : n < 1 ∨ 255 < n) : decide (n < 1) = true ∨ (decide (n < 1) = false ∧ decide ((255 : Int) < n) = true) := by
  by_cases h1 : n < 1
  · exact .inl (by simpa using h1)
  · exact .inr ⟨by simpa using h1, by simp; omega⟩
theorem unit_bad (n : Int) (h : n < 1 ∨ 255 < n) (w : World) :
    Calls Tryd.prog 6 #[.int .i64 n] w fun e w' => e = .returned (.tuple #[.slice none 0 0, .int .i64 1]) ∧ w = w' := by
  rcases int_out h with hd | ⟨hd, hd2⟩
  · clear h
    go_enter Tryd.func6, Tryd.ntmps6
    go_wp2
    go_ret2
    exact ⟨rfl, rfl⟩
  · clear h
    go_enter Tryd.func6, Tryd.ntmps6
    go_wp2
    go_ret2
    exact ⟨rfl, rfl⟩
end Go.Proofs.YtpldnbfbpajbkabDoor
