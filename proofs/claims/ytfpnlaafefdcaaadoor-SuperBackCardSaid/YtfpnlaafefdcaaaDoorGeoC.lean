/- The contracts of caulkref06's functions. -/
import Derived.Test.YtfpnlaafefdcaaaDoorGeoB
import Derived.Deep.DrawnRows
namespace Go.Proofs.YtfpnlaafefdcaaaDoor
open Go.RowKit
attribute [local go_sem ↓] Go.wp_at_zero Go.wp_at_succ

set_option maxHeartbeats 400000 in
theorem refEach_any (s k m c : Int) (h0 : 0 ≤ s) (h7 : s ≤ 7) (w : World) :
    Calls Tryd.prog 60 #[.agg #[.int .i64 s, .int .i64 k, .int .i64 m, .int .i64 c]] w fun e w' => e = .returned (.int .i64 (tw s)) ∧ Below w.heap.size w w' := by
  go_enter Tryd.func60, Tryd.ntmps60
  go_wp2
  go_loop [3, 4] (fun n i => ∃ j : Int, 0 ≤ j ∧ j ≤ s ∧ i = .int .i64 j ∧ n = .int .i64 (tw j)) (fun _ i => (s - intOf i).toNat)
  case atStart => exact ⟨0, by omega, by omega, rfl, rfl⟩
  case round =>
    obtain ⟨j, hj0, hj1, rfl, rfl⟩ := hrel
    obtain ⟨p1, p2⟩ := tw_le hj0 (by omega)
    by_cases hlt : j < s
    · have hs : tw j * 2 = tw (j + 1) := tw_succ hj0
      have HS := Lib.hid hs
      clear hs
      go_wp2
      go_round
      case rel => exact ⟨j + 1, by omega, by omega, rfl, by rw [← HS.out]⟩
      case measure => simp [intOf]; omega
    · obtain rfl : j = s := by omega
      go_wp2
      go_ret
      exact ⟨rfl, (Below.refl _ _).alloc (Nat.le_refl _) _⟩
set_option maxHeartbeats 1000000 in
theorem refCk1 (s k m c : Int) (h : s < 0) (w : World) :
    Calls Tryd.prog 45 #[.agg #[.int .i64 s, .int .i64 k, .int .i64 m, .int .i64 c]] w fun e w' => e = .returned (.int .i64 2) ∧ Below w.heap.size w w' := by
  have d0 : decide (s < 0) = true := decide_eq_true (by omega)
  go_enter Tryd.func45, Tryd.ntmps45
  go_wp2
  go_quiet (fail)
  go_wp2
  go_ret
  exact ⟨rfl, below_drewN ((Below.refl _ _).alloc (Nat.le_refl _) _) _⟩
set_option maxHeartbeats 1000000 in
theorem refCk2 (s k m c : Int) (h : 7 < s) (w : World) :
    Calls Tryd.prog 45 #[.agg #[.int .i64 s, .int .i64 k, .int .i64 m, .int .i64 c]] w fun e w' => e = .returned (.int .i64 2) ∧ Below w.heap.size w w' := by
  have d0 : decide (s < 0) = false := decide_eq_false (by omega)
  have d1 : decide (7 < s) = true := decide_eq_true (by omega)
  go_enter Tryd.func45, Tryd.ntmps45
  go_wp2
  go_quiet (fail)
  go_wp2
  go_ret
  exact ⟨rfl, below_drewN ((Below.refl _ _).alloc (Nat.le_refl _) _) _⟩
set_option maxHeartbeats 1000000 in
theorem refCk3 (s k m c : Int) (h0 : 0 ≤ s) (h7 : s ≤ 7) (CR : ∀ W, Calls Tryd.prog 103 #[.int .i64 k, .int .i64 m] W fun e w' => e = .returned (.int .i64 1) ∧ W = w') (w : World) :
    Calls Tryd.prog 45 #[.agg #[.int .i64 s, .int .i64 k, .int .i64 m, .int .i64 c]] w fun e w' => e = .returned (.int .i64 2) ∧ Below w.heap.size w w' := by
  have d0 : decide (s < 0) = false := decide_eq_false (by omega)
  have d1 : decide (7 < s) = false := decide_eq_false (by omega)
  go_enter Tryd.func45, Tryd.ntmps45
  go_wp2
  go_quiet ((go_at_call 103; exact Calls.quiet_of_same ((CR _).mono fun _ _ h => ⟨h.1, h.2.symm⟩)))
  go_wp2
  go_ret
  exact ⟨rfl, below_drewN ((Below.refl _ _).alloc (Nat.le_refl _) _) _⟩
set_option maxHeartbeats 1000000 in
theorem refCk4 (s k m c : Int) (h0 : 0 ≤ s) (h7 : s ≤ 7) (h4 : c < 4) (CR : ∀ W, Calls Tryd.prog 103 #[.int .i64 k, .int .i64 m] W fun e w' => e = .returned (.int .i64 0) ∧ W = w') (w : World) :
    Calls Tryd.prog 45 #[.agg #[.int .i64 s, .int .i64 k, .int .i64 m, .int .i64 c]] w fun e w' => e = .returned (.int .i64 2) ∧ Below w.heap.size w w' := by
  have d0 : decide (s < 0) = false := decide_eq_false (by omega)
  have d1 : decide (7 < s) = false := decide_eq_false (by omega)
  have d2 : decide (c < 4) = true := decide_eq_true (by omega)
  go_enter Tryd.func45, Tryd.ntmps45
  go_wp2
  go_quiet ((go_at_call 103; exact Calls.quiet_of_same ((CR _).mono fun _ _ h => ⟨h.1, h.2.symm⟩)))
  go_wp2
  go_ret
  exact ⟨rfl, below_drewN ((Below.refl _ _).alloc (Nat.le_refl _) _) _⟩
set_option maxHeartbeats 1000000 in
theorem refCk5 (s k m c : Int) (h0 : 0 ≤ s) (h7 : s ≤ 7) (h4 : 4096 < c) (CR : ∀ W, Calls Tryd.prog 103 #[.int .i64 k, .int .i64 m] W fun e w' => e = .returned (.int .i64 0) ∧ W = w') (w : World) :
    Calls Tryd.prog 45 #[.agg #[.int .i64 s, .int .i64 k, .int .i64 m, .int .i64 c]] w fun e w' => e = .returned (.int .i64 2) ∧ Below w.heap.size w w' := by
  have d0 : decide (s < 0) = false := decide_eq_false (by omega)
  have d1 : decide (7 < s) = false := decide_eq_false (by omega)
  have d2 : decide (c < 4) = false := decide_eq_false (by omega)
  have d3 : decide (4096 < c) = true := decide_eq_true (by omega)
  go_enter Tryd.func45, Tryd.ntmps45
  go_wp2
  go_quiet ((go_at_call 103; exact Calls.quiet_of_same ((CR _).mono fun _ _ h => ⟨h.1, h.2.symm⟩)))
  go_wp2
  go_ret
  exact ⟨rfl, below_drewN ((Below.refl _ _).alloc (Nat.le_refl _) _) _⟩
set_option maxHeartbeats 1000000 in
theorem refCk6 (s k m c : Int) (p : Int) (h0 : 0 ≤ s) (h7 : s ≤ 7) (h4 : 4 ≤ c) (hc : c ≤ 4096) (hm1 : 32768 < c * p) (hm : c * p ≤ 1048576) (CR : ∀ W, Calls Tryd.prog 103 #[.int .i64 k, .int .i64 m] W fun e w' => e = .returned (.int .i64 0) ∧ W = w') (CE : ∀ W, Calls Tryd.prog 60 #[.agg #[.int .i64 s, .int .i64 k, .int .i64 m, .int .i64 c]] W fun e w' => e = .returned (.int .i64 p) ∧ Below W.heap.size W w') (w : World) :
    Calls Tryd.prog 45 #[.agg #[.int .i64 s, .int .i64 k, .int .i64 m, .int .i64 c]] w fun e w' => e = .returned (.int .i64 2) ∧ Below w.heap.size w w' := by
  have d0 : decide (s < 0) = false := decide_eq_false (by omega)
  have d1 : decide (7 < s) = false := decide_eq_false (by omega)
  have d2 : decide (c < 4) = false := decide_eq_false (by omega)
  have d3 : decide (4096 < c) = false := decide_eq_false (by omega)
  have hw : IntKind.i64.wrap (c * p) = c * p := IntWalk.i64_in _ (by omega)
  have d4 : decide (32768 < c * p) = true := decide_eq_true (by omega)
  go_enter Tryd.func45, Tryd.ntmps45
  go_wp2
  go_region_with (first
    | (go_at_call 103; refine (CR _).mono ?_; rintro e w' ⟨rfl, rfl⟩)
    | (go_at_call 60; refine (CE _).mono ?_; rintro e w' ⟨rfl, hb⟩; obtain ⟨hc, hf⟩ := olds hb))
  all_goals go_wp2
  all_goals go_ret
  all_goals first
    | exact ⟨rfl, ((Below.refl _ _).alloc (Nat.le_refl _) _).drew.trans (hb.mono (by simp))⟩
    | exact ⟨rfl, (((Below.refl _ _).alloc (Nat.le_refl _) _).trans (hb.mono (by simp))).drew⟩
set_option maxHeartbeats 1000000 in
theorem refCk7 (s k m c : Int) (p : Int) (h0 : 0 ≤ s) (h7 : s ≤ 7) (h4 : 4 ≤ c) (hc : c ≤ 4096) (hm0 : 0 ≤ c * p) (hm : c * p ≤ 32768) (CR : ∀ W, Calls Tryd.prog 103 #[.int .i64 k, .int .i64 m] W fun e w' => e = .returned (.int .i64 0) ∧ W = w') (CE : ∀ W, Calls Tryd.prog 60 #[.agg #[.int .i64 s, .int .i64 k, .int .i64 m, .int .i64 c]] W fun e w' => e = .returned (.int .i64 p) ∧ Below W.heap.size W w') (w : World) :
    Calls Tryd.prog 45 #[.agg #[.int .i64 s, .int .i64 k, .int .i64 m, .int .i64 c]] w fun e w' => e = .returned (.int .i64 0) ∧ Below w.heap.size w w' := by
  have d0 : decide (s < 0) = false := decide_eq_false (by omega)
  have d1 : decide (7 < s) = false := decide_eq_false (by omega)
  have d2 : decide (c < 4) = false := decide_eq_false (by omega)
  have d3 : decide (4096 < c) = false := decide_eq_false (by omega)
  have hw : IntKind.i64.wrap (c * p) = c * p := IntWalk.i64_in _ (by omega)
  have d4 : decide (32768 < c * p) = false := decide_eq_false (by omega)
  go_enter Tryd.func45, Tryd.ntmps45
  go_wp2
  go_region_with (first
    | (go_at_call 103; refine (CR _).mono ?_; rintro e w' ⟨rfl, rfl⟩)
    | (go_at_call 60; refine (CE _).mono ?_; rintro e w' ⟨rfl, hb⟩; obtain ⟨hc, hf⟩ := olds hb))
  all_goals go_wp2
  all_goals go_ret
  all_goals first
    | exact ⟨rfl, ((Below.refl _ _).alloc (Nat.le_refl _) _).drew.trans (hb.mono (by simp))⟩
    | exact ⟨rfl, (((Below.refl _ _).alloc (Nat.le_refl _) _).trans (hb.mono (by simp))).drew⟩
end Go.Proofs.YtfpnlaafefdcaaaDoor
