/- What Cauchy answers where there is none; rows of a matrix by their numbers. -/
import Derived.Test.YtpldnbfbpajbkaaMatE
import Derived.Laws.CopyRow
namespace Go.Proofs.Ytpldnbfbpajbkaa
open Go.RowKit
open Caulk.Lin (Fn2)

theorem cauchy_bad (k m : Int) (hkw : -9223372036854775808 ≤ k ∧ k ≤ 9223372036854775807) (hmw : -9223372036854775808 ≤ m ∧ m ≤ 9223372036854775807) (h : ¬ (1 ≤ k ∧ 1 ≤ m ∧ k + m ≤ 255)) (w : World) :
    Calls Try.prog 17 #[.int .i64 k, .int .i64 m] w fun e w' => e = .returned (.tuple #[.slice none 0 0, .int .i64 1]) ∧ w = w' := by
  obtain ⟨hk1, hk2⟩ := hkw
  obtain ⟨hm1, hm2⟩ := hmw
  by_cases h0 : k < 1
  · have d0 : decide (k < 1) = true := decide_eq_true h0
    clear h
    go_enter Try.func17, Try.ntmps17
    go_wp2
    go_ret2
    exact ⟨rfl, rfl⟩
  · have d0 : decide (k < 1) = false := decide_eq_false h0
    by_cases h1 : m < 1
    · have d1 : decide (m < 1) = true := decide_eq_true h1
      clear h
      go_enter Try.func17, Try.ntmps17
      go_wp2
      go_ret2
      exact ⟨rfl, rfl⟩
    · have d1 : decide (m < 1) = false := decide_eq_false h1
      by_cases h2 : 255 < k
      · have d2 : decide ((255 : Int) < k) = true := decide_eq_true h2
        clear h
        go_enter Try.func17, Try.ntmps17
        go_wp2
        go_ret2
        exact ⟨rfl, rfl⟩
      · have d2 : decide ((255 : Int) < k) = false := decide_eq_false h2
        have h3 : 255 - k < m := by omega
        have d3 : decide ((255 : Int) - k < m) = true := decide_eq_true h3
        clear h
        go_enter Try.func17, Try.ntmps17
        go_wp2
        go_ret2
        exact ⟨rfl, rfl⟩
theorem refCauchy_bad (k m : Int) (hkw : -9223372036854775808 ≤ k ∧ k ≤ 9223372036854775807) (hmw : -9223372036854775808 ≤ m ∧ m ≤ 9223372036854775807) (h : ¬ (1 ≤ k ∧ 1 ≤ m ∧ k + m ≤ 255)) (w : World) :
    Calls Try.prog 18 #[.int .i64 k, .int .i64 m] w fun e w' => e = .returned (.tuple #[.slice none 0 0, .int .i64 1]) ∧ w = w' := by
  obtain ⟨hk1, hk2⟩ := hkw
  obtain ⟨hm1, hm2⟩ := hmw
  by_cases h0 : k < 1
  · have d0 : decide (k < 1) = true := decide_eq_true h0
    clear h
    go_enter Try.func18, Try.ntmps18
    go_wp2
    go_ret2
    exact ⟨rfl, rfl⟩
  · have d0 : decide (k < 1) = false := decide_eq_false h0
    by_cases h1 : m < 1
    · have d1 : decide (m < 1) = true := decide_eq_true h1
      clear h
      go_enter Try.func18, Try.ntmps18
      go_wp2
      go_ret2
      exact ⟨rfl, rfl⟩
    · have d1 : decide (m < 1) = false := decide_eq_false h1
      by_cases h2 : 255 < k
      · have d2 : decide ((255 : Int) < k) = true := decide_eq_true h2
        clear h
        go_enter Try.func18, Try.ntmps18
        go_wp2
        go_ret2
        exact ⟨rfl, rfl⟩
      · have d2 : decide ((255 : Int) < k) = false := decide_eq_false h2
        by_cases h3 : 255 < m
        · have d3 : decide ((255 : Int) < m) = true := decide_eq_true h3
          clear h
          go_enter Try.func18, Try.ntmps18
          go_wp2
          go_ret2
          exact ⟨rfl, rfl⟩
        · have d3 : decide ((255 : Int) < m) = false := decide_eq_false h3
          have h4 : 255 < k + m := by omega
          have d4 : decide ((255 : Int) < k + m) = true := decide_eq_true h4
          clear h
          go_enter Try.func18, Try.ntmps18
          go_wp2
          go_ret2
          exact ⟨rfl, rfl⟩
end Go.Proofs.Ytpldnbfbpajbkaa
