/- Spans: what is read; the small contracts; Whole. -/
import Derived.Test.YtdcpgjkaimekbaaSpnM
import Derived.Test.YtdcpgjkaimekbaaStr
namespace Go.Proofs.Ytdcpgjkaimekbaa
open Go.RowKit

def SP.cells (x : SP) : List Value := [.int .i64 x.b, .int .i64 x.f, .int .i64 x.t]
def RG.cells (x : RG) : List Value := [.int .i64 x.f, .int .i64 x.t]
abbrev SpnS (w : World) (v : Value) (L : List SP) : Prop := StS 3 SP.cells SP.zero w v L
abbrev RgsS (w : World) (v : Value) (L : List RG) : Prop := StS 2 RG.cells RG.zero w v L
theorem sp_len (x : SP) : x.cells.length = 3 := rfl
theorem rg_len (x : RG) : x.cells.length = 2 := rfl
theorem sp_one (x : SP) : ∀ u ∈ x.cells, u.oneCell' = true := by
  intro u hu
  simp only [SP.cells, List.mem_cons, List.not_mem_nil, or_false] at hu
  rcases hu with rfl | rfl | rfl <;> rfl
theorem rg_one (x : RG) : ∀ u ∈ x.cells, u.oneCell' = true := by
  intro u hu
  simp only [RG.cells, List.mem_cons, List.not_mem_nil, or_false] at hu
  rcases hu with rfl | rfl <;> rfl
theorem spInfo : ∃ i, Try.prog.info? 63 = some i ∧ i.zero = some (.agg #[.int .i64 0, .int .i64 0, .int .i64 0]) ∧ i.size = 3 ∧ i.bytes = 24 := by
  have e : (Try.prog.info? 63).map (fun i => (i.zero, i.size, i.bytes)) = some (some (.agg #[.int .i64 0, .int .i64 0, .int .i64 0]), 3, 24) := by kernel_rfl
  obtain ⟨i, hi, hz⟩ := Option.map_eq_some_iff.1 e
  simp only [Prod.mk.injEq] at hz
  exact ⟨i, hi, hz.1, hz.2.1, hz.2.2⟩
theorem rgInfo : ∃ i, Try.prog.info? 51 = some i ∧ i.zero = some (.agg #[.int .i64 0, .int .i64 0]) ∧ i.size = 2 ∧ i.bytes = 16 := by
  have e : (Try.prog.info? 51).map (fun i => (i.zero, i.size, i.bytes)) = some (some (.agg #[.int .i64 0, .int .i64 0]), 2, 16) := by kernel_rfl
  obtain ⟨i, hi, hz⟩ := Option.map_eq_some_iff.1 e
  simp only [Prod.mk.injEq] at hz
  exact ⟨i, hi, hz.1, hz.2.1, hz.2.2⟩
set_option maxHeartbeats 1000000
theorem isSize_any (s : Int) (w : World) : Calls Try.prog 42 #[.int .i64 s] w fun e w' => e = .returned (.bool (szOk s)) ∧ w' = w := by
  unfold szOk
  by_cases h1 : 1 ≤ s
  · have d1 : decide ((1 : Int) ≤ s) = true := decide_eq_true h1
    by_cases h2 : s ≤ 65536
    · have d2 : decide (s ≤ (65536 : Int)) = true := decide_eq_true h2
      go_enter Try.func42, Try.ntmps42
      go_wp2
      go_ret
      exact ⟨by first | rfl | (rw [d1, d2]; rfl), rfl⟩
    · have d2 : decide (s ≤ (65536 : Int)) = false := decide_eq_false h2
      go_enter Try.func42, Try.ntmps42
      go_wp2
      go_ret
      exact ⟨by first | rfl | (rw [d1, d2]; rfl), rfl⟩
  · have d1 : decide ((1 : Int) ≤ s) = false := decide_eq_false h1
    go_enter Try.func42, Try.ntmps42
    go_wp2
    go_ret
    exact ⟨by first | rfl | (rw [d1, d2]; rfl), rfl⟩
theorem mayBe_any (n : Int) (w : World) : Calls Try.prog 43 #[.int .i64 n] w fun e w' => e = .returned (.bool (byOk n)) ∧ w' = w := by
  unfold byOk
  by_cases h1 : 0 ≤ n
  · have d1 : decide ((0 : Int) ≤ n) = true := decide_eq_true h1
    by_cases h2 : n ≤ 1099511627776
    · have d2 : decide (n ≤ (1099511627776 : Int)) = true := decide_eq_true h2
      go_enter Try.func43, Try.ntmps43
      go_wp2
      go_ret
      exact ⟨by first | rfl | (rw [d1, d2]; rfl), rfl⟩
    · have d2 : decide (n ≤ (1099511627776 : Int)) = false := decide_eq_false h2
      go_enter Try.func43, Try.ntmps43
      go_wp2
      go_ret
      exact ⟨by first | rfl | (rw [d1, d2]; rfl), rfl⟩
  · have d1 : decide ((0 : Int) ≤ n) = false := decide_eq_false h1
    go_enter Try.func43, Try.ntmps43
    go_wp2
    go_ret
    exact ⟨by first | rfl | (rw [d1, d2]; rfl), rfl⟩
def rightB (s off n : Int) : Bool := szOk s && byOk off && byOk n
theorem rightB_iff (s off n : Int) : rightB s off n = true ↔ szOk s = true ∧ byOk off = true ∧ byOk n = true := by
  unfold rightB; rw [Bool.and_eq_true, Bool.and_eq_true, and_assoc]
theorem szOk_iff (s : Int) : szOk s = true ↔ 1 ≤ s ∧ s ≤ 65536 := by unfold szOk; simp
theorem byOk_iff (n : Int) : byOk n = true ↔ 0 ≤ n ∧ n ≤ 1099511627776 := by unfold byOk; simp
theorem right_any (s off n : Int) (w : World) : Calls Try.prog 45 #[.int .i64 s, .int .i64 off, .int .i64 n] w fun e w' => e = .returned (.bool (rightB s off n)) ∧ w' = w := by
  obtain ⟨r, hr⟩ : ∃ r, r = rightB s off n := ⟨_, rfl⟩
  rw [← hr]
  have HR := Lib.hid hr
  clear hr
  have ok : szOk s = true → byOk off = true → byOk n = true → r = true := fun a b c => HR.out.trans ((rightB_iff _ _ _).2 ⟨a, b, c⟩)
  have no : ¬ (szOk s = true ∧ byOk off = true ∧ byOk n = true) → r = false := fun a => by rw [HR.out, ← Bool.not_eq_true, rightB_iff]; exact a
  rw [szOk_iff, byOk_iff, byOk_iff] at ok no
  have HOK := Lib.hid ok
  have HNO := Lib.hid no
  clear ok no HR
  by_cases h1 : 1 ≤ s
  case neg =>
    have d1 : decide ((1 : Int) ≤ s) = false := decide_eq_false h1
    have hr := HNO.out (fun h => h1 h.1.1)
    subst hr
    clear HOK HNO h1
    go_enter Try.func45, Try.ntmps45
    go_wp2
    go_ret
    exact ⟨rfl, rfl⟩
  case pos =>
  have d1 : decide ((1 : Int) ≤ s) = true := decide_eq_true h1
  by_cases h2 : s ≤ 65536
  case neg =>
    have d2 : decide (s ≤ (65536 : Int)) = false := decide_eq_false h2
    have hr := HNO.out (fun h => h2 h.1.2)
    subst hr
    clear HOK HNO h1 h2
    go_enter Try.func45, Try.ntmps45
    go_wp2
    go_ret
    exact ⟨rfl, rfl⟩
  case pos =>
  have d2 : decide (s ≤ (65536 : Int)) = true := decide_eq_true h2
  by_cases h3 : 0 ≤ off
  case neg =>
    have d3 : decide ((0 : Int) ≤ off) = false := decide_eq_false h3
    have hr := HNO.out (fun h => h3 h.2.1.1)
    subst hr
    clear HOK HNO h1 h2 h3
    go_enter Try.func45, Try.ntmps45
    go_wp2
    go_ret
    exact ⟨rfl, rfl⟩
  case pos =>
  have d3 : decide ((0 : Int) ≤ off) = true := decide_eq_true h3
  by_cases h4 : off ≤ 1099511627776
  case neg =>
    have d4 : decide (off ≤ (1099511627776 : Int)) = false := decide_eq_false h4
    have hr := HNO.out (fun h => h4 h.2.1.2)
    subst hr
    clear HOK HNO h1 h2 h3 h4
    go_enter Try.func45, Try.ntmps45
    go_wp2
    go_ret
    exact ⟨rfl, rfl⟩
  case pos =>
  have d4 : decide (off ≤ (1099511627776 : Int)) = true := decide_eq_true h4
  by_cases h5 : 0 ≤ n
  case neg =>
    have d5 : decide ((0 : Int) ≤ n) = false := decide_eq_false h5
    have hr := HNO.out (fun h => h5 h.2.2.1)
    subst hr
    clear HOK HNO h1 h2 h3 h4 h5
    go_enter Try.func45, Try.ntmps45
    go_wp2
    go_ret
    exact ⟨rfl, rfl⟩
  case pos =>
  have d5 : decide ((0 : Int) ≤ n) = true := decide_eq_true h5
  by_cases h6 : n ≤ 1099511627776
  case neg =>
    have d6 : decide (n ≤ (1099511627776 : Int)) = false := decide_eq_false h6
    have hr := HNO.out (fun h => h6 h.2.2.2)
    subst hr
    clear HOK HNO h1 h2 h3 h4 h5 h6
    go_enter Try.func45, Try.ntmps45
    go_wp2
    go_ret
    exact ⟨rfl, rfl⟩
  case pos =>
    have d6 : decide (n ≤ (1099511627776 : Int)) = true := decide_eq_true h6
    have hr := HOK.out ⟨h1, h2⟩ ⟨h3, h4⟩ ⟨h5, h6⟩
    subst hr
    clear HOK HNO h1 h2 h3 h4 h5 h6
    go_enter Try.func45, Try.ntmps45
    go_wp2
    go_ret
    exact ⟨rfl, rfl⟩
end Go.Proofs.Ytdcpgjkaimekbaa
