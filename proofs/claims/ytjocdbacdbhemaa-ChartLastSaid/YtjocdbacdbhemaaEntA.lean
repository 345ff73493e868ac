/- Entries: the contracts of isPlace, isRight, Check, Disk, number, fromNumber. -/
import Derived.Test.YtjocdbacdbhemaaFldEM
import Derived.Test.YtjocdbacdbhemaaFldAE
import Derived.Test.YtjocdbacdbhemaaBx
import Derived.Deep.Cut
namespace Go.Proofs.Ytjocdbacdbhemaa
open Go.RowKit

/-- Numbers such as the types have. -/
structure EN.In (p : EN) : Prop where
  kind : 0 ≤ p.kind ∧ p.kind < 256
  st : -9223372036854775808 ≤ p.st ∧ p.st < 9223372036854775808
  mb : -9223372036854775808 ≤ p.mb ∧ p.mb < 9223372036854775808
  fr : -9223372036854775808 ≤ p.fr ∧ p.fr < 9223372036854775808
theorem entPlace_any (st mb : Int) (w : World) : Calls Try.prog 58 #[.agg #[.int .i64 st, .int .i64 mb]] w fun e w' => e = .returned (.bool (decide (PlOk st mb))) ∧ Below w.heap.size w w' := by
  by_cases h1 : 0 ≤ st
  · have d1 : decide (0 ≤ st) = true := decide_eq_true h1
    by_cases h2 : st < 2147483648
    · have d2 : decide (st < 2147483648) = true := decide_eq_true h2
      by_cases h3 : 0 ≤ mb
      · have d3 : decide (0 ≤ mb) = true := decide_eq_true h3
        rw [show decide (PlOk st mb) = decide (mb < 255) by unfold PlOk; simp [h1, h2, h3]]
        clear h1 h2 h3
        go_enter Try.func58, Try.ntmps58
        go_wp2
        go_ret
        exact ⟨rfl, (Below.refl _ _).alloc (Nat.le_refl _) _⟩
      · have d3 : decide (0 ≤ mb) = false := decide_eq_false h3
        rw [show decide (PlOk st mb) = false by unfold PlOk; simp [h3]]
        clear h1 h2 h3
        go_enter Try.func58, Try.ntmps58
        go_wp2
        go_ret
        exact ⟨rfl, (Below.refl _ _).alloc (Nat.le_refl _) _⟩
    · have d2 : decide (st < 2147483648) = false := decide_eq_false h2
      rw [show decide (PlOk st mb) = false by unfold PlOk; simp [h2]]
      clear h1 h2
      go_enter Try.func58, Try.ntmps58
      go_wp2
      go_ret
      exact ⟨rfl, (Below.refl _ _).alloc (Nat.le_refl _) _⟩
  · have d1 : decide (0 ≤ st) = false := decide_eq_false h1
    rw [show decide (PlOk st mb) = false by unfold PlOk; simp [h1]]
    clear h1
    go_enter Try.func58, Try.ntmps58
    go_wp2
    go_ret
    exact ⟨rfl, (Below.refl _ _).alloc (Nat.le_refl _) _⟩
theorem eok_0 (st mb fr : Int) (h : ¬ (st = 0 ∧ mb = 0 ∧ fr = 0)) : decide (EOk ⟨0, st, mb, fr⟩) = false := by
  unfold EOk PlOk; simp; omega
theorem eok_1 (st mb fr : Int) : decide (EOk ⟨1, st, mb, fr⟩) = (decide (PlOk st mb) && decide (fr = 0)) := by
  unfold EOk; simp
theorem eok_2 (st mb fr : Int) (h : ¬ ((1 ≤ fr ∧ fr ≤ 1073741824) ∧ st = 0 ∧ mb = 0)) : decide (EOk ⟨2, st, mb, fr⟩) = false := by
  unfold EOk PlOk; simp; omega
theorem eok_3 {k : Int} (st mb fr : Int) (h0 : k ≠ 0) (h1 : k ≠ 1) (h2 : k ≠ 2) : decide (EOk ⟨k, st, mb, fr⟩) = false := by
  unfold EOk PlOk; simp [h0, h1, h2]
/-- A boxed entry. -/
def EBox (W : World) (b : Nat) (p : EN) : Prop := Bx W b (.int .u8 p.kind) (.int .i64 p.st) (.int .i64 p.mb) (.int .i64 p.fr)
theorem EBox.below {W W' : World} {b : Nat} {p : EN} (k : EBox W b p) (hb : Below W.heap.size W W') : EBox W' b p := Bx.below k hb
theorem EBox.new (w : World) (k st mb fr : Int) (t : Nat) : EBox (w.alloc (.cells #[.int .u8 k, .int .i64 st, .int .i64 mb, .int .i64 fr] t)) w.heap.size ⟨k, st, mb, fr⟩ := Bx.new _ _ _ _ _ _
set_option maxHeartbeats 1000000 in
theorem entRight_any (p : EN) (w : World) : Calls Try.prog 39 #[p.v] w fun e w' => e = .returned (.bool (decide (EOk p))) ∧ Below w.heap.size w w' := by
  obtain ⟨k, st, mb, fr⟩ := p
  unfold EN.v
  dsimp only
  by_cases h0 : k = 0
  · subst h0
    by_cases hs : st = 0
    · subst hs
      by_cases hm : mb = 0
      · subst hm
        by_cases hf : fr = 0
        · subst hf
          rw [show decide (EOk ⟨0, 0, 0, 0⟩) = true by decide]
          go_enter Try.func39, Try.ntmps39
          go_wp2
          go_ret
          exact ⟨rfl, below1 _ _⟩
        · rw [eok_0 _ _ _ (fun h => hf h.2.2)]
          have d0 : (fr == 0) = false := by simpa using hf
          clear hf
          go_enter Try.func39, Try.ntmps39
          go_wp2
          go_ret
          exact ⟨rfl, below1 _ _⟩
      · rw [eok_0 _ _ _ (fun h => hm h.2.1)]
        have d0 : (mb == 0) = false := by simpa using hm
        clear hm
        go_enter Try.func39, Try.ntmps39
        go_wp2
        go_ret
        exact ⟨rfl, below1 _ _⟩
    · rw [eok_0 _ _ _ (fun h => hs h.1)]
      have d0 : (st == 0) = false := by simpa using hs
      clear hs
      go_enter Try.func39, Try.ntmps39
      go_wp2
      go_ret
      exact ⟨rfl, below1 _ _⟩
  have d0 : (k == 0) = false := by simpa using h0
  by_cases h1 : k = 1
  · subst h1
    rw [eok_1]
    have hP := entPlace_any st mb
    clear h0 d0
    have HB0 := Lib.hid (below1 w (.cells #[.int .u8 1, .int .i64 st, .int .i64 mb, .int .i64 fr] 26))
    have HX0 := Lib.hid (EBox.new w 1 st mb fr 26)
    generalize decide (PlOk st mb) = bb at hP ⊢
    go_enter Try.func39, Try.ntmps39
    go_upto_region 5 with fail
    generalize w.alloc (.cells #[.int .u8 1, .int .i64 st, .int .i64 mb, .int .i64 fr] 26) = w1 at HB0 HX0 ⊢
    have x1 := HX0.out.c1
    have x2 := HX0.out.c2
    dsimp only at x1 x2
    cases bb
    · go_wp2_with (go_at_call 58; refine (hP _).mono ?_; rintro e w2 ⟨rfl, hb⟩; have HB := Lib.hid (HB0.out.trans (hb.mono HB0.out.size)); clear hb)
      go_ret
      exact ⟨rfl, HB.out⟩
    · go_wp2_with (go_at_call 58; refine (hP _).mono ?_; rintro e w2 ⟨rfl, hb⟩; have HB := Lib.hid (HB0.out.trans (hb.mono HB0.out.size)); have y3 := (HX0.out.below hb).c3; dsimp only at y3; clear hb)
      go_ret
      exact ⟨by rw [show decide (fr = 0) = (fr == 0) by rw [Bool.eq_iff_iff]; simp]; simp, HB.out⟩
  have d1 : (k == 1) = false := by simpa using h1
  by_cases h2 : k = 2
  · subst h2
    by_cases hs : st = 0
    · subst hs
      by_cases hm : mb = 0
      · subst hm
        by_cases hf : 1 ≤ fr
        · have e1 : decide (1 ≤ fr) = true := decide_eq_true hf
          rw [show decide (EOk ⟨2, 0, 0, fr⟩) = decide (fr ≤ 1073741824) by unfold EOk PlOk; simp [hf]]
          clear hf h0 h1 d0 d1
          go_enter Try.func39, Try.ntmps39
          go_wp2
          go_ret
          exact ⟨rfl, below1 _ _⟩
        · rw [eok_2 _ _ _ (fun h => hf h.1.1)]
          have e1 : decide (1 ≤ fr) = false := decide_eq_false hf
          clear hf h0 h1 d0 d1
          go_enter Try.func39, Try.ntmps39
          go_wp2
          go_ret
          exact ⟨rfl, below1 _ _⟩
      · rw [eok_2 _ _ _ (fun h => hm h.2.2)]
        have e0 : (mb == 0) = false := by simpa using hm
        clear hm h0 h1 d0 d1
        go_enter Try.func39, Try.ntmps39
        go_wp2
        go_ret
        exact ⟨rfl, below1 _ _⟩
    · rw [eok_2 _ _ _ (fun h => hs h.2.1)]
      have e0 : (st == 0) = false := by simpa using hs
      clear hs h0 h1 d0 d1
      go_enter Try.func39, Try.ntmps39
      go_wp2
      go_ret
      exact ⟨rfl, below1 _ _⟩
  have d2 : (k == 2) = false := by simpa using h2
  rw [eok_3 _ _ _ h0 h1 h2]
  clear h0 h1 h2
  go_enter Try.func39, Try.ntmps39
  go_wp2
  go_ret
  exact ⟨rfl, below1 _ _⟩
end Go.Proofs.Ytjocdbacdbhemaa
