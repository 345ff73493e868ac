/- Spans: SpanCuts. -/
import Derived.Test.YtdcpgjkaimekbaaSpnL
namespace Go.Proofs.Ytdcpgjkaimekbaa
open Go.RowKit

set_option maxRecDepth 100000 in
set_option maxHeartbeats 4000000 in
theorem spanCuts_any {w : World} (s : Int) (hs : (Lit.int .i64 s).wf = true) (off : Int) (_ : (Lit.int .i64 off).wf = true) (n : Int) (_ : (Lit.int .i64 n).wf = true) :
    Calls Try.prog 5 #[.int .i64 s, .int .i64 off, .int .i64 n] w fun e w' => e = .returned (.bool true) ∧ Below w.heap.size w w' := by
  have hsb : -9223372036854775808 ≤ s ∧ s < 9223372036854775808 := by
    simp [Lit.wf, IntKind.min, IntKind.max, IntKind.signed, IntKind.bits] at hs
    omega
  have hL := spnLives_any
  have hC := spanCut_any s off n
  have hR := fun W => rCut_any s off n W hsb
  have hW := spanWhole_any s off n
  have hV := rWhole_any s off n
  obtain ⟨b, hb⟩ : ∃ b : Bool, b = (decide (0 < s) && decide (s < 64) && decide (16384 < n) && decide (n ≤ 1048576)) := ⟨_, rfl⟩
  cases b with
  | true =>
    have h4 := hb.symm
    simp only [Bool.and_eq_true, decide_eq_true_eq] at h4
    have d1 : decide ((0 : Int) < s) = true := decide_eq_true h4.1.1.1
    have d2 : decide (s < (64 : Int)) = true := decide_eq_true h4.1.1.2
    have d3 : decide ((16384 : Int) < n) = true := decide_eq_true h4.1.2
    have d4 : decide (n ≤ (1048576 : Int)) = true := decide_eq_true h4.2
    clear hC hR hW hV hb h4 hsb
    go_enter Try.func5, Try.ntmps5
    go_wp2_with (go_at_call 22; (with_reducible refine (hL _).mono ?_); rintro e w1 ⟨rfl, hb1⟩)
    go_ret
    exact ⟨rfl, hb1⟩
  | false =>
    have main : ∀ (K : Act → World → Prop), True := fun _ => trivial
    clear main
    have hguard : (decide (0 < s) = false) ∨ (decide (0 < s) = true ∧ decide (s < 64) = false) ∨ (decide (0 < s) = true ∧ decide (s < 64) = true ∧ decide (16384 < n) = false) ∨ (decide (0 < s) = true ∧ decide (s < 64) = true ∧ decide (16384 < n) = true ∧ decide (n ≤ 1048576) = false) := by
      revert hb
      generalize decide (0 < s) = a1
      generalize decide (s < 64) = a2
      generalize decide (16384 < n) = a3
      generalize decide (n ≤ 1048576) = a4
      revert a1 a2 a3 a4
      decide
    clear hb hsb
    generalize cutE s off n = ce at hC hR
    generalize cutL s off n = cl at hC hR
    generalize whoE s off n = we at hW hV
    generalize whoR s off n = wr0 at hW hV
    obtain ⟨rf, rt⟩ := wr0
    dsimp only at hW hV
    have t1 : (ce == ce) = true := by simp
    have t2 : (we == we) = true := by simp
    have t3 : (rf == rf) = true := by simp
    have t4 : (rt == rt) = true := by simp
    rcases hguard with d1 | ⟨d1, d2⟩ | ⟨d1, d2, d3⟩ | ⟨d1, d2, d3, d4⟩
    all_goals
      go_enter Try.func5, Try.ntmps5
      go_wp2_with fail
      (with_reducible refine (hC _).mono ?_)
      rintro e w1 ⟨x1, rfl, hs1, hb1⟩
      have HS1 := Lib.hid hs1
      have HB1 := Lib.hid hb1
      obtain ⟨A1, c1, rfl⟩ := hs1.form
      clear hs1 hb1
      go_wp2_with fail
      (with_reducible refine (hR _).mono ?_)
      rintro e w2 ⟨x2, rfl, hs2, hb2⟩
      have HT2 := Lib.hid hs2
      have HS2 := Lib.hid (HS1.out.below hb2 (Nat.le_refl _))
      have HB2 := Lib.hid (HB1.out.trans (hb2.mono HB1.out.size))
      obtain ⟨A2, c2, rfl⟩ := hs2.form
      clear hs2 hb2 HS1 HB1
      go_wp2_with fail
      (with_reducible refine (hW _).mono ?_)
      rintro e w3 ⟨rfl, hb3⟩
      go_wp2_with fail
      have hq3 := hb3.trans ((below_new w3 (.cells #[.int .i64 rf, .int .i64 rt] 51)).mono hb3.size)
      have HK3 := Lib.hid (BkC.new w3 [.int .i64 rf, .int .i64 rt] 51)
      have HT3 := Lib.hid (HT2.out.below hq3 (Nat.le_refl _))
      have HS3 := Lib.hid (HS2.out.below hq3 (Nat.le_refl _))
      have HB3 := Lib.hid (HB2.out.trans (hq3.mono HB2.out.size))
      generalize w3.alloc (.cells #[.int .i64 rf, .int .i64 rt] 51) = w4 at HK3 HT3 HS3 HB3 ⊢
      generalize w3.heap.size = b3 at HK3 ⊢
      clear hb3 hq3 HT2 HS2 HB2
      (with_reducible refine (hV _).mono ?_)
      rintro e w5 ⟨rfl, hb5⟩
      have HK5' := Lib.hid (HK3.out.below hb5)
      have HT5' := Lib.hid (HT3.out.below hb5 (Nat.le_refl _))
      have HS5' := Lib.hid (HS3.out.below hb5 (Nat.le_refl _))
      have HB5' := Lib.hid (HB3.out.trans (hb5.mono HB3.out.size))
      clear hb5 HK3 HT3 HS3 HB3
      go_wp2_with fail
      have hq5 := below_new w5 (.cells #[.int .i64 rf, .int .i64 rt] 51)
      have HJ5 := Lib.hid (BkC.new w5 [.int .i64 rf, .int .i64 rt] 51)
      have HK5 := Lib.hid (HK5'.out.below hq5)
      have HT5 := Lib.hid (HT5'.out.below hq5 (Nat.le_refl _))
      have HS5 := Lib.hid (HS5'.out.below hq5 (Nat.le_refl _))
      have HB5 := Lib.hid (HB5'.out.trans (hq5.mono HB5'.out.size))
      generalize w5.alloc (.cells #[.int .i64 rf, .int .i64 rt] 51) = w6 at HK5 HJ5 HT5 HS5 HB5 ⊢
      generalize w5.heap.size = b5 at HJ5 ⊢
      clear hq5 HK5' HT5' HS5' HB5'
      (with_reducible refine (hL _).mono ?_)
      rintro e w7 ⟨rfl, hb7⟩
      have HK7 := Lib.hid (HK5.out.below hb7)
      have HJ7 := Lib.hid (HJ5.out.below hb7)
      have HT7 := Lib.hid (HT5.out.below hb7 (Nat.le_refl _))
      have HS7 := Lib.hid (HS5.out.below hb7 (Nat.le_refl _))
      have HB7 := Lib.hid (HB5.out.trans (hb7.mono HB5.out.size))
      clear hb7 HK5 HJ5 HT5 HS5 HB5
      go_wp2_with fail
      have hSm := sSame_any cl cl _ _ _ HS7.out HT7.out
      rw [show decide (cl = cl) = true from decide_eq_true rfl] at hSm
      (with_reducible refine hSm.mono ?_)
      rintro e w8 ⟨rfl, hb8⟩
      have hk := HK7.out.below hb8
      have hj := HJ7.out.below hb8
      have y0 := hk.c 0 _ rfl
      have y1 := hk.c 1 _ rfl
      have y2 := hj.c 0 _ rfl
      have y3 := hj.c 1 _ rfl
      have HB8 := Lib.hid (HB7.out.trans (hb8.mono HB7.out.size))
      clear hb8 hSm hk hj HK7 HJ7 HT7 HS7 HB7
      go_wp2_with fail
      go_ret
      exact ⟨rfl, HB8.out⟩
end Go.Proofs.Ytdcpgjkaimekbaa
