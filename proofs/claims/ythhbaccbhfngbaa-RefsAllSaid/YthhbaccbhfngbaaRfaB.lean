/- References: RefsAll, where there is too much to be looked at. -/
import Derived.Test.YthhbaccbhfngbaaRfaA
import Derived.Test.YthhbaccbhfngbaaRefL
import Derived.Deep.RegionLaw
import Derived.Deep.RegionHeld3
import Derived.Deep.DeepCutAuto
namespace Go.Proofs.Ythhbaccbhfngbaa
open Go.RowKit

set_option maxRecDepth 100000 in
set_option maxHeartbeats 4000000 in
theorem refsAll_big {w : World} {v : Value} {C : List CH} {B : Int} {T : List TB} {tA : Option Addr} {tc : Nat} {sv : Value} {S : List Int} (e : Int) (hv : ChsS w v C) (hs : IdxS w sv S) (hbig : 400 < B ∨ 100 < S.length) :
    Calls Try.prog 5 #[.int .i64 e, v, .agg #[.int .i64 B, .slice tA T.length tc], sv] w fun r w' => r = .returned (.bool true) ∧ Below w.heap.size w w' := by
  obtain ⟨W0, hW0⟩ : ∃ W0, W0 = w.alloc (.cells #[.int .i64 B, .slice tA T.length tc] 44) := ⟨_, rfl⟩
  have hb0 : Below w.heap.size w W0 := by rw [hW0]; exact below_new w _
  have hh := heap_alloc_new w (.cells #[.int .i64 B, .slice tA T.length tc] 44)
  rw [← hW0] at hh
  have HCL : Hid (∀ W, Below W0.heap.size W0 W → W.cell? ⟨w.heap.size, 0, none⟩ = some (.int .i64 B)) := Lib.hid (fun W hb => (cell_lit ((hb.block _ (blk_lt hh)).trans hh)).trans rfl)
  have HB0 := Lib.hid hb0
  have HW0 := Lib.hid hW0
  have hS : ∀ W, Below w.heap.size w W → _ := fun W hb => refSmall8_any (hv.below hb)
  have hL := refLives_any
  obtain ⟨A, c, rfl⟩ := hv.form
  obtain ⟨sA, sc, rfl, _⟩ := hs
  clear hW0 hh hb0 hv
  by_cases hB : 400 < B
  · have dB : decide (400 < B) = true := decide_eq_true hB
    clear hbig hB
    go_enter Try.func5, Try.ntmps5
    go_upto_region 1 with fail
    rw [← HW0.out]
    go_wp2_with (first
      | (go_at_call 7; (with_reducible refine (hL _).mono ?_); rintro r w1 ⟨rfl, hb⟩; have HB1 : Hid (Below w.heap.size w w1) := Lib.hid (HB0.out.trans (hb.mono HB0.out.size)); have HB01 := Lib.hid hb; clear hb)
      | (go_at_call 6; (with_reducible refine (hS _ HB1.out).mono ?_); rintro r w2 ⟨b, rfl, hf, hb⟩; have HB2 : Hid (Below w.heap.size w w2) := Lib.hid (HB1.out.trans (hb.mono HB1.out.size)); have z0 := HCL.out w2 (HB01.out.trans (hb.mono HB01.out.size)); clear hb hf; cases b))
    all_goals go_ret
    all_goals exact ⟨by simp, HB2.out⟩
  · have dB : decide (400 < B) = false := decide_eq_false hB
    have dS : decide ((100 : Int) < (S.length : Int)) = true := decide_eq_true (by omega)
    clear hbig hB
    go_enter Try.func5, Try.ntmps5
    go_upto_region 1 with fail
    rw [← HW0.out]
    go_wp2_with (first
      | (go_at_call 7; (with_reducible refine (hL _).mono ?_); rintro r w1 ⟨rfl, hb⟩; have HB1 : Hid (Below w.heap.size w w1) := Lib.hid (HB0.out.trans (hb.mono HB0.out.size)); have HB01 := Lib.hid hb; clear hb)
      | (go_at_call 6; (with_reducible refine (hS _ HB1.out).mono ?_); rintro r w2 ⟨b, rfl, hf, hb⟩; have HB2 : Hid (Below w.heap.size w w2) := Lib.hid (HB1.out.trans (hb.mono HB1.out.size)); have z0 := HCL.out w2 (HB01.out.trans (hb.mono HB01.out.size)); clear hb hf; cases b))
    all_goals go_ret
    all_goals exact ⟨by simp, HB2.out⟩
end Go.Proofs.Ythhbaccbhfngbaa
