/- Charts: the walk of ChartLast. -/
import Derived.Test.YtjocdbacdbhemaaChwMN
import Derived.Test.YtjocdbacdbhemaaChwIA
import Derived.Test.YtjocdbacdbhemaaChwL
import Derived.Deep.DeepCutAuto
import Derived.Deep.CutBlock
import Derived.BigQuiet
namespace Go.Proofs.Ytjocdbacdbhemaa
open Go.RowKit

theorem TabsF.mono {B B' : Nat} {w : World} {v : Value} {T : List TB} (k : TabsF B w v T) (h : B' ≤ B) : TabsF B' w v T := fun W' a => k W' (a.weak fun _ e => Nat.lt_of_lt_of_le e h)
/-- The map and the entries that are wanted, under way. -/
structure KL (w W : World) (b7 E BN : Nat) (T : List TB) (tv : Value) (L : List EN) (g cap : Nat) : Prop where
  bl : Below w.heap.size w W
  hb : w.heap.size ≤ b7 ∧ b7 < g
  c : B2 W b7 (.int .i64 (BN : Int)) tv
  t : TabsF (b7 + 1) W tv T
  ls : LS E BN T L
  row : RowE W g L
  hc : L.length ≤ cap ∧ cap ≤ maxLen
  b2 : BN ≤ 2000
theorem KL.below {w W W' : World} {b7 E BN : Nat} {T : List TB} {tv : Value} {L : List EN} {g cap : Nat} (k : KL w W b7 E BN T tv L g cap) (h : Below W.heap.size W W') : KL w W' b7 E BN T tv L g cap :=
  ⟨k.bl.trans (h.mono k.bl.size), k.hb, k.c.below h, k.t.below h, k.ls, k.row.below h, k.hc, k.b2⟩
theorem KL.new (w W : World) (E BN : Nat) (h : Below w.heap.size w W) (h1 : 1 ≤ E) (h2 : E ≤ 8192) (hb : BN ≤ 2000) (b7 : Nat) (h7 : w.heap.size ≤ b7) (hc : B2 W b7 (.int .i64 (BN : Int)) (.slice none 0 0)) :
    KL w (W.alloc (.cells (madeCells zeroC (BN * 4)) 26)) b7 E BN [] (.slice none 0 0) (List.replicate BN EN.zero) W.heap.size BN :=
  ⟨h.alloc h.size _, ⟨h7, hc.lt⟩, hc.below (below1 _ _), TabsF.none _ _, LS.new h1 h2 (by omega), RowE.made W BN _, ⟨by rw [List.length_replicate]; exact Nat.le_refl _, by unfold maxLen; omega⟩, hb⟩
set_option maxRecDepth 100000 in
set_option maxHeartbeats 8000000 in
/-- Where nothing is asked. -/
theorem chartLast_out (e nb : Int) (acts : List A14) (va : Value) (w : World) (ha : A14S w va acts) (h : 2000 < nb ∨ 60 < acts.length) :
    Calls Try.prog 7 #[.int .i64 e, .int .i64 nb, va] w fun e' w' => e' = .returned (.bool true) ∧ Below w.heap.size w w' := by
  have hL := cht14Lives_any
  obtain ⟨A, cap, rfl, _⟩ := ha
  by_cases hb : 2000 < nb
  · have d1 : decide ((2000 : Int) < nb) = true := decide_eq_true hb
    clear h hb
    go_enter Try.func7, Try.ntmps7
    go_wp2_with (go_at_call 22; (with_reducible refine (hL _).mono ?_); rintro e w1 ⟨rfl, hb1⟩; have HB1 := Lib.hid hb1; clear hb1)
    go_ret
    exact ⟨rfl, HB1.out⟩
  · have hl : 60 < acts.length := h.resolve_left hb
    have d1 : decide ((2000 : Int) < nb) = false := decide_eq_false hb
    have d2 : decide ((60 : Int) < (acts.length : Int)) = true := decide_eq_true (by omega)
    have d2' : decide (60 < acts.length) = true := decide_eq_true hl
    clear h hb hl
    go_enter Try.func7, Try.ntmps7
    go_wp2_with (go_at_call 22; (with_reducible refine (hL _).mono ?_); rintro e w1 ⟨rfl, hb1⟩; have HB1 := Lib.hid hb1; clear hb1)
    go_ret
    exact ⟨rfl, HB1.out⟩
set_option maxRecDepth 100000 in
set_option maxHeartbeats 8000000 in
/-- Where there is no map. -/
theorem chartLast_none (e nb : Int) (acts : List A14) (va : Value) (w : World) (ha : A14S w va acts) (hb : nb ≤ 2000) (hl : acts.length ≤ 60) (h : nb < 0 ∨ (0 ≤ nb ∧ ¬ (1 ≤ e ∧ e ≤ 8192))) :
    Calls Try.prog 7 #[.int .i64 e, .int .i64 nb, va] w fun e' w' => e' = .returned (.bool true) ∧ Below w.heap.size w w' := by
  have hL := cht14Lives_any
  obtain ⟨A, cap, rfl, _⟩ := ha
  have d1 : decide ((2000 : Int) < nb) = false := decide_eq_false (by omega)
  have d2 : decide ((60 : Int) < (acts.length : Int)) = false := decide_eq_false (by omega)
  have d2' : decide (60 < acts.length) = false := decide_eq_false (by omega)
  have hN := chtNew_any nb
  rcases h with h | ⟨h0, h⟩
  · have hm : ¬ mayB nb = true := fun e => by have := (mayB_iff.1 e).1; omega
    rw [show newC nb = CH.zero from if_neg hm, show newE nb = 1 from if_neg hm] at hN
    unfold CH.zero at hN
    dsimp only at hN
    clear hm h hb hl
    go_enter Try.func7, Try.ntmps7
    go_wp2_with (first
      | (go_at_call 22; (with_reducible refine (hL _).mono ?_); rintro e w1 ⟨rfl, hb1⟩; have HB1 := Lib.hid hb1; clear hb1)
      | (go_at_call 33; (with_reducible refine (hN _).mono ?_); rintro e w2 ⟨rfl, _, hb2⟩; have HB2 := Lib.hid ((HB1.out.trans (hb2.mono HB1.out.size)).alloc (Nat.le_trans HB1.out.size hb2.size) (.cells #[.int .i64 0, .slice none 0 0] 44)); clear hb2))
    go_ret
    exact ⟨rfl, HB2.out⟩
  · have hm : mayB nb = true := mayB_iff.2 ⟨h0, by omega⟩
    rw [show newC nb = ⟨nb, []⟩ from if_pos hm, show newE nb = 0 from if_pos hm] at hN
    dsimp only at hN
    have hC := fun W => chtCheck_any e nb [] (.slice none 0 0) W (TabsS.none W)
    have hce : chtE e ⟨nb, []⟩ = 2 := by
      unfold chtE okB
      rw [if_neg]
      intro hk
      simp only [Bool.and_eq_true, decide_eq_true_eq] at hk
      exact h hk.1.1
    rw [hce] at hC
    have hc2 : e < 1 ∨ (1 ≤ e ∧ 8192 < e) := by omega
    clear hce hm h hb hl h0
    rcases hc2 with h | ⟨h1, h2⟩
    · have d3 : decide (e < 1) = true := decide_eq_true h
      clear h
      go_enter Try.func7, Try.ntmps7
      go_wp2_with (first
        | (go_at_call 22; (with_reducible refine (hL _).mono ?_); rintro e w1 ⟨rfl, hb1⟩; have HB1 := Lib.hid hb1; clear hb1)
        | (go_at_call 33; (with_reducible refine (hN _).mono ?_); rintro e w2 ⟨rfl, _, hb2⟩; have HB2 := Lib.hid ((HB1.out.trans (hb2.mono HB1.out.size)).alloc (Nat.le_trans HB1.out.size hb2.size) (.cells #[.int .i64 nb, .slice none 0 0] 44)); clear hb2; obtain ⟨_, c0, c1, _, _⟩ := B2.new w2 (.int .i64 nb) (.slice none 0 0) 44)
        | (go_at_call 35; (with_reducible refine (hC _).mono ?_); rintro e w3 ⟨rfl, hb3⟩; have HB3 := Lib.hid (HB2.out.trans (hb3.mono HB2.out.size)); clear hb3))
      go_ret
      exact ⟨rfl, HB3.out⟩
    · have d3 : decide (e < 1) = false := decide_eq_false (by omega)
      have d4 : decide ((8192 : Int) < e) = true := decide_eq_true h2
      clear h1 h2
      go_enter Try.func7, Try.ntmps7
      go_wp2_with (first
        | (go_at_call 22; (with_reducible refine (hL _).mono ?_); rintro e w1 ⟨rfl, hb1⟩; have HB1 := Lib.hid hb1; clear hb1)
        | (go_at_call 33; (with_reducible refine (hN _).mono ?_); rintro e w2 ⟨rfl, _, hb2⟩; have HB2 := Lib.hid ((HB1.out.trans (hb2.mono HB1.out.size)).alloc (Nat.le_trans HB1.out.size hb2.size) (.cells #[.int .i64 nb, .slice none 0 0] 44)); clear hb2; obtain ⟨_, c0, c1, _, _⟩ := B2.new w2 (.int .i64 nb) (.slice none 0 0) 44)
        | (go_at_call 35; (with_reducible refine (hC _).mono ?_); rintro e w3 ⟨rfl, hb3⟩; have HB3 := Lib.hid (HB2.out.trans (hb3.mono HB2.out.size)); clear hb3))
      go_ret
      exact ⟨rfl, HB3.out⟩
end Go.Proofs.Ytjocdbacdbhemaa
