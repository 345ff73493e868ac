/- TopTables: numbers and places that come in; the short ways. TopTables as the row wants it. -/
import Derived.Test.YtngkbcaflkinhaaDoorTabA
import Derived.Test.YtngkbcaflkinhaaDoorTopBeg
import Derived.Deep.DeepCutAuto
import Derived.Test.YtngkbcaflkinhaaDoorTabW
namespace Go.Proofs.YtngkbcaflkinhaaDoor
open Go.RowKit

structure U16W (w : World) (v : Value) (L : List Int) : Prop where
  s : U16S w v L
  g : ∀ x ∈ L, 0 ≤ x ∧ x < 65536
structure PlW (w : World) (v : Value) (L : List (Int × Int)) : Prop where
  s : PlS w v L
theorem pk_U : Tryd.prog.cellsOf 32 = 1 := by kernel_rfl
theorem pk_P : Tryd.prog.cellsOf 36 = 2 := by kernel_rfl
theorem pk_I2 : Tryd.prog.cellsOf 3 = 1 := by kernel_rfl
section
variable {H : Type} {enc : TypeId × Value → H} {w : World} {base : Nat} {held : Bool} {fuel t : Nat} {A : Option Addr} {len cap : Nat} {x : DataW H × List MemPlace}
set_option maxRecDepth 100000 in
theorem u16W_in (ht : Tryd.prog.underlying t = some (.slice 32)) (h : DataW.trod enc Tryd.prog w base (fun _ => true) held fuel t (Value.slice A len cap).cells.toList = some x) : ∃ R, U16W w (.slice A len cap) R := by
  obtain ⟨R, h1, h2⟩ := stS_in (k := 1) (enc := encU) (z := (0 : Int)) (G := fun n => 0 ≤ n ∧ n < 65536) (by decide) ht pk_U (fun n cs y _ hf => by
    obtain ⟨s, e, _, hw⟩ := DataW.trod_int Tryd.underlying32 hf
    simp [Lit.wf, IntKind.min, IntKind.max, IntKind.signed, IntKind.bits] at hw
    exact ⟨s, e, by omega⟩) h
  exact ⟨R, ⟨h1, h2⟩⟩
set_option maxRecDepth 100000 in
theorem plW_in (ht : Tryd.prog.underlying t = some (.slice 36)) (h : DataW.trod enc Tryd.prog w base (fun _ => true) held fuel t (Value.slice A len cap).cells.toList = some x) : ∃ R, PlW w (.slice A len cap) R := by
  obtain ⟨R, h1, _⟩ := stS_in (k := 2) (enc := encP) (z := ((0 : Int), (0 : Int))) (G := fun _ => True) (by decide) ht pk_P (fun n cs y hl hf => by
    match cs, hl with
    | [c0, c1], _ =>
      obtain ⟨_, _, m, h0, h1⟩ := td_struct2 Tryd.underlying36 hf
      simp only [pk_I2, List.drop_zero, List.drop_succ_cons, List.take_succ_cons, List.take_zero] at h0 h1
      obtain ⟨x0, e0, _, _⟩ := DataW.trod_int Tryd.underlying3 h0
      obtain ⟨x1, e1, _, _⟩ := DataW.trod_int Tryd.underlying3 h1
      simp only [List.cons.injEq, and_true] at e0 e1
      exact ⟨(x0, x1), by rw [e0, e1]; rfl, trivial⟩) h
  exact ⟨R, ⟨h1⟩⟩
end
set_option maxHeartbeats 4000000 in
set_option maxRecDepth 100000 in
/-- Where nothing is asked. -/
theorem topTables_none {w : World} {e B : Int} {KA PA : Option Addr} {N kc M pc : Nat} (hT : Tab w) (h : 2000 < B ∨ 60 < N) :
    Calls Tryd.prog 3 #[.int .i64 e, .int .i64 B, .slice KA N kc, .slice PA M pc] w fun e' w' => e' = .returned (.bool true) ∧ Below w.heap.size w w' := by
  have hBg := begins_any2 w hT
  clear hT
  by_cases h1 : 2000 < B
  · have d1 : decide ((2000 : Int) < B) = true := decide_eq_true h1
    clear h
    go_enter Tryd.func3, Tryd.ntmps3
    go_wp2_with (go_at_call 4; refine hBg.mono ?_; rintro e' w1 ⟨rfl, hw1⟩; subst hw1)
    go_ret
    exact ⟨rfl, Below.refl _ _⟩
  · have d1 : decide ((2000 : Int) < B) = false := decide_eq_false h1
    have d2 : decide ((60 : Int) < (N : Int)) = true := decide_eq_true (by omega)
    clear h h1
    go_enter Tryd.func3, Tryd.ntmps3
    go_wp2_with (go_at_call 4; refine hBg.mono ?_; rintro e' w1 ⟨rfl, hw1⟩; subst hw1)
    go_ret
    exact ⟨rfl, Below.refl _ _⟩
set_option maxHeartbeats 4000000 in
set_option maxRecDepth 100000 in
/-- Where there is no such map, or it has no blocks. -/
theorem topTables_bad {w : World} {e B : Int} {KA PA : Option Addr} {N kc M pc : Nat} (hT : Tab w) (h1 : ¬ 2000 < B) (h2 : ¬ 60 < N) (h : ¬ mayB B = true ∨ ¬ okB e ⟨B, []⟩ = true ∨ B = 0) :
    Calls Tryd.prog 3 #[.int .i64 e, .int .i64 B, .slice KA N kc, .slice PA M pc] w fun e' w' => e' = .returned (.bool true) ∧ Below w.heap.size w w' := by
  have hBg := begins_any2 w hT
  have hNw := chtNew_any B
  have d1 : decide ((2000 : Int) < B) = false := decide_eq_false h1
  have d2 : decide ((60 : Int) < (N : Int)) = false := decide_eq_false (by omega)
  have hCk : ∀ W : World, _ := fun W => chtCheck_any e B [] (.slice none 0 0) W (TabsS.none W)
  unfold newC newE at hNw
  unfold chtE at hCk
  clear hT
  by_cases hm : mayB B = true
  · rw [if_pos hm, if_pos hm] at hNw
    by_cases hok : okB e ⟨B, []⟩ = true
    · simp only [if_pos hok] at hCk
      obtain rfl : B = 0 := by rcases h with h | h | h <;> first | exact absurd hm h | exact absurd hok h | exact h
      clear h hm hok h1 h2
      go_enter Tryd.func3, Tryd.ntmps3
      go_wp2_with (first
        | (go_at_call 4; refine hBg.mono ?_; rintro e' w1 ⟨rfl, hw1⟩; subst hw1)
        | (go_at_call 5; refine (hNw _).mono ?_; rintro e' w2 ⟨rfl, _, hb2⟩; have HB2 := Lib.hid (hb2.alloc hb2.size (.cells #[.int .i64 0, .slice none 0 0] 27)); clear hb2)
        | (go_at_call 6; (with_reducible refine (hCk _).mono ?_); rintro e' w4 ⟨rfl, hb4⟩; have HB4 := Lib.hid (HB2.out.trans (hb4.mono HB2.out.size)); clear hb4))
      go_ret
      exact ⟨rfl, HB4.out⟩
    · simp only [if_neg hok] at hCk
      clear h hm hok h1 h2
      go_enter Tryd.func3, Tryd.ntmps3
      go_wp2_with (first
        | (go_at_call 4; refine hBg.mono ?_; rintro e' w1 ⟨rfl, hw1⟩; subst hw1)
        | (go_at_call 5; refine (hNw _).mono ?_; rintro e' w2 ⟨rfl, _, hb2⟩; have HB2 := Lib.hid (hb2.alloc hb2.size (.cells #[.int .i64 B, .slice none 0 0] 27)); clear hb2)
        | (go_at_call 6; (with_reducible refine (hCk _).mono ?_); rintro e' w4 ⟨rfl, hb4⟩; have HB4 := Lib.hid (HB2.out.trans (hb4.mono HB2.out.size)); clear hb4))
      go_ret
      exact ⟨rfl, HB4.out⟩
  · rw [if_neg hm, if_neg hm] at hNw
    clear h hm h1 h2 hCk
    go_enter Tryd.func3, Tryd.ntmps3
    go_wp2_with (first
      | (go_at_call 4; refine hBg.mono ?_; rintro e' w1 ⟨rfl, hw1⟩; subst hw1)
      | (go_at_call 5; refine (hNw _).mono ?_; rintro e' w2 ⟨rfl, _, hb2⟩; have HB2 := Lib.hid (hb2.alloc hb2.size (.cells #[.int .i64 CH.zero.blocks, .slice none 0 0] 27)); clear hb2))
    go_ret
    exact ⟨rfl, HB2.out⟩
end Go.Proofs.YtngkbcaflkinhaaDoor
namespace Go.Proofs.YtngkbcaflkinhaaDoor
open Go.RowKit

theorem topTables_any {w : World} (e : Int) (_ : (Lit.int .i64 e).wf = true) (B : Int) (_ : (Lit.int .i64 B).wf = true) {a p : Value} {K : List Int} {P : List (Int × Int)} (hK : U16W w a K) (hP : PlW w p P) (hT : Tab w) :
    Calls Tryd.prog 3 #[.int .i64 e, .int .i64 B, a, p] w fun e' w' => e' = .returned (.bool true) ∧ Below w.heap.size w w' := by
  by_cases h1 : 2000 < B ∨ 60 < K.length
  · obtain ⟨KA, kc, rfl⟩ := hK.s.form
    obtain ⟨PA, pc, rfl⟩ := hP.s.form
    exact topTables_none hT h1
  · by_cases h : ¬ mayB B = true ∨ ¬ okB e ⟨B, []⟩ = true ∨ B = 0
    · obtain ⟨KA, kc, rfl⟩ := hK.s.form
      obtain ⟨PA, pc, rfl⟩ := hP.s.form
      exact topTables_bad hT (fun x => h1 (.inl x)) (fun x => h1 (.inr x)) h
    · have h2 : okB e ⟨B, []⟩ = true := Decidable.byContradiction (fun x => h (.inr (.inl x)))
      obtain ⟨E, BN, rfl, hb, hc⟩ := cok_of h2
      have hb' : B = (BN : Int) := hb
      subst hb'
      have hn0 : ¬ (BN : Int) = 0 := fun x => h (.inr (.inr x))
      exact topTables_main hK.s hK.g hP.s hT ⟨hc.e1, hc.e2⟩ ⟨by omega, by omega⟩ (by omega)
end Go.Proofs.YtngkbcaflkinhaaDoor
