/- Slots of superblocks: SortStableFunc of at most two of them, the greatest generation first. (Printed by wip/gensort2.py.) Slots of superblocks: SortStableFunc of at most two of them. -/
import Derived.Test.YtfpnlaafefdcaaaDoorSupD
import Derived.Laws.OwnMore
import Derived.Deep.Cut
namespace Go.Proofs.YtfpnlaafefdcaaaDoor
open Go.RowKit

/-- A slot. -/
structure SL where
  no : Int
  p : SP

def SL.cells (x : SL) : List Value := [.int .i64 x.no, .int .i64 x.p.gen, .int .i64 x.p.s, .int .i64 x.p.k, .int .i64 x.p.m, .int .i64 x.p.c, .int .i64 x.p.len, .int .i64 x.p.a, .int .i64 x.p.b, .int .u32 (x.p.sum : Int)]
def SL.v (x : SL) : Value := .agg #[.int .i64 x.no, .int .i64 x.p.gen, .int .i64 x.p.s, .int .i64 x.p.k, .int .i64 x.p.m, .int .i64 x.p.c, .int .i64 x.p.len, .int .i64 x.p.a, .int .i64 x.p.b, .int .u32 (x.p.sum : Int)]
theorem SL.cells_len (x : SL) : x.cells.length = 10 := rfl
def cmpI (x y : Int) : Int := if x < y then -1 else if y < x then 1 else 0
theorem cmpNaN_any (x : Int) (w : World) : Calls Tryd.prog 128 #[.int .i64 x] w fun e w' => e = .returned (.bool false) ∧ w = w' := by
  go_enter Tryd.func128, Tryd.ntmps128
  go_wp2
  go_ret
  exact ⟨by simp, rfl⟩
theorem cmpCompare_any (x y : Int) (w : World) : Calls Tryd.prog 94 #[.int .i64 x, .int .i64 y] w fun e w' => e = .returned (.int .i64 (cmpI x y)) ∧ w = w' := by
  unfold cmpI
  by_cases h1 : x < y
  · have d0 : decide (x < y) = true := decide_eq_true h1
    rw [if_pos h1]
    clear h1
    go_enter Tryd.func94, Tryd.ntmps94
    go_wp2_with (go_at_call 128; with_reducible refine (cmpNaN_any _ _).mono ?_; rintro e w1 ⟨rfl, rfl⟩)
    go_ret
    exact ⟨rfl, rfl⟩
  · have d0 : decide (x < y) = false := decide_eq_false h1
    rw [if_neg h1]
    by_cases h2 : y < x
    · have d1 : decide (y < x) = true := decide_eq_true h2
      rw [if_pos h2]
      clear h1 h2
      go_enter Tryd.func94, Tryd.ntmps94
      go_wp2_with (go_at_call 128; with_reducible refine (cmpNaN_any _ _).mono ?_; rintro e w1 ⟨rfl, rfl⟩)
      go_ret
      exact ⟨rfl, rfl⟩
    · have d1 : decide (y < x) = false := decide_eq_false h2
      rw [if_neg h2]
      clear h1 h2
      go_enter Tryd.func94, Tryd.ntmps94
      go_wp2_with (go_at_call 128; with_reducible refine (cmpNaN_any _ _).mono ?_; rintro e w1 ⟨rfl, rfl⟩)
      go_ret
      exact ⟨rfl, rfl⟩
theorem slotCmp_any (x y : SL) (w : World) : Calls Tryd.prog 93 #[x.v, y.v] w fun e w' => e = .returned (.int .i64 (cmpI y.p.gen x.p.gen)) ∧ Below w.heap.size w w' := by
  have hC := cmpCompare_any y.p.gen x.p.gen
  unfold SL.v
  go_enter Tryd.func93, Tryd.ntmps93
  go_wp2_with (go_at_call 94; with_reducible refine (hC _).mono ?_; rintro e w1 ⟨rfl, rfl⟩)
  go_ret
  exact ⟨rfl, ((Below.refl _ _).alloc (Nat.le_refl _) _).alloc (by simp) _⟩
/-- Two slots in a row, cell by cell. -/
structure R2 (W : World) (g : Nat) (x y : SL) : Prop where
  c0 : W.cell? ⟨g, 0, none⟩ = some (.int .i64 x.no)
  c1 : W.cell? ⟨g, 1, none⟩ = some (.int .i64 x.p.gen)
  c2 : W.cell? ⟨g, 2, none⟩ = some (.int .i64 x.p.s)
  c3 : W.cell? ⟨g, 3, none⟩ = some (.int .i64 x.p.k)
  c4 : W.cell? ⟨g, 4, none⟩ = some (.int .i64 x.p.m)
  c5 : W.cell? ⟨g, 5, none⟩ = some (.int .i64 x.p.c)
  c6 : W.cell? ⟨g, 6, none⟩ = some (.int .i64 x.p.len)
  c7 : W.cell? ⟨g, 7, none⟩ = some (.int .i64 x.p.a)
  c8 : W.cell? ⟨g, 8, none⟩ = some (.int .i64 x.p.b)
  c9 : W.cell? ⟨g, 9, none⟩ = some (.int .u32 (x.p.sum : Int))
  c10 : W.cell? ⟨g, 10, none⟩ = some (.int .i64 y.no)
  c11 : W.cell? ⟨g, 11, none⟩ = some (.int .i64 y.p.gen)
  c12 : W.cell? ⟨g, 12, none⟩ = some (.int .i64 y.p.s)
  c13 : W.cell? ⟨g, 13, none⟩ = some (.int .i64 y.p.k)
  c14 : W.cell? ⟨g, 14, none⟩ = some (.int .i64 y.p.m)
  c15 : W.cell? ⟨g, 15, none⟩ = some (.int .i64 y.p.c)
  c16 : W.cell? ⟨g, 16, none⟩ = some (.int .i64 y.p.len)
  c17 : W.cell? ⟨g, 17, none⟩ = some (.int .i64 y.p.a)
  c18 : W.cell? ⟨g, 18, none⟩ = some (.int .i64 y.p.b)
  c19 : W.cell? ⟨g, 19, none⟩ = some (.int .u32 (y.p.sum : Int))
  f0 : W.frozen? ⟨g, 0, none⟩ = false
  f1 : W.frozen? ⟨g, 1, none⟩ = false
  f2 : W.frozen? ⟨g, 2, none⟩ = false
  f3 : W.frozen? ⟨g, 3, none⟩ = false
  f4 : W.frozen? ⟨g, 4, none⟩ = false
  f5 : W.frozen? ⟨g, 5, none⟩ = false
  f6 : W.frozen? ⟨g, 6, none⟩ = false
  f7 : W.frozen? ⟨g, 7, none⟩ = false
  f8 : W.frozen? ⟨g, 8, none⟩ = false
  f9 : W.frozen? ⟨g, 9, none⟩ = false
  f10 : W.frozen? ⟨g, 10, none⟩ = false
  f11 : W.frozen? ⟨g, 11, none⟩ = false
  f12 : W.frozen? ⟨g, 12, none⟩ = false
  f13 : W.frozen? ⟨g, 13, none⟩ = false
  f14 : W.frozen? ⟨g, 14, none⟩ = false
  f15 : W.frozen? ⟨g, 15, none⟩ = false
  f16 : W.frozen? ⟨g, 16, none⟩ = false
  f17 : W.frozen? ⟨g, 17, none⟩ = false
  f18 : W.frozen? ⟨g, 18, none⟩ = false
  f19 : W.frozen? ⟨g, 19, none⟩ = false
theorem R2.of {W : World} {base g cap : Nat} {x y : SL} (h : W.ownsRow base 85 10 (.slice (some ⟨g, 0, none⟩) 2 cap) 2 (x.cells ++ y.cells)) : R2 W g x y :=
  ⟨h.cellAt 0 (by omega), h.cellAt 1 (by omega), h.cellAt 2 (by omega), h.cellAt 3 (by omega), h.cellAt 4 (by omega), h.cellAt 5 (by omega), h.cellAt 6 (by omega), h.cellAt 7 (by omega), h.cellAt 8 (by omega), h.cellAt 9 (by omega), h.cellAt 10 (by omega), h.cellAt 11 (by omega), h.cellAt 12 (by omega), h.cellAt 13 (by omega), h.cellAt 14 (by omega), h.cellAt 15 (by omega), h.cellAt 16 (by omega), h.cellAt 17 (by omega), h.cellAt 18 (by omega), h.cellAt 19 (by omega), h.frozenAt 0, h.frozenAt 1, h.frozenAt 2, h.frozenAt 3, h.frozenAt 4, h.frozenAt 5, h.frozenAt 6, h.frozenAt 7, h.frozenAt 8, h.frozenAt 9, h.frozenAt 10, h.frozenAt 11, h.frozenAt 12, h.frozenAt 13, h.frozenAt 14, h.frozenAt 15, h.frozenAt 16, h.frozenAt 17, h.frozenAt 18, h.frozenAt 19⟩
/-- The two, the greatest generation first. -/
def srt2 (x y : SL) : SL × SL := if x.p.gen < y.p.gen then (y, x) else (x, y)
/-- The two, in a world behind another. -/
structure IS (W W2 : World) (base g cap : Nat) (x y : SL) : Prop where
  row : W2.ownsRow base 85 10 (.slice (some ⟨g, 0, none⟩) 2 cap) 2 (x.cells ++ y.cells)
  be : Below W.heap.size W W2
theorem IS.below {W W2 W3 : World} {base g cap : Nat} {x y : SL} (k : IS W W2 base g cap x y) (h : Below W2.heap.size W2 W3) : IS W W3 base g cap x y :=
  ⟨k.row.kept (⟨h.os, h.tape, h.output, h.size, fun i hi _ => h.block i hi⟩ : W2.grownBy W3 none) (.inr (by simp [Value.ownBlock])), k.be.trans (h.mono k.be.size)⟩
theorem IS.drew {W W2 : World} {base g cap : Nat} {x y : SL} (k : IS W W2 base g cap x y) : IS W W2.drew base g cap x y := k.below ((Below.refl _ _).drew)
/-- The two in order. -/
structure OKS (W : World) (base g cap : Nat) (x y : SL) (W2 : World) : Prop where
  row : W2.ownsRow base 85 10 (.slice (some ⟨g, 0, none⟩) 2 cap) 2 ((srt2 x y).1.cells ++ (srt2 x y).2.cells)
  ap : Ap (fun k => k = g) W W2
theorem OKS.drew {W W2 : World} {base g cap : Nat} {x y : SL} (k : OKS W base g cap x y W2) : OKS W base g cap x y W2.drew := ⟨k.row.drew, k.ap.drew⟩
theorem OKS.drewN {W W2 : World} {base g cap : Nat} {x y : SL} (k : OKS W base g cap x y W2) (n : Nat) : OKS W base g cap x y (W2.drewN n) := ⟨k.row, k.ap.drewN n⟩
theorem IS.done {W W2 : World} {base g cap : Nat} {x y : SL} (k : IS W W2 base g cap x y) : W2.ownsRow base 85 10 (.slice (some ⟨g, 0, none⟩) 2 cap) 2 (x.cells ++ y.cells) ∧ Ap (fun k => k = g) W W2 := ⟨k.row, Ap.of_below k.be⟩
set_option maxRecDepth 100000 in
set_option maxHeartbeats 1000000 in
theorem IS.swap_a {W W2 : World} {base g cap : Nat} {x y : SL} (k : IS W W2 base g cap x y) : ((((((((((((((((((((W2.setCell ⟨g, 10, none⟩ (.int .i64 x.no)).setCell ⟨g, 11, none⟩ (.int .i64 x.p.gen)).setCell ⟨g, 12, none⟩ (.int .i64 x.p.s)).setCell ⟨g, 13, none⟩ (.int .i64 x.p.k)).setCell ⟨g, 14, none⟩ (.int .i64 x.p.m)).setCell ⟨g, 15, none⟩ (.int .i64 x.p.c)).setCell ⟨g, 16, none⟩ (.int .i64 x.p.len)).setCell ⟨g, 17, none⟩ (.int .i64 x.p.a)).setCell ⟨g, 18, none⟩ (.int .i64 x.p.b)).setCell ⟨g, 19, none⟩ (.int .u32 (x.p.sum : Int))).setCell ⟨g, 0, none⟩ (.int .i64 y.no)).setCell ⟨g, 1, none⟩ (.int .i64 y.p.gen)).setCell ⟨g, 2, none⟩ (.int .i64 y.p.s)).setCell ⟨g, 3, none⟩ (.int .i64 y.p.k)).setCell ⟨g, 4, none⟩ (.int .i64 y.p.m)).setCell ⟨g, 5, none⟩ (.int .i64 y.p.c)).setCell ⟨g, 6, none⟩ (.int .i64 y.p.len)).setCell ⟨g, 7, none⟩ (.int .i64 y.p.a)).setCell ⟨g, 8, none⟩ (.int .i64 y.p.b)).setCell ⟨g, 9, none⟩ (.int .u32 (y.p.sum : Int))).ownsRow base 85 10 (.slice (some ⟨g, 0, none⟩) 2 cap) 2 (y.cells ++ x.cells) ∧ Ap (fun k => k = g) W ((((((((((((((((((((W2.setCell ⟨g, 10, none⟩ (.int .i64 x.no)).setCell ⟨g, 11, none⟩ (.int .i64 x.p.gen)).setCell ⟨g, 12, none⟩ (.int .i64 x.p.s)).setCell ⟨g, 13, none⟩ (.int .i64 x.p.k)).setCell ⟨g, 14, none⟩ (.int .i64 x.p.m)).setCell ⟨g, 15, none⟩ (.int .i64 x.p.c)).setCell ⟨g, 16, none⟩ (.int .i64 x.p.len)).setCell ⟨g, 17, none⟩ (.int .i64 x.p.a)).setCell ⟨g, 18, none⟩ (.int .i64 x.p.b)).setCell ⟨g, 19, none⟩ (.int .u32 (x.p.sum : Int))).setCell ⟨g, 0, none⟩ (.int .i64 y.no)).setCell ⟨g, 1, none⟩ (.int .i64 y.p.gen)).setCell ⟨g, 2, none⟩ (.int .i64 y.p.s)).setCell ⟨g, 3, none⟩ (.int .i64 y.p.k)).setCell ⟨g, 4, none⟩ (.int .i64 y.p.m)).setCell ⟨g, 5, none⟩ (.int .i64 y.p.c)).setCell ⟨g, 6, none⟩ (.int .i64 y.p.len)).setCell ⟨g, 7, none⟩ (.int .i64 y.p.a)).setCell ⟨g, 8, none⟩ (.int .i64 y.p.b)).setCell ⟨g, 9, none⟩ (.int .u32 (y.p.sum : Int))) := by
  have s0 := k.row
  unfold SL.cells at s0 ⊢
  simp only [List.cons_append, List.nil_append] at s0 ⊢
  have a0 : Ap (fun k => k = g) W W2 := Ap.of_below k.be
  have s1 := (s0.stored 10 (.int .i64 x.no)).1
  have a1 := a0.setCell (p := ⟨g, 10, none⟩) (.inl rfl) (.int .i64 x.no)
  simp only [List.set_cons_zero, List.set_cons_succ] at s1
  have s2 := (s1.stored 11 (.int .i64 x.p.gen)).1
  have a2 := a1.setCell (p := ⟨g, 11, none⟩) (.inl rfl) (.int .i64 x.p.gen)
  simp only [List.set_cons_zero, List.set_cons_succ] at s2
  have s3 := (s2.stored 12 (.int .i64 x.p.s)).1
  have a3 := a2.setCell (p := ⟨g, 12, none⟩) (.inl rfl) (.int .i64 x.p.s)
  simp only [List.set_cons_zero, List.set_cons_succ] at s3
  have s4 := (s3.stored 13 (.int .i64 x.p.k)).1
  have a4 := a3.setCell (p := ⟨g, 13, none⟩) (.inl rfl) (.int .i64 x.p.k)
  simp only [List.set_cons_zero, List.set_cons_succ] at s4
  have s5 := (s4.stored 14 (.int .i64 x.p.m)).1
  have a5 := a4.setCell (p := ⟨g, 14, none⟩) (.inl rfl) (.int .i64 x.p.m)
  simp only [List.set_cons_zero, List.set_cons_succ] at s5
  have s6 := (s5.stored 15 (.int .i64 x.p.c)).1
  have a6 := a5.setCell (p := ⟨g, 15, none⟩) (.inl rfl) (.int .i64 x.p.c)
  simp only [List.set_cons_zero, List.set_cons_succ] at s6
  have s7 := (s6.stored 16 (.int .i64 x.p.len)).1
  have a7 := a6.setCell (p := ⟨g, 16, none⟩) (.inl rfl) (.int .i64 x.p.len)
  simp only [List.set_cons_zero, List.set_cons_succ] at s7
  have s8 := (s7.stored 17 (.int .i64 x.p.a)).1
  have a8 := a7.setCell (p := ⟨g, 17, none⟩) (.inl rfl) (.int .i64 x.p.a)
  simp only [List.set_cons_zero, List.set_cons_succ] at s8
  have s9 := (s8.stored 18 (.int .i64 x.p.b)).1
  have a9 := a8.setCell (p := ⟨g, 18, none⟩) (.inl rfl) (.int .i64 x.p.b)
  simp only [List.set_cons_zero, List.set_cons_succ] at s9
  have s10 := (s9.stored 19 (.int .u32 (x.p.sum : Int))).1
  have a10 := a9.setCell (p := ⟨g, 19, none⟩) (.inl rfl) (.int .u32 (x.p.sum : Int))
  simp only [List.set_cons_zero, List.set_cons_succ] at s10
  have s11 := (s10.stored 0 (.int .i64 y.no)).1
  have a11 := a10.setCell (p := ⟨g, 0, none⟩) (.inl rfl) (.int .i64 y.no)
  simp only [List.set_cons_zero] at s11
  have s12 := (s11.stored 1 (.int .i64 y.p.gen)).1
  have a12 := a11.setCell (p := ⟨g, 1, none⟩) (.inl rfl) (.int .i64 y.p.gen)
  simp only [List.set_cons_zero, List.set_cons_succ] at s12
  have s13 := (s12.stored 2 (.int .i64 y.p.s)).1
  have a13 := a12.setCell (p := ⟨g, 2, none⟩) (.inl rfl) (.int .i64 y.p.s)
  simp only [List.set_cons_zero, List.set_cons_succ] at s13
  have s14 := (s13.stored 3 (.int .i64 y.p.k)).1
  have a14 := a13.setCell (p := ⟨g, 3, none⟩) (.inl rfl) (.int .i64 y.p.k)
  simp only [List.set_cons_zero, List.set_cons_succ] at s14
  have s15 := (s14.stored 4 (.int .i64 y.p.m)).1
  have a15 := a14.setCell (p := ⟨g, 4, none⟩) (.inl rfl) (.int .i64 y.p.m)
  simp only [List.set_cons_zero, List.set_cons_succ] at s15
  have s16 := (s15.stored 5 (.int .i64 y.p.c)).1
  have a16 := a15.setCell (p := ⟨g, 5, none⟩) (.inl rfl) (.int .i64 y.p.c)
  simp only [List.set_cons_zero, List.set_cons_succ] at s16
  have s17 := (s16.stored 6 (.int .i64 y.p.len)).1
  have a17 := a16.setCell (p := ⟨g, 6, none⟩) (.inl rfl) (.int .i64 y.p.len)
  simp only [List.set_cons_zero, List.set_cons_succ] at s17
  have s18 := (s17.stored 7 (.int .i64 y.p.a)).1
  have a18 := a17.setCell (p := ⟨g, 7, none⟩) (.inl rfl) (.int .i64 y.p.a)
  simp only [List.set_cons_zero, List.set_cons_succ] at s18
  have s19 := (s18.stored 8 (.int .i64 y.p.b)).1
  have a19 := a18.setCell (p := ⟨g, 8, none⟩) (.inl rfl) (.int .i64 y.p.b)
  simp only [List.set_cons_zero, List.set_cons_succ] at s19
  have s20 := (s19.stored 9 (.int .u32 (y.p.sum : Int))).1
  have a20 := a19.setCell (p := ⟨g, 9, none⟩) (.inl rfl) (.int .u32 (y.p.sum : Int))
  simp only [List.set_cons_zero, List.set_cons_succ] at s20
  exact ⟨s20, a20⟩
set_option maxRecDepth 100000 in
set_option maxHeartbeats 1000000 in
theorem IS.swap_b {W W2 : World} {base g cap : Nat} {x y : SL} (k : IS W W2 base g cap x y) : ((((((((((((((((((((W2.setCell ⟨g, 0, none⟩ (.int .i64 y.no)).setCell ⟨g, 1, none⟩ (.int .i64 y.p.gen)).setCell ⟨g, 2, none⟩ (.int .i64 y.p.s)).setCell ⟨g, 3, none⟩ (.int .i64 y.p.k)).setCell ⟨g, 4, none⟩ (.int .i64 y.p.m)).setCell ⟨g, 5, none⟩ (.int .i64 y.p.c)).setCell ⟨g, 6, none⟩ (.int .i64 y.p.len)).setCell ⟨g, 7, none⟩ (.int .i64 y.p.a)).setCell ⟨g, 8, none⟩ (.int .i64 y.p.b)).setCell ⟨g, 9, none⟩ (.int .u32 (y.p.sum : Int))).setCell ⟨g, 10, none⟩ (.int .i64 x.no)).setCell ⟨g, 11, none⟩ (.int .i64 x.p.gen)).setCell ⟨g, 12, none⟩ (.int .i64 x.p.s)).setCell ⟨g, 13, none⟩ (.int .i64 x.p.k)).setCell ⟨g, 14, none⟩ (.int .i64 x.p.m)).setCell ⟨g, 15, none⟩ (.int .i64 x.p.c)).setCell ⟨g, 16, none⟩ (.int .i64 x.p.len)).setCell ⟨g, 17, none⟩ (.int .i64 x.p.a)).setCell ⟨g, 18, none⟩ (.int .i64 x.p.b)).setCell ⟨g, 19, none⟩ (.int .u32 (x.p.sum : Int))).ownsRow base 85 10 (.slice (some ⟨g, 0, none⟩) 2 cap) 2 (y.cells ++ x.cells) ∧ Ap (fun k => k = g) W ((((((((((((((((((((W2.setCell ⟨g, 0, none⟩ (.int .i64 y.no)).setCell ⟨g, 1, none⟩ (.int .i64 y.p.gen)).setCell ⟨g, 2, none⟩ (.int .i64 y.p.s)).setCell ⟨g, 3, none⟩ (.int .i64 y.p.k)).setCell ⟨g, 4, none⟩ (.int .i64 y.p.m)).setCell ⟨g, 5, none⟩ (.int .i64 y.p.c)).setCell ⟨g, 6, none⟩ (.int .i64 y.p.len)).setCell ⟨g, 7, none⟩ (.int .i64 y.p.a)).setCell ⟨g, 8, none⟩ (.int .i64 y.p.b)).setCell ⟨g, 9, none⟩ (.int .u32 (y.p.sum : Int))).setCell ⟨g, 10, none⟩ (.int .i64 x.no)).setCell ⟨g, 11, none⟩ (.int .i64 x.p.gen)).setCell ⟨g, 12, none⟩ (.int .i64 x.p.s)).setCell ⟨g, 13, none⟩ (.int .i64 x.p.k)).setCell ⟨g, 14, none⟩ (.int .i64 x.p.m)).setCell ⟨g, 15, none⟩ (.int .i64 x.p.c)).setCell ⟨g, 16, none⟩ (.int .i64 x.p.len)).setCell ⟨g, 17, none⟩ (.int .i64 x.p.a)).setCell ⟨g, 18, none⟩ (.int .i64 x.p.b)).setCell ⟨g, 19, none⟩ (.int .u32 (x.p.sum : Int))) := by
  have s0 := k.row
  unfold SL.cells at s0 ⊢
  simp only [List.cons_append, List.nil_append] at s0 ⊢
  have a0 : Ap (fun k => k = g) W W2 := Ap.of_below k.be
  have s1 := (s0.stored 0 (.int .i64 y.no)).1
  have a1 := a0.setCell (p := ⟨g, 0, none⟩) (.inl rfl) (.int .i64 y.no)
  simp only [List.set_cons_zero] at s1
  have s2 := (s1.stored 1 (.int .i64 y.p.gen)).1
  have a2 := a1.setCell (p := ⟨g, 1, none⟩) (.inl rfl) (.int .i64 y.p.gen)
  simp only [List.set_cons_zero, List.set_cons_succ] at s2
  have s3 := (s2.stored 2 (.int .i64 y.p.s)).1
  have a3 := a2.setCell (p := ⟨g, 2, none⟩) (.inl rfl) (.int .i64 y.p.s)
  simp only [List.set_cons_zero, List.set_cons_succ] at s3
  have s4 := (s3.stored 3 (.int .i64 y.p.k)).1
  have a4 := a3.setCell (p := ⟨g, 3, none⟩) (.inl rfl) (.int .i64 y.p.k)
  simp only [List.set_cons_zero, List.set_cons_succ] at s4
  have s5 := (s4.stored 4 (.int .i64 y.p.m)).1
  have a5 := a4.setCell (p := ⟨g, 4, none⟩) (.inl rfl) (.int .i64 y.p.m)
  simp only [List.set_cons_zero, List.set_cons_succ] at s5
  have s6 := (s5.stored 5 (.int .i64 y.p.c)).1
  have a6 := a5.setCell (p := ⟨g, 5, none⟩) (.inl rfl) (.int .i64 y.p.c)
  simp only [List.set_cons_zero, List.set_cons_succ] at s6
  have s7 := (s6.stored 6 (.int .i64 y.p.len)).1
  have a7 := a6.setCell (p := ⟨g, 6, none⟩) (.inl rfl) (.int .i64 y.p.len)
  simp only [List.set_cons_zero, List.set_cons_succ] at s7
  have s8 := (s7.stored 7 (.int .i64 y.p.a)).1
  have a8 := a7.setCell (p := ⟨g, 7, none⟩) (.inl rfl) (.int .i64 y.p.a)
  simp only [List.set_cons_zero, List.set_cons_succ] at s8
  have s9 := (s8.stored 8 (.int .i64 y.p.b)).1
  have a9 := a8.setCell (p := ⟨g, 8, none⟩) (.inl rfl) (.int .i64 y.p.b)
  simp only [List.set_cons_zero, List.set_cons_succ] at s9
  have s10 := (s9.stored 9 (.int .u32 (y.p.sum : Int))).1
  have a10 := a9.setCell (p := ⟨g, 9, none⟩) (.inl rfl) (.int .u32 (y.p.sum : Int))
  simp only [List.set_cons_zero, List.set_cons_succ] at s10
  have s11 := (s10.stored 10 (.int .i64 x.no)).1
  have a11 := a10.setCell (p := ⟨g, 10, none⟩) (.inl rfl) (.int .i64 x.no)
  simp only [List.set_cons_zero, List.set_cons_succ] at s11
  have s12 := (s11.stored 11 (.int .i64 x.p.gen)).1
  have a12 := a11.setCell (p := ⟨g, 11, none⟩) (.inl rfl) (.int .i64 x.p.gen)
  simp only [List.set_cons_zero, List.set_cons_succ] at s12
  have s13 := (s12.stored 12 (.int .i64 x.p.s)).1
  have a13 := a12.setCell (p := ⟨g, 12, none⟩) (.inl rfl) (.int .i64 x.p.s)
  simp only [List.set_cons_zero, List.set_cons_succ] at s13
  have s14 := (s13.stored 13 (.int .i64 x.p.k)).1
  have a14 := a13.setCell (p := ⟨g, 13, none⟩) (.inl rfl) (.int .i64 x.p.k)
  simp only [List.set_cons_zero, List.set_cons_succ] at s14
  have s15 := (s14.stored 14 (.int .i64 x.p.m)).1
  have a15 := a14.setCell (p := ⟨g, 14, none⟩) (.inl rfl) (.int .i64 x.p.m)
  simp only [List.set_cons_zero, List.set_cons_succ] at s15
  have s16 := (s15.stored 15 (.int .i64 x.p.c)).1
  have a16 := a15.setCell (p := ⟨g, 15, none⟩) (.inl rfl) (.int .i64 x.p.c)
  simp only [List.set_cons_zero, List.set_cons_succ] at s16
  have s17 := (s16.stored 16 (.int .i64 x.p.len)).1
  have a17 := a16.setCell (p := ⟨g, 16, none⟩) (.inl rfl) (.int .i64 x.p.len)
  simp only [List.set_cons_zero, List.set_cons_succ] at s17
  have s18 := (s17.stored 17 (.int .i64 x.p.a)).1
  have a18 := a17.setCell (p := ⟨g, 17, none⟩) (.inl rfl) (.int .i64 x.p.a)
  simp only [List.set_cons_zero, List.set_cons_succ] at s18
  have s19 := (s18.stored 18 (.int .i64 x.p.b)).1
  have a19 := a18.setCell (p := ⟨g, 18, none⟩) (.inl rfl) (.int .i64 x.p.b)
  simp only [List.set_cons_zero, List.set_cons_succ] at s19
  have s20 := (s19.stored 19 (.int .u32 (x.p.sum : Int))).1
  have a20 := a19.setCell (p := ⟨g, 19, none⟩) (.inl rfl) (.int .u32 (x.p.sum : Int))
  simp only [List.set_cons_zero, List.set_cons_succ] at s20
  exact ⟨s20, a20⟩
set_option maxRecDepth 100000 in
set_option maxHeartbeats 8000000 in
theorem ins2_any {W : World} {base g cap : Nat} (x y : SL) (hown : W.ownsRow base 85 10 (.slice (some ⟨g, 0, none⟩) 2 cap) 2 (x.cells ++ y.cells)) :
    Calls Tryd.prog 141 #[.slice (some ⟨g, 0, none⟩) 2 cap, .int .i64 0, .int .i64 2, .func (.func 93) #[] #[]] W fun e W' => e = .returned (.tuple #[]) ∧ W'.ownsRow base 85 10 (.slice (some ⟨g, 0, none⟩) 2 cap) 2 ((srt2 x y).1.cells ++ (srt2 x y).2.cells) ∧ Ap (fun k => k = g) W W' := by
  have hcap : 2 ≤ cap := by
    rcases hown.2 with ⟨e, _⟩ | ⟨_, _, _, e, _, _, h, _⟩
    · cases e
    · injection e with _ _ e; omega
  have HI := Lib.hid (⟨hown, Below.refl _ _⟩ : IS W W base g cap x y)
  have hC := fun W' => slotCmp_any y x W'
  unfold SL.v at hC
  have hw0 : IntKind.i64.wrap 0 = 0 := by decide
  have hw1 : IntKind.i64.wrap 1 = 1 := by decide
  clear hown
  go_enter Tryd.func141, Tryd.ntmps141
  go_upto_region 1 with fail
  go_loopw [8] (fun i wr => (i = .int .i64 1 ∧ wr = W) ∨ (i = .int .i64 2 ∧ OKS W base g cap x y wr)) (fun i _ => 2 - secNo i)
  case atStart => exact .inl ⟨rfl, rfl⟩
  case round =>
    rcases hrel with ⟨rfl, hw⟩ | ⟨rfl, hok⟩
    · have hw' := hw.symm
      subst hw'
      go_upto_region 4 with fail
      go_loopw [9] (fun j wr => (j = .int .i64 1 ∧ wr = W) ∨ (j = .int .i64 0 ∧ OKS W base g cap x y wr)) (fun j _ => secNo j)
      case atStart => exact .inl ⟨rfl, rfl⟩
      case round =>
        rcases hrel with ⟨rfl, hw⟩ | ⟨rfl, hok⟩
        · have hw' := hw.symm
          subst hw'

          have z0 : ∀ p : Wk (fun W2 => IS W W2 base g cap x y), p.W.cell? ⟨g, 0, none⟩ = some (.int .i64 x.no) := fun p => (R2.of p.h.row).c0
          have z1 : ∀ p : Wk (fun W2 => IS W W2 base g cap x y), p.W.cell? ⟨g, 1, none⟩ = some (.int .i64 x.p.gen) := fun p => (R2.of p.h.row).c1
          have z2 : ∀ p : Wk (fun W2 => IS W W2 base g cap x y), p.W.cell? ⟨g, 2, none⟩ = some (.int .i64 x.p.s) := fun p => (R2.of p.h.row).c2
          have z3 : ∀ p : Wk (fun W2 => IS W W2 base g cap x y), p.W.cell? ⟨g, 3, none⟩ = some (.int .i64 x.p.k) := fun p => (R2.of p.h.row).c3
          have z4 : ∀ p : Wk (fun W2 => IS W W2 base g cap x y), p.W.cell? ⟨g, 4, none⟩ = some (.int .i64 x.p.m) := fun p => (R2.of p.h.row).c4
          have z5 : ∀ p : Wk (fun W2 => IS W W2 base g cap x y), p.W.cell? ⟨g, 5, none⟩ = some (.int .i64 x.p.c) := fun p => (R2.of p.h.row).c5
          have z6 : ∀ p : Wk (fun W2 => IS W W2 base g cap x y), p.W.cell? ⟨g, 6, none⟩ = some (.int .i64 x.p.len) := fun p => (R2.of p.h.row).c6
          have z7 : ∀ p : Wk (fun W2 => IS W W2 base g cap x y), p.W.cell? ⟨g, 7, none⟩ = some (.int .i64 x.p.a) := fun p => (R2.of p.h.row).c7
          have z8 : ∀ p : Wk (fun W2 => IS W W2 base g cap x y), p.W.cell? ⟨g, 8, none⟩ = some (.int .i64 x.p.b) := fun p => (R2.of p.h.row).c8
          have z9 : ∀ p : Wk (fun W2 => IS W W2 base g cap x y), p.W.cell? ⟨g, 9, none⟩ = some (.int .u32 (x.p.sum : Int)) := fun p => (R2.of p.h.row).c9
          have z10 : ∀ p : Wk (fun W2 => IS W W2 base g cap x y), p.W.cell? ⟨g, 10, none⟩ = some (.int .i64 y.no) := fun p => (R2.of p.h.row).c10
          have z11 : ∀ p : Wk (fun W2 => IS W W2 base g cap x y), p.W.cell? ⟨g, 11, none⟩ = some (.int .i64 y.p.gen) := fun p => (R2.of p.h.row).c11
          have z12 : ∀ p : Wk (fun W2 => IS W W2 base g cap x y), p.W.cell? ⟨g, 12, none⟩ = some (.int .i64 y.p.s) := fun p => (R2.of p.h.row).c12
          have z13 : ∀ p : Wk (fun W2 => IS W W2 base g cap x y), p.W.cell? ⟨g, 13, none⟩ = some (.int .i64 y.p.k) := fun p => (R2.of p.h.row).c13
          have z14 : ∀ p : Wk (fun W2 => IS W W2 base g cap x y), p.W.cell? ⟨g, 14, none⟩ = some (.int .i64 y.p.m) := fun p => (R2.of p.h.row).c14
          have z15 : ∀ p : Wk (fun W2 => IS W W2 base g cap x y), p.W.cell? ⟨g, 15, none⟩ = some (.int .i64 y.p.c) := fun p => (R2.of p.h.row).c15
          have z16 : ∀ p : Wk (fun W2 => IS W W2 base g cap x y), p.W.cell? ⟨g, 16, none⟩ = some (.int .i64 y.p.len) := fun p => (R2.of p.h.row).c16
          have z17 : ∀ p : Wk (fun W2 => IS W W2 base g cap x y), p.W.cell? ⟨g, 17, none⟩ = some (.int .i64 y.p.a) := fun p => (R2.of p.h.row).c17
          have z18 : ∀ p : Wk (fun W2 => IS W W2 base g cap x y), p.W.cell? ⟨g, 18, none⟩ = some (.int .i64 y.p.b) := fun p => (R2.of p.h.row).c18
          have z19 : ∀ p : Wk (fun W2 => IS W W2 base g cap x y), p.W.cell? ⟨g, 19, none⟩ = some (.int .u32 (y.p.sum : Int)) := fun p => (R2.of p.h.row).c19
          go_upto_region 4 with fail
          have gd := HI.out.drew
          refine wp_region_wk (fun W2 => IS W W2 base g cap x y) (by kernel_rfl) (by kernel_rfl) gd ?_
          have ne : Nonempty (Wk (fun W2 => IS W W2 base g cap x y)) := ⟨⟨_, gd⟩⟩
          clear gd
          repeat (refine wpQuiet_step (fun K hK => ?_); go_simp; first
            | (refine hK _ ?_; clear hK K)
            | (apply Exists.intro
               refine ⟨fun p => ?_, hK _ ?_⟩
               (go_at_call 93; exact (hC _).mono fun _ _ h => ⟨h.1, ⟨_, IS.below p.h h.2⟩, rfl⟩)
               clear hK K))
          refine wpQuiet_nil ?_
          intro p
          have HI2 : Hid (IS W p.W base g cap x y) := Lib.hid p.h
          generalize p.W = W2 at HI2 ⊢
          clear z0 z1 z2 z3 z4 z5 z6 z7 z8 z9 z10 z11 z12 z13 z14 z15 z16 z17 z18 z19 ne p
          clear hC
          by_cases hlt : x.p.gen < y.p.gen
          · have e1 : cmpI x.p.gen y.p.gen = -1 := if_pos hlt
            have e2 : srt2 x y = (y, x) := if_pos hlt
            rw [e1]
            have HE2 := Lib.hid e2
            clear e1 e2 hlt
            obtain ⟨c0, c1, c2, c3, c4, c5, c6, c7, c8, c9, c10, c11, c12, c13, c14, c15, c16, c17, c18, c19, f0, f1, f2, f3, f4, f5, f6, f7, f8, f9, f10, f11, f12, f13, f14, f15, f16, f17, f18, f19⟩ := R2.of HI2.out.row
            go_upto_region 6 with fail
            go_region_with fail
            all_goals clear c0 c1 c2 c3 c4 c5 c6 c7 c8 c9 c10 c11 c12 c13 c14 c15 c16 c17 c18 c19 f0 f1 f2 f3 f4 f5 f6 f7 f8 f9 f10 f11 f12 f13 f14 f15 f16 f17 f18 f19
            all_goals go_wp2_with fail
            all_goals refine ⟨.inr ⟨rfl, ?_⟩, by simp [secNo]⟩
            all_goals refine ⟨?_, ?_⟩
            all_goals try rw [HE2.out]
            all_goals first | with_reducible exact HI2.out.swap_a.1.drew | with_reducible exact HI2.out.swap_a.2.drew | with_reducible exact HI2.out.swap_b.1.drew | with_reducible exact HI2.out.swap_b.2.drew
          · have e1 : cmpI x.p.gen y.p.gen = 0 ∨ cmpI x.p.gen y.p.gen = 1 := by unfold cmpI; rw [if_neg hlt]; split <;> omega
            have e2 : srt2 x y = (x, y) := if_neg hlt
            have HE2 := Lib.hid e2
            clear e2 hlt
            rcases e1 with e1 | e1
            all_goals rw [e1]
            all_goals clear e1
            all_goals go_wp2_with fail
            all_goals refine ⟨.inr ⟨rfl, ?_⟩, by simp [secNo]⟩
            all_goals refine ⟨?_, HI2.out.done.2⟩
            all_goals rw [HE2.out]
            all_goals exact HI2.out.done.1
        · have hokd := hok.drew
          go_upto_region 4 with fail
          have HN : Hid (∀ n, OKS W base g cap x y (wr.drewN n)) := Lib.hid (fun n => hok.drewN n)
          clear hokd hok hC
          go_quiet (fail)
          go_wp2_with fail
          exact ⟨.inr ⟨rfl, HN.out _⟩, by simp [secNo]⟩
    · go_wp2
      go_end0
      exact ⟨rfl, hok.row, hok.ap⟩
end Go.Proofs.YtfpnlaafefdcaaaDoor
namespace Go.Proofs.YtfpnlaafefdcaaaDoor
open Go.RowKit

def fvS : Value := .func (.func 93) #[] #[]
set_option maxRecDepth 100000 in
set_option maxHeartbeats 1000000 in
theorem ins01_any (v : Value) (n : Nat) (hn : n ≤ 1) (w : World) : Calls Tryd.prog 141 #[v, .int .i64 0, .int .i64 (n : Int), .func (.func 93) #[] #[]] w fun e w' => e = .returned (.tuple #[]) ∧ w = w' := by
  have d0 : decide ((1 : Int) < (n : Int)) = false := decide_eq_false (by omega)
  have d1 : decide (1 < n) = false := decide_eq_false (by omega)
  have hw1 : IntKind.i64.wrap 1 = 1 := by decide
  go_enter Tryd.func141, Tryd.ntmps141
  go_upto_region 1 with fail
  go_loopw [8] (fun i wr => i = .int .i64 1 ∧ wr = w) (fun _ _ => 0)
  case atStart => exact ⟨rfl, rfl⟩
  case round =>
    obtain ⟨rfl, rfl⟩ := hrel
    go_wp2
    go_end0
    exact ⟨rfl, rfl⟩
set_option maxRecDepth 100000 in
set_option maxHeartbeats 1000000 in
theorem stab_any (v : Value) (n : Nat) (hn : n ≤ 2) (w : World) (P : World → Prop) (hI : Calls Tryd.prog 141 #[v, .int .i64 0, .int .i64 (n : Int), .func (.func 93) #[] #[]] w fun e w' => e = .returned (.tuple #[]) ∧ P w') :
    Calls Tryd.prog 127 #[v, .int .i64 (n : Int), .func (.func 93) #[] #[]] w fun e w' => e = .returned (.tuple #[]) ∧ P w' := by
  have d0 : decide ((20 : Int) ≤ (n : Int)) = false := decide_eq_false (by omega)
  have d1 : decide (20 ≤ n) = false := decide_eq_false (by omega)
  have d2 : decide ((20 : Int) < (n : Int)) = false := decide_eq_false (by omega)
  have d3 : decide (20 < n) = false := decide_eq_false (by omega)
  go_enter Tryd.func127, Tryd.ntmps127
  go_upto_region 2 with fail
  go_loopw [7, 8] (fun a b wr => a = .int .i64 0 ∧ b = .int .i64 20 ∧ wr = w) (fun _ _ _ => 0)
  case atStart => exact ⟨rfl, rfl, rfl⟩
  case round =>
    obtain ⟨rfl, rfl, rfl⟩ := hrel
    go_upto_region 7 with (go_at_call 141; refine hI.mono ?_; rintro e w2 ⟨rfl, hp⟩; have HP := Lib.hid hp; clear hp)
    go_loopw [6] (fun b wr => b = .int .i64 20 ∧ wr = w2) (fun _ _ => 0)
    case atStart => exact ⟨rfl, rfl⟩
    case round =>
      obtain ⟨rfl, rfl⟩ := hrel
      go_wp2
      go_end0
      exact ⟨rfl, HP.out⟩
/-- At most two, the greatest generation first. -/
def srtL : List SL → List SL
  | [x, y] => [(srt2 x y).1, (srt2 x y).2]
  | l => l
theorem srtL_len (l : List SL) : (srtL l).length = l.length := by
  unfold srtL; split <;> rfl
def slCells (l : List SL) : List Value := l.flatMap SL.cells
theorem slCells_len (l : List SL) : (slCells l).length = l.length * 10 := by
  induction l with
  | nil => rfl
  | cons x r ih => unfold slCells at *; rw [List.flatMap_cons, List.length_append, ih, SL.cells_len, List.length_cons]; omega
theorem sortSlots_any {W : World} {base : Nat} {v : Value} (L : List SL) (hL : L.length ≤ 2) (hb : base ≤ W.heap.size) (hown : W.ownsRow base 85 10 v L.length (slCells L)) :
    Calls Tryd.prog 92 #[v, .func (.func 93) #[] #[]] W fun e W' => e = .returned (.tuple #[]) ∧ W'.ownsRow base 85 10 v L.length (slCells (srtL L)) ∧ Ap (fun k => v.ownBlock = some k) W W' := by
  have hS : ∀ X : World, X = W → Calls Tryd.prog 127 #[v, .int .i64 (L.length : Int), .func (.func 93) #[] #[]] X fun e w' => e = .returned (.tuple #[]) ∧ (w'.ownsRow base 85 10 v L.length (slCells (srtL L)) ∧ Ap (fun k => v.ownBlock = some k) W w') := by
    rintro X rfl
    refine stab_any v L.length hL X _ ?_
    match L, hL, hown with
    | [], _, hown => exact (ins01_any v 0 (by omega) X).mono fun e w' h => ⟨h.1, by rw [← h.2]; exact ⟨hown, Ap.refl _⟩⟩
    | [x], _, hown => exact (ins01_any v 1 (by omega) X).mono fun e w' h => ⟨h.1, by rw [← h.2]; exact ⟨hown, Ap.refl _⟩⟩
    | [x, y], _, hown =>
      obtain ⟨g, cap, rfl⟩ := ownsRow_succ (k := 1) hown
      have hc : slCells [x, y] = x.cells ++ y.cells := by unfold slCells; simp
      have hc2 : slCells (srtL [x, y]) = (srt2 x y).1.cells ++ (srt2 x y).2.cells := by unfold slCells srtL; simp
      rw [hc2]
      rw [hc] at hown
      refine (ins2_any x y hown).mono ?_
      rintro e w' ⟨h1, h2, h3⟩
      exact ⟨h1, h2, h3.weak (fun k hk => by subst hk; rfl)⟩
    | _ :: _ :: _ :: _, h, _ => simp at h
  have hv : (v = .slice none 0 0 ∧ L.length = 0) ∨ ∃ g cap, v = .slice (some ⟨g, 0, none⟩) L.length cap := by
    rcases hown.2 with h | ⟨g, cap, _, h, _⟩
    · exact .inl h
    · exact .inr ⟨g, cap, h⟩
  clear hown
  rcases hv with ⟨rfl, h0⟩ | ⟨g, cap, rfl⟩
  · rw [h0] at hS ⊢
    rw [show ((0 : Nat) : Int) = 0 from rfl] at hS
    go_enter Tryd.func92, Tryd.ntmps92
    go_wp2_with (go_at_call 127; refine (hS _ rfl).mono ?_; rintro e w2 ⟨rfl, hp⟩; have HP := Lib.hid hp; clear hp)
    go_end0
    exact ⟨rfl, HP.out⟩
  · go_enter Tryd.func92, Tryd.ntmps92
    go_wp2_with (go_at_call 127; refine (hS _ rfl).mono ?_; rintro e w2 ⟨rfl, hp⟩; have HP := Lib.hid hp; clear hp)
    go_end0
    exact ⟨rfl, HP.out⟩
end Go.Proofs.YtfpnlaafefdcaaaDoor
