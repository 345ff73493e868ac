/- Scripts: what stands while a text is read. -/
import Derived.Test.YtfmpbohiahjafaaDoorScrQ
namespace Go.Proofs.YtfmpbohiahjafaaDoor
open Go.RowKit Go.Lib Go.Shelf Go.Sort

theorem drop_one {P : List (List UInt8)} {k : Nat} (h : k + 1 = P.length) : P.drop k = [P.getD k []] := by
  rw [List.drop_eq_getElem_cons (by omega), List.drop_eq_nil_of_le (by omega), List.getD, List.getElem?_eq_getElem (by omega)]; rfl
theorem drop_two {P : List (List UInt8)} {k : Nat} (h : k + 1 < P.length) : ∃ q R, P.drop k = P.getD k [] :: q :: R ∧ P.drop (k + 1) = q :: R := by
  refine ⟨P[k + 1], P.drop (k + 1 + 1), ?_, List.drop_eq_getElem_cons h⟩
  rw [List.drop_eq_getElem_cons (by omega), List.drop_eq_getElem_cons h, List.getD, List.getElem?_eq_getElem (by omega)]; rfl
theorem gp_bad {P : List (List UInt8)} {k : Nat} {acc : List DD} (hk : k < nLn P) (h : decide (k + 1 < P.length) = false ∨ psD (P.getD k []) = none) : gp (P.drop k) acc = ([], ((acc.length + 2 : Nat) : Int), 6) := by
  have hle : nLn P ≤ P.length := by unfold nLn; split <;> omega
  by_cases h1 : k + 1 < P.length
  · obtain ⟨q, R, h2, _⟩ := drop_two h1
    rw [h2, gp]
    rcases h with h | h
    · rw [decide_eq_true h1] at h; cases h
    · rw [h]
  · have h2 := drop_one (P := P) (k := k) (by omega)
    rw [h2, gp, if_neg]
    intro e
    have hl := last_drop (P := P) (k := k) (by omega)
    rw [h2, e] at hl
    have : nLn P = P.length - 1 := by unfold nLn; rw [hl, if_pos (by rfl)]
    omega
theorem gp_long {P : List (List UInt8)} {k : Nat} {acc : List DD} {d : DD} (h1 : k + 1 < P.length) (h : psD (P.getD k []) = some d) (hl : acc.length = 4096) : gp (P.drop k) acc = ([], ((acc.length + 2 : Nat) : Int), 7) := by
  obtain ⟨q, R, h2, _⟩ := drop_two h1
  rw [h2, gp, h]
  show (if _ then _ else _) = _
  rw [if_pos hl]
theorem gp_ok {P : List (List UInt8)} {k : Nat} {acc : List DD} {d : DD} (h1 : k + 1 < P.length) (h : psD (P.getD k []) = some d) (hl : acc.length ≠ 4096) : gp (P.drop k) acc = gp (P.drop (k + 1)) (acc ++ [d]) := by
  obtain ⟨q, R, h2, h3⟩ := drop_two h1
  rw [h2, h3, gp, h]
  show (if _ then _ else _) = _
  rw [if_neg hl]
theorem gp_done {P : List (List UInt8)} {acc : List DD} (h : nLn P < P.length) : gp (P.drop (nLn P)) acc = (acc, 0, 0) := by
  have hl : P.getLast? = some [] := by
    unfold nLn at h
    split at h
    · assumption
    · omega
  have hn : nLn P + 1 = P.length := by unfold nLn; rw [if_pos hl]; omega
  have h2 := drop_one hn
  have h3 := last_drop (P := P) (k := nLn P) h
  rw [h2, hl] at h3
  have h4 : P.getD (nLn P) [] = [] := by
    injection h3 with h3; exact h3.symm
  rw [h2, h4, gp, if_pos rfl]
theorem getS_none {T : List UInt8} (h : (10 : UInt8) ∉ T) : getS T = (SU.zero, [], 1, 6) := by unfold getS; rw [spl_none h]
theorem getS_bad {one rest : List UInt8} (h : (10 : UInt8) ∉ one) (hp : psS one = none) : getS (one ++ 10 :: rest) = (SU.zero, [], 1, 6) := by
  unfold getS
  rw [spl_app _ h]
  cases hs : spl 10 rest with
  | nil => exact absurd hs (spl_ne _ _)
  | cons q R =>
    show (match psS one with | none => _ | some c => _) = _
    rw [hp]
theorem getS_in {one rest : List UInt8} {c : SU} (h : (10 : UInt8) ∉ one) (hp : psS one = some c) : getS (one ++ 10 :: rest) = if (gp (spl 10 rest) []).2.2 = 0 then (c, (gp (spl 10 rest) []).1, 0, 0) else (SU.zero, [], (gp (spl 10 rest) []).2.1, (gp (spl 10 rest) []).2.2) := by
  unfold getS
  rw [spl_app _ h]
  cases hs : spl 10 rest with
  | nil => exact absurd hs (spl_ne _ _)
  | cons q R =>
    show (match psS one with | none => _ | some c => _) = _
    rw [hp]
/-! ### the world -/
abbrev suO (c : SU) : Obj := .cells #[.int .i64 c.s, .int .i64 c.k, .int .i64 c.m, .int .i64 c.c, .int .i64 c.l] 35 (0, 0)
/-- The world while a text is read: the results' boxes, the setup's, the deeds', the rest of the text. -/
structure GW (w A : World) (B b2 b3 b4 b5 b9 b11 bT : Nat) (c : SU) (L : List DD) (v t : Value) : Prop where
  z2 : A.heap[b2]? = some (suO SU.zero)
  r3 : Boxed A b3 36 (.slice none 0 0)
  r4 : Boxed A b4 3 (.int .i64 0)
  r5 : Boxed A b5 26 (.int .i64 0)
  s9 : A.heap[b9]? = some (suO c)
  r11 : Boxed A b11 36 v
  rT : Boxed A bT 9 t
  row : A.ownsRow B 24 5 v L.length (L.flatMap DD.enc)
  bel : Below w.heap.size w A
  sz : B ≤ A.heap.size
  ord : w.heap.size ≤ b2 ∧ b2 < b3 ∧ b3 < b4 ∧ b4 < b5 ∧ b5 < b9 ∧ b9 < b11 ∧ b11 < bT ∧ bT < B
section
variable {w A C : World} {B b2 b3 b4 b5 b9 b11 bT : Nat} {c : SU} {L : List DD} {v t : Value}
theorem GW.below (h : GW w A B b2 b3 b4 b5 b9 b11 bT c L v t) (hb : Below A.heap.size A C) : GW w C B b2 b3 b4 b5 b9 b11 bT c L v t :=
  ⟨(hb.block _ (Array.getElem?_eq_some_iff.1 h.z2).1).trans h.z2, (hb.block _ h.r3.lt).trans h.r3, (hb.block _ h.r4.lt).trans h.r4, (hb.block _ h.r5.lt).trans h.r5, (hb.block _ (Array.getElem?_eq_some_iff.1 h.s9).1).trans h.s9, (hb.block _ h.r11.lt).trans h.r11, (hb.block _ h.rT.lt).trans h.rT, ownS_keep h.row hb, h.bel.trans (hb.mono h.bel.size), Nat.le_trans h.sz hb.size, h.ord⟩
theorem own_row {A C : World} {row : Option Nat} {B B2 e s n : Nat} {v : Value} {xs : List Value} (h : A.ownsRow B e s v n xs) (hg : A.grownBy C row) (hr : ∀ r, row = some r → B2 ≤ r ∧ ∃ o : Obj, A.heap[r]? = some o ∧ o.isCells = false) : C.ownsRow B e s v n xs := by
  refine ⟨h.1, ?_⟩
  rcases h.2 with hn | ⟨g, cap, cur, hv, hgB, hh, r⟩
  · exact .inl hn
  · exact .inr ⟨g, cap, cur, hv, hgB, own_blk hg hr hh rfl, r⟩
theorem GW.own {row : Option Nat} {B2 : Nat} (h : GW w A B b2 b3 b4 b5 b9 b11 bT c L v t) (hB : w.heap.size ≤ B2) (hg : A.grownBy C row) (hr : ∀ r, row = some r → B2 ≤ r ∧ ∃ o : Obj, A.heap[r]? = some o ∧ o.isCells = false) : GW w C B b2 b3 b4 b5 b9 b11 bT c L v t :=
  ⟨own_blk hg hr h.z2 rfl, own_blk hg hr h.r3 rfl, own_blk hg hr h.r4 rfl, own_blk hg hr h.r5 rfl, own_blk hg hr h.s9 rfl, own_blk hg hr h.r11 rfl, own_blk hg hr h.rT rfl, own_row h.row hg hr, h.bel.grown hg h.bel.size (fun g e => Nat.le_trans hB (hr g e).1), Nat.le_trans h.sz hg.size, h.ord⟩
theorem own_set {A : World} {B e s n b k : Nat} {v u : Value} {xs : List Value} (h : A.ownsRow B e s v n xs) (hb : b < B) : (A.setCell ⟨b, k, none⟩ u).ownsRow B e s v n xs := by
  refine ⟨h.1, ?_⟩
  rcases h.2 with hn | ⟨g, cap, cur, hv, hgB, hh, r⟩
  · exact .inl hn
  · exact .inr ⟨g, cap, cur, hv, hgB, (heap_set (by omega)).trans hh, r⟩
theorem GW.setT (h : GW w A B b2 b3 b4 b5 b9 b11 bT c L v t) (u : Value) : GW w (A.setCell ⟨bT, 0, none⟩ u) B b2 b3 b4 b5 b9 b11 bT c L v u := by
  have o := h.ord
  exact ⟨(heap_set (by omega)).trans h.z2, boxed_set_other h.r3 (by omega), boxed_set_other h.r4 (by omega), boxed_set_other h.r5 (by omega), (heap_set (by omega)).trans h.s9, boxed_set_other h.r11 (by omega), boxed_set h.rT u, own_set h.row (by omega), below_set h.bel (by omega), by rw [World.size_setCell]; exact h.sz, h.ord⟩
theorem GW.app {W : World} {v' : Value} {d : DD} (h : GW w A B b2 b3 b4 b5 b9 b11 bT c L v t) (ho : W.ownsRow B 24 5 v' (L.length + 1) (L.flatMap DD.enc ++ d.enc)) (hg : A.grownBy W v.ownBlock) : GW w (W.setCell ⟨b11, 0, none⟩ v') B b2 b3 b4 b5 b9 b11 bT c (L ++ [d]) v' t := by
  have o := h.ord
  have hr : ∀ g, v.ownBlock = some g → B ≤ g := fun g hgg => (World.ownsRow.lt h.row g hgg).1
  have k : ∀ {b : Nat} {x : Obj}, A.heap[b]? = some x → b < B → W.heap[b]? = some x := fun {b x} hx hb => (hg.block b (Array.getElem?_eq_some_iff.1 hx).1 (fun e => by have := hr b e.symm; omega)).trans hx
  refine ⟨(heap_set (by omega)).trans (k h.z2 (by omega)), boxed_set_other (k h.r3 (by omega)) (by omega), boxed_set_other (k h.r4 (by omega)) (by omega), boxed_set_other (k h.r5 (by omega)) (by omega), (heap_set (by omega)).trans (k h.s9 (by omega)), boxed_set (k h.r11 (by omega)) v', boxed_set_other (k h.rT (by omega)) (by omega), ?_, below_set (h.bel.grown hg h.bel.size (fun g e => by have := hr g e; omega)) (by omega), by rw [World.size_setCell]; exact Nat.le_trans h.sz hg.size, h.ord⟩
  rw [List.length_append, List.length_singleton, flat_snoc]
  exact own_set ho (by omega)
end
theorem su_put {W : World} {b : Nat} {c : SU} (h : W.heap[b]? = some (suO c)) (u0 u1 u2 u3 u4 : Int) :
    (((((W.setCell ⟨b, 0, none⟩ (.int .i64 u0)).setCell ⟨b, 1, none⟩ (.int .i64 u1)).setCell ⟨b, 2, none⟩ (.int .i64 u2)).setCell ⟨b, 3, none⟩ (.int .i64 u3)).setCell ⟨b, 4, none⟩ (.int .i64 u4)).heap[b]? = some (suO ⟨u0, u1, u2, u3, u4⟩) := by
  have st : ∀ {X : World} {cs : Array Value} {k : Nat} {u : Value}, X.heap[b]? = some (.cells cs 35 (0, 0)) → (X.setCell ⟨b, k, none⟩ u).heap[b]? = some (.cells (cs.set! k u) 35 (0, 0)) := by
    intro X cs k u hx
    show (X.heap.modify b _)[b]? = _
    rw [Array.getElem?_modify, if_pos rfl, hx]
    rfl
  exact st (st (st (st (st h))))
/-- The results are laid. -/
def GDone (A : World) (b2 b3 b4 b5 : Nat) (c : SU) (v : Value) (at' e : Int) : Prop := A.heap[b2]? = some (suO c) ∧ Boxed A b3 36 v ∧ Boxed A b4 3 (.int .i64 at') ∧ Boxed A b5 26 (.int .i64 e)
def putAll (W : World) (b2 b3 b4 b5 : Nat) (c : SU) (v : Value) (at' e : Int) : World := (((((((W.setCell ⟨b2, 0, none⟩ (.int .i64 c.s)).setCell ⟨b2, 1, none⟩ (.int .i64 c.k)).setCell ⟨b2, 2, none⟩ (.int .i64 c.m)).setCell ⟨b2, 3, none⟩ (.int .i64 c.c)).setCell ⟨b2, 4, none⟩ (.int .i64 c.l)).setCell ⟨b3, 0, none⟩ v).setCell ⟨b4, 0, none⟩ (.int .i64 at')).setCell ⟨b5, 0, none⟩ (.int .i64 e)
theorem gdone_put {W : World} {b2 b3 b4 b5 : Nat} {c0 : SU} {v0 v : Value} {a0 e0 at' e : Int} (h : GDone W b2 b3 b4 b5 c0 v0 a0 e0) (o : b2 < b3 ∧ b3 < b4 ∧ b4 < b5) (c : SU) : GDone (putAll W b2 b3 b4 b5 c v at' e) b2 b3 b4 b5 c v at' e := by
  obtain ⟨h2, h3, h4, h5⟩ := h
  unfold putAll
  refine ⟨?_, ?_, ?_, ?_⟩
  · rw [heap_set (by omega), heap_set (by omega), heap_set (by omega)]
    exact su_put h2 _ _ _ _ _
  · refine boxed_set_other (boxed_set_other (boxed_set (v := v0) ?_ v) (by omega)) (by omega)
    exact boxed_set_other (boxed_set_other (boxed_set_other (boxed_set_other (boxed_set_other h3 (by omega)) (by omega)) (by omega)) (by omega)) (by omega)
  · refine boxed_set_other (boxed_set (v := .int .i64 a0) ?_ _) (by omega)
    exact boxed_set_other (boxed_set_other (boxed_set_other (boxed_set_other (boxed_set_other (boxed_set_other h4 (by omega)) (by omega)) (by omega)) (by omega)) (by omega)) (by omega)
  · refine boxed_set (v := .int .i64 e0) ?_ _
    exact boxed_set_other (boxed_set_other (boxed_set_other (boxed_set_other (boxed_set_other (boxed_set_other (boxed_set_other h5 (by omega)) (by omega)) (by omega)) (by omega)) (by omega)) (by omega)) (by omega)
theorem below_all {B : Nat} {w W : World} {b2 b3 b4 b5 : Nat} {c : SU} {v : Value} {a e : Int} (h : Below B w W) (o : B ≤ b2 ∧ b2 < b3 ∧ b3 < b4 ∧ b4 < b5) : Below B w (putAll W b2 b3 b4 b5 c v a e) := by
  unfold putAll
  exact below_set (below_set (below_set (below_put5 h o.1) (by omega)) (by omega)) (by omega)
theorem heap_all {W : World} {b2 b3 b4 b5 i : Nat} {c : SU} {v : Value} {a e : Int} (h : b5 < i) (o : b2 < b3 ∧ b3 < b4 ∧ b4 < b5) : (putAll W b2 b3 b4 b5 c v a e).heap[i]? = W.heap[i]? := by
  unfold putAll
  rw [heap_set (by omega), heap_set (by omega), heap_set (by omega), heap_set (by omega), heap_set (by omega), heap_set (by omega), heap_set (by omega), heap_set (by omega)]
theorem GDone.own {A C : World} {row : Option Nat} {B b2 b3 b4 b5 : Nat} {c : SU} {v : Value} {a e : Int} (h : GDone A b2 b3 b4 b5 c v a e) (hg : A.grownBy C row) (hr : ∀ r, row = some r → B ≤ r ∧ ∃ o : Obj, A.heap[r]? = some o ∧ o.isCells = false) : GDone C b2 b3 b4 b5 c v a e :=
  ⟨own_blk hg hr h.1 rfl, own_blk hg hr h.2.1 rfl, own_blk hg hr h.2.2.1 rfl, own_blk hg hr h.2.2.2 rfl⟩
/-- What the walk reads between the stores of the results. -/
theorem gsteps {W : World} {b2 b3 b4 b5 : Nat} {c0 : SU} {v0 : Value} {a0 e0 : Int} (h : GDone W b2 b3 b4 b5 c0 v0 a0 e0) (o : b2 < b3 ∧ b3 < b4 ∧ b4 < b5) (u0 u1 u2 u3 u4 v a : Value) :
    ((((((W.setCell ⟨b2, 0, none⟩ u0).setCell ⟨b2, 1, none⟩ u1).setCell ⟨b2, 2, none⟩ u2).setCell ⟨b2, 3, none⟩ u3).setCell ⟨b2, 4, none⟩ u4).cell? ⟨b3, 0, none⟩ = some v0 ∧ (((((W.setCell ⟨b2, 0, none⟩ u0).setCell ⟨b2, 1, none⟩ u1).setCell ⟨b2, 2, none⟩ u2).setCell ⟨b2, 3, none⟩ u3).setCell ⟨b2, 4, none⟩ u4).frozen? ⟨b3, 0, none⟩ = false) ∧
    (((((((W.setCell ⟨b2, 0, none⟩ u0).setCell ⟨b2, 1, none⟩ u1).setCell ⟨b2, 2, none⟩ u2).setCell ⟨b2, 3, none⟩ u3).setCell ⟨b2, 4, none⟩ u4).setCell ⟨b3, 0, none⟩ v).cell? ⟨b4, 0, none⟩ = some (.int .i64 a0) ∧ ((((((W.setCell ⟨b2, 0, none⟩ u0).setCell ⟨b2, 1, none⟩ u1).setCell ⟨b2, 2, none⟩ u2).setCell ⟨b2, 3, none⟩ u3).setCell ⟨b2, 4, none⟩ u4).setCell ⟨b3, 0, none⟩ v).frozen? ⟨b4, 0, none⟩ = false) ∧
    ((((((((W.setCell ⟨b2, 0, none⟩ u0).setCell ⟨b2, 1, none⟩ u1).setCell ⟨b2, 2, none⟩ u2).setCell ⟨b2, 3, none⟩ u3).setCell ⟨b2, 4, none⟩ u4).setCell ⟨b3, 0, none⟩ v).setCell ⟨b4, 0, none⟩ a).cell? ⟨b5, 0, none⟩ = some (.int .i64 e0) ∧ (((((((W.setCell ⟨b2, 0, none⟩ u0).setCell ⟨b2, 1, none⟩ u1).setCell ⟨b2, 2, none⟩ u2).setCell ⟨b2, 3, none⟩ u3).setCell ⟨b2, 4, none⟩ u4).setCell ⟨b3, 0, none⟩ v).setCell ⟨b4, 0, none⟩ a).frozen? ⟨b5, 0, none⟩ = false) := by
  obtain ⟨h2, h3, h4, h5⟩ := h
  have k3 : Boxed (((((W.setCell ⟨b2, 0, none⟩ u0).setCell ⟨b2, 1, none⟩ u1).setCell ⟨b2, 2, none⟩ u2).setCell ⟨b2, 3, none⟩ u3).setCell ⟨b2, 4, none⟩ u4) b3 _ v0 := boxed_set_other (boxed_set_other (boxed_set_other (boxed_set_other (boxed_set_other h3 (by omega)) (by omega)) (by omega)) (by omega)) (by omega)
  have k4 : Boxed ((((((W.setCell ⟨b2, 0, none⟩ u0).setCell ⟨b2, 1, none⟩ u1).setCell ⟨b2, 2, none⟩ u2).setCell ⟨b2, 3, none⟩ u3).setCell ⟨b2, 4, none⟩ u4).setCell ⟨b3, 0, none⟩ v) b4 _ (.int .i64 a0) := boxed_set_other (boxed_set_other (boxed_set_other (boxed_set_other (boxed_set_other (boxed_set_other h4 (by omega)) (by omega)) (by omega)) (by omega)) (by omega)) (by omega)
  have k5 : Boxed (((((((W.setCell ⟨b2, 0, none⟩ u0).setCell ⟨b2, 1, none⟩ u1).setCell ⟨b2, 2, none⟩ u2).setCell ⟨b2, 3, none⟩ u3).setCell ⟨b2, 4, none⟩ u4).setCell ⟨b3, 0, none⟩ v).setCell ⟨b4, 0, none⟩ a) b5 _ (.int .i64 e0) := boxed_set_other (boxed_set_other (boxed_set_other (boxed_set_other (boxed_set_other (boxed_set_other (boxed_set_other h5 (by omega)) (by omega)) (by omega)) (by omega)) (by omega)) (by omega)) (by omega)
  exact ⟨⟨k3.cell, k3.frozen⟩, ⟨k4.cell, k4.frozen⟩, k5.cell, k5.frozen⟩
theorem GW.gd {w A : World} {B b2 b3 b4 b5 b9 b11 bT : Nat} {c : SU} {L : List DD} {v t : Value} (h : GW w A B b2 b3 b4 b5 b9 b11 bT c L v t) : GDone A b2 b3 b4 b5 SU.zero (.slice none 0 0) 0 0 := ⟨h.z2, h.r3, h.r4, h.r5⟩
theorem su_cells {A : World} {b : Nat} {c : SU} (h : A.heap[b]? = some (suO c)) : (A.cell? ⟨b, 0, none⟩ = some (.int .i64 c.s) ∧ A.cell? ⟨b, 1, none⟩ = some (.int .i64 c.k) ∧ A.cell? ⟨b, 2, none⟩ = some (.int .i64 c.m) ∧ A.cell? ⟨b, 3, none⟩ = some (.int .i64 c.c) ∧ A.cell? ⟨b, 4, none⟩ = some (.int .i64 c.l)) ∧ ∀ o, A.frozen? ⟨b, o, none⟩ = false :=
  ⟨by refine ⟨?_, ?_, ?_, ?_, ?_⟩ <;> simp [World.cell?, h, suO], fun o => frozen_of_row A b o _ _ h⟩
end Go.Proofs.YtfmpbohiahjafaaDoor
