/- A call that is done to both, in a pair that lies in a block: the relations. -/
import Derived.Test.YtjhpheepimbbdaaGreatDoorZCluV
import Derived.Test.YtjhpheepimbbdaaGreatDoorZRdH
namespace Go.Proofs.YtjhpheepimbbdaaGreatDoor
open Go.RowKit Go.Maps

/-- The pair. -/
structure P5 (W : World) (p : Nat) (a v0 v1 v2 v3 : Value) : Prop where
  lt : p < W.heap.size
  c0 : W.cell? ⟨p, 0, none⟩ = some a
  c1 : W.cell? ⟨p, 1, none⟩ = some v0
  c2 : W.cell? ⟨p, 2, none⟩ = some v1
  c3 : W.cell? ⟨p, 3, none⟩ = some v2
  c4 : W.cell? ⟨p, 4, none⟩ = some v3
  f1 : W.frozen? ⟨p, 1, none⟩ = false
  f2 : W.frozen? ⟨p, 2, none⟩ = false
  f3 : W.frozen? ⟨p, 3, none⟩ = false
  f4 : W.frozen? ⟨p, 4, none⟩ = false
theorem P5.ap {S : Nat → Prop} {W W' : World} {p : Nat} {a v0 v1 v2 v3 : Value} (k : P5 W p a v0 v1 v2 v3) (z : Ap S W W') (hn : ¬ S p) : P5 W' p a v0 v1 v2 v3 :=
  ⟨Nat.lt_of_lt_of_le k.lt z.size, (z.cell k.lt hn _).trans k.c0, (z.cell k.lt hn _).trans k.c1, (z.cell k.lt hn _).trans k.c2, (z.cell k.lt hn _).trans k.c3, (z.cell k.lt hn _).trans k.c4,
    (z.frozen k.lt hn _).trans k.f1, (z.frozen k.lt hn _).trans k.f2, (z.frozen k.lt hn _).trans k.f3, (z.frozen k.lt hn _).trans k.f4⟩
theorem P5.new (w : World) (a v0 v1 v2 v3 : Value) (t : Nat) : P5 (w.alloc (.cells #[a, v0, v1, v2, v3] t)) w.heap.size a v0 v1 v2 v3 :=
  ⟨by simp, by simp [go_sem], by simp [go_sem], by simp [go_sem], by simp [go_sem], by simp [go_sem], frozen_of_row _ _ _ _ t (heap_alloc_new w _), frozen_of_row _ _ _ _ t (heap_alloc_new w _), frozen_of_row _ _ _ _ t (heap_alloc_new w _), frozen_of_row _ _ _ _ t (heap_alloc_new w _)⟩
def put5 (W : World) (p : Nat) (u0 u1 u2 u3 : Value) : World := (((W.setCell ⟨p, 1, none⟩ u0).setCell ⟨p, 2, none⟩ u1).setCell ⟨p, 3, none⟩ u2).setCell ⟨p, 4, none⟩ u3
theorem ap_put5 (W : World) (p : Nat) (u0 u1 u2 u3 : Value) : Ap (fun k => k = p) W (put5 W p u0 u1 u2 u3) := (((ap_put W p 1 _).trans (ap_put _ p 2 _)).trans (ap_put _ p 3 _)).trans (ap_put _ p 4 _)
theorem P5.put {W : World} {p : Nat} {a v0 v1 v2 v3 : Value} (k : P5 W p a v0 v1 v2 v3) (u0 u1 u2 u3 : Value) : P5 (put5 W p u0 u1 u2 u3) p a u0 u1 u2 u3 := by
  have n (V : World) (i j : Nat) (x : Value) (h : i ≠ j) := cell_putne V p i j x h
  unfold put5
  refine ⟨by simp only [World.size_setCell]; exact k.lt, ?_, ?_, ?_, ?_, ?_, ?_, ?_, ?_, ?_⟩
  · rw [n _ _ _ _ (by omega), n _ _ _ _ (by omega), n _ _ _ _ (by omega), n _ _ _ _ (by omega)]; exact k.c0
  · rw [n _ _ _ _ (by omega), n _ _ _ _ (by omega), n _ _ _ _ (by omega)]; exact cell_put k.c1 _
  · rw [n _ _ _ _ (by omega), n _ _ _ _ (by omega)]; exact cell_put ((n _ _ _ _ (by omega)).trans k.c2) _
  · rw [n _ _ _ _ (by omega)]; exact cell_put ((n _ _ _ _ (by omega)).trans ((n _ _ _ _ (by omega)).trans k.c3)) _
  · exact cell_put ((n _ _ _ _ (by omega)).trans ((n _ _ _ _ (by omega)).trans ((n _ _ _ _ (by omega)).trans k.c4))) _
  · simp only [World.frozen?_setCell]; exact k.f1
  · simp only [World.frozen?_setCell]; exact k.f2
  · simp only [World.frozen?_setCell]; exact k.f3
  · simp only [World.frozen?_setCell]; exact k.f4
/-- An act. -/
structure A5 (W : World) (b : Nat) (kind pos : Int) (text : ByteArray) (num by' : Int) : Prop where
  lt : b < W.heap.size
  c0 : W.cell? ⟨b, 0, none⟩ = some (.int .i64 kind)
  c1 : W.cell? ⟨b, 1, none⟩ = some (.int .i64 pos)
  c2 : W.cell? ⟨b, 2, none⟩ = some (.string text)
  c3 : W.cell? ⟨b, 3, none⟩ = some (.int .i64 num)
  c4 : W.cell? ⟨b, 4, none⟩ = some (.int .u32 by')
theorem A5.ap {S : Nat → Prop} {W W' : World} {b : Nat} {kind pos : Int} {text : ByteArray} {num by' : Int} (k : A5 W b kind pos text num by') (z : Ap S W W') (hn : ¬ S b) : A5 W' b kind pos text num by' :=
  ⟨Nat.lt_of_lt_of_le k.lt z.size, (z.cell k.lt hn _).trans k.c0, (z.cell k.lt hn _).trans k.c1, (z.cell k.lt hn _).trans k.c2, (z.cell k.lt hn _).trans k.c3, (z.cell k.lt hn _).trans k.c4⟩
theorem A5.new (w : World) (kind pos : Int) (text : ByteArray) (num by' : Int) (t : Nat) : A5 (w.alloc (.cells #[.int .i64 kind, .int .i64 pos, .string text, .int .i64 num, .int .u32 by'] t)) w.heap.size kind pos text num by' :=
  ⟨by simp, by simp [go_sem], by simp [go_sem], by simp [go_sem], by simp [go_sem], by simp [go_sem]⟩
/-- What a call does to the pair may touch these blocks. -/
def SP (h : DH) (p : Nat) (q : Nat) : Prop := h.S q ∨ q = p
section
variable {w W W' : World} {p : Nat} {h : DH} {M M' M2 : DM} {v0 v1 v2 v3 x0 x1 x2 x3 : Value} {s k m c kind pos num by' : Int} {text : ByteArray} {bt : Nat}
/-- The places within the call. -/
structure DQ (w W : World) (p : Nat) (h : DH) (M M' : DM) (v0 v1 v2 v3 : Value) (s k m c kind pos : Int) (text : ByteArray) (num by' : Int) : Prop where
  d : DevAt W h M
  r : RefAt W (.agg #[v0, v1, v2, v3]) M'
  bp : P5 W p (.pointer (some ⟨h.b, 0, none⟩)) v0 v1 v2 v3
  bg : Bx W w.heap.size (.int .i64 s) (.int .i64 k) (.int .i64 m) (.int .i64 c)
  ba : A5 W (w.heap.size + 1) kind pos text num by'
  a : Ap (SP h p) w W
  hs : ∀ q, h.S q → q < w.heap.size
  hp : p < w.heap.size
  np : ¬ h.S p
theorem DQ.below (z : DQ w W p h M M' v0 v1 v2 v3 s k m c kind pos text num by') (hb : Below W.heap.size W W') : DQ w W' p h M M' v0 v1 v2 v3 s k m c kind pos text num by' :=
  have A : Ap (fun _ => False) W W' := Ap.of_below hb
  ⟨z.d.below hb, z.r.below hb, z.bp.ap A id, z.bg.below hb, z.ba.ap A id, z.a.trans (Ap.of_below hb), z.hs, z.hp, z.np⟩
theorem DQ.drew (z : DQ w W p h M M' v0 v1 v2 v3 s k m c kind pos text num by') : DQ w W.drew p h M M' v0 v1 v2 v3 s k m c kind pos text num by' := z.below ((Below.refl _ _).drew)
theorem DQ.dev (z : DQ w W p h M M' v0 v1 v2 v3 s k m c kind pos text num by') (hn : 1 ≤ M'.n) (d : DevAt W' h M2) (a : Ap h.S W W') : DQ w W' p h M2 M' v0 v1 v2 v3 s k m c kind pos text num by' :=
  ⟨d, RG.ap z.r hn z.d a, z.bp.ap a z.np, z.bg.ap a (fun e => by have := z.hs _ e; omega), z.ba.ap a (fun e => by have := z.hs _ e; omega), z.a.trans (a.weak fun _ e => .inl e), z.hs, z.hp, z.np⟩
theorem DQ.cells (z : DQ w W p h M M' v0 v1 v2 v3 s k m c kind pos text num by') :
    W.cell? ⟨p, 0, none⟩ = some (.pointer (some ⟨h.b, 0, none⟩)) ∧ W.cell? ⟨p, 1, none⟩ = some v0 ∧ W.cell? ⟨p, 2, none⟩ = some v1 ∧ W.cell? ⟨p, 3, none⟩ = some v2 ∧ W.cell? ⟨p, 4, none⟩ = some v3 ∧
    W.cell? ⟨w.heap.size, 0, none⟩ = some (.int .i64 s) ∧ W.cell? ⟨w.heap.size, 1, none⟩ = some (.int .i64 k) ∧ W.cell? ⟨w.heap.size, 2, none⟩ = some (.int .i64 m) ∧ W.cell? ⟨w.heap.size, 3, none⟩ = some (.int .i64 c) ∧
    W.cell? ⟨w.heap.size + 1, 0, none⟩ = some (.int .i64 kind) ∧ W.cell? ⟨w.heap.size + 1, 1, none⟩ = some (.int .i64 pos) ∧ W.cell? ⟨w.heap.size + 1, 2, none⟩ = some (.string text) ∧ W.cell? ⟨w.heap.size + 1, 3, none⟩ = some (.int .i64 num) ∧ W.cell? ⟨w.heap.size + 1, 4, none⟩ = some (.int .u32 by') :=
  ⟨z.bp.c0, z.bp.c1, z.bp.c2, z.bp.c3, z.bp.c4, z.bg.c0, z.bg.c1, z.bg.c2, z.bg.c3, z.ba.c0, z.ba.c1, z.ba.c2, z.ba.c3, z.ba.c4⟩
theorem DQ.start (d : DevAt w h M) (r : RefAt w (.agg #[v0, v1, v2, v3]) M) (bp : P5 w p (.pointer (some ⟨h.b, 0, none⟩)) v0 v1 v2 v3) (np : ¬ h.S p) (s k m c kind pos : Int) (text : ByteArray) (num by' : Int) (t1 t2 : Nat) :
    DQ w ((w.alloc (.cells #[.int .i64 s, .int .i64 k, .int .i64 m, .int .i64 c] t1)).alloc (.cells #[.int .i64 kind, .int .i64 pos, .string text, .int .i64 num, .int .u32 by'] t2)) p h M M v0 v1 v2 v3 s k m c kind pos text num by' := by
  have B1 := below1 w (.cells #[.int .i64 s, .int .i64 k, .int .i64 m, .int .i64 c] t1)
  have B2 := below1 (w.alloc (.cells #[.int .i64 s, .int .i64 k, .int .i64 m, .int .i64 c] t1)) (.cells #[.int .i64 kind, .int .i64 pos, .string text, .int .i64 num, .int .u32 by'] t2)
  have B := B1.trans (B2.mono (by simp))
  have h1 := A5.new (w.alloc (.cells #[.int .i64 s, .int .i64 k, .int .i64 m, .int .i64 c] t1)) kind pos text num by' t2
  rw [show (w.alloc (.cells #[.int .i64 s, .int .i64 k, .int .i64 m, .int .i64 c] t1)).heap.size = w.heap.size + 1 by simp] at h1
  exact ⟨d.below B, r.below B, bp.ap (S := fun _ => False) (Ap.of_below B) id, (Bx.new w _ _ _ _ _).below B2, h1, Ap.of_below B, clu_slt d, bp.lt, np⟩
/-- Behind the document's answer: it lies in a box of its own. -/
structure DB (w W : World) (p : Nat) (h : DH) (M M' : DM) (v0 v1 v2 v3 : Value) (s k m c kind pos : Int) (text : ByteArray) (num by' : Int) (bt : Nat) (x0 x1 x2 x3 : Value) (M2 : DM) : Prop where
  q : DQ w W p h M M' v0 v1 v2 v3 s k m c kind pos text num by'
  tb : Bx W bt x0 x1 x2 x3
  r : RefAt W (.agg #[x0, x1, x2, x3]) M2
theorem DB.of (z : DQ w W p h M M' v0 v1 v2 v3 s k m c kind pos text num by') (r : RefAt W (.agg #[x0, x1, x2, x3]) M2) :
    DB w (W.alloc (.cells #[x0, x1, x2, x3] 32)) p h M M' v0 v1 v2 v3 s k m c kind pos text num by' W.heap.size x0 x1 x2 x3 M2 :=
  have B := below1 W (.cells #[x0, x1, x2, x3] 32)
  ⟨z.below B, Bx.new W x0 x1 x2 x3 _, r.below B⟩
theorem DB.put {z1 z2 z3 : Value} (z : DQ w W p h M M' v0 v1 v2 v3 s k m c kind pos text num by') (hz : Bx W bt (.slice none 0 0) z1 z2 z3) (ht : w.heap.size + 1 < bt) (hn : 1 ≤ M'.n) (hn2 : 1 ≤ M2.n) (r : RefAt W (.agg #[x0, x1, x2, x3]) M2) :
    DB w (put4 W bt x0 x1 x2 x3) p h M M' v0 v1 v2 v3 s k m c kind pos text num by' bt x0 x1 x2 x3 M2 := by
  have A := ap_put4 W bt x0 x1 x2 x3
  have hp := z.hp
  have q (i : Nat) : SP h p (Addr.mk bt i none).block ∨ w.heap.size ≤ (Addr.mk bt i none).block := .inr (by show w.heap.size ≤ bt; omega)
  exact ⟨⟨z.d.ap A (fun i hi e => by have := z.hs i hi; omega), z.r.put hn hz.c0 _ _ _ _, z.bp.ap A (fun e => by omega), z.bg.ap A (fun e => by omega), z.ba.ap A (fun e => by omega), (((z.a.setCell (q 0) x0).setCell (q 1) x1).setCell (q 2) x2).setCell (q 3) x3, z.hs, z.hp, z.np⟩, hz.put x0 x1 x2 x3, r.put hn2 hz.c0 _ _ _ _⟩
/-- A store into the pair: no row is it. -/
theorem RefAt.put5 {v : Value} (r : RefAt W v M) (hn : 1 ≤ M.n) {A : Option Addr} (hz : W.cell? ⟨p, 0, none⟩ = some (.pointer A)) (u0 u1 u2 u3 : Value) : RefAt (put5 W p u0 u1 u2 u3) v M := by
  obtain ⟨b, cap, hv, h1, h2, h3⟩ := r
  refine ⟨b, cap, hv, h1, h2, h3.ap (ap_put5 W p u0 u1 u2 u3) (fun e => ?_)⟩
  subst e
  have c := (h3.2.1 0 hn).c0
  rw [Nat.zero_mul, hz] at c
  cases c
theorem DQ.store (z : DQ w W p h M M' v0 v1 v2 v3 s k m c kind pos text num by') (r : RefAt W (.agg #[x0, x1, x2, x3]) M2) (hn2 : 1 ≤ M2.n) :
    DQ w (put5 W p x0 x1 x2 x3) p h M M2 x0 x1 x2 x3 s k m c kind pos text num by' := by
  have A := ap_put5 W p x0 x1 x2 x3
  have hp := z.hp
  have q (i : Nat) : SP h p (Addr.mk p i none).block ∨ w.heap.size ≤ (Addr.mk p i none).block := .inl (.inr rfl)
  exact ⟨z.d.ap A (fun i hi e => z.np (e ▸ hi)), r.put5 hn2 z.bp.c0 _ _ _ _, z.bp.put x0 x1 x2 x3, z.bg.ap A (fun e => by omega), z.ba.ap A (fun e => by omega), (((z.a.setCell (q 1) x0).setCell (q 2) x1).setCell (q 3) x2).setCell (q 4) x3, z.hs, z.hp, z.np⟩
/-- What comes of a call. -/
def Out8 (w : World) (p : Nat) (h : DH) (M : DM) (e : Ending) (w' : World) : Prop :=
  e = .returned (.bool true) ∧ ∃ (M2 : DM) (x0 x1 x2 x3 : Value), DevAt w' h M2 ∧ RefAt w' (.agg #[x0, x1, x2, x3]) M2 ∧ P5 w' p (.pointer (some ⟨h.b, 0, none⟩)) x0 x1 x2 x3 ∧ Nrm M2 ∧ M2.n = M.n ∧ M2.writes ≤ M.writes + 128 ∧ Ap (SP h p) w w'
theorem DQ.out (z : DQ w W p h M2 M2 x0 x1 x2 x3 s k m c kind pos text num by') (hN : Nrm M2) (hn : M2.n = M.n) (hw : M2.writes ≤ M.writes + 128) : Out8 w p h M (.returned (.bool true)) W :=
  ⟨rfl, M2, x0, x1, x2, x3, z.d, z.r, z.bp, hN, hn, hw, z.a⟩
end
end Go.Proofs.YtjhpheepimbbdaaGreatDoor
