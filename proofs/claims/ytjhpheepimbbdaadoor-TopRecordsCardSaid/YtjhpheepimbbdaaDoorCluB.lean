/- Clusters: what lies behind the start of a call of Write or Raw. -/
import Derived.Test.YtjhpheepimbbdaaDoorCluA
import Derived.Test.YtjhpheepimbbdaaDoorGeoB
namespace Go.Proofs.YtjhpheepimbbdaaDoor
open Go.RowKit

/-- A call has boxed a device, a geometry, a text and an error, in four new blocks. -/
structure CB (w W : World) (h : DH) (M : DM) (s k m c : Int) (t : ByteArray) (e : Int) : Prop where
  d : DevAt W h M
  lt : ∀ q, h.S q → q < w.heap.size
  b0 : W.cell? ⟨w.heap.size, 0, none⟩ = some (.pointer (some ⟨h.b, 0, none⟩))
  g0 : W.cell? ⟨w.heap.size + 1, 0, none⟩ = some (.int .i64 s)
  g1 : W.cell? ⟨w.heap.size + 1, 1, none⟩ = some (.int .i64 k)
  g2 : W.cell? ⟨w.heap.size + 1, 2, none⟩ = some (.int .i64 m)
  g3 : W.cell? ⟨w.heap.size + 1, 3, none⟩ = some (.int .i64 c)
  b2 : W.cell? ⟨w.heap.size + 1 + 1, 0, none⟩ = some (.string t)
  b3 : W.cell? ⟨w.heap.size + 1 + 1 + 1, 0, none⟩ = some (.int .i64 e)
  f2 : W.frozen? ⟨w.heap.size + 1 + 1, 0, none⟩ = false
  f3 : W.frozen? ⟨w.heap.size + 1 + 1 + 1, 0, none⟩ = false
  sz : w.heap.size + 4 ≤ W.heap.size
  ap : Ap h.S w W
section
variable {w W W' : World} {h : DH} {M M' : DM} {s k m c : Int} {t : ByteArray} {e : Int}
theorem CB.move {S : Nat → Prop} (z : CB w W h M s k m c t e) (d' : DevAt W' h M') (a : Ap S W W') (hS : ∀ q, q < w.heap.size + 4 → ¬ h.S q → ¬ S q) : CB w W' h M' s k m c t e := by
  have hz := z.sz
  have hn (q : Nat) (h0 : w.heap.size ≤ q) (h1 : q < w.heap.size + 4) : ¬ S q := hS q h1 (fun g => by have := z.lt q g; omega)
  have hc (q o : Nat) (h0 : w.heap.size ≤ q) (h1 : q < w.heap.size + 4) : W'.cell? ⟨q, o, none⟩ = W.cell? ⟨q, o, none⟩ := a.cell (by omega) (hn q h0 h1) o
  have hf (q o : Nat) (h0 : w.heap.size ≤ q) (h1 : q < w.heap.size + 4) : W'.frozen? ⟨q, o, none⟩ = W.frozen? ⟨q, o, none⟩ := a.frozen (by omega) (hn q h0 h1) o
  exact ⟨d', z.lt, (hc _ _ (by omega) (by omega)).trans z.b0, (hc _ _ (by omega) (by omega)).trans z.g0, (hc _ _ (by omega) (by omega)).trans z.g1, (hc _ _ (by omega) (by omega)).trans z.g2, (hc _ _ (by omega) (by omega)).trans z.g3,
    (hc _ _ (by omega) (by omega)).trans z.b2, (hc _ _ (by omega) (by omega)).trans z.b3, (hf _ _ (by omega) (by omega)).trans z.f2, (hf _ _ (by omega) (by omega)).trans z.f3, Nat.le_trans hz a.size,
    ⟨a.os.trans z.ap.os, a.tape.trans z.ap.tape, a.output.trans z.ap.output, Nat.le_trans z.ap.size a.size, fun q hq hn => (a.block q (by omega) (hS q (by omega) hn)).trans (z.ap.block q hq hn)⟩⟩
theorem CB.below (z : CB w W h M s k m c t e) (hb : Below W.heap.size W W') : CB w W' h M s k m c t e := z.move (S := fun _ => False) (z.d.below hb) (Ap.of_below hb) (fun _ _ _ => id)
theorem CB.drew (z : CB w W h M s k m c t e) : CB w W.drew h M s k m c t e := z.below ((Below.refl _ _).drew)
theorem CB.dev (z : CB w W h M s k m c t e) (d' : DevAt W' h M') (a : Ap h.S W W') : CB w W' h M' s k m c t e := z.move d' a (fun _ _ g => g)
theorem CB.own (z : CB w W h M s k m c t e) {B : Nat} (hB : w.heap.size + 4 ≤ B) {row : Option Nat} (hg : W.grownBy W' row) (hr : ∀ r, row = some r → B ≤ r) : CB w W' h M s k m c t e := by
  have a : Ap (fun q => B ≤ q) W W' := (Ap.refl W).grown hg (fun q hq => .inl (hr q hq))
  exact z.move (z.d.ap a (fun q hq hB' => by have := z.lt q hq; omega)) a (fun q hq _ hB' => by omega)
theorem CB.set3 (z : CB w W h M s k m c t e) (e' : Int) : CB w (W.setCell ⟨w.heap.size + 1 + 1 + 1, 0, none⟩ (.int .i64 e')) h M s k m c t e' := by
  have a := ap_put W (w.heap.size + 1 + 1 + 1) 0 (.int .i64 e')
  have hc (q o : Nat) (hq : q ≠ w.heap.size + 1 + 1 + 1) (hl : q < w.heap.size + 4) : (W.setCell ⟨w.heap.size + 1 + 1 + 1, 0, none⟩ (.int .i64 e')).cell? ⟨q, o, none⟩ = W.cell? ⟨q, o, none⟩ := a.cell (by have := z.sz; omega) hq o
  exact ⟨z.d.ap a (fun q hq hB' => by have := z.lt q hq; omega), z.lt, (hc _ _ (by omega) (by omega)).trans z.b0, (hc _ _ (by omega) (by omega)).trans z.g0, (hc _ _ (by omega) (by omega)).trans z.g1, (hc _ _ (by omega) (by omega)).trans z.g2, (hc _ _ (by omega) (by omega)).trans z.g3,
    (hc _ _ (by omega) (by omega)).trans z.b2, cell_put z.b3 _, (World.frozen?_setCell _ _ _ _).trans z.f2, (World.frozen?_setCell _ _ _ _).trans z.f3, Nat.le_trans z.sz a.size,
    ⟨a.os.trans z.ap.os, a.tape.trans z.ap.tape, a.output.trans z.ap.output, Nat.le_trans z.ap.size a.size, fun q hq hn => (a.block q (by have := z.sz; omega) (by show q ≠ _; omega)).trans (z.ap.block q hq hn)⟩⟩
theorem CB.set2 (z : CB w W h M s k m c t e) (t' : ByteArray) : CB w (W.setCell ⟨w.heap.size + 1 + 1, 0, none⟩ (.string t')) h M s k m c t' e := by
  have a := ap_put W (w.heap.size + 1 + 1) 0 (.string t')
  have hc (q o : Nat) (hq : q ≠ w.heap.size + 1 + 1) (hl : q < w.heap.size + 4) : (W.setCell ⟨w.heap.size + 1 + 1, 0, none⟩ (.string t')).cell? ⟨q, o, none⟩ = W.cell? ⟨q, o, none⟩ := a.cell (by have := z.sz; omega) hq o
  exact ⟨z.d.ap a (fun q hq hB' => by have := z.lt q hq; omega), z.lt, (hc _ _ (by omega) (by omega)).trans z.b0, (hc _ _ (by omega) (by omega)).trans z.g0, (hc _ _ (by omega) (by omega)).trans z.g1, (hc _ _ (by omega) (by omega)).trans z.g2, (hc _ _ (by omega) (by omega)).trans z.g3,
    cell_put z.b2 _, (hc _ _ (by omega) (by omega)).trans z.b3, (World.frozen?_setCell _ _ _ _).trans z.f2, (World.frozen?_setCell _ _ _ _).trans z.f3, Nat.le_trans z.sz a.size,
    ⟨a.os.trans z.ap.os, a.tape.trans z.ap.tape, a.output.trans z.ap.output, Nat.le_trans z.ap.size a.size, fun q hq hn => (a.block q (by have := z.sz; omega) (by show q ≠ _; omega)).trans (z.ap.block q hq hn)⟩⟩
theorem clu_slt (d : DevAt w h M) : ∀ q, h.S q → q < w.heap.size := by
  have h1 := d.ltb; have h2 := d.ltbs; have h3 := d.wait.lt; have h4 := d.badm.lt
  rintro q (rfl | rfl | rfl | rfl) <;> assumption
/-- The start. -/
theorem CB.start (d : DevAt w h M) (s k m c : Int) (t : ByteArray) (T0 T1 T2 T3 : Nat) :
    CB w ((((w.alloc (.cells #[.pointer (some ⟨h.b, 0, none⟩)] T0)).alloc (.cells #[.int .i64 s, .int .i64 k, .int .i64 m, .int .i64 c] T1)).alloc (.cells #[.string t] T2)).alloc (.cells #[.int .i64 0] T3)) h M s k m c t 0 := by
  have hb0 := below1 w (.cells #[.pointer (some ⟨h.b, 0, none⟩)] T0)
  have hb1 := below1 (w.alloc (.cells #[.pointer (some ⟨h.b, 0, none⟩)] T0)) (.cells #[.int .i64 s, .int .i64 k, .int .i64 m, .int .i64 c] T1)
  have hb2 := below1 ((w.alloc (.cells #[.pointer (some ⟨h.b, 0, none⟩)] T0)).alloc (.cells #[.int .i64 s, .int .i64 k, .int .i64 m, .int .i64 c] T1)) (.cells #[.string t] T2)
  have hb3 := below1 (((w.alloc (.cells #[.pointer (some ⟨h.b, 0, none⟩)] T0)).alloc (.cells #[.int .i64 s, .int .i64 k, .int .i64 m, .int .i64 c] T1)).alloc (.cells #[.string t] T2)) (.cells #[.int .i64 0] T3)
  have hb : Below w.heap.size w ((((w.alloc (.cells #[.pointer (some ⟨h.b, 0, none⟩)] T0)).alloc (.cells #[.int .i64 s, .int .i64 k, .int .i64 m, .int .i64 c] T1)).alloc (.cells #[.string t] T2)).alloc (.cells #[.int .i64 0] T3)) :=
    ((hb0.trans (hb1.mono (by simp))).trans (hb2.mono (by simp; omega))).trans (hb3.mono (by simp; omega))
  refine ⟨d.below hb, clu_slt d, ?_, ?_, ?_, ?_, ?_, ?_, ?_, ?_, ?_, by simp, Ap.of_below hb⟩
  · simp [go_sem]
  · simp [go_sem]
  · simp [go_sem]
  · simp [go_sem]
  · simp [go_sem]
  · simp [go_sem]
  · simp [go_sem]
  · have e := frozen_of_row _ _ 0 _ T2 (heap_alloc_new ((w.alloc (.cells #[.pointer (some ⟨h.b, 0, none⟩)] T0)).alloc (.cells #[.int .i64 s, .int .i64 k, .int .i64 m, .int .i64 c] T1)) (.cells #[.string t] T2))
    rw [show ((w.alloc (.cells #[.pointer (some ⟨h.b, 0, none⟩)] T0)).alloc (.cells #[.int .i64 s, .int .i64 k, .int .i64 m, .int .i64 c] T1)).heap.size = w.heap.size + 1 + 1 by simp] at e
    exact (hb3.frozen (p := ⟨w.heap.size + 1 + 1, 0, none⟩) (by show _ < _; simp)).trans e
  · have e := frozen_of_row _ _ 0 _ T3 (heap_alloc_new (((w.alloc (.cells #[.pointer (some ⟨h.b, 0, none⟩)] T0)).alloc (.cells #[.int .i64 s, .int .i64 k, .int .i64 m, .int .i64 c] T1)).alloc (.cells #[.string t] T2)) (.cells #[.int .i64 0] T3))
    rw [show (((w.alloc (.cells #[.pointer (some ⟨h.b, 0, none⟩)] T0)).alloc (.cells #[.int .i64 s, .int .i64 k, .int .i64 m, .int .i64 c] T1)).alloc (.cells #[.string t] T2)).heap.size = w.heap.size + 1 + 1 + 1 by simp] at e
    exact e
end
theorem slice_part (t : ByteArray) (x : Nat) (h : x * 512 + 512 ≤ t.size) (W : World) :
    (Instr.slice 9 (.string t) (some (.int .i64 ((x : Int) * 512))) (some (.int .i64 ((x : Int) * 512 + 512))) none).run Tryd.prog W = .ok (.string (partS t x)) W := by
  have h0 : (0 : Int) ≤ (x : Int) * 512 := by omega
  have h1 : (x : Int) * 512 + 512 ≤ (t.size : Int) := by omega
  have h2 : (0 : Int) ≤ (x : Int) * 512 + 512 := by omega
  have h3 : ((x : Int) * 512 + 512).toNat = x * 512 + 512 := by omega
  have h4 : ((x : Int) * 512).toNat = x * 512 := by omega
  have h5 : (x : Int) * 512 ≤ (x : Int) * 512 + 512 := by omega
  unfold partS
  go_simp
/-- An exit that does not come: so that a drawn region may be walked in a body with marks. -/
def calmQ (Q : Exit → Act → World → Prop) : Exit → Act → World → Prop
  | .panic _, _, _ => False
  | .normal, a, w => Q .normal a w
  | .ret, a, w => Q .ret a w
  | .exit i, a, w => Q (.exit i) a w
  | .goto i, a, w => Q (.goto i) a w
  | .outgrown, a, w => Q .outgrown a w
theorem wpIn_calm {F : Fence} {n : Nat} {P : Program} {c : Code} {Q : Exit → Act → World → Prop} {a : Act} {w : World} (h : c.wpIn F n P (calmQ Q) a w) : c.wpIn F n P Q a w := by
  refine wpIn_mono h ?_
  intro e a' w' hq
  cases e with
  | panic ch => exact hq.elim
  | normal => exact hq
  | ret => exact hq
  | exit i => exact hq
  | goto i => exact hq
  | outgrown => exact hq
end Go.Proofs.YtjhpheepimbbdaaDoor
