/- A block of four cells, and small words on cells. -/
import Derived.Test.YtngkbcaflkinhaaDoorRegAll
namespace Go.Proofs.YtngkbcaflkinhaaDoor
open Go.RowKit

theorem below1 (w : World) (o : Obj) : Below w.heap.size w (w.alloc o) := (Below.refl _ _).alloc (Nat.le_refl _) o
theorem cell_put {w : World} {b i : Nat} {u : Value} (hc : w.cell? ⟨b, i, none⟩ = some u) (v : Value) : (w.setCell ⟨b, i, none⟩ v).cell? ⟨b, i, none⟩ = some v := World.cell?_setCell_same' _ _ _ (by rw [hc]; rfl)
theorem cell_putne (w : World) (b i j : Nat) (v : Value) (hij : i ≠ j) : (w.setCell ⟨b, i, none⟩ v).cell? ⟨b, j, none⟩ = w.cell? ⟨b, j, none⟩ := World.cell?_setCell_other _ _ _ _ (by intro e; injection e with _ e; omega)
theorem ap_put (w : World) (b i : Nat) (v : Value) : Ap (fun k => k = b) w (w.setCell ⟨b, i, none⟩ v) := Ap.setCell (S := fun k => k = b) (Ap.refl w) (p := ⟨b, i, none⟩) (.inl rfl) v
/-- A block of four cells. -/
structure Bx (W : World) (b : Nat) (v0 v1 v2 v3 : Value) : Prop where
  lt : b < W.heap.size
  c0 : W.cell? ⟨b, 0, none⟩ = some v0
  c1 : W.cell? ⟨b, 1, none⟩ = some v1
  c2 : W.cell? ⟨b, 2, none⟩ = some v2
  c3 : W.cell? ⟨b, 3, none⟩ = some v3
  f0 : W.frozen? ⟨b, 0, none⟩ = false
  f1 : W.frozen? ⟨b, 1, none⟩ = false
  f2 : W.frozen? ⟨b, 2, none⟩ = false
  f3 : W.frozen? ⟨b, 3, none⟩ = false
theorem Bx.new (w : World) (v0 v1 v2 v3 : Value) (t : Nat) : Bx (w.alloc (.cells #[v0, v1, v2, v3] t)) w.heap.size v0 v1 v2 v3 :=
  ⟨by simp, by simp [go_sem], by simp [go_sem], by simp [go_sem], by simp [go_sem], frozen_of_row _ _ _ _ t (heap_alloc_new w _), frozen_of_row _ _ _ _ t (heap_alloc_new w _), frozen_of_row _ _ _ _ t (heap_alloc_new w _), frozen_of_row _ _ _ _ t (heap_alloc_new w _)⟩
theorem Bx.ap {S : Nat → Prop} {W W' : World} {b : Nat} {v0 v1 v2 v3 : Value} (k : Bx W b v0 v1 v2 v3) (a : Ap S W W') (hn : ¬ S b) : Bx W' b v0 v1 v2 v3 :=
  ⟨Nat.lt_of_lt_of_le k.lt a.size, (a.cell k.lt hn _).trans k.c0, (a.cell k.lt hn _).trans k.c1, (a.cell k.lt hn _).trans k.c2, (a.cell k.lt hn _).trans k.c3,
    (a.frozen k.lt hn _).trans k.f0, (a.frozen k.lt hn _).trans k.f1, (a.frozen k.lt hn _).trans k.f2, (a.frozen k.lt hn _).trans k.f3⟩
theorem Bx.below {W W' : World} {b : Nat} {v0 v1 v2 v3 : Value} (k : Bx W b v0 v1 v2 v3) (hb : Below W.heap.size W W') : Bx W' b v0 v1 v2 v3 := k.ap (S := fun _ => False) (Ap.of_below hb) id
theorem Bx.drew {W : World} {b : Nat} {v0 v1 v2 v3 : Value} (k : Bx W b v0 v1 v2 v3) : Bx W.drew b v0 v1 v2 v3 := k.below ((Below.refl _ _).drew)
theorem Bx.set0 {W : World} {b : Nat} {v0 v1 v2 v3 : Value} (k : Bx W b v0 v1 v2 v3) (u : Value) : Bx (W.setCell ⟨b, 0, none⟩ u) b u v1 v2 v3 :=
  ⟨by rw [World.size_setCell]; exact k.lt, cell_put k.c0 u, (cell_putne _ _ _ _ _ (by omega)).trans k.c1, (cell_putne _ _ _ _ _ (by omega)).trans k.c2, (cell_putne _ _ _ _ _ (by omega)).trans k.c3,
    (World.frozen?_setCell _ _ _ _).trans k.f0, (World.frozen?_setCell _ _ _ _).trans k.f1, (World.frozen?_setCell _ _ _ _).trans k.f2, (World.frozen?_setCell _ _ _ _).trans k.f3⟩
theorem Bx.set1 {W : World} {b : Nat} {v0 v1 v2 v3 : Value} (k : Bx W b v0 v1 v2 v3) (u : Value) : Bx (W.setCell ⟨b, 1, none⟩ u) b v0 u v2 v3 :=
  ⟨by rw [World.size_setCell]; exact k.lt, (cell_putne _ _ _ _ _ (by omega)).trans k.c0, cell_put k.c1 u, (cell_putne _ _ _ _ _ (by omega)).trans k.c2, (cell_putne _ _ _ _ _ (by omega)).trans k.c3,
    (World.frozen?_setCell _ _ _ _).trans k.f0, (World.frozen?_setCell _ _ _ _).trans k.f1, (World.frozen?_setCell _ _ _ _).trans k.f2, (World.frozen?_setCell _ _ _ _).trans k.f3⟩
theorem Bx.set2 {W : World} {b : Nat} {v0 v1 v2 v3 : Value} (k : Bx W b v0 v1 v2 v3) (u : Value) : Bx (W.setCell ⟨b, 2, none⟩ u) b v0 v1 u v3 :=
  ⟨by rw [World.size_setCell]; exact k.lt, (cell_putne _ _ _ _ _ (by omega)).trans k.c0, (cell_putne _ _ _ _ _ (by omega)).trans k.c1, cell_put k.c2 u, (cell_putne _ _ _ _ _ (by omega)).trans k.c3,
    (World.frozen?_setCell _ _ _ _).trans k.f0, (World.frozen?_setCell _ _ _ _).trans k.f1, (World.frozen?_setCell _ _ _ _).trans k.f2, (World.frozen?_setCell _ _ _ _).trans k.f3⟩
theorem Bx.set3 {W : World} {b : Nat} {v0 v1 v2 v3 : Value} (k : Bx W b v0 v1 v2 v3) (u : Value) : Bx (W.setCell ⟨b, 3, none⟩ u) b v0 v1 v2 u :=
  ⟨by rw [World.size_setCell]; exact k.lt, (cell_putne _ _ _ _ _ (by omega)).trans k.c0, (cell_putne _ _ _ _ _ (by omega)).trans k.c1, (cell_putne _ _ _ _ _ (by omega)).trans k.c2, cell_put k.c3 u,
    (World.frozen?_setCell _ _ _ _).trans k.f0, (World.frozen?_setCell _ _ _ _).trans k.f1, (World.frozen?_setCell _ _ _ _).trans k.f2, (World.frozen?_setCell _ _ _ _).trans k.f3⟩
/-- All four stored. -/
def put4 (W : World) (b : Nat) (u0 u1 u2 u3 : Value) : World := (((W.setCell ⟨b, 0, none⟩ u0).setCell ⟨b, 1, none⟩ u1).setCell ⟨b, 2, none⟩ u2).setCell ⟨b, 3, none⟩ u3
theorem ap_put4 (W : World) (b : Nat) (u0 u1 u2 u3 : Value) : Ap (fun k => k = b) W (put4 W b u0 u1 u2 u3) := (((ap_put W b 0 _).trans (ap_put _ b 1 _)).trans (ap_put _ b 2 _)).trans (ap_put _ b 3 _)
theorem Bx.put {W : World} {b : Nat} {v0 v1 v2 v3 : Value} (k : Bx W b v0 v1 v2 v3) (u0 u1 u2 u3 : Value) : Bx (put4 W b u0 u1 u2 u3) b u0 u1 u2 u3 := (((k.set0 u0).set1 u1).set2 u2).set3 u3
end Go.Proofs.YtngkbcaflkinhaaDoor

