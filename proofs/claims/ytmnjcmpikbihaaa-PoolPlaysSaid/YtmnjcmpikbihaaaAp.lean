/- A frame: all that lay there lies as it lay, but for some blocks. -/
import Derived.Test.YtmnjcmpikbihaaaKit
import Derived.Test.YtmnjcmpikbihaaaBytes
import Derived.Maps.OwnSet
import Derived.Laws.IdiomCopy
import Derived.Deep.MidRow
namespace Go.Proofs.Ytmnjcmpikbihaaa
open Go.RowKit

/-- w' is w but for the blocks of S, and for new ones. -/
structure Ap (S : Nat → Prop) (w w' : World) : Prop where
  os : w'.os = w.os
  tape : w'.tape = w.tape
  output : w'.output = w.output
  size : w.heap.size ≤ w'.heap.size
  block : ∀ k, k < w.heap.size → ¬ S k → w'.heap[k]? = w.heap[k]?
variable {S : Nat → Prop}
theorem Ap.refl (w : World) : Ap S w w := ⟨rfl, rfl, rfl, Nat.le_refl _, fun _ _ _ => rfl⟩
theorem Ap.trans {a b c : World} (h : Ap S a b) (k : Ap S b c) : Ap S a c :=
  ⟨k.os.trans h.os, k.tape.trans h.tape, k.output.trans h.output, Nat.le_trans h.size k.size, fun i hi hn => (k.block i (Nat.lt_of_lt_of_le hi h.size) hn).trans (h.block i hi hn)⟩
theorem Ap.of_below {w w' : World} (h : Below w.heap.size w w') : Ap S w w' := ⟨h.os, h.tape, h.output, h.size, fun k hk _ => h.block k hk⟩
theorem Ap.below {w w' : World} {B : Nat} (h : Ap S w w') (hB : B ≤ w.heap.size) (hS : ∀ k, S k → B ≤ k) : Below B w w' :=
  ⟨h.os, h.tape, h.output, h.size, fun k hk => h.block k (Nat.lt_of_lt_of_le hk hB) (fun hs => by have := hS k hs; omega)⟩
theorem Ap.weak {T : Nat → Prop} {w w' : World} (h : Ap S w w') (hST : ∀ k, S k → T k) : Ap T w w' := ⟨h.os, h.tape, h.output, h.size, fun k hk hn => h.block k hk (fun hs => hn (hST k hs))⟩
theorem Ap.drew {a w : World} (h : Ap S a w) : Ap S a w.drew := ⟨h.os, h.tape, h.output, h.size, h.block⟩
theorem Ap.drewN {a w : World} (h : Ap S a w) (n : Nat) : Ap S a (w.drewN n) := ⟨h.os, h.tape, h.output, h.size, h.block⟩
theorem Ap.alloc {a w : World} (h : Ap S a w) (o : Obj) : Ap S a (w.alloc o) := h.trans (Ap.of_below ((Below.refl _ _).alloc (Nat.le_refl _) o))
theorem Ap.setCell {a w : World} (h : Ap S a w) {p : Addr} (hp : S p.block ∨ a.heap.size ≤ p.block) (u : Value) : Ap S a (w.setCell p u) :=
  ⟨h.os, h.tape, h.output, by rw [World.size_setCell]; exact h.size, fun k hk hn => by
    rw [Below.heap_setCell _ _ _ _ (by rintro rfl; rcases hp with hp | hp; exact hn hp; omega)]; exact h.block k hk hn⟩
theorem Ap.setCells {a : World} {b : Nat} (hp : S b ∨ a.heap.size ≤ b) : ∀ (vs : List Value) (o : Nat) (w : World), Ap S a w → Ap S a (w.setCells b o vs)
  | [], _, _, h => h
  | v :: r, o, w, h => by rw [World.setCells]; exact Ap.setCells hp r (o + 1) _ (h.setCell (p := ⟨b, o, none⟩) hp v)
theorem Ap.turned {a w w' : World} {b : Nat} (h : Ap S a w) (hp : S b ∨ a.heap.size ≤ b) (ht : w.mapTurned w' b) : Ap S a w' := by
  have hg := ht.grown
  exact ⟨hg.os.trans h.os, hg.tape.trans h.tape, hg.output.trans h.output, Nat.le_trans h.size hg.size, fun k hk hn => (hg.block k (Nat.lt_of_lt_of_le hk h.size) (by intro e; injection e with e; subst e; rcases hp with hp | hp; exact hn hp; omega)).trans (h.block k hk hn)⟩
theorem Ap.grown {a w w' : World} {row : Option Nat} (h : Ap S a w) (hg : w.grownBy w' row) (hr : ∀ k, row = some k → S k ∨ a.heap.size ≤ k) : Ap S a w' :=
  ⟨hg.os.trans h.os, hg.tape.trans h.tape, hg.output.trans h.output, Nat.le_trans h.size hg.size, fun k hk hn => (hg.block k (Nat.lt_of_lt_of_le hk h.size) (by intro e; rcases hr k e.symm with hp | hp; exact hn hp; omega)).trans (h.block k hk hn)⟩
theorem Ap.cell {w w' : World} (h : Ap S w w') {b : Nat} (hb : b < w.heap.size) (hn : ¬ S b) (o : Nat) : w'.cell? ⟨b, o, none⟩ = w.cell? ⟨b, o, none⟩ := by
  simp only [World.cell?, h.block b hb hn]
theorem Ap.frozen {w w' : World} (h : Ap S w w') {b : Nat} (hb : b < w.heap.size) (hn : ¬ S b) (o : Nat) : w'.frozen? ⟨b, o, none⟩ = w.frozen? ⟨b, o, none⟩ := by
  simp only [World.frozen?, h.block b hb hn]
theorem Ap.owns {H : Type} {P : Program} {k : TypeId} {R : Value → Option (DataW H × List MemPlace)} {w w' : World} {b n : Nat} {D : DataW H} (h : Ap S w w') (ho : w.ownsMap P k R b n D) (hn : ¬ S b) : w'.ownsMap P k R b n D := by
  have hlt := ho.lt
  obtain ⟨es, clock, hb, r⟩ := ho
  exact ⟨es, clock, (h.block b hlt hn).trans hb, r⟩
theorem Ap.row {w w' : World} {b off : Nat} {l : List UInt8} (h : Ap S w w') (hr : Row8 w b off l) (hn : ¬ S b) : Row8 w' b off l :=
  ⟨Nat.lt_of_lt_of_le hr.1 h.size, fun j hj => ⟨(h.cell hr.1 hn _).trans (hr.2 j hj).1, (h.frozen hr.1 hn _).trans (hr.2 j hj).2⟩⟩
end Go.Proofs.Ytmnjcmpikbihaaa
