/- A block of cells that a call may write. -/
import Derived.Test.YtdcpgjkaimekbaaStr
namespace Go.Proofs.Ytdcpgjkaimekbaa
open Go.RowKit

/-- A block that has these cells, and may be written. -/
structure BkC (W : World) (b : Nat) (vs : List Value) : Prop where
  lt : b < W.heap.size
  c : ∀ i u, vs[i]? = some u → W.cell? ⟨b, i, none⟩ = some u
  f : ∀ i, i < vs.length → W.frozen? ⟨b, i, none⟩ = false
theorem BkC.new (W : World) (vs : List Value) (t : TypeId) : BkC (W.alloc (.cells vs.toArray t)) W.heap.size vs :=
  ⟨by simp, fun i u h => by have := new_cells W vs t i u h; rwa [add_mid0] at this, fun i _ => frozen_of_row _ _ _ _ t (heap_alloc_new W _)⟩
theorem BkC.below {W W' : World} {b : Nat} {vs : List Value} (k : BkC W b vs) (h : Below W.heap.size W W') : BkC W' b vs :=
  ⟨Nat.lt_of_lt_of_le k.lt h.size, fun i u hu => (h.cell (p := ⟨b, i, none⟩) k.lt).trans (k.c i u hu), fun i hi => (h.frozen (p := ⟨b, i, none⟩) k.lt).trans (k.f i hi)⟩
theorem BkC.old {B : Nat} {W W' : World} {b : Nat} {vs : List Value} (k : BkC W b vs) (hb : b < B) (h : Below B W W') : BkC W' b vs :=
  ⟨Nat.lt_of_lt_of_le k.lt h.size, fun i u hu => (h.cell (p := ⟨b, i, none⟩) hb).trans (k.c i u hu), fun i hi => (h.frozen (p := ⟨b, i, none⟩) hb).trans (k.f i hi)⟩
theorem BkC.drew {W : World} {b : Nat} {vs : List Value} (k : BkC W b vs) : BkC W.drew b vs := k.below ((Below.refl _ _).drew)
theorem BkC.set {W : World} {b : Nat} {vs : List Value} (k : BkC W b vs) (i : Nat) (hi : i < vs.length) (v : Value) : BkC (W.setCell ⟨b, i, none⟩ v) b (vs.set i v) := by
  refine ⟨by rw [World.size_setCell]; exact k.lt, fun j u hu => ?_, fun j hj => ?_⟩
  · by_cases e : j = i
    · subst e
      rw [List.getElem?_set_self hi] at hu
      rw [← hu]
      exact World.cell?_setCell_same' _ _ _ (by rw [k.c j vs[j] (List.getElem?_eq_getElem hi)]; rfl)
    · rw [List.getElem?_set_ne (Ne.symm e)] at hu
      rw [World.cell?_setCell_other _ _ _ _ (by intro e'; injection e' with _ e2; omega)]
      exact k.c j u hu
  · rw [List.length_set] at hj
    rw [World.frozen?_setCell]; exact k.f j hj
theorem BkC.other {W : World} {b : Nat} {vs : List Value} (k : BkC W b vs) {p : Addr} (hp : p.block ≠ b) (v : Value) : BkC (W.setCell p v) b vs :=
  ⟨by rw [World.size_setCell]; exact k.lt, fun j u hu => by rw [World.cell?_setCell_other _ _ _ _ (by intro e'; exact hp (by rw [e']))]; exact k.c j u hu, fun j hj => by rw [World.frozen?_setCell]; exact k.f j hj⟩
end Go.Proofs.Ytdcpgjkaimekbaa
