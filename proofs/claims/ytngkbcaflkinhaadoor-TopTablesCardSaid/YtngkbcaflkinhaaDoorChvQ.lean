/- Charts: Resize, any. -/
import Derived.Test.YtngkbcaflkinhaaDoorChvO
namespace Go.Proofs.YtngkbcaflkinhaaDoor
open Go.RowKit

def resC (e : Int) (c : CH) (nb : Int) : CH := if okB e c = true then (if mayB nb = true then ⟨nb, ofM e.toNat (resL nb.toNat (flatM e.toNat c.blocks.toNat c.tabs))⟩ else c) else CH.zero
def resE (e : Int) (c : CH) (nb : Int) : Int := if okB e c = true then (if mayB nb = true then 0 else 1) else 2
theorem RB.ends {w W : World} {BN nb : Int} {v : Value} (k : RB w W BN v nb) (u0 u1 : Value) : Below w.heap.size w ((W.setCell ⟨w.heap.size + 2, 0, none⟩ u0).setCell ⟨w.heap.size + 2, 1, none⟩ u1) ∧ ((W.setCell ⟨w.heap.size + 2, 0, none⟩ u0).setCell ⟨w.heap.size + 2, 1, none⟩ u1).cell? ⟨w.heap.size + 2, 0, none⟩ = some u0 ∧ ((W.setCell ⟨w.heap.size + 2, 0, none⟩ u0).setCell ⟨w.heap.size + 2, 1, none⟩ u1).cell? ⟨w.heap.size + 2, 1, none⟩ = some u1 := by
  refine ⟨(k.bl.setCell (p := ⟨_, 0, none⟩) (by show _ ≤ w.heap.size + 2; omega) _).setCell (p := ⟨_, 1, none⟩) (by show _ ≤ w.heap.size + 2; omega) _, ?_, ?_⟩
  · exact (cell_putne _ _ _ _ _ (by omega)).trans (cell_put k.r.c0 _)
  · exact cell_put ((cell_putne _ _ _ _ _ (by omega)).trans k.r.c1) _
end Go.Proofs.YtngkbcaflkinhaaDoor

