/- A region that draws its order, whose operations read, and whose callees leave a relation of ours alone: walked once. -/
import Derived.Test.YtifhbaacljkleaaKit
namespace Go.Proofs.Ytifhbaacljkleaa
open Go.RowKit

/-- A world of a class. -/
structure Wk (C : World → Prop) where
  W : World
  h : C W

theorem wp_region_wk {P : Program} {id : Nat} {Q : Exit → Act → World → Prop} {a : Act} {w : World} {l : List Oper} (C : World → Prop) (hm : P.follows .mixedOrders = true) (hB : Region.lexB .any l.toArray = true) (h0 : C w.drew)
    (h : wpQuiet P l.toArray (fun w' => ∃ p : Wk C, w' = p.W) (fun a' => ∀ p : Wk C, Q .normal a' p.W) l a) : (Code.region id l.toArray true).wp P Q a w :=
  wp_region_quiet (C := fun w' => ∃ p : Wk C, w' = p.W) hm hB ⟨⟨_, h0⟩, rfl⟩ (by simpa using h)
end Go.Proofs.Ytifhbaacljkleaa
