/- Entries: the walks as the rows ask them. -/
import Derived.Test.YtifhbaacljkleaaEntT
import Derived.Test.YtifhbaacljkleaaEntI
namespace Go.Proofs.Ytifhbaacljkleaa
open Go.RowKit
theorem entryTells_any {w : World} {v : Value} (h : EntVal v) (s : ByteArray) {q : Prop} (_ : q) : Calls Try.prog 3 #[v, .string s] w fun e w' => e = .returned (.bool true) ∧ Below w.heap.size w w' := by
  obtain ⟨p, rfl, _⟩ := h
  exact entryTells_walk p s w
end Go.Proofs.Ytifhbaacljkleaa
