/- References: RefsAll, of whatever comes in. -/
import Derived.Test.YthhbaccbhfngbaaRfaD
namespace Go.Proofs.Ythhbaccbhfngbaa
open Go.RowKit

theorem refsAll_any {w : World} {v u x : Value} {C : List CH} {S : List Int} (e : Int) (_ : (Lit.int .i64 e).wf = true) (w1 : ChsW w v C) (w2 : ChtVal w u) (w3 : IdxW w x S) :
    Calls Try.prog 5 #[.int .i64 e, v, u, x] w fun r w' => r = .returned (.bool true) ∧ Below w.heap.size w w' := by
  obtain ⟨B, T, tv, rfl, hT⟩ := w2
  obtain ⟨tA, tc, rfl⟩ := hT.form
  by_cases hB : 400 < B
  · exact refsAll_big e w1.s w3.s (.inl hB)
  · by_cases hS : 100 < S.length
    · exact refsAll_big e w1.s w3.s (.inr hS)
    · exact refsAll_main e w1.s hT w3.s w3.b (by omega) (by omega)
end Go.Proofs.Ythhbaccbhfngbaa
