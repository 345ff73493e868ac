/- Pools: PoolPlays as the row wants it. -/
import Derived.Test.YtmnjcmpikbihaaaPoolT
namespace Go.Proofs.Ytmnjcmpikbihaaa
open Go.RowKit
theorem poolPlays_any {w : World} {v : Value} {R : List A17} (hR : A17W w v R) :
    Calls Try.prog 3 #[v] w fun e w' => e = .returned (.bool true) ∧ Below w.heap.size w w' := poolPlays_walk hR
end Go.Proofs.Ytmnjcmpikbihaaa
