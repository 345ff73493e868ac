/- Uses of clusters: SpaceTells, as its row asks. -/
import Derived.Test.YtoaofhgkpnpglaaSpcI
import Derived.Test.YtoaofhgkpnpglaaSpcR
namespace Go.Proofs.Ytoaofhgkpnpglaa
open Go.RowKit
theorem spaceTells_any {w : World} {u a : Value} {Q : List Bool} {L : List Int} (h : UseS w u Q) (ha : IdxS w a L) (n : Int) (_ : (Lit.int .i64 n).wf = true) (c : Int) (_ : (Lit.int .i64 c).wf = true) :
    Calls Try.prog 3 #[u, a, .int .i64 n, .int .i64 c] w fun e w' => e = .returned (.bool true) ∧ Below w.heap.size w w' := spaceTells_walk h ha n c
end Go.Proofs.Ytoaofhgkpnpglaa
