/- Pools: PoolAgain as the row wants it. -/
import Derived.Test.YtdcpgjkaimekbaaPoolH
namespace Go.Proofs.Ytdcpgjkaimekbaa
open Go.RowKit
theorem poolAgain_any {w : World} {v : Value} {R : List A17} (hR : A17W w v R) :
    Calls Try.prog 4 #[v] w fun e w' => e = .returned (.bool true) ∧ Below w.heap.size w w' := poolAgain_walk hR
end Go.Proofs.Ytdcpgjkaimekbaa
