/- Charts: the document's own Same, of two that are one; Same of ints. -/
import Derived.Test.YtngkbcaflkinhaaDoorChtXY
import Derived.Test.YtngkbcaflkinhaaDoorRegAll
namespace Go.Proofs.YtngkbcaflkinhaaDoor
open Go.RowKit

end Go.Proofs.YtngkbcaflkinhaaDoor

