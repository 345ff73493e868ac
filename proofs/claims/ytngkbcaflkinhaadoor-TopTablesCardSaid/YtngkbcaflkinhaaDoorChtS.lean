/- Charts: the document's own Check. -/
import Derived.Test.YtngkbcaflkinhaaDoorChtR
namespace Go.Proofs.YtngkbcaflkinhaaDoor
open Go.RowKit

end Go.Proofs.YtngkbcaflkinhaaDoor

