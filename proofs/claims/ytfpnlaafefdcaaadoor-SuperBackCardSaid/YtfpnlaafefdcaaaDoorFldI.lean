/- Fields: the contract of the document's Same. -/
import Derived.Test.YtfpnlaafefdcaaaDoorFldH
import Derived.RegionTactic
namespace Go.Proofs.YtfpnlaafefdcaaaDoor
open Go.RowKit

end Go.Proofs.YtfpnlaafefdcaaaDoor
