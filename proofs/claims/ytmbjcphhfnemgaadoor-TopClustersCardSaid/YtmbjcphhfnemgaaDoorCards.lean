/-
  DERIVED. GIVEN WITH THE SEED: THE CARDS: each row of YtmbjcphhfnemgaaDoorRows.lean that lists a variable, with what it lists TIED to the program's text (the seventh form; the later family's looks); each row that meets fmt, with fmt's text TOLD by the authors' own Lean function (tested against real Go, not proved from fmt's source: count such statements apart). THE CARD IS WHAT COUNTS. Prove the row's statement (the work); the ties are given (YtmbjcphhfnemgaaDoorTie.lean); close each card by the builder's one call (the guide's Derived/Test/ToyasCard.lean, 'card_holds'). Laid BY PROGRAM, IN A SANDBOX (cutbox-door.mjs). By AI agents, Wed Nov 11 2026. No macro, syntax, notation, axiom, sorry.
-/
import Derived.Test.YtmbjcphhfnemgaaDoorRows
import GoSem.ClaimSeven
namespace Go.Proofs.YtmbjcphhfnemgaaDoor
namespace Rows

/-- THE TIED CARD OF 'caulktop.TopClusters'. -/
def topClustersCard : Claim7 := { stood := { row := topClustersRow, standIns := [], harness := (true, "08daded294b7a009e25f086cc4c4663ca6693e8e76e3fa689220129c22b2278c"), looks := false }, kinds := [], alts := [], laidByText := true, laidKinds := [.data], laidTests := true, laidLooks := .later }
def TopClustersCardSaid : Prop := Claim7.holds Tryd.pinned (.plain (OpenSpec.ofChange topClustersSpec)) topClustersCard

/-- THE SECOND FORM's CARD OF 'caulktop.TopClusters'. -/
def topClustersUptoCard : Claim7 := { stood := { row := topClustersUptoRow, standIns := [], harness := (true, "08daded294b7a009e25f086cc4c4663ca6693e8e76e3fa689220129c22b2278c"), looks := false }, kinds := [], alts := [], laidByText := true, laidKinds := [.data], laidTests := true, laidLooks := .later }
def TopClustersUptoCardSaid : Prop := Claim7.holds Tryd.pinned (.plain (OpenSpec.upto topClustersSpec)) topClustersUptoCard
end Rows
end Go.Proofs.YtmbjcphhfnemgaaDoor
