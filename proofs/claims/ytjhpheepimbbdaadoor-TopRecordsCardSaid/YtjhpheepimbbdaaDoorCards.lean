/-
  DERIVED. GIVEN WITH THE SEED: THE CARDS: each row of YtjhpheepimbbdaaDoorRows.lean that lists a variable, with what it lists TIED to the program's text (the seventh form; the later family's looks); each row that meets fmt, with fmt's text TOLD by the authors' own Lean function (tested against real Go, not proved from fmt's source: count such statements apart). THE CARD IS WHAT COUNTS. Prove the row's statement (the work); the ties are given (YtjhpheepimbbdaaDoorTie.lean); close each card by the builder's one call (the guide's Derived/Test/ToyasCard.lean, 'card_holds'). Laid BY PROGRAM, IN A SANDBOX (cutbox-door.mjs). By AI agents, Wed Nov 11 2026. No macro, syntax, notation, axiom, sorry.
-/
import Derived.Test.YtjhpheepimbbdaaDoorRows
import GoSem.ClaimSeven
namespace Go.Proofs.YtjhpheepimbbdaaDoor
namespace Rows

/-- THE TIED CARD OF 'caulklaw08.ClusterBack'. -/
def clusterBackCard : Claim7 := { stood := { row := clusterBackRow, standIns := [], harness := (true, "ec77a02a220f99bd9b8eac809f7496a1a85621098ceed8ca2c6e8b65a0aa72b0"), looks := false }, kinds := [], alts := [], laidByText := true, laidKinds := [.data], laidTests := true, laidLooks := .later }
def ClusterBackCardSaid : Prop := Claim7.holds Tryd.pinned (.plain (OpenSpec.ofChange clusterBackSpec)) clusterBackCard

/-- THE TIED CARD OF 'caulktop.TopRecords'. -/
def topRecordsCard : Claim7 := { stood := { row := topRecordsRow, standIns := [], harness := (true, "ec77a02a220f99bd9b8eac809f7496a1a85621098ceed8ca2c6e8b65a0aa72b0"), looks := false }, kinds := [], alts := [], laidByText := true, laidKinds := [.data], laidTests := true, laidLooks := .later }
def TopRecordsCardSaid : Prop := Claim7.holds Tryd.pinned (.plain (OpenSpec.ofChange topRecordsSpec)) topRecordsCard

/-- THE SECOND FORM's CARD OF 'caulklaw08.ClusterBack'. -/
def clusterBackUptoCard : Claim7 := { stood := { row := clusterBackUptoRow, standIns := [], harness := (true, "ec77a02a220f99bd9b8eac809f7496a1a85621098ceed8ca2c6e8b65a0aa72b0"), looks := false }, kinds := [], alts := [], laidByText := true, laidKinds := [.data], laidTests := true, laidLooks := .later }
def ClusterBackUptoCardSaid : Prop := Claim7.holds Tryd.pinned (.plain (OpenSpec.upto clusterBackSpec)) clusterBackUptoCard

/-- THE SECOND FORM's CARD OF 'caulktop.TopRecords'. -/
def topRecordsUptoCard : Claim7 := { stood := { row := topRecordsUptoRow, standIns := [], harness := (true, "ec77a02a220f99bd9b8eac809f7496a1a85621098ceed8ca2c6e8b65a0aa72b0"), looks := false }, kinds := [], alts := [], laidByText := true, laidKinds := [.data], laidTests := true, laidLooks := .later }
def TopRecordsUptoCardSaid : Prop := Claim7.holds Tryd.pinned (.plain (OpenSpec.upto topRecordsSpec)) topRecordsUptoCard
end Rows
end Go.Proofs.YtjhpheepimbbdaaDoor
