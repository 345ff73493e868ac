/-
  DERIVED. GIVEN WITH THE SEED: THE CARDS: each row of YtjhpheepimbbdaaGreatDoorRows.lean that lists a variable, with what it lists TIED to the program's text (the seventh form; the later family's looks); each row that meets fmt, with fmt's text TOLD by the authors' own Lean function (tested against real Go, not proved from fmt's source: count such statements apart). THE CARD IS WHAT COUNTS. Prove the row's statement (the work); the ties are given (YtjhpheepimbbdaaGreatDoorTie.lean); close each card by the builder's one call (the guide's Derived/Test/ToyasCard.lean, 'card_holds'). Laid BY PROGRAM, IN A SANDBOX (cutbox-door.mjs). By AI agents, Wed Nov 11 2026. No macro, syntax, notation, axiom, sorry.
-/
import Derived.Test.YtjhpheepimbbdaaGreatDoorRows
import GoSem.ClaimSeven
namespace Go.Proofs.YtjhpheepimbbdaaGreatDoor
namespace Rows

/-- THE TIED CARD OF 'caulklaw08.ClusterPlays'. -/
def clusterPlaysCard : Claim7 := { stood := { row := clusterPlaysRow, standIns := [], harness := (true, "a36772d616be4a6d4810492332c9e27b0fde6b510f0ef8e8bbf984d689b35520"), looks := false }, kinds := [], alts := [], laidByText := true, laidKinds := [.data], laidTests := true, laidLooks := .later }
def ClusterPlaysCardSaid : Prop := Claim7.holds Tryz.pinned (.plain (OpenSpec.ofChange clusterPlaysSpec)) clusterPlaysCard

/-- THE SECOND FORM's CARD OF 'caulklaw08.ClusterPlays'. -/
def clusterPlaysUptoCard : Claim7 := { stood := { row := clusterPlaysUptoRow, standIns := [], harness := (true, "a36772d616be4a6d4810492332c9e27b0fde6b510f0ef8e8bbf984d689b35520"), looks := false }, kinds := [], alts := [], laidByText := true, laidKinds := [.data], laidTests := true, laidLooks := .later }
def ClusterPlaysUptoCardSaid : Prop := Claim7.holds Tryz.pinned (.plain (OpenSpec.upto clusterPlaysSpec)) clusterPlaysUptoCard
end Rows
end Go.Proofs.YtjhpheepimbbdaaGreatDoor
