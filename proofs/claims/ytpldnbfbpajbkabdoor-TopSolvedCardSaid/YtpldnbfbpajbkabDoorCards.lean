/-
  DERIVED. GIVEN WITH THE SEED: THE CARDS: each row of YtpldnbfbpajbkabDoorRows.lean that lists a variable, with what it lists TIED to the program's text (the seventh form; the later family's looks); each row that meets fmt, with fmt's text TOLD by the authors' own Lean function (tested against real Go, not proved from fmt's source: count such statements apart). THE CARD IS WHAT COUNTS. Prove the row's statement (the work); the ties are given (YtpldnbfbpajbkabDoorTie.lean); close each card by the builder's one call (the guide's Derived/Test/ToyasCard.lean, 'card_holds'). Laid BY PROGRAM, IN A SANDBOX (cutbox-door.mjs). By AI agents, Wed Nov 11 2026. No macro, syntax, notation, axiom, sorry.
-/
import Derived.Test.YtpldnbfbpajbkabDoorRows
import GoSem.ClaimSeven
namespace Go.Proofs.YtpldnbfbpajbkabDoor
namespace Rows

/-- THE TIED CARD OF 'caulktop.TopSolved'. -/
def topSolvedCard : Claim7 := { stood := { row := topSolvedRow, standIns := [], harness := (true, "cb3e6f8a9960115074d5adfa7cd598610799b55778e8d68b2614c35ffa162106"), looks := false }, kinds := [], alts := [], laidByText := true, laidKinds := [.data], laidTests := true, laidLooks := .later }
def TopSolvedCardSaid : Prop := Claim7.holds Tryd.pinned (.plain (OpenSpec.ofChange topSolvedSpec)) topSolvedCard

/-- THE SECOND FORM's CARD OF 'caulktop.TopSolved'. -/
def topSolvedUptoCard : Claim7 := { stood := { row := topSolvedUptoRow, standIns := [], harness := (true, "cb3e6f8a9960115074d5adfa7cd598610799b55778e8d68b2614c35ffa162106"), looks := false }, kinds := [], alts := [], laidByText := true, laidKinds := [.data], laidTests := true, laidLooks := .later }
def TopSolvedUptoCardSaid : Prop := Claim7.holds Tryd.pinned (.plain (OpenSpec.upto topSolvedSpec)) topSolvedUptoCard
end Rows
end Go.Proofs.YtpldnbfbpajbkabDoor
