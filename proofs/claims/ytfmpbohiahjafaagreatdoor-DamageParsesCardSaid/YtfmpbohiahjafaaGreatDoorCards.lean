/-
  DERIVED. GIVEN WITH THE SEED: THE CARDS: each row of YtfmpbohiahjafaaGreatDoorRows.lean that lists a variable, with what it lists TIED to the program's text (the seventh form; the later family's looks); each row that meets fmt, with fmt's text TOLD by the authors' own Lean function (tested against real Go, not proved from fmt's source: count such statements apart). THE CARD IS WHAT COUNTS. Prove the row's statement (the work); the ties are given (YtfmpbohiahjafaaGreatDoorTie.lean); close each card by the builder's one call (the guide's Derived/Test/ToyasCard.lean, 'card_holds'). Laid BY PROGRAM, IN A SANDBOX (cutbox-door.mjs). By AI agents, Wed Nov 11 2026. No macro, syntax, notation, axiom, sorry.
-/
import Derived.Test.YtfmpbohiahjafaaGreatDoorRows
import GoSem.ClaimSeven
namespace Go.Proofs.YtfmpbohiahjafaaGreatDoor
namespace Rows

/-- THE TIED CARD OF 'caulklaw22.DamageTells'. -/
def damageTellsCard : Claim7 := { stood := { row := damageTellsRow, standIns := [], harness := (true, "9f426fe235b6fcf20d82e9a46641fc2bbd0fe978f52a7868174b89f2eda2e7af"), looks := true }, kinds := [], alts := [], laidByText := true, laidKinds := [.data, .data, .data, .data, .sentinel, .sentinel, .data, .pinned], laidTests := true, laidLooks := .later }
def DamageTellsCardSaid : Prop := Claim7.holds Tryz.pinned (.plain (OpenSpec.ofChange damageTellsSpec)) damageTellsCard

/-- THE TIED CARD OF 'caulklaw22.DamageParses'. -/
def damageParsesCard : Claim7 := { stood := { row := damageParsesRow, standIns := [], harness := (true, "9f426fe235b6fcf20d82e9a46641fc2bbd0fe978f52a7868174b89f2eda2e7af"), looks := true }, kinds := [], alts := [], laidByText := true, laidKinds := [.data, .data, .data, .data, .sentinel, .sentinel, .data, .pinned], laidTests := true, laidLooks := .later }
def DamageParsesCardSaid : Prop := Claim7.holds Tryz.pinned (.plain (OpenSpec.ofChange damageParsesSpec)) damageParsesCard

/-- THE TIED CARD OF 'caulklaw22.DamageBack'. -/
def damageBackCard : Claim7 := { stood := { row := damageBackRow, standIns := [], harness := (true, "9f426fe235b6fcf20d82e9a46641fc2bbd0fe978f52a7868174b89f2eda2e7af"), looks := true }, kinds := [], alts := [], laidByText := true, laidKinds := [.data, .data, .data, .data, .sentinel, .sentinel, .data, .pinned], laidTests := true, laidLooks := .later }
def DamageBackCardSaid : Prop := Claim7.holds Tryz.pinned (.plain (OpenSpec.ofChange damageBackSpec)) damageBackCard

/-- THE SECOND FORM's CARD OF 'caulklaw22.DamageTells'. -/
def damageTellsUptoCard : Claim7 := { stood := { row := damageTellsUptoRow, standIns := [], harness := (true, "9f426fe235b6fcf20d82e9a46641fc2bbd0fe978f52a7868174b89f2eda2e7af"), looks := true }, kinds := [], alts := [], laidByText := true, laidKinds := [.data, .data, .data, .data, .sentinel, .sentinel, .data, .pinned], laidTests := true, laidLooks := .later }
def DamageTellsUptoCardSaid : Prop := Claim7.holds Tryz.pinned (.plain (OpenSpec.upto damageTellsSpec)) damageTellsUptoCard

/-- THE SECOND FORM's CARD OF 'caulklaw22.DamageParses'. -/
def damageParsesUptoCard : Claim7 := { stood := { row := damageParsesUptoRow, standIns := [], harness := (true, "9f426fe235b6fcf20d82e9a46641fc2bbd0fe978f52a7868174b89f2eda2e7af"), looks := true }, kinds := [], alts := [], laidByText := true, laidKinds := [.data, .data, .data, .data, .sentinel, .sentinel, .data, .pinned], laidTests := true, laidLooks := .later }
def DamageParsesUptoCardSaid : Prop := Claim7.holds Tryz.pinned (.plain (OpenSpec.upto damageParsesSpec)) damageParsesUptoCard

/-- THE SECOND FORM's CARD OF 'caulklaw22.DamageBack'. -/
def damageBackUptoCard : Claim7 := { stood := { row := damageBackUptoRow, standIns := [], harness := (true, "9f426fe235b6fcf20d82e9a46641fc2bbd0fe978f52a7868174b89f2eda2e7af"), looks := true }, kinds := [], alts := [], laidByText := true, laidKinds := [.data, .data, .data, .data, .sentinel, .sentinel, .data, .pinned], laidTests := true, laidLooks := .later }
def DamageBackUptoCardSaid : Prop := Claim7.holds Tryz.pinned (.plain (OpenSpec.upto damageBackSpec)) damageBackUptoCard
end Rows
end Go.Proofs.YtfmpbohiahjafaaGreatDoor
