/-
  NARROWER THAN 'FOR EVERY INPUT', by the rows' own cells (each row's printed sentence says how): PagesBuilds: laid · PagesBack: laid · SuperTells: laid · SuperFinds: laid · SuperBack: laid.
  DERIVED. THE GIVEN ROWS OF THIS SEAT. 5 by the template 'for every input the law returns true; each argument reads behind the call as it read before'; 0 by the template 'total and deterministic' (their statements: YtfpnlaafefdcaaaDoorTotals.lean).
  GIVEN WITH THE SEED: the statements are not yours to turn. If you find one false, say at which input.
  Laid BY PROGRAM, IN A SANDBOX (cutbox-rows.mjs): the forced cells as the released guide's own fill.sh prints them over the translation 205b1b004a6a2846… (all of the seat's roots in one cut). By AI agents, Wed Nov 11 2026. No macro, syntax, notation, axiom, sorry.
-/
import Derived.Test.YtfpnlaafefdcaaaDoorChecked
import GoSem.Claim
import GoSem.ClaimJoined
import GoSem.ClaimMapViews
import Derived.JoinedTies
import Derived.KernelRfl
namespace Go.Proofs.YtfpnlaafefdcaaaDoor
/- THE CELL 'sum', in the pinned program and in every row, IS THE sha256 OF THE DUMP (.gsa) THAT YtfpnlaafefdcaaaDoorProg.lean LOADS. Nothing in Lean hashes anything: it is a label: what it is worth is what the hold of that sum in a sandbox is worth. -/
noncomputable def Tryd.pinned : Pinned := { name := "ytfpnlaafefdcaaadoor", sum := "205b1b004a6a28467fe1f8695b74d7be93a73b55aecff29721d81627c6edbfcc", checked := Tryd.checked }
namespace Rows
def none {H : Type} : Left H := { results := [], args := [] }

/- WHAT THE LISTED PACKAGE-LEVEL VARIABLES READ AS WHEN THE CALL BEGINS. Each datum BY PROGRAM (the guide's laid-datum.mjs) off the statement by which the dump's own 'gosem.cut.vars' lays the variable. In a bare row this is a premise. The card (YtfpnlaafefdcaaaDoorCards.lean) ties it to the program's text. -/
def laid_caulk_crc_nibbles {H : Type} : DataW H := .agg [.lit (.int .u32 0), .lit (.int .u32 274646895), .lit (.int .u32 549293790), .lit (.int .u32 820201905), .lit (.int .u32 1098587580), .lit (.int .u32 1361435347), .lit (.int .u32 1640403810), .lit (.int .u32 1905808397), .lit (.int .u32 2197175160), .lit (.int .u32 2460548119), .lit (.int .u32 2722870694), .lit (.int .u32 2987750089), .lit (.int .u32 3280807620), .lit (.int .u32 3553878443), .lit (.int .u32 3811616794), .lit (.int .u32 4084100981)]

/-- 'caulklaw09.PagesBuilds': WHATEVER THE INPUT: true; the input reads as it did. -/
def pagesBuildsSpec : ChangeSpec := { name := "pagesBuilds", fn := fun _ => fun
  | [d1, d2, d3, d4] => { results := [.lit (.bool true)], args := [d1, d2, d3, d4] }
  | _ => none }
def pagesBuildsRow : OpenClaim := { program := "ytfpnlaafefdcaaadoor", sum := "205b1b004a6a28467fe1f8695b74d7be93a73b55aecff29721d81627c6edbfcc", func := "caulk/caulklaw09.PagesBuilds", spec := "pagesBuilds", inPlace := ["internal/abi.NoEscape", "internal/bytealg.MakeNoZero"], unfollowed := true, recurses := true, named := ["caulk/crc.nibbles"], apart := false, laid := [("caulk/crc.nibbles", laid_caulk_crc_nibbles)] }
def PagesBuildsSaid : Prop := pagesBuildsRow.holds Tryd.pinned (OpenSpec.ofChange pagesBuildsSpec)

/-- ITS FALSE NEIGHBOUR: 'it returns false'. Refute it at one input. -/
def pagesBuildsWrong : ChangeSpec := { name := "pagesBuilds", fn := fun _ => fun
  | [d1, d2, d3, d4] => { results := [.lit (.bool false)], args := [d1, d2, d3, d4] }
  | _ => none }
def PagesBuildsWrongFalsely : Prop := pagesBuildsRow.holds Tryd.pinned (OpenSpec.ofChange pagesBuildsWrong)

/-- 'caulklaw09.PagesBack': WHATEVER THE INPUT: true; the input reads as it did. -/
def pagesBackSpec : ChangeSpec := { name := "pagesBack", fn := fun _ => fun
  | [d1, d2, d3, d4] => { results := [.lit (.bool true)], args := [d1, d2, d3, d4] }
  | _ => none }
def pagesBackRow : OpenClaim := { program := "ytfpnlaafefdcaaadoor", sum := "205b1b004a6a28467fe1f8695b74d7be93a73b55aecff29721d81627c6edbfcc", func := "caulk/caulklaw09.PagesBack", spec := "pagesBack", inPlace := ["internal/abi.NoEscape", "internal/bytealg.MakeNoZero"], unfollowed := true, recurses := true, named := ["caulk/crc.nibbles"], apart := false, laid := [("caulk/crc.nibbles", laid_caulk_crc_nibbles)] }
def PagesBackSaid : Prop := pagesBackRow.holds Tryd.pinned (OpenSpec.ofChange pagesBackSpec)

/-- ITS FALSE NEIGHBOUR: 'it returns false'. Refute it at one input. -/
def pagesBackWrong : ChangeSpec := { name := "pagesBack", fn := fun _ => fun
  | [d1, d2, d3, d4] => { results := [.lit (.bool false)], args := [d1, d2, d3, d4] }
  | _ => none }
def PagesBackWrongFalsely : Prop := pagesBackRow.holds Tryd.pinned (OpenSpec.ofChange pagesBackWrong)

/-- 'caulklaw10.SuperTells': WHATEVER THE INPUT: true; the input reads as it did. -/
def superTellsSpec : ChangeSpec := { name := "superTells", fn := fun _ => fun
  | [d1, d2] => { results := [.lit (.bool true)], args := [d1, d2] }
  | _ => none }
def superTellsRow : OpenClaim := { program := "ytfpnlaafefdcaaadoor", sum := "205b1b004a6a28467fe1f8695b74d7be93a73b55aecff29721d81627c6edbfcc", func := "caulk/caulklaw10.SuperTells", spec := "superTells", inPlace := ["internal/abi.NoEscape"], unfollowed := true, recurses := true, named := ["caulk/crc.nibbles"], apart := false, laid := [("caulk/crc.nibbles", laid_caulk_crc_nibbles)] }
def SuperTellsSaid : Prop := superTellsRow.holds Tryd.pinned (OpenSpec.ofChange superTellsSpec)

/-- ITS FALSE NEIGHBOUR: 'it returns false'. Refute it at one input. -/
def superTellsWrong : ChangeSpec := { name := "superTells", fn := fun _ => fun
  | [d1, d2] => { results := [.lit (.bool false)], args := [d1, d2] }
  | _ => none }
def SuperTellsWrongFalsely : Prop := superTellsRow.holds Tryd.pinned (OpenSpec.ofChange superTellsWrong)

/-- 'caulklaw10.SuperFinds': WHATEVER THE INPUT: true; the input reads as it did. -/
def superFindsSpec : ChangeSpec := { name := "superFinds", fn := fun _ => fun
  | [d1, d2, d3, d4] => { results := [.lit (.bool true)], args := [d1, d2, d3, d4] }
  | _ => none }
def superFindsRow : OpenClaim := { program := "ytfpnlaafefdcaaadoor", sum := "205b1b004a6a28467fe1f8695b74d7be93a73b55aecff29721d81627c6edbfcc", func := "caulk/caulklaw10.SuperFinds", spec := "superFinds", inPlace := ["internal/abi.NoEscape", "internal/bytealg.MakeNoZero"], unfollowed := true, recurses := true, named := ["caulk/crc.nibbles"], apart := false, laid := [("caulk/crc.nibbles", laid_caulk_crc_nibbles)] }
def SuperFindsSaid : Prop := superFindsRow.holds Tryd.pinned (OpenSpec.ofChange superFindsSpec)

/-- ITS FALSE NEIGHBOUR: 'it returns false'. Refute it at one input. -/
def superFindsWrong : ChangeSpec := { name := "superFinds", fn := fun _ => fun
  | [d1, d2, d3, d4] => { results := [.lit (.bool false)], args := [d1, d2, d3, d4] }
  | _ => none }
def SuperFindsWrongFalsely : Prop := superFindsRow.holds Tryd.pinned (OpenSpec.ofChange superFindsWrong)

/-- 'caulklaw10.SuperBack': WHATEVER THE INPUT: true; the input reads as it did. -/
def superBackSpec : ChangeSpec := { name := "superBack", fn := fun _ => fun
  | [d1, d2, d3] => { results := [.lit (.bool true)], args := [d1, d2, d3] }
  | _ => none }
def superBackRow : OpenClaim := { program := "ytfpnlaafefdcaaadoor", sum := "205b1b004a6a28467fe1f8695b74d7be93a73b55aecff29721d81627c6edbfcc", func := "caulk/caulklaw10.SuperBack", spec := "superBack", inPlace := ["internal/abi.NoEscape"], unfollowed := true, recurses := true, named := ["caulk/crc.nibbles"], apart := false, laid := [("caulk/crc.nibbles", laid_caulk_crc_nibbles)] }
def SuperBackSaid : Prop := superBackRow.holds Tryd.pinned (OpenSpec.ofChange superBackSpec)

/-- ITS FALSE NEIGHBOUR: 'it returns false'. Refute it at one input. -/
def superBackWrong : ChangeSpec := { name := "superBack", fn := fun _ => fun
  | [d1, d2, d3] => { results := [.lit (.bool false)], args := [d1, d2, d3] }
  | _ => none }
def SuperBackWrongFalsely : Prop := superBackRow.holds Tryd.pinned (OpenSpec.ofChange superBackWrong)

/- THE SECOND FORM. 'bulk': how many values and letters a reading holds, each counted each time it is reached (what is shared counts as often as it is met; a slice's spare places count too). A statement '..UptoSaid' is the law's where the arguments, and the package variables that the reading takes, are together of bulk at most 1048576: NARROWER than '..Said'. Prove '..Said' where nothing that the law and all that it calls make is longer than what came in: it says more and counts as full. Else prove '..UptoSaid'. A law counts once. -/
mutual
def uptoBulk {H : Type} : DataW H → Nat
  | .lit (.string bytes) => bytes.length + 1
  | .lit _ => 1
  | .nil => 1
  | .ptr d => uptoBulk d + 1
  | .slice elems spare => uptoBulkAll elems + uptoBulkAll spare + 1
  | .agg parts => uptoBulkAll parts + 1
  | .iface _ d => uptoBulk d + 1
  | .map entries => uptoBulkEntries entries + 1
  | .held _ => 1
def uptoBulkAll {H : Type} : List (DataW H) → Nat
  | [] => 0
  | d :: r => uptoBulk d + uptoBulkAll r
def uptoBulkEntries {H : Type} : List (Lit × DataW H) → Nat
  | [] => 0
  | x :: r => uptoBulkEntry x + uptoBulkEntries r
def uptoBulkEntry {H : Type} : Lit × DataW H → Nat
  | (.string bytes, d) => bytes.length + uptoBulk d + 1
  | (_, d) => uptoBulk d + 1
 end
def uptoSmall : (H : Type) → List (DataW H) → Bool := fun _ ds => decide (uptoBulkAll ds ≤ 1048576)
def OpenSpec.upto (s : _root_.Go.ChangeSpec) : _root_.Go.OpenSpec := { _root_.Go.OpenSpec.ofChange s with cond := some uptoSmall }

/-- 'caulklaw09.PagesBuilds', WHERE WHAT IT READS IS OF BULK AT MOST 1048576: true; the input reads as it did. -/
def pagesBuildsUptoRow : OpenClaim := { program := "ytfpnlaafefdcaaadoor", sum := "205b1b004a6a28467fe1f8695b74d7be93a73b55aecff29721d81627c6edbfcc", func := "caulk/caulklaw09.PagesBuilds", spec := "pagesBuilds", inPlace := ["internal/abi.NoEscape", "internal/bytealg.MakeNoZero"], unfollowed := true, recurses := true, named := ["caulk/crc.nibbles"], apart := false, laid := [("caulk/crc.nibbles", laid_caulk_crc_nibbles)], narrowed := true }
def PagesBuildsUptoSaid : Prop := pagesBuildsUptoRow.holds Tryd.pinned (OpenSpec.upto pagesBuildsSpec)

/-- 'caulklaw09.PagesBack', WHERE WHAT IT READS IS OF BULK AT MOST 1048576: true; the input reads as it did. -/
def pagesBackUptoRow : OpenClaim := { program := "ytfpnlaafefdcaaadoor", sum := "205b1b004a6a28467fe1f8695b74d7be93a73b55aecff29721d81627c6edbfcc", func := "caulk/caulklaw09.PagesBack", spec := "pagesBack", inPlace := ["internal/abi.NoEscape", "internal/bytealg.MakeNoZero"], unfollowed := true, recurses := true, named := ["caulk/crc.nibbles"], apart := false, laid := [("caulk/crc.nibbles", laid_caulk_crc_nibbles)], narrowed := true }
def PagesBackUptoSaid : Prop := pagesBackUptoRow.holds Tryd.pinned (OpenSpec.upto pagesBackSpec)

/-- 'caulklaw10.SuperTells', WHERE WHAT IT READS IS OF BULK AT MOST 1048576: true; the input reads as it did. -/
def superTellsUptoRow : OpenClaim := { program := "ytfpnlaafefdcaaadoor", sum := "205b1b004a6a28467fe1f8695b74d7be93a73b55aecff29721d81627c6edbfcc", func := "caulk/caulklaw10.SuperTells", spec := "superTells", inPlace := ["internal/abi.NoEscape"], unfollowed := true, recurses := true, named := ["caulk/crc.nibbles"], apart := false, laid := [("caulk/crc.nibbles", laid_caulk_crc_nibbles)], narrowed := true }
def SuperTellsUptoSaid : Prop := superTellsUptoRow.holds Tryd.pinned (OpenSpec.upto superTellsSpec)

/-- 'caulklaw10.SuperFinds', WHERE WHAT IT READS IS OF BULK AT MOST 1048576: true; the input reads as it did. -/
def superFindsUptoRow : OpenClaim := { program := "ytfpnlaafefdcaaadoor", sum := "205b1b004a6a28467fe1f8695b74d7be93a73b55aecff29721d81627c6edbfcc", func := "caulk/caulklaw10.SuperFinds", spec := "superFinds", inPlace := ["internal/abi.NoEscape", "internal/bytealg.MakeNoZero"], unfollowed := true, recurses := true, named := ["caulk/crc.nibbles"], apart := false, laid := [("caulk/crc.nibbles", laid_caulk_crc_nibbles)], narrowed := true }
def SuperFindsUptoSaid : Prop := superFindsUptoRow.holds Tryd.pinned (OpenSpec.upto superFindsSpec)

/-- 'caulklaw10.SuperBack', WHERE WHAT IT READS IS OF BULK AT MOST 1048576: true; the input reads as it did. -/
def superBackUptoRow : OpenClaim := { program := "ytfpnlaafefdcaaadoor", sum := "205b1b004a6a28467fe1f8695b74d7be93a73b55aecff29721d81627c6edbfcc", func := "caulk/caulklaw10.SuperBack", spec := "superBack", inPlace := ["internal/abi.NoEscape"], unfollowed := true, recurses := true, named := ["caulk/crc.nibbles"], apart := false, laid := [("caulk/crc.nibbles", laid_caulk_crc_nibbles)], narrowed := true }
def SuperBackUptoSaid : Prop := superBackUptoRow.holds Tryd.pinned (OpenSpec.upto superBackSpec)

end Rows
end Go.Proofs.YtfpnlaafefdcaaaDoor
