/-
  No cell of these rows narrows 'for every input' (looked for: loops, veiled, ifaces, maps, wideKeys, modest, calm, conditions, laid).
  DERIVED. THE GIVEN ROWS OF THIS SEAT. 3 by the template 'for every input the law returns true; each argument reads behind the call as it read before'; 0 by the template 'total and deterministic' (their statements: YthhbaccbhfngbaaTotals.lean).
  GIVEN WITH THE SEED: the statements are not yours to turn. If you find one false, say at which input.
  Laid BY PROGRAM, IN A SANDBOX (cutbox-rows.mjs): the forced cells as the released guide's own fill.sh prints them over the translation daaa48fc880f49e7… (all of the seat's roots in one cut). By AI agents, Wed Nov 11 2026. No macro, syntax, notation, axiom, sorry.
-/
import Derived.Test.YthhbaccbhfngbaaChecked
import GoSem.Claim
import GoSem.ClaimJoined
import GoSem.ClaimMapViews
import Derived.JoinedTies
import Derived.KernelRfl
namespace Go.Proofs.Ythhbaccbhfngbaa
/- THE CELL 'sum', in the pinned program and in every row, IS THE sha256 OF THE DUMP (.gsa) THAT YthhbaccbhfngbaaProg.lean LOADS. Nothing in Lean hashes anything: it is a label: what it is worth is what the hold of that sum in a sandbox is worth. -/
noncomputable def Try.pinned : Pinned := { name := "ythhbaccbhfngbaa", sum := "daaa48fc880f49e7900e5821bde4d1ef0c483a8f5db9f99cd462ff5e9d935e5a", checked := Try.checked }
namespace Rows
def none {H : Type} : Left H := { results := [], args := [] }

/-- 'caulklaw15.RefsCounts': WHATEVER THE INPUT: true; the input reads as it did. -/
def refsCountsSpec : ChangeSpec := { name := "refsCounts", fn := fun _ => fun
  | [d1, d2] => { results := [.lit (.bool true)], args := [d1, d2] }
  | _ => none }
def refsCountsRow : OpenClaim := { program := "ythhbaccbhfngbaa", sum := "daaa48fc880f49e7900e5821bde4d1ef0c483a8f5db9f99cd462ff5e9d935e5a", func := "caulk/caulklaw15.RefsCounts", spec := "refsCounts", unfollowed := true, recurses := true, plainKeys := false, apart := false }
def RefsCountsSaid : Prop := refsCountsRow.holds Try.pinned (OpenSpec.ofChange refsCountsSpec)

/-- ITS FALSE NEIGHBOUR: 'it returns false'. Refute it at one input. -/
def refsCountsWrong : ChangeSpec := { name := "refsCounts", fn := fun _ => fun
  | [d1, d2] => { results := [.lit (.bool false)], args := [d1, d2] }
  | _ => none }
def RefsCountsWrongFalsely : Prop := refsCountsRow.holds Try.pinned (OpenSpec.ofChange refsCountsWrong)

/-- 'caulklaw15.RefsAsks': WHATEVER THE INPUT: true; the input reads as it did. -/
def refsAsksSpec : ChangeSpec := { name := "refsAsks", fn := fun _ => fun
  | [d1, d2, d3, d4] => { results := [.lit (.bool true)], args := [d1, d2, d3, d4] }
  | _ => none }
def refsAsksRow : OpenClaim := { program := "ythhbaccbhfngbaa", sum := "daaa48fc880f49e7900e5821bde4d1ef0c483a8f5db9f99cd462ff5e9d935e5a", func := "caulk/caulklaw15.RefsAsks", spec := "refsAsks", unfollowed := true, recurses := true, plainKeys := false, apart := false }
def RefsAsksSaid : Prop := refsAsksRow.holds Try.pinned (OpenSpec.ofChange refsAsksSpec)

/-- ITS FALSE NEIGHBOUR: 'it returns false'. Refute it at one input. -/
def refsAsksWrong : ChangeSpec := { name := "refsAsks", fn := fun _ => fun
  | [d1, d2, d3, d4] => { results := [.lit (.bool false)], args := [d1, d2, d3, d4] }
  | _ => none }
def RefsAsksWrongFalsely : Prop := refsAsksRow.holds Try.pinned (OpenSpec.ofChange refsAsksWrong)

/-- 'caulklaw15.RefsAll': WHATEVER THE INPUT: true; the input reads as it did. -/
def refsAllSpec : ChangeSpec := { name := "refsAll", fn := fun _ => fun
  | [d1, d2, d3, d4] => { results := [.lit (.bool true)], args := [d1, d2, d3, d4] }
  | _ => none }
def refsAllRow : OpenClaim := { program := "ythhbaccbhfngbaa", sum := "daaa48fc880f49e7900e5821bde4d1ef0c483a8f5db9f99cd462ff5e9d935e5a", func := "caulk/caulklaw15.RefsAll", spec := "refsAll", unfollowed := true, recurses := true, plainKeys := false, apart := false }
def RefsAllSaid : Prop := refsAllRow.holds Try.pinned (OpenSpec.ofChange refsAllSpec)

/-- ITS FALSE NEIGHBOUR: 'it returns false'. Refute it at one input. -/
def refsAllWrong : ChangeSpec := { name := "refsAll", fn := fun _ => fun
  | [d1, d2, d3, d4] => { results := [.lit (.bool false)], args := [d1, d2, d3, d4] }
  | _ => none }
def RefsAllWrongFalsely : Prop := refsAllRow.holds Try.pinned (OpenSpec.ofChange refsAllWrong)

/- THE SECOND FORM. 'bulk': how many values and letters a reading holds, each counted each time it is reached (what is shared counts as often as it is met; a slice's spare places count too). A statement '..UptoSaid' is the law's where the arguments, and the package variables that the reading takes, are together of bulk at most 1048576: NARROWER than '..Said'. Prove '..Said' where nothing that the law and all that it calls make is longer than what came in: it says more and counts as full. Else prove '..UptoSaid'. A law counts once. -/
mutual
def uptoBulk {H : Type} : DataW H → Nat
  | .lit (.string bytes) => bytes.length + 1
  | .lit _ => 1
  | .nil => 1
  | .ptr d => uptoBulk d + 1
  | .slice elems spare => uptoBulkAll elems + uptoBulkAll spare + 1
  | .agg parts => uptoBulkAll parts + 1
  | .iface _ d => uptoBulk d + 1
  | .map entries => uptoBulkEntries entries + 1
  | .held _ => 1
def uptoBulkAll {H : Type} : List (DataW H) → Nat
  | [] => 0
  | d :: r => uptoBulk d + uptoBulkAll r
def uptoBulkEntries {H : Type} : List (Lit × DataW H) → Nat
  | [] => 0
  | x :: r => uptoBulkEntry x + uptoBulkEntries r
def uptoBulkEntry {H : Type} : Lit × DataW H → Nat
  | (.string bytes, d) => bytes.length + uptoBulk d + 1
  | (_, d) => uptoBulk d + 1
 end
def uptoSmall : (H : Type) → List (DataW H) → Bool := fun _ ds => decide (uptoBulkAll ds ≤ 1048576)
def OpenSpec.upto (s : _root_.Go.ChangeSpec) : _root_.Go.OpenSpec := { _root_.Go.OpenSpec.ofChange s with cond := some uptoSmall }

/-- 'caulklaw15.RefsCounts', WHERE WHAT IT READS IS OF BULK AT MOST 1048576: true; the input reads as it did. -/
def refsCountsUptoRow : OpenClaim := { program := "ythhbaccbhfngbaa", sum := "daaa48fc880f49e7900e5821bde4d1ef0c483a8f5db9f99cd462ff5e9d935e5a", func := "caulk/caulklaw15.RefsCounts", spec := "refsCounts", unfollowed := true, recurses := true, plainKeys := false, apart := false, narrowed := true }
def RefsCountsUptoSaid : Prop := refsCountsUptoRow.holds Try.pinned (OpenSpec.upto refsCountsSpec)

/-- 'caulklaw15.RefsAsks', WHERE WHAT IT READS IS OF BULK AT MOST 1048576: true; the input reads as it did. -/
def refsAsksUptoRow : OpenClaim := { program := "ythhbaccbhfngbaa", sum := "daaa48fc880f49e7900e5821bde4d1ef0c483a8f5db9f99cd462ff5e9d935e5a", func := "caulk/caulklaw15.RefsAsks", spec := "refsAsks", unfollowed := true, recurses := true, plainKeys := false, apart := false, narrowed := true }
def RefsAsksUptoSaid : Prop := refsAsksUptoRow.holds Try.pinned (OpenSpec.upto refsAsksSpec)

/-- 'caulklaw15.RefsAll', WHERE WHAT IT READS IS OF BULK AT MOST 1048576: true; the input reads as it did. -/
def refsAllUptoRow : OpenClaim := { program := "ythhbaccbhfngbaa", sum := "daaa48fc880f49e7900e5821bde4d1ef0c483a8f5db9f99cd462ff5e9d935e5a", func := "caulk/caulklaw15.RefsAll", spec := "refsAll", unfollowed := true, recurses := true, plainKeys := false, apart := false, narrowed := true }
def RefsAllUptoSaid : Prop := refsAllUptoRow.holds Try.pinned (OpenSpec.upto refsAllSpec)

end Rows
end Go.Proofs.Ythhbaccbhfngbaa
