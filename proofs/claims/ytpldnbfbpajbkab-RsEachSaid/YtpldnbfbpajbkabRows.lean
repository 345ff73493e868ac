/-
  No cell of these rows narrows 'for every input' (looked for: loops, veiled, ifaces, maps, wideKeys, modest, calm, conditions, laid).
  DERIVED. THE GIVEN ROWS OF THIS SEAT. 3 by the template 'for every input the law returns true; each argument reads behind the call as it read before'; 0 by the template 'total and deterministic' (their statements: YtpldnbfbpajbkabTotals.lean).
  GIVEN WITH THE SEED: the statements are not yours to turn. If you find one false, say at which input.
  Laid BY PROGRAM, IN A SANDBOX (cutbox-rows.mjs): the forced cells as the released guide's own fill.sh prints them over the translation 6e1a6febc393e3f1… (all of the seat's roots in one cut). By AI agents, Wed Nov 11 2026. No macro, syntax, notation, axiom, sorry.
-/
import Derived.Test.YtpldnbfbpajbkabChecked
import GoSem.Claim
import GoSem.ClaimJoined
import GoSem.ClaimMapViews
import Derived.JoinedTies
import Derived.KernelRfl
namespace Go.Proofs.Ytpldnbfbpajbkab
/- THE CELL 'sum', in the pinned program and in every row, IS THE sha256 OF THE DUMP (.gsa) THAT YtpldnbfbpajbkabProg.lean LOADS. Nothing in Lean hashes anything: it is a label: what it is worth is what the hold of that sum in a sandbox is worth. -/
noncomputable def Try.pinned : Pinned := { name := "ytpldnbfbpajbkab", sum := "6e1a6febc393e3f17e23d5e6b6f290cabbe8bfc6ad7d3aea3b2433d714335dfc", checked := Try.checked }
namespace Rows
def none {H : Type} : Left H := { results := [], args := [] }

/-- 'caulklaw04.RsBack': WHATEVER THE INPUT: true; the input reads as it did. -/
def rsBackSpec : ChangeSpec := { name := "rsBack", fn := fun _ => fun
  | [d1, d2, d3, d4] => { results := [.lit (.bool true)], args := [d1, d2, d3, d4] }
  | _ => none }
def rsBackRow : OpenClaim := { program := "ytpldnbfbpajbkab", sum := "6e1a6febc393e3f17e23d5e6b6f290cabbe8bfc6ad7d3aea3b2433d714335dfc", func := "caulk/caulklaw04.RsBack", spec := "rsBack", unfollowed := true, recurses := true, apart := false }
def RsBackSaid : Prop := rsBackRow.holds Try.pinned (OpenSpec.ofChange rsBackSpec)

/-- ITS FALSE NEIGHBOUR: 'it returns false'. Refute it at one input. -/
def rsBackWrong : ChangeSpec := { name := "rsBack", fn := fun _ => fun
  | [d1, d2, d3, d4] => { results := [.lit (.bool false)], args := [d1, d2, d3, d4] }
  | _ => none }
def RsBackWrongFalsely : Prop := rsBackRow.holds Try.pinned (OpenSpec.ofChange rsBackWrong)

/-- 'caulklaw04.RsTogether': WHATEVER THE INPUT: true; the input reads as it did. -/
def rsTogetherSpec : ChangeSpec := { name := "rsTogether", fn := fun _ => fun
  | [d1, d2, d3, d4] => { results := [.lit (.bool true)], args := [d1, d2, d3, d4] }
  | _ => none }
def rsTogetherRow : OpenClaim := { program := "ytpldnbfbpajbkab", sum := "6e1a6febc393e3f17e23d5e6b6f290cabbe8bfc6ad7d3aea3b2433d714335dfc", func := "caulk/caulklaw04.RsTogether", spec := "rsTogether", unfollowed := true, recurses := true, apart := false }
def RsTogetherSaid : Prop := rsTogetherRow.holds Try.pinned (OpenSpec.ofChange rsTogetherSpec)

/-- ITS FALSE NEIGHBOUR: 'it returns false'. Refute it at one input. -/
def rsTogetherWrong : ChangeSpec := { name := "rsTogether", fn := fun _ => fun
  | [d1, d2, d3, d4] => { results := [.lit (.bool false)], args := [d1, d2, d3, d4] }
  | _ => none }
def RsTogetherWrongFalsely : Prop := rsTogetherRow.holds Try.pinned (OpenSpec.ofChange rsTogetherWrong)

/-- 'caulklaw04.RsEach': WHATEVER THE INPUT: true; the input reads as it did. -/
def rsEachSpec : ChangeSpec := { name := "rsEach", fn := fun _ => fun
  | [d1, d2, d3, d4, d5, d6] => { results := [.lit (.bool true)], args := [d1, d2, d3, d4, d5, d6] }
  | _ => none }
def rsEachRow : OpenClaim := { program := "ytpldnbfbpajbkab", sum := "6e1a6febc393e3f17e23d5e6b6f290cabbe8bfc6ad7d3aea3b2433d714335dfc", func := "caulk/caulklaw04.RsEach", spec := "rsEach", unfollowed := true, recurses := true, apart := false }
def RsEachSaid : Prop := rsEachRow.holds Try.pinned (OpenSpec.ofChange rsEachSpec)

/-- ITS FALSE NEIGHBOUR: 'it returns false'. Refute it at one input. -/
def rsEachWrong : ChangeSpec := { name := "rsEach", fn := fun _ => fun
  | [d1, d2, d3, d4, d5, d6] => { results := [.lit (.bool false)], args := [d1, d2, d3, d4, d5, d6] }
  | _ => none }
def RsEachWrongFalsely : Prop := rsEachRow.holds Try.pinned (OpenSpec.ofChange rsEachWrong)

/- THE SECOND FORM. 'bulk': how many values and letters a reading holds, each counted each time it is reached (what is shared counts as often as it is met; a slice's spare places count too). A statement '..UptoSaid' is the law's where the arguments, and the package variables that the reading takes, are together of bulk at most 1048576: NARROWER than '..Said'. Prove '..Said' where nothing that the law and all that it calls make is longer than what came in: it says more and counts as full. Else prove '..UptoSaid'. A law counts once. -/
mutual
def uptoBulk {H : Type} : DataW H → Nat
  | .lit (.string bytes) => bytes.length + 1
  | .lit _ => 1
  | .nil => 1
  | .ptr d => uptoBulk d + 1
  | .slice elems spare => uptoBulkAll elems + uptoBulkAll spare + 1
  | .agg parts => uptoBulkAll parts + 1
  | .iface _ d => uptoBulk d + 1
  | .map entries => uptoBulkEntries entries + 1
  | .held _ => 1
def uptoBulkAll {H : Type} : List (DataW H) → Nat
  | [] => 0
  | d :: r => uptoBulk d + uptoBulkAll r
def uptoBulkEntries {H : Type} : List (Lit × DataW H) → Nat
  | [] => 0
  | x :: r => uptoBulkEntry x + uptoBulkEntries r
def uptoBulkEntry {H : Type} : Lit × DataW H → Nat
  | (.string bytes, d) => bytes.length + uptoBulk d + 1
  | (_, d) => uptoBulk d + 1
 end
def uptoSmall : (H : Type) → List (DataW H) → Bool := fun _ ds => decide (uptoBulkAll ds ≤ 1048576)
def OpenSpec.upto (s : _root_.Go.ChangeSpec) : _root_.Go.OpenSpec := { _root_.Go.OpenSpec.ofChange s with cond := some uptoSmall }

/-- 'caulklaw04.RsBack', WHERE WHAT IT READS IS OF BULK AT MOST 1048576: true; the input reads as it did. -/
def rsBackUptoRow : OpenClaim := { program := "ytpldnbfbpajbkab", sum := "6e1a6febc393e3f17e23d5e6b6f290cabbe8bfc6ad7d3aea3b2433d714335dfc", func := "caulk/caulklaw04.RsBack", spec := "rsBack", unfollowed := true, recurses := true, apart := false, narrowed := true }
def RsBackUptoSaid : Prop := rsBackUptoRow.holds Try.pinned (OpenSpec.upto rsBackSpec)

/-- 'caulklaw04.RsTogether', WHERE WHAT IT READS IS OF BULK AT MOST 1048576: true; the input reads as it did. -/
def rsTogetherUptoRow : OpenClaim := { program := "ytpldnbfbpajbkab", sum := "6e1a6febc393e3f17e23d5e6b6f290cabbe8bfc6ad7d3aea3b2433d714335dfc", func := "caulk/caulklaw04.RsTogether", spec := "rsTogether", unfollowed := true, recurses := true, apart := false, narrowed := true }
def RsTogetherUptoSaid : Prop := rsTogetherUptoRow.holds Try.pinned (OpenSpec.upto rsTogetherSpec)

/-- 'caulklaw04.RsEach', WHERE WHAT IT READS IS OF BULK AT MOST 1048576: true; the input reads as it did. -/
def rsEachUptoRow : OpenClaim := { program := "ytpldnbfbpajbkab", sum := "6e1a6febc393e3f17e23d5e6b6f290cabbe8bfc6ad7d3aea3b2433d714335dfc", func := "caulk/caulklaw04.RsEach", spec := "rsEach", unfollowed := true, recurses := true, apart := false, narrowed := true }
def RsEachUptoSaid : Prop := rsEachUptoRow.holds Try.pinned (OpenSpec.upto rsEachSpec)

end Rows
end Go.Proofs.Ytpldnbfbpajbkab
