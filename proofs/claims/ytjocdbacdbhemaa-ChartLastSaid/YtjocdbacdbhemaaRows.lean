/-
  No cell of these rows narrows 'for every input' (looked for: loops, veiled, ifaces, maps, wideKeys, modest, calm, conditions, laid).
  DERIVED. THE GIVEN ROWS OF THIS SEAT. 5 by the template 'for every input the law returns true; each argument reads behind the call as it read before'; 0 by the template 'total and deterministic' (their statements: YtjocdbacdbhemaaTotals.lean).
  GIVEN WITH THE SEED: the statements are not yours to turn. If you find one false, say at which input.
  Laid BY PROGRAM, IN A SANDBOX (cutbox-rows.mjs): the forced cells as the released guide's own fill.sh prints them over the translation 202764cc5da99d94… (all of the seat's roots in one cut). By AI agents, Wed Nov 11 2026. No macro, syntax, notation, axiom, sorry.
-/
import Derived.Test.YtjocdbacdbhemaaChecked
import GoSem.Claim
import GoSem.ClaimJoined
import GoSem.ClaimMapViews
import Derived.JoinedTies
import Derived.KernelRfl
namespace Go.Proofs.Ytjocdbacdbhemaa
/- THE CELL 'sum', in the pinned program and in every row, IS THE sha256 OF THE DUMP (.gsa) THAT YtjocdbacdbhemaaProg.lean LOADS. Nothing in Lean hashes anything: it is a label: what it is worth is what the hold of that sum in a sandbox is worth. -/
noncomputable def Try.pinned : Pinned := { name := "ytjocdbacdbhemaa", sum := "202764cc5da99d9431c3d3043249c67e9602af5d3dac98f10c2c3532201b804c", checked := Try.checked }
namespace Rows
def none {H : Type} : Left H := { results := [], args := [] }

/-- 'caulklaw13.EntryTells': WHATEVER THE INPUT: true; the input reads as it did. -/
def entryTellsSpec : ChangeSpec := { name := "entryTells", fn := fun _ => fun
  | [d1, d2] => { results := [.lit (.bool true)], args := [d1, d2] }
  | _ => none }
def entryTellsRow : OpenClaim := { program := "ytjocdbacdbhemaa", sum := "202764cc5da99d9431c3d3043249c67e9602af5d3dac98f10c2c3532201b804c", func := "caulk/caulklaw13.EntryTells", spec := "entryTells", inPlace := ["internal/abi.NoEscape"], apart := false }
def EntryTellsSaid : Prop := entryTellsRow.holds Try.pinned (OpenSpec.ofChange entryTellsSpec)

/-- ITS FALSE NEIGHBOUR: 'it returns false'. Refute it at one input. -/
def entryTellsWrong : ChangeSpec := { name := "entryTells", fn := fun _ => fun
  | [d1, d2] => { results := [.lit (.bool false)], args := [d1, d2] }
  | _ => none }
def EntryTellsWrongFalsely : Prop := entryTellsRow.holds Try.pinned (OpenSpec.ofChange entryTellsWrong)

/-- 'caulklaw13.EntryTables': WHATEVER THE INPUT: true; the input reads as it did. -/
def entryTablesSpec : ChangeSpec := { name := "entryTables", fn := fun _ => fun
  | [d1, d2] => { results := [.lit (.bool true)], args := [d1, d2] }
  | _ => none }
def entryTablesRow : OpenClaim := { program := "ytjocdbacdbhemaa", sum := "202764cc5da99d9431c3d3043249c67e9602af5d3dac98f10c2c3532201b804c", func := "caulk/caulklaw13.EntryTables", spec := "entryTables", inPlace := ["internal/abi.NoEscape"], apart := false }
def EntryTablesSaid : Prop := entryTablesRow.holds Try.pinned (OpenSpec.ofChange entryTablesSpec)

/-- ITS FALSE NEIGHBOUR: 'it returns false'. Refute it at one input. -/
def entryTablesWrong : ChangeSpec := { name := "entryTables", fn := fun _ => fun
  | [d1, d2] => { results := [.lit (.bool false)], args := [d1, d2] }
  | _ => none }
def EntryTablesWrongFalsely : Prop := entryTablesRow.holds Try.pinned (OpenSpec.ofChange entryTablesWrong)

/-- 'caulklaw13.EntryBack': WHATEVER THE INPUT: true; the input reads as it did. -/
def entryBackSpec : ChangeSpec := { name := "entryBack", fn := fun _ => fun
  | [d1, d2] => { results := [.lit (.bool true)], args := [d1, d2] }
  | _ => none }
def entryBackRow : OpenClaim := { program := "ytjocdbacdbhemaa", sum := "202764cc5da99d9431c3d3043249c67e9602af5d3dac98f10c2c3532201b804c", func := "caulk/caulklaw13.EntryBack", spec := "entryBack", inPlace := ["internal/abi.NoEscape"], apart := false }
def EntryBackSaid : Prop := entryBackRow.holds Try.pinned (OpenSpec.ofChange entryBackSpec)

/-- ITS FALSE NEIGHBOUR: 'it returns false'. Refute it at one input. -/
def entryBackWrong : ChangeSpec := { name := "entryBack", fn := fun _ => fun
  | [d1, d2] => { results := [.lit (.bool false)], args := [d1, d2] }
  | _ => none }
def EntryBackWrongFalsely : Prop := entryBackRow.holds Try.pinned (OpenSpec.ofChange entryBackWrong)

/-- 'caulklaw14.ChartTells': WHATEVER THE INPUT: true; the input reads as it did. -/
def chartTellsSpec : ChangeSpec := { name := "chartTells", fn := fun _ => fun
  | [d1, d2, d3, d4, d5, d6] => { results := [.lit (.bool true)], args := [d1, d2, d3, d4, d5, d6] }
  | _ => none }
def chartTellsRow : OpenClaim := { program := "ytjocdbacdbhemaa", sum := "202764cc5da99d9431c3d3043249c67e9602af5d3dac98f10c2c3532201b804c", func := "caulk/caulklaw14.ChartTells", spec := "chartTells", inPlace := ["slices.overlaps[caulk/api.Table]"], unfollowed := true, recurses := true, apart := false }
def ChartTellsSaid : Prop := chartTellsRow.holds Try.pinned (OpenSpec.ofChange chartTellsSpec)

/-- ITS FALSE NEIGHBOUR: 'it returns false'. Refute it at one input. -/
def chartTellsWrong : ChangeSpec := { name := "chartTells", fn := fun _ => fun
  | [d1, d2, d3, d4, d5, d6] => { results := [.lit (.bool false)], args := [d1, d2, d3, d4, d5, d6] }
  | _ => none }
def ChartTellsWrongFalsely : Prop := chartTellsRow.holds Try.pinned (OpenSpec.ofChange chartTellsWrong)

/-- 'caulklaw14.ChartLast': WHATEVER THE INPUT: true; the input reads as it did. -/
def chartLastSpec : ChangeSpec := { name := "chartLast", fn := fun _ => fun
  | [d1, d2, d3] => { results := [.lit (.bool true)], args := [d1, d2, d3] }
  | _ => none }
def chartLastRow : OpenClaim := { program := "ytjocdbacdbhemaa", sum := "202764cc5da99d9431c3d3043249c67e9602af5d3dac98f10c2c3532201b804c", func := "caulk/caulklaw14.ChartLast", spec := "chartLast", inPlace := ["slices.overlaps[caulk/api.Table]"], unfollowed := true, recurses := true, apart := false }
def ChartLastSaid : Prop := chartLastRow.holds Try.pinned (OpenSpec.ofChange chartLastSpec)

/-- ITS FALSE NEIGHBOUR: 'it returns false'. Refute it at one input. -/
def chartLastWrong : ChangeSpec := { name := "chartLast", fn := fun _ => fun
  | [d1, d2, d3] => { results := [.lit (.bool false)], args := [d1, d2, d3] }
  | _ => none }
def ChartLastWrongFalsely : Prop := chartLastRow.holds Try.pinned (OpenSpec.ofChange chartLastWrong)

/- THE SECOND FORM. 'bulk': how many values and letters a reading holds, each counted each time it is reached (what is shared counts as often as it is met; a slice's spare places count too). A statement '..UptoSaid' is the law's where the arguments, and the package variables that the reading takes, are together of bulk at most 1048576: NARROWER than '..Said'. Prove '..Said' where nothing that the law and all that it calls make is longer than what came in: it says more and counts as full. Else prove '..UptoSaid'. A law counts once. -/
mutual
def uptoBulk {H : Type} : DataW H → Nat
  | .lit (.string bytes) => bytes.length + 1
  | .lit _ => 1
  | .nil => 1
  | .ptr d => uptoBulk d + 1
  | .slice elems spare => uptoBulkAll elems + uptoBulkAll spare + 1
  | .agg parts => uptoBulkAll parts + 1
  | .iface _ d => uptoBulk d + 1
  | .map entries => uptoBulkEntries entries + 1
  | .held _ => 1
def uptoBulkAll {H : Type} : List (DataW H) → Nat
  | [] => 0
  | d :: r => uptoBulk d + uptoBulkAll r
def uptoBulkEntries {H : Type} : List (Lit × DataW H) → Nat
  | [] => 0
  | x :: r => uptoBulkEntry x + uptoBulkEntries r
def uptoBulkEntry {H : Type} : Lit × DataW H → Nat
  | (.string bytes, d) => bytes.length + uptoBulk d + 1
  | (_, d) => uptoBulk d + 1
 end
def uptoSmall : (H : Type) → List (DataW H) → Bool := fun _ ds => decide (uptoBulkAll ds ≤ 1048576)
def OpenSpec.upto (s : _root_.Go.ChangeSpec) : _root_.Go.OpenSpec := { _root_.Go.OpenSpec.ofChange s with cond := some uptoSmall }

/-- 'caulklaw13.EntryTells', WHERE WHAT IT READS IS OF BULK AT MOST 1048576: true; the input reads as it did. -/
def entryTellsUptoRow : OpenClaim := { program := "ytjocdbacdbhemaa", sum := "202764cc5da99d9431c3d3043249c67e9602af5d3dac98f10c2c3532201b804c", func := "caulk/caulklaw13.EntryTells", spec := "entryTells", inPlace := ["internal/abi.NoEscape"], apart := false, narrowed := true }
def EntryTellsUptoSaid : Prop := entryTellsUptoRow.holds Try.pinned (OpenSpec.upto entryTellsSpec)

/-- 'caulklaw13.EntryTables', WHERE WHAT IT READS IS OF BULK AT MOST 1048576: true; the input reads as it did. -/
def entryTablesUptoRow : OpenClaim := { program := "ytjocdbacdbhemaa", sum := "202764cc5da99d9431c3d3043249c67e9602af5d3dac98f10c2c3532201b804c", func := "caulk/caulklaw13.EntryTables", spec := "entryTables", inPlace := ["internal/abi.NoEscape"], apart := false, narrowed := true }
def EntryTablesUptoSaid : Prop := entryTablesUptoRow.holds Try.pinned (OpenSpec.upto entryTablesSpec)

/-- 'caulklaw13.EntryBack', WHERE WHAT IT READS IS OF BULK AT MOST 1048576: true; the input reads as it did. -/
def entryBackUptoRow : OpenClaim := { program := "ytjocdbacdbhemaa", sum := "202764cc5da99d9431c3d3043249c67e9602af5d3dac98f10c2c3532201b804c", func := "caulk/caulklaw13.EntryBack", spec := "entryBack", inPlace := ["internal/abi.NoEscape"], apart := false, narrowed := true }
def EntryBackUptoSaid : Prop := entryBackUptoRow.holds Try.pinned (OpenSpec.upto entryBackSpec)

/-- 'caulklaw14.ChartTells', WHERE WHAT IT READS IS OF BULK AT MOST 1048576: true; the input reads as it did. -/
def chartTellsUptoRow : OpenClaim := { program := "ytjocdbacdbhemaa", sum := "202764cc5da99d9431c3d3043249c67e9602af5d3dac98f10c2c3532201b804c", func := "caulk/caulklaw14.ChartTells", spec := "chartTells", inPlace := ["slices.overlaps[caulk/api.Table]"], unfollowed := true, recurses := true, apart := false, narrowed := true }
def ChartTellsUptoSaid : Prop := chartTellsUptoRow.holds Try.pinned (OpenSpec.upto chartTellsSpec)

/-- 'caulklaw14.ChartLast', WHERE WHAT IT READS IS OF BULK AT MOST 1048576: true; the input reads as it did. -/
def chartLastUptoRow : OpenClaim := { program := "ytjocdbacdbhemaa", sum := "202764cc5da99d9431c3d3043249c67e9602af5d3dac98f10c2c3532201b804c", func := "caulk/caulklaw14.ChartLast", spec := "chartLast", inPlace := ["slices.overlaps[caulk/api.Table]"], unfollowed := true, recurses := true, apart := false, narrowed := true }
def ChartLastUptoSaid : Prop := chartLastUptoRow.holds Try.pinned (OpenSpec.upto chartLastSpec)

end Rows
end Go.Proofs.Ytjocdbacdbhemaa
