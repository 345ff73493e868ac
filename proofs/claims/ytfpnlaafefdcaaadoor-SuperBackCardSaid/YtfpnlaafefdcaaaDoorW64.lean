/- Numbers of 64 bits. -/
import Derived.Test.YtfpnlaafefdcaaaDoorKit
namespace Go.Proofs.YtfpnlaafefdcaaaDoor
open Go.RowKit

def W64 (x : Int) : Prop := -9223372036854775808 ≤ x ∧ x ≤ 9223372036854775807
theorem w64_of_wf {x : Int} (h : (Lit.int .i64 x).wf = true) : W64 x := by
  unfold W64
  simp [Lit.wf, IntKind.min, IntKind.max, IntKind.signed, IntKind.bits] at h
  omega
end Go.Proofs.YtfpnlaafefdcaaaDoor
