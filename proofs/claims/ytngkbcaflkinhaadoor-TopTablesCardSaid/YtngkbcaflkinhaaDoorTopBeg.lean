/- What caulktop.begins answers. -/
import Derived.Test.YtngkbcaflkinhaaDoorCrcC
namespace Go.Proofs.YtngkbcaflkinhaaDoor
open Go.RowKit
open Caulk.Crc (W)

theorem begins_sum2 : U32 (Caulk.Crc.sum [49, 50, 51, 52, 53, 54, 55, 56, 57]) = 3808858755 := by decide +kernel
theorem begins_any2 (w : World) (hT : Tab w) : Calls Tryd.prog 4 #[] w fun e w' => e = .returned (.bool true) ∧ w = w' := by
  have e1 := begins_sum2
  have HT := Lib.hid hT
  clear hT
  have a1 : (ByteArray.mk #[49, 50, 51, 52, 53, 54, 55, 56, 57]).size ≤ maxLen := by unfold maxLen; decide
  go_enter Tryd.func4, Tryd.ntmps4
  go_wp2_with (go_at_call 14; refine (crcSum_any _ ?_ _ ?_).mono ?_; (assumption); (exact HT.out); rintro e w' ⟨rfl, rfl⟩)
  go_ret
  exact ⟨rfl, rfl⟩
end Go.Proofs.YtngkbcaflkinhaaDoor

