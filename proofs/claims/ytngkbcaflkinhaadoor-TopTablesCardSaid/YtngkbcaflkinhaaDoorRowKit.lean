/- From the row's condition to the walks: the table lies as the program's text lays it. -/
import Derived.Test.YtngkbcaflkinhaaDoorCrcA
import Derived.OpenShut
import Derived.ShutString
import Derived.ChangeOld
import Derived.LaidMore
import Derived.Lib.LaidTab
import Derived.Stop.Joined
namespace Go.Proofs.YtngkbcaflkinhaaDoor
open Go.ChangeShapes Go.WideShapes Go.ChangeAt Go.RowKit
open Go.ChangeMaps (open_string shut_string)

theorem own : ownKnob Tryd.prog.godebug = none := by kernel_rfl
theorem laidOut : laidOutB Tryd.prog = true := by kernel_rfl
theorem gTab : Tryd.prog.globalNamed "caulk/crc.nibbles" = some 0 := by kernel_rfl
theorem tTab : (Tryd.prog.globals[0]?).map (·.type) = some 100 := by kernel_rfl
def laid1 : List (String × DataW Unit) := [("caulk/crc.nibbles", Rows.laid_caulk_crc_nibbles)]
theorem laid_tab : (Rows.laid_caulk_crc_nibbles : DataW Unit) = Lib.tabData .u32 (Caulk.Crc.tabN.map Int.ofNat) := rfl

/-- The door's own heap meets the condition. -/
theorem door_met (os : Os) (args : Array Value) : laidMetH Tryd.prog laid1 ((World.doorLaid Tryd.prog 400 os).forCall (fun _ _ => 0) ⟨#[], args, []⟩).memory :=
  laidMetH_of_parts3 (fuel := 8) (laidMet_of_run' 8 (by kernel_rfl) (by kernel_rfl)) (by kernel_rfl) (by kernel_rfl)

theorem tab_entry (x : Caulk.Crc.W) : (Caulk.Crc.tabN.map Int.ofNat).getD (U32 (lo x)).toNat 0 = U32 (nibL x) := by
  unfold nibL
  have h := Caulk.Crc.low_lt x
  have e : (U32 (lo x)).toNat = (lo x).toNat := by unfold U32; simp
  rw [e]
  show _ = U32 (Caulk.Crc.tabV (lo x).toNat)
  have h' : (lo x).toNat < 16 := h
  generalize (lo x).toNat = n at h'
  have : ∀ n : Nat, n < 16 → (Caulk.Crc.tabN.map Int.ofNat).getD n 0 = U32 (Caulk.Crc.tabV n) := by decide +kernel
  exact this n h'

/-- What the condition gives the walks. -/
theorem tab_of_laid {W : World} (h : laidMetH Tryd.prog laid1 W) : Tab W := by
  rw [MakeChecks.laidMetH_plain _ _ _ (by kernel_rfl)] at h
  have hT := Lib.tabIs_of_head (k := .u32) (zs := Caulk.Crc.tabN.map Int.ofNat) gTab tTab Tryd.underlying100 Tryd.underlying54 (by kernel_rfl) (by kernel_rfl) (by rw [← laid_tab]; exact h)
  have hc := fun i hi => hT.cell gTab i hi
  refine ⟨?_, fun x => ?_⟩
  · have := hc 0 (by decide)
    exact World.block_lt_of_cell? _ _ this
  · rw [← tab_entry x]
    apply hc
    have h := Caulk.Crc.low_lt x
    have e : (U32 (lo x)).toNat = (lo x).toNat := by unfold U32; simp
    rw [e]
    exact h
end Go.Proofs.YtngkbcaflkinhaaDoor
