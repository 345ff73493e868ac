/- The contract of crc.Good. -/
import Derived.Test.YtmjfnnemokmdcaaDoorCrcB
import Derived.Deep.RegionHeld3
import Derived.WalkSpells
import Derived.Outline
namespace Go.Proofs.YtmjfnnemokmdcaaDoor
open Go.RowKit
open Caulk.Crc (W P stp stpN byt nib tabV bit bitsTo tabN)

def goodB (s : ByteArray) : Bool := decide (4 ≤ s.size) && ((s.extract (s.size - 4) s.size).toList == (sumBytes (Caulk.Crc.sum (s.data.toList.take (s.size - 4)))).toList)
theorem good_long (s : ByteArray) (h : 4 ≤ s.size) : goodB s = ((s.extract (s.size - 4) s.size).toList == (sumBytes (Caulk.Crc.sum (s.data.toList.take (s.size - 4)))).toList) := by unfold goodB; simp [h]
theorem good_short (s : ByteArray) (h : ¬ 4 ≤ s.size) : goodB s = false := by unfold goodB; simp [h]
set_option maxHeartbeats 400000 in
theorem crcGood_any (s : ByteArray) (hs : s.size ≤ maxLen) (w : World) (hT : Tab w) :
    Calls Tryd.prog 13 #[.string s] w fun e w' => e = .returned (.bool (goodB s)) ∧ Below w.heap.size w w' := by
  have HT := Lib.hid hT
  clear hT
  by_cases h4 : 4 ≤ s.size
  · obtain ⟨n, hn⟩ : ∃ n, s.size = n + 4 := ⟨s.size - 4, by omega⟩
    have HN := Lib.hid hn
    have hd : decide ((0 : Int) ≤ (s.size : Int) - 4) = true := by simp; omega
    have hd2 : decide ((4 : Int) ≤ (s.size : Int)) = true := by simp; omega
    have hb0 : (0 : Int) ≤ (s.size : Int) - 4 := by omega
    have hb1 : (4 : Int) ≤ (s.size : Int) := by omega
    have hb2 : (s.size : Int) - 4 ≤ (s.size : Int) := by omega
    have hb3 : ((s.size : Int) - 4).toNat = s.size - 4 := by omega
    have h1 : (s.extract 0 (s.size - 4)).size ≤ maxLen := by unfold maxLen at hs ⊢; rw [ByteArray.size_extract]; omega
    have HM := Lib.hid hs
    clear hn
    unfold maxLen at hs
    go_enter Tryd.func13, Tryd.ntmps13
    go_wp2
    go_region_held3 (fun w' => Tab w') (first | exact HT.out | exact Tab.below (w := w.drew) HT.out hb (Nat.le_refl _) | exact Tab.below HT.out hb (Nat.le_refl _))
      (first | (go_at_call 11; refine (crcBytes_any _ ?_ _ ?_).mono ?_; (assumption); (exact HT.out); rintro e w' ⟨rfl, hb⟩))
    go_wp2
    go_ret
    exact ⟨ret_bool (good_long s h4).symm, ((Below.refl _ w).drew).trans hb⟩
  · have hd : decide ((0 : Int) ≤ (s.size : Int) - 4) = false := by simp; omega
    have hd2 : decide ((4 : Int) ≤ (s.size : Int)) = false := by simp; omega
    have HG := Lib.hid (good_short s h4)
    unfold maxLen at hs
    go_enter Tryd.func13, Tryd.ntmps13
    go_wp2
    go_quiet (fail)
    go_wp2
    go_ret
    exact ⟨ret_bool HG.out.symm, below_drewN (Below.refl _ _) _⟩
end Go.Proofs.YtmjfnnemokmdcaaDoor
