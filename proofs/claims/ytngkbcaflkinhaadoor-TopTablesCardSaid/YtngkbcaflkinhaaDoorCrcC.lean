/- The contract of crc.Good. -/
import Derived.Test.YtngkbcaflkinhaaDoorCrcB
import Derived.Deep.RegionHeld3
import Derived.WalkSpells
import Derived.Outline
namespace Go.Proofs.YtngkbcaflkinhaaDoor
open Go.RowKit
open Caulk.Crc (W P stp stpN byt nib tabV bit bitsTo tabN)

def crcGoodB (s : ByteArray) : Bool := decide (4 ≤ s.size) && ((s.extract (s.size - 4) s.size).toList == (sumBytes (Caulk.Crc.sum (s.data.toList.take (s.size - 4)))).toList)
theorem good_long (s : ByteArray) (h : 4 ≤ s.size) : crcGoodB s = ((s.extract (s.size - 4) s.size).toList == (sumBytes (Caulk.Crc.sum (s.data.toList.take (s.size - 4)))).toList) := by unfold crcGoodB; simp [h]
theorem good_short (s : ByteArray) (h : ¬ 4 ≤ s.size) : crcGoodB s = false := by unfold crcGoodB; simp [h]
end Go.Proofs.YtngkbcaflkinhaaDoor

