/- The contract of gf.Scale. -/
import Derived.Test.YtpldnbfbpajbkabDoorGfG
import Derived.Test.YtpldnbfbpajbkabDoorRows8
namespace Go.Proofs.YtpldnbfbpajbkabDoor
open Go.RowKit
open Caulk.Gf (dbl mul putL scaleL)

set_option maxHeartbeats 1000000 in
theorem scale_any (c : UInt8) (s : ByteArray) (hs : s.size ≤ 140737488351232) (w : World) :
    Calls Tryd.prog 33 #[.int .u8 (c.toNat : Int), .string s] w fun e w' => e = .returned (.string ⟨(scaleL c s.data.toList).toArray⟩) ∧ Below w.heap.size w w' := by
  have hmk := run_make_row' (P := Tryd.prog) 40 5 (.int .u8 0) 1 Tryd.underlying40 infoU8 rfl .i64 .i64 s.size (by omega) (by omega)
  have hsm : s.size ≤ maxLen := by unfold maxLen; omega
  have HL : Hid (s.data.toList.length = s.size) := Lib.hid (by simp)
  go_enter Tryd.func33, Tryd.ntmps33
  go_wp2_with fail
  have hput := put_any w.heap.size 0 s.size (List.replicate s.size 0) c s hsm _ (row_made w s.size 5)
  rw [List.length_replicate] at hput
  refine hput.mono ?_
  rintro e w1 ⟨rfl, hrow, hg⟩
  rw [show List.replicate s.size (0 : UInt8) = List.replicate s.data.toList.length 0 by rw [HL.out], Caulk.Gf.putL_zero] at hrow
  have hcv := string_of_row (P := Tryd.prog) (cap := s.size) s.size (by unfold scaleL; rw [List.length_map, HL.out]) hrow 40 9 5 Tryd.underlying40 Tryd.underlying5 Tryd.underlying9
  have hbel : Below w.heap.size w w1 := ((Below.refl _ w).alloc (Nat.le_refl _) _).grown hg (by simp) (fun k hk => by injection hk with hk; omega)
  clear hput hmk
  go_wp2
  go_ret
  exact ⟨rfl, hbel⟩
end Go.Proofs.YtpldnbfbpajbkabDoor
