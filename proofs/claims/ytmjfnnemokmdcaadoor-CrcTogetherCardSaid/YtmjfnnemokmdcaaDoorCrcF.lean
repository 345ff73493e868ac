/- The walks of CrcSums and CrcAdds. -/
import Derived.Test.YtmjfnnemokmdcaaDoorCrcE
namespace Go.Proofs.YtmjfnnemokmdcaaDoor
open Go.RowKit
open Caulk.Crc (W P stp stpN byt nib tabV bit bitsTo tabN)

set_option maxHeartbeats 400000 in
theorem crcSums_walk (s : ByteArray) (hs : ArgOk s) (w : World) (hT : Tab w) :
    Calls Tryd.prog 3 #[.string s] w fun e w' => e = .returned (.bool true) ∧ Below w.heap.size w w' := by
  have h0 := Ok.start hT
  clear hT
  by_cases hb : 131072 < s.size
  all_goals
    have hd : decide ((131072 : Int) < (s.size : Int)) = decide (131072 < s.size) := by simp; omega
    simp only [hb, decide_true, decide_false] at hd
    go_enter Tryd.func3, Tryd.ntmps3
    go_wp2_with (first
      | (go_at_call 8; refine (lives_any (w0 := w) _ ?_).mono ?_; (assumption); rintro e w' ⟨rfl, hok⟩)
      | (go_at_call 9; refine (sum_ok (w0 := w) _ ?_ _ ?_).mono ?_; (assumption); (assumption); rintro e w' ⟨rfl, hok⟩)
      | (go_at_call 10; refine (refSum_ok (w0 := w) _ ?_ _ ?_).mono ?_; (assumption); (assumption); rintro e w' ⟨rfl, hok⟩)
      | (go_at_call 11; refine (bytes_ok (w0 := w) _ ?_ _ ?_).mono ?_; (assumption); (assumption); rintro e w' ⟨rfl, hok⟩)
      | (go_at_call 12; refine (refBytes_ok (w0 := w) _ ?_ _ ?_).mono ?_; (assumption); (assumption); rintro e w' ⟨rfl, hok⟩)
      | (go_at_call 13; refine (good_ok (w0 := w) _ ?_ _ ?_).mono ?_; (assumption); (assumption); rintro e w' ⟨rfl, hok⟩)
      | (go_at_call 14; refine (refGood_ok (w0 := w) _ ?_ _ ?_).mono ?_; (assumption); (assumption); rintro e w' ⟨rfl, hok⟩))
    go_ret
    exact ⟨rfl, Ok.frame (by assumption)⟩
set_option maxHeartbeats 400000 in
theorem crcAdds_walk (r : W) (s : ByteArray) (hs : ArgOk s) (w : World) (hT : Tab w) :
    Calls Tryd.prog 4 #[.int .u32 (U32 r), .string s] w fun e w' => e = .returned (.bool true) ∧ Below w.heap.size w w' := by
  have h0 := Ok.start hT
  clear hT
  have h1 : bits .xor .u32 IntKind.u32.max (U32 r) = U32 (~~~r) := by
    rw [show IntKind.u32.max = U32 0xffffffff#32 by decide, u32_xor, show (0xffffffff#32 : W) = BitVec.allOnes 32 by decide, BitVec.allOnes_xor]
  have h2 : IntKind.u32.signed = false := rfl
  by_cases hb : 131072 < s.size
  all_goals
    have hd : decide ((131072 : Int) < (s.size : Int)) = decide (131072 < s.size) := by simp; omega
    simp only [hb, decide_true, decide_false] at hd
    go_enter Tryd.func4, Tryd.ntmps4
    go_wp2_with (first
      | (go_at_call 8; refine (lives_any (w0 := w) _ ?_).mono ?_; (assumption); rintro e w' ⟨rfl, hok⟩)
      | (go_at_call 15; refine (add_ok (w0 := w) _ _ ?_ _ ?_).mono ?_; (assumption); (assumption); rintro e w' ⟨rfl, hok⟩)
      | (go_at_call 16; refine (refAdd_ok (w0 := w) _ _ ?_ _ ?_).mono ?_; (assumption); (assumption); rintro e w' ⟨rfl, hok⟩)
      | (go_at_call 17; refine (end_ok (w0 := w) _ _ ?_).mono ?_; (assumption); rintro e w' ⟨rfl, hok⟩))
    go_ret
    exact ⟨rfl, Ok.frame (by assumption)⟩
theorem u32_open {n : Int} (h : (Lit.int .u32 n).wf = true) : ∃ r : W, n = U32 r := by
  have : 0 ≤ n ∧ n < 4294967296 := by
    simp [Lit.wf, IntKind.min, IntKind.max, IntKind.signed, IntKind.bits] at h
    omega
  refine ⟨BitVec.ofNat 32 n.toNat, ?_⟩
  unfold U32
  rw [BitVec.toNat_ofNat]
  omega
theorem crcAdds_row_walk (n : Int) (hn : (Lit.int .u32 n).wf = true) (s : ByteArray) (hs : ArgOk s) (w : World) (hT : Tab w) :
    Calls Tryd.prog 4 #[.int .u32 n, .string s] w fun e w' => e = .returned (.bool true) ∧ Below w.heap.size w w' := by
  obtain ⟨r, rfl⟩ := u32_open hn
  exact crcAdds_walk r s hs w hT
end Go.Proofs.YtmjfnnemokmdcaaDoor
