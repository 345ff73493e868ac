/- The contract of gf.Inv. -/
import Derived.Test.YtpldnbfbpajbkabDoorGfC
namespace Go.Proofs.YtpldnbfbpajbkabDoor
open Go.RowKit Go.Shelf
open Caulk.Gf (dbl dblN mul mulN pw lg)

/-- What Inv and Div answer. -/
def invB (a : UInt8) : UInt8 := if a = 0 then 0 else Caulk.Gf.inv a
def divB (a b : UInt8) : UInt8 := if b = 0 then 0 else mul a (Caulk.Gf.inv b)
theorem wf_of {n : Int} (h1 : -9223372036854775808 ≤ n) (h2 : n ≤ 9223372036854775807) : (Lit.int .i64 n).wf = true := by
  simp [Lit.wf, IntKind.min, IntKind.max, IntKind.signed, IntKind.bits]; omega

set_option maxHeartbeats 400000 in
theorem gfInv_any (a : UInt8) (w : World) :
    Calls Tryd.prog 19 #[.int .u8 (a.toNat : Int)] w fun e W' => e = .returned (.tuple #[.int .u8 ((invB a).toNat : Int), .int .i64 (errI a)]) ∧ Below w.heap.size w W' := by
  by_cases ha : a = 0
  · have h1 : logI a = 0 := by unfold logI; rw [if_pos ha]
    have h2 : errI a = 13 := by unfold errI; rw [if_pos ha]
    have HI : Hid (invB a = 0) := Lib.hid (by unfold invB; rw [if_pos ha])
    clear ha
    go_enter Tryd.func19, Tryd.ntmps19
    go_wp2_with (go_at_call 30; refine (gfLog_in a _).mono ?_; rintro e w' ⟨rfl, hb⟩)
    go_ret2
    exact ⟨by rw [HI.out, h2]; rfl, hb⟩
  · have hlt := Caulk.Gf.lg_lt a ha
    have h1 : logI a = (lg a : Int) := by unfold logI; rw [if_neg ha]
    have h2 : errI a = 0 := by unfold errI; rw [if_neg ha]
    have HI : Hid (Caulk.Gf.pwI (-(lg a : Int)) = invB a) := Lib.hid (by unfold invB; rw [if_neg ha, Caulk.Gf.pwI_neg _ hlt]; rfl)
    clear ha
    generalize lg a = k at *
    go_enter Tryd.func19, Tryd.ntmps19
    go_wp2_with (first
      | (go_at_call 30; refine (gfLog_in a _).mono ?_; rintro e w' ⟨rfl, hb⟩)
      | (go_at_call 31; refine (gfExp_in _ (wf_of (by omega) (by omega)) _).mono ?_; rintro e w' ⟨rfl, hb2⟩))
    go_ret2
    exact ⟨by rw [HI.out, h2]; rfl, hb.trans (hb2.mono hb.size)⟩
end Go.Proofs.YtpldnbfbpajbkabDoor
