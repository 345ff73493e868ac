/- The walk of MatrixInverts. -/
import Derived.Test.YtpldnbfbpajbkaaLawB
namespace Go.Proofs.Ytpldnbfbpajbkaa
open Go.RowKit

set_option maxRecDepth 100000 in
set_option maxHeartbeats 1000000 in
theorem matrixInverts_walk {w : World} {v : Value} {M : List (List UInt8)} (hM : MatV w w.heap.size v M) :
    Calls Try.prog 4 #[v] w fun e w' => e = .returned (.bool true) ∧ Below w.heap.size w w' := by
  have HM : Hid (MatS w v M) := Lib.hid hM
  have HS := Lib.hid (small_any hM (Nat.le_refl _))
  clear hM
  cases hs : smallB M with
  | false =>
    rw [hs] at HS
    clear hs
    go_enter Try.func4, Try.ntmps4
    go_wp2_with fail
    refine HS.out.mono ?_
    rintro e w' ⟨rfl, rfl⟩
    go_wp2_with fail
    refine (lives3_any _).mono ?_
    rintro e w1 ⟨rfl, hb⟩
    have HB := Lib.hid hb
    clear hb
    go_wp2
    go_ret
    exact ⟨rfl, HB.out⟩
  | true =>
    rw [hs] at HS
    clear hs
    generalize hE : invE M = E
    have HE := Lib.hid hE
    clear hE
    have hee : (E == E) = true := by simp
    go_enter Try.func4, Try.ntmps4
    go_wp2_with fail
    refine HS.out.mono ?_
    rintro e w' ⟨rfl, rfl⟩
    go_wp2_with fail
    have h := invert_res HM.out (Nat.le_refl _)
    rw [HE.out] at h
    refine h.mono ?_
    rintro e w1 ⟨x, rfl, hx, hb⟩
    clear h
    have HX : Hid (MatS w1 x (invL M)) := Lib.hid hx
    replace HM := Lib.hid (HM.out.below hb)
    have HB := Lib.hid hb
    clear hx hb
    go_wp2_with fail
    have h := refInvert_res HM.out (Nat.le_refl _)
    rw [HE.out] at h
    refine h.mono ?_
    rintro e w2 ⟨y, rfl, hy, hb⟩
    clear h
    have HY : Hid (MatS w2 y (invL M)) := Lib.hid hy
    replace HX := Lib.hid (HX.out.below hb)
    replace HB := Lib.hid (HB.out.trans (hb.mono HB.out.size))
    clear hy hb
    go_wp2_with fail
    refine (lives3_any _).mono ?_
    rintro e w3 ⟨rfl, hb⟩
    replace HX := Lib.hid (HX.out.below hb)
    replace HY := Lib.hid (HY.out.below hb)
    replace HB := Lib.hid (HB.out.trans (hb.mono HB.out.size))
    clear hb
    go_wp2_with fail
    refine (same_self HX.out HY.out).mono ?_
    rintro e w4 ⟨rfl, hb⟩
    replace HB := Lib.hid (HB.out.trans (hb.mono HB.out.size))
    clear hb
    go_wp2
    go_ret
    exact ⟨rfl, HB.out⟩
end Go.Proofs.Ytpldnbfbpajbkaa
