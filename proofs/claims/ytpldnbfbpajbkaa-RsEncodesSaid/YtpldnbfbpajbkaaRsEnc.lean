/- The walk of RsEncodes. -/
import Derived.Test.YtpldnbfbpajbkaaRsMath
import Derived.Test.YtpldnbfbpajbkaaRefRs
namespace Go.Proofs.Ytpldnbfbpajbkaa
open Go.RowKit

set_option maxRecDepth 100000 in
set_option maxHeartbeats 4000000 in
theorem rsEncodes_walk {w : World} {k m : Int} {a : Value} {A : List ByteArray} (hkw : -9223372036854775808 ≤ k ∧ k ≤ 9223372036854775807) (hmw : -9223372036854775808 ≤ m ∧ m ≤ 9223372036854775807) (hA : StrsS w a A) :
    Calls Try.prog 7 #[.int .i64 k, .int .i64 m, a] w fun e w' => e = .returned (.bool true) ∧ Below w.heap.size w w' := by
  have HSA : Hid (StrsS w a A) := Lib.hid hA
  have HKW := Lib.hid hkw
  have HMW := Lib.hid hmw
  clear hA hkw hmw
  obtain ⟨aA, cA, rfl, hlA, hmA⟩ := HSA.out.opened
  go_enter Try.func7, Try.ntmps7
  go_wp2_with fail
  (with_reducible refine (small4_any HSA.out HKW.out HMW.out).mono ?_)
  rintro e w' ⟨⟨r1, rfl⟩, rfl⟩
  cases r1 with
  | false =>
    go_wp2_with fail
    (with_reducible refine (lives4_any _).mono ?_)
    rintro e w1 ⟨rfl, hb⟩
    have HB := Lib.hid hb
    clear hb
    go_wp2
    go_ret
    exact ⟨rfl, HB.out⟩
  | true =>
  go_wp2_with fail
  have h := encode_res HSA.out HKW.out HMW.out
  (with_reducible refine h.mono ?_)
  rintro e w2 ⟨vp, rfl, hx, hb⟩
  clear h
  have HP := Lib.hid hx
  replace HSA := Lib.hid (HSA.out.below hb)
  have HB := Lib.hid hb
  clear hx hb
  go_wp2_with fail
  have h := refEncode_res HSA.out HKW.out HMW.out
  (with_reducible refine h.mono ?_)
  rintro e w3 ⟨vq, rfl, hx, hb⟩
  clear h
  have HQ := Lib.hid hx
  replace HP := Lib.hid (HP.out.below hb)
  replace HSA := Lib.hid (HSA.out.below hb)
  replace HB := Lib.hid (HB.out.trans (hb.mono HB.out.size))
  clear hx hb
  go_wp2_with fail
  (with_reducible refine (lives4_any _).mono ?_)
  rintro e w4 ⟨rfl, hb⟩
  replace HP := Lib.hid (HP.out.below hb)
  replace HQ := Lib.hid (HQ.out.below hb)
  replace HSA := Lib.hid (HSA.out.below hb)
  replace HB := Lib.hid (HB.out.trans (hb.mono HB.out.size))
  clear hb
  go_wp2_with fail
  (with_reducible refine (rsCheck_any k m HKW.out HMW.out _).mono ?_)
  rintro e w' ⟨rfl, rfl⟩
  go_wp2_with fail
  (with_reducible refine (refRsCheck_any k m HKW.out HMW.out _).mono ?_)
  rintro e w' ⟨rfl, rfl⟩
  have hzk : (rsE k m == rsE k m) = true := by simp
  have HZE : (encE k m A == encE k m A) = true := by simp
  generalize rsE k m = EK at *
  have h := same4_any HP.out HQ.out
  rw [decide_eq_true rfl] at h
  obtain ⟨E, hE⟩ : ∃ E, E = encE k m A := ⟨_, rfl⟩
  rw [← hE] at HZE ⊢
  clear hE
  have HSM := Lib.hid h
  clear h
  obtain ⟨aP, cP, rfl, hlP, hmP⟩ := HP.out.opened
  obtain ⟨aQ, cQ, rfl, hlQ, hmQ⟩ := HQ.out.opened
  go_wp2_with fail
  (with_reducible refine HSM.out.mono ?_)
  rintro e w5 ⟨rfl, hb⟩
  replace HSA := Lib.hid (HSA.out.below hb)
  replace HB := Lib.hid (HB.out.trans (hb.mono HB.out.size))
  clear hb HSM
  go_wp2_with fail
  (with_reducible refine (good_any HSA.out HKW.out HMW.out).mono ?_)
  rintro e w6 ⟨rfl, hb⟩
  replace HSA := Lib.hid (HSA.out.below hb)
  replace HB := Lib.hid (HB.out.trans (hb.mono HB.out.size))
  clear hb
  go_wp2_with fail
  (with_reducible refine (refGood_any HSA.out HKW.out HMW.out).mono ?_)
  rintro e w7 ⟨rfl, hb⟩
  replace HB := Lib.hid (HB.out.trans (hb.mono HB.out.size))
  clear hb
  have hzg : (goodB k m A == goodB k m A) = true := by simp
  generalize goodB k m A = G at *
  go_wp2
  go_ret
  exact ⟨rfl, HB.out⟩
theorem rsEncodes_any {w : World} (k : Int) (hk : (Lit.int .i64 k).wf = true) (m : Int) (hm : (Lit.int .i64 m).wf = true) {a : Value} {A : List ByteArray} (hA : StrsS w a A) :
    Calls Try.prog 7 #[.int .i64 k, .int .i64 m, a] w fun e w' => e = .returned (.bool true) ∧ Below w.heap.size w w' := rsEncodes_walk (int_of_wf hk) (int_of_wf hm) hA
end Go.Proofs.Ytpldnbfbpajbkaa
