/- The walk of MatrixTells. -/
import Derived.Test.YtpldnbfbpajbkaaLawB
import Derived.Test.YtpldnbfbpajbkaaArgs
namespace Go.Proofs.Ytpldnbfbpajbkaa
open Go.RowKit

theorem IntsS.below {w w' : World} {v : Value} {R : List Int} (h : IntsV w w.heap.size v R) (hb : Below w.heap.size w w') : IntsV w' w'.heap.size v R := by
  obtain ⟨A, cap, rfl, h2, h3, h4, h5⟩ := IntsV.below h hb (Nat.le_refl _)
  refine ⟨A, cap, rfl, h2, h3, h4, ?_⟩
  rcases h5 with h5 | ⟨b, off, rfl, hlt, hc⟩
  · exact .inl h5
  · exact .inr ⟨b, off, rfl, Nat.lt_of_lt_of_le hlt hb.size, hc⟩
/-- All the numbers, below the heap's end. -/
def IntsS (w : World) (v : Value) (R : List Int) : Prop := IntsV w w.heap.size v R
theorem IntsS.lift {w w' : World} {v : Value} {R : List Int} (h : IntsS w v R) (hb : Below w.heap.size w w') : IntsS w' v R := IntsS.below h hb
set_option maxRecDepth 100000 in
set_option maxHeartbeats 4000000 in
theorem matrixTells_walk {w : World} {a b r : Value} {A M : List (List UInt8)} {R : List Int} (hA : MatV w w.heap.size a A) (hM : MatV w w.heap.size b M) (hR : IntsV w w.heap.size r R)
    (k : Int) (hk : (Lit.int .i64 k).wf = true) (m : Int) (hm : (Lit.int .i64 m).wf = true) :
    Calls Try.prog 3 #[a, b, r, .int .i64 k, .int .i64 m] w fun e w' => e = .returned (.bool true) ∧ Below w.heap.size w w' := by
  have HMA : Hid (MatS w a A) := Lib.hid hA
  have HMB : Hid (MatS w b M) := Lib.hid hM
  have HRI : Hid (IntsS w r R) := Lib.hid hR
  have HS := Lib.hid (small_any hA (Nat.le_refl _))
  have HT := Lib.hid (small_any hM (Nat.le_refl _))
  have HK := Lib.hid (i64_of_wf hk)
  have HKM := Lib.hid (i64_of_wf hm)
  clear hA hM hR hk hm
  cases hs : smallB A with
  | false =>
    rw [hs] at HS
    clear hs
    go_enter Try.func3, Try.ntmps3
    go_wp2_with fail
    refine HS.out.mono ?_
    rintro e w' ⟨rfl, rfl⟩
    go_wp2_with fail
    refine (lives3_any _).mono ?_
    rintro e w1 ⟨rfl, hb⟩
    have HB := Lib.hid hb
    clear hb
    go_wp2
    go_ret
    exact ⟨rfl, HB.out⟩
  | true =>
  rw [hs] at HS
  clear hs
  cases ht : smallB M with
  | false =>
    rw [ht] at HT
    clear ht
    go_enter Try.func3, Try.ntmps3
    go_wp2_with fail
    refine HS.out.mono ?_
    rintro e w' ⟨rfl, rfl⟩
    go_wp2_with fail
    refine HT.out.mono ?_
    rintro e w' ⟨rfl, rfl⟩
    go_wp2_with fail
    refine (lives3_any _).mono ?_
    rintro e w1 ⟨rfl, hb⟩
    have HB := Lib.hid hb
    clear hb
    go_wp2
    go_ret
    exact ⟨rfl, HB.out⟩
  | true =>
  rw [ht] at HT
  clear ht
  generalize hE1 : mulE A M = E1
  have HE1 := Lib.hid hE1
  generalize hE2 : rowsE A R = E2
  have HE2 := Lib.hid hE2
  generalize hE3 : unitE k = E3
  have HE3 := Lib.hid hE3
  generalize hE4 : cauE k m = E4
  have HE4 := Lib.hid hE4
  generalize hE5 : ckE A = E5
  have HE5 := Lib.hid hE5
  clear hE1 hE2 hE3 hE4 hE5
  have b1 : (E1 == E1) = true := by simp
  have b2 : (E2 == E2) = true := by simp
  have b3 : (E3 == E3) = true := by simp
  have b4 : (E4 == E4) = true := by simp
  have b5 : (E5 == E5) = true := by simp
  by_cases ck : (20 : Int) < k ∧ k ≤ 255
  · have d1 : decide ((20 : Int) < k) = true := decide_eq_true ck.1
    have d2 : decide (k ≤ 255) = true := decide_eq_true ck.2
    clear ck
    go_enter Try.func3, Try.ntmps3
    go_wp2_with fail
    refine HS.out.mono ?_
    rintro e w' ⟨rfl, rfl⟩
    go_wp2_with fail
    refine HT.out.mono ?_
    rintro e w' ⟨rfl, rfl⟩
    go_wp2_with fail
    refine (lives3_any _).mono ?_
    rintro e w1 ⟨rfl, hb⟩
    have HB := Lib.hid hb
    clear hb
    go_wp2
    go_ret
    exact ⟨rfl, HB.out⟩
  · have hk2 : (decide ((20 : Int) < k) = false ∧ decide ((20 : Int) < k) = false) ∨ (decide ((20 : Int) < k) = true ∧ decide (k ≤ 255) = false) := by
      by_cases q : (20 : Int) < k
      · exact .inr ⟨decide_eq_true q, decide_eq_false (fun h => ck ⟨q, h⟩)⟩
      · exact .inl ⟨decide_eq_false q, decide_eq_false q⟩
    clear ck
    by_cases cm : (20 : Int) < m ∧ m ≤ 255
    · have d3 : decide ((20 : Int) < m) = true := decide_eq_true cm.1
      have d4 : decide (m ≤ 255) = true := decide_eq_true cm.2
      clear cm
      rcases hk2 with ⟨d1, d2⟩ | ⟨d1, d2⟩
      all_goals
        go_enter Try.func3, Try.ntmps3
        go_wp2_with fail
        refine HS.out.mono ?_
        rintro e w' ⟨rfl, rfl⟩
        go_wp2_with fail
        refine HT.out.mono ?_
        rintro e w' ⟨rfl, rfl⟩
        go_wp2_with fail
        refine (lives3_any _).mono ?_
        rintro e w1 ⟨rfl, hb⟩
        have HB := Lib.hid hb
        clear hb
        go_wp2
        go_ret
        exact ⟨rfl, HB.out⟩
    · have hm2 : (decide ((20 : Int) < m) = false ∧ decide ((20 : Int) < m) = false) ∨ (decide ((20 : Int) < m) = true ∧ decide (m ≤ 255) = false) := by
        by_cases q : (20 : Int) < m
        · exact .inr ⟨decide_eq_true q, decide_eq_false (fun h => cm ⟨q, h⟩)⟩
        · exact .inl ⟨decide_eq_false q, decide_eq_false q⟩
      clear cm
      rcases hk2 with ⟨d1, d2⟩ | ⟨d1, d2⟩ <;> rcases hm2 with ⟨d3, d4⟩ | ⟨d3, d4⟩
      all_goals
        go_enter Try.func3, Try.ntmps3
        go_wp2_with fail
        refine HS.out.mono ?_
        rintro e w' ⟨rfl, rfl⟩
        go_wp2_with fail
        refine HT.out.mono ?_
        rintro e w' ⟨rfl, rfl⟩
        go_wp2_with fail
        have h := mul_res HMA.out (Nat.le_refl _) HMB.out (Nat.le_refl _)
        rw [HE1.out] at h
        refine h.mono ?_
        rintro e w1 ⟨x, rfl, hx, hb⟩
        clear h
        have HX : Hid (MatS w1 x (mulL A M)) := Lib.hid hx
        clear hx
        have HB := Lib.hid hb
        replace HMA := Lib.hid (HMA.out.below hb)
        replace HMB := Lib.hid (HMB.out.below hb)
        replace HRI := Lib.hid (HRI.out.lift hb)
        clear hb
        go_wp2_with fail
        have h := refMatMul_res HMA.out (Nat.le_refl _) HMB.out (Nat.le_refl _)
        rw [HE1.out] at h
        refine h.mono ?_
        rintro e w2 ⟨y, rfl, hx, hb⟩
        clear h
        have HY : Hid (MatS w2 y (mulL A M)) := Lib.hid hx
        clear hx
        replace HMA := Lib.hid (HMA.out.below hb)
        replace HMB := Lib.hid (HMB.out.below hb)
        replace HX := Lib.hid (HX.out.below hb)
        replace HRI := Lib.hid (HRI.out.lift hb)
        replace HB := Lib.hid (HB.out.trans (hb.mono HB.out.size))
        clear hb
        go_wp2_with fail
        have h := rows_res HMA.out (Nat.le_refl _) HRI.out (Nat.le_refl _)
        rw [HE2.out] at h
        refine h.mono ?_
        rintro e w3 ⟨p, rfl, hx, hb⟩
        clear h
        have HP : Hid (MatS w3 p (rowsLL A R)) := Lib.hid hx
        clear hx
        replace HMA := Lib.hid (HMA.out.below hb)
        replace HMB := Lib.hid (HMB.out.below hb)
        replace HX := Lib.hid (HX.out.below hb)
        replace HRI := Lib.hid (HRI.out.lift hb)
        replace HY := Lib.hid (HY.out.below hb)
        replace HB := Lib.hid (HB.out.trans (hb.mono HB.out.size))
        clear hb
        go_wp2_with fail
        have h := refRows_res HMA.out (Nat.le_refl _) HRI.out (Nat.le_refl _)
        rw [HE2.out] at h
        refine h.mono ?_
        rintro e w4 ⟨q, rfl, hx, hb⟩
        clear h
        have HQ : Hid (MatS w4 q (rowsLL A R)) := Lib.hid hx
        clear hx
        replace HMA := Lib.hid (HMA.out.below hb)
        replace HMB := Lib.hid (HMB.out.below hb)
        replace HX := Lib.hid (HX.out.below hb)
        replace HRI := Lib.hid (HRI.out.lift hb)
        replace HY := Lib.hid (HY.out.below hb)
        replace HP := Lib.hid (HP.out.below hb)
        replace HB := Lib.hid (HB.out.trans (hb.mono HB.out.size))
        clear hb
        go_wp2_with fail
        have h := unit_res k w4
        rw [HE3.out] at h
        refine h.mono ?_
        rintro e w5 ⟨u, rfl, hx, hb⟩
        clear h
        have HU : Hid (MatS w5 u (unitL k)) := Lib.hid hx
        clear hx
        replace HMA := Lib.hid (HMA.out.below hb)
        replace HMB := Lib.hid (HMB.out.below hb)
        replace HX := Lib.hid (HX.out.below hb)
        replace HRI := Lib.hid (HRI.out.lift hb)
        replace HY := Lib.hid (HY.out.below hb)
        replace HP := Lib.hid (HP.out.below hb)
        replace HQ := Lib.hid (HQ.out.below hb)
        replace HB := Lib.hid (HB.out.trans (hb.mono HB.out.size))
        clear hb
        go_wp2_with fail
        have h := refUnit_res k w5
        rw [HE3.out] at h
        refine h.mono ?_
        rintro e w6 ⟨v, rfl, hx, hb⟩
        clear h
        have HV : Hid (MatS w6 v (unitL k)) := Lib.hid hx
        clear hx
        replace HMA := Lib.hid (HMA.out.below hb)
        replace HMB := Lib.hid (HMB.out.below hb)
        replace HX := Lib.hid (HX.out.below hb)
        replace HRI := Lib.hid (HRI.out.lift hb)
        replace HY := Lib.hid (HY.out.below hb)
        replace HP := Lib.hid (HP.out.below hb)
        replace HQ := Lib.hid (HQ.out.below hb)
        replace HU := Lib.hid (HU.out.below hb)
        replace HB := Lib.hid (HB.out.trans (hb.mono HB.out.size))
        clear hb
        go_wp2_with fail
        have h := cauchy_res k m HK.out HKM.out w6
        rw [HE4.out] at h
        refine h.mono ?_
        rintro e w7 ⟨c, rfl, hx, hb⟩
        clear h
        have HC : Hid (MatS w7 c (cauL k m)) := Lib.hid hx
        clear hx
        replace HMA := Lib.hid (HMA.out.below hb)
        replace HMB := Lib.hid (HMB.out.below hb)
        replace HX := Lib.hid (HX.out.below hb)
        replace HRI := Lib.hid (HRI.out.lift hb)
        replace HY := Lib.hid (HY.out.below hb)
        replace HP := Lib.hid (HP.out.below hb)
        replace HQ := Lib.hid (HQ.out.below hb)
        replace HU := Lib.hid (HU.out.below hb)
        replace HV := Lib.hid (HV.out.below hb)
        replace HB := Lib.hid (HB.out.trans (hb.mono HB.out.size))
        clear hb
        go_wp2_with fail
        have h := refCauchy_res k m HK.out HKM.out w7
        rw [HE4.out] at h
        refine h.mono ?_
        rintro e w8 ⟨d, rfl, hx, hb⟩
        clear h
        have HD : Hid (MatS w8 d (cauL k m)) := Lib.hid hx
        clear hx
        replace HMA := Lib.hid (HMA.out.below hb)
        replace HMB := Lib.hid (HMB.out.below hb)
        replace HX := Lib.hid (HX.out.below hb)
        replace HRI := Lib.hid (HRI.out.lift hb)
        replace HY := Lib.hid (HY.out.below hb)
        replace HP := Lib.hid (HP.out.below hb)
        replace HQ := Lib.hid (HQ.out.below hb)
        replace HU := Lib.hid (HU.out.below hb)
        replace HV := Lib.hid (HV.out.below hb)
        replace HC := Lib.hid (HC.out.below hb)
        replace HB := Lib.hid (HB.out.trans (hb.mono HB.out.size))
        clear hb
        go_wp2_with fail
        refine (lives3_any _).mono ?_
        rintro e w9 ⟨rfl, hb⟩
        replace HMA := Lib.hid (HMA.out.below hb)
        replace HMB := Lib.hid (HMB.out.below hb)
        replace HX := Lib.hid (HX.out.below hb)
        replace HRI := Lib.hid (HRI.out.lift hb)
        replace HY := Lib.hid (HY.out.below hb)
        replace HP := Lib.hid (HP.out.below hb)
        replace HQ := Lib.hid (HQ.out.below hb)
        replace HU := Lib.hid (HU.out.below hb)
        replace HV := Lib.hid (HV.out.below hb)
        replace HC := Lib.hid (HC.out.below hb)
        replace HD := Lib.hid (HD.out.below hb)
        replace HB := Lib.hid (HB.out.trans (hb.mono HB.out.size))
        clear hb
        go_wp2_with fail
        have h := check_any HMA.out
        rw [HE5.out] at h
        refine h.mono ?_
        rintro e w10 ⟨rfl, rfl⟩
        clear h
        go_wp2_with fail
        have h := refCheck_any HMA.out
        rw [HE5.out] at h
        refine h.mono ?_
        rintro e w10 ⟨rfl, rfl⟩
        clear h
        go_wp2_with fail
        refine (same_self HX.out HY.out).mono ?_
        rintro e w11 ⟨rfl, hb⟩
        replace HMA := Lib.hid (HMA.out.below hb)
        replace HMB := Lib.hid (HMB.out.below hb)
        replace HX := Lib.hid (HX.out.below hb)
        replace HRI := Lib.hid (HRI.out.lift hb)
        replace HY := Lib.hid (HY.out.below hb)
        replace HP := Lib.hid (HP.out.below hb)
        replace HQ := Lib.hid (HQ.out.below hb)
        replace HU := Lib.hid (HU.out.below hb)
        replace HV := Lib.hid (HV.out.below hb)
        replace HC := Lib.hid (HC.out.below hb)
        replace HD := Lib.hid (HD.out.below hb)
        replace HB := Lib.hid (HB.out.trans (hb.mono HB.out.size))
        clear hb
        go_wp2_with fail
        refine (same_self HP.out HQ.out).mono ?_
        rintro e w12 ⟨rfl, hb⟩
        replace HMA := Lib.hid (HMA.out.below hb)
        replace HMB := Lib.hid (HMB.out.below hb)
        replace HX := Lib.hid (HX.out.below hb)
        replace HRI := Lib.hid (HRI.out.lift hb)
        replace HY := Lib.hid (HY.out.below hb)
        replace HP := Lib.hid (HP.out.below hb)
        replace HQ := Lib.hid (HQ.out.below hb)
        replace HU := Lib.hid (HU.out.below hb)
        replace HV := Lib.hid (HV.out.below hb)
        replace HC := Lib.hid (HC.out.below hb)
        replace HD := Lib.hid (HD.out.below hb)
        replace HB := Lib.hid (HB.out.trans (hb.mono HB.out.size))
        clear hb
        go_wp2_with fail
        refine (same_self HU.out HV.out).mono ?_
        rintro e w13 ⟨rfl, hb⟩
        replace HMA := Lib.hid (HMA.out.below hb)
        replace HMB := Lib.hid (HMB.out.below hb)
        replace HX := Lib.hid (HX.out.below hb)
        replace HRI := Lib.hid (HRI.out.lift hb)
        replace HY := Lib.hid (HY.out.below hb)
        replace HP := Lib.hid (HP.out.below hb)
        replace HQ := Lib.hid (HQ.out.below hb)
        replace HU := Lib.hid (HU.out.below hb)
        replace HV := Lib.hid (HV.out.below hb)
        replace HC := Lib.hid (HC.out.below hb)
        replace HD := Lib.hid (HD.out.below hb)
        replace HB := Lib.hid (HB.out.trans (hb.mono HB.out.size))
        clear hb
        go_wp2_with fail
        refine (same_self HC.out HD.out).mono ?_
        rintro e w14 ⟨rfl, hb⟩
        replace HMA := Lib.hid (HMA.out.below hb)
        replace HMB := Lib.hid (HMB.out.below hb)
        replace HX := Lib.hid (HX.out.below hb)
        replace HRI := Lib.hid (HRI.out.lift hb)
        replace HY := Lib.hid (HY.out.below hb)
        replace HP := Lib.hid (HP.out.below hb)
        replace HQ := Lib.hid (HQ.out.below hb)
        replace HU := Lib.hid (HU.out.below hb)
        replace HV := Lib.hid (HV.out.below hb)
        replace HC := Lib.hid (HC.out.below hb)
        replace HD := Lib.hid (HD.out.below hb)
        replace HB := Lib.hid (HB.out.trans (hb.mono HB.out.size))
        clear hb
        go_wp2
        go_ret
        exact ⟨rfl, HB.out⟩
end Go.Proofs.Ytpldnbfbpajbkaa
