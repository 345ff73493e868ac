/- The walk of MatrixEither. -/
import Derived.Test.YtpldnbfbpajbkaaLawB
import Derived.Test.YtpldnbfbpajbkaaEither
namespace Go.Proofs.Ytpldnbfbpajbkaa
open Go.RowKit

theorem MatS.opened {w : World} {v : Value} {L : List (List UInt8)} (h : MatS w v L) : ∃ A c, v = .slice A L.length c ∧ L.length ≤ c ∧ c ≤ 9223372036854775807 := by
  obtain ⟨A, c, rfl, _, h2, h3, _⟩ := h
  unfold maxLen at h3
  exact ⟨A, c, rfl, h2, h3⟩
theorem inv_empty {M : List (List UInt8)} (h : invE M ≠ 0) : invL M = [] := by
  unfold invE at h
  unfold invL
  by_cases h0 : ckE M = 0
  · rw [if_pos h0] at h ⊢
    by_cases h1 : colsN M = M.length
    · rw [if_pos h1] at h ⊢
      cases hX : Caulk.Lin.invM M.length (entF M) with
      | none => rfl
      | some X => rw [hX] at h; simp at h
    · rw [if_neg h1]
  · rw [if_neg h0]
set_option maxRecDepth 100000 in
set_option maxHeartbeats 4000000 in
theorem matrixEither_walk {w : World} {a b : Value} {A M : List (List UInt8)} (hA : MatV w w.heap.size a A) (hM : MatV w w.heap.size b M) :
    Calls Try.prog 5 #[a, b] w fun e w' => e = .returned (.bool true) ∧ Below w.heap.size w w' := by
  have HMA : Hid (MatS w a A) := Lib.hid hA
  have HMB : Hid (MatS w b M) := Lib.hid hM
  clear hA hM
  obtain ⟨aA, cA, rfl, hlA, hmA⟩ := HMA.out.opened
  obtain ⟨aB, cB, rfl, hlB, hmB⟩ := HMB.out.opened
  go_enter Try.func5, Try.ntmps5
  go_wp2_with fail
  refine (lives3_any _).mono ?_
  rintro e w1 ⟨rfl, hb⟩
  replace HMA := Lib.hid (HMA.out.below hb)
  replace HMB := Lib.hid (HMB.out.below hb)
  have HB := Lib.hid hb
  clear hb
  have HS := Lib.hid (small_any HMA.out (Nat.le_refl _))
  have HT := Lib.hid (small_any HMB.out (Nat.le_refl _))
  cases hs : smallB A with
  | false =>
    rw [hs] at HS
    clear hs
    go_wp2_with fail
    refine HS.out.mono ?_
    rintro e w' ⟨rfl, rfl⟩
    go_wp2
    go_ret
    exact ⟨rfl, HB.out⟩
  | true =>
  rw [hs] at HS
  clear hs
  cases ht : smallB M with
  | false =>
    rw [ht] at HT
    clear ht
    go_wp2_with fail
    refine HS.out.mono ?_
    rintro e w' ⟨rfl, rfl⟩
    go_wp2_with fail
    refine HT.out.mono ?_
    rintro e w' ⟨rfl, rfl⟩
    go_wp2
    go_ret
    exact ⟨rfl, HB.out⟩
  | true =>
  rw [ht] at HT
  clear ht
  go_wp2_with fail
  refine HS.out.mono ?_
  rintro e w' ⟨rfl, rfl⟩
  go_wp2_with fail
  refine HT.out.mono ?_
  rintro e w' ⟨rfl, rfl⟩
  clear HS HT
  cases hE : decide (invE A = 0) with
  | false =>
    have hne := of_decide_eq_false hE
    clear hE
    go_wp2_with fail
    have h := invert_res HMA.out (Nat.le_refl _)
    rw [inv_empty hne] at h
    refine h.mono ?_
    rintro e w2 ⟨x, rfl, hx, hb⟩
    clear h
    obtain ⟨ax, cx, rfl, hlx, hmx⟩ := MatS.opened hx
    replace HB := Lib.hid (HB.out.trans (hb.mono HB.out.size))
    have hz1 : (invE A == 0) = false := by simpa using hne
    have hz2 : (invE A != 0) = true := by simpa using hne
    generalize invE A = E at *
    clear hne hx hb
    go_wp2
    go_ret
    exact ⟨rfl, HB.out⟩
  | true =>
    have hE0 := of_decide_eq_true hE
    clear hE
    obtain ⟨o1, o2, o3, o4, o5, o6, o7⟩ := either_one hE0
    have HEA := Lib.hid hE0
    have O1 := Lib.hid o1
    have O2 := Lib.hid o2
    have O3 := Lib.hid o3
    have O4 := Lib.hid o4
    have O5 := Lib.hid o5
    have O6 := Lib.hid o6
    have O7 := Lib.hid o7
    clear hE0 o1 o2 o3 o4 o5 o6 o7
    go_wp2_with fail
    have h := invert_res HMA.out (Nat.le_refl _)
    rw [HEA.out] at h
    refine h.mono ?_
    rintro e w2 ⟨x, rfl, hx, hb⟩
    clear h
    have HX : Hid (MatS w2 x (invL A)) := Lib.hid hx
    clear hx
    replace HMA := Lib.hid (HMA.out.below hb)
    replace HMB := Lib.hid (HMB.out.below hb)
    replace HB := Lib.hid (HB.out.trans (hb.mono HB.out.size))
    clear hb
    go_wp2_with fail
    have h := unit_res (A.length : Int) w2
    rw [O1.out] at h
    refine h.mono ?_
    rintro e w3 ⟨u, rfl, hx, hb⟩
    clear h
    have HU : Hid (MatS w3 u (unitL (A.length : Int))) := Lib.hid hx
    clear hx
    replace HMA := Lib.hid (HMA.out.below hb)
    replace HMB := Lib.hid (HMB.out.below hb)
    replace HX := Lib.hid (HX.out.below hb)
    replace HB := Lib.hid (HB.out.trans (hb.mono HB.out.size))
    clear hb
    go_wp2_with fail
    have h := mul_res HMA.out (Nat.le_refl _) HX.out (Nat.le_refl _)
    rw [O2.out] at h
    rw [O3.out] at h
    refine h.mono ?_
    rintro e w4 ⟨p, rfl, hx, hb⟩
    clear h
    have HP : Hid (MatS w4 p (unitL (A.length : Int))) := Lib.hid hx
    clear hx
    replace HMA := Lib.hid (HMA.out.below hb)
    replace HMB := Lib.hid (HMB.out.below hb)
    replace HX := Lib.hid (HX.out.below hb)
    replace HU := Lib.hid (HU.out.below hb)
    replace HB := Lib.hid (HB.out.trans (hb.mono HB.out.size))
    clear hb
    go_wp2_with fail
    have h := mul_res HX.out (Nat.le_refl _) HMA.out (Nat.le_refl _)
    rw [O4.out] at h
    rw [O5.out] at h
    refine h.mono ?_
    rintro e w5 ⟨q, rfl, hx, hb⟩
    clear h
    have HQ : Hid (MatS w5 q (unitL (A.length : Int))) := Lib.hid hx
    clear hx
    replace HMA := Lib.hid (HMA.out.below hb)
    replace HMB := Lib.hid (HMB.out.below hb)
    replace HX := Lib.hid (HX.out.below hb)
    replace HU := Lib.hid (HU.out.below hb)
    replace HP := Lib.hid (HP.out.below hb)
    replace HB := Lib.hid (HB.out.trans (hb.mono HB.out.size))
    clear hb
    go_wp2_with fail
    have h := invert_res HX.out (Nat.le_refl _)
    rw [O6.out] at h
    rw [O7.out] at h
    refine h.mono ?_
    rintro e w6 ⟨bk, rfl, hx, hb⟩
    clear h
    have HBK : Hid (MatS w6 bk A) := Lib.hid hx
    clear hx
    replace HMA := Lib.hid (HMA.out.below hb)
    replace HMB := Lib.hid (HMB.out.below hb)
    replace HX := Lib.hid (HX.out.below hb)
    replace HU := Lib.hid (HU.out.below hb)
    replace HP := Lib.hid (HP.out.below hb)
    replace HQ := Lib.hid (HQ.out.below hb)
    replace HB := Lib.hid (HB.out.trans (hb.mono HB.out.size))
    clear hb
    go_wp2_with fail
    refine (same_self HP.out HU.out).mono ?_
    rintro e w7 ⟨rfl, hb⟩
    replace HMA := Lib.hid (HMA.out.below hb)
    replace HMB := Lib.hid (HMB.out.below hb)
    replace HX := Lib.hid (HX.out.below hb)
    replace HU := Lib.hid (HU.out.below hb)
    replace HP := Lib.hid (HP.out.below hb)
    replace HQ := Lib.hid (HQ.out.below hb)
    replace HBK := Lib.hid (HBK.out.below hb)
    replace HB := Lib.hid (HB.out.trans (hb.mono HB.out.size))
    clear hb
    go_wp2_with fail
    refine (same_self HQ.out HU.out).mono ?_
    rintro e w8 ⟨rfl, hb⟩
    replace HMA := Lib.hid (HMA.out.below hb)
    replace HMB := Lib.hid (HMB.out.below hb)
    replace HX := Lib.hid (HX.out.below hb)
    replace HU := Lib.hid (HU.out.below hb)
    replace HP := Lib.hid (HP.out.below hb)
    replace HQ := Lib.hid (HQ.out.below hb)
    replace HBK := Lib.hid (HBK.out.below hb)
    replace HB := Lib.hid (HB.out.trans (hb.mono HB.out.size))
    clear hb
    go_wp2_with fail
    refine (same_self HBK.out HMA.out).mono ?_
    rintro e w9 ⟨rfl, hb⟩
    replace HMA := Lib.hid (HMA.out.below hb)
    replace HMB := Lib.hid (HMB.out.below hb)
    replace HX := Lib.hid (HX.out.below hb)
    replace HU := Lib.hid (HU.out.below hb)
    replace HP := Lib.hid (HP.out.below hb)
    replace HQ := Lib.hid (HQ.out.below hb)
    replace HBK := Lib.hid (HBK.out.below hb)
    replace HB := Lib.hid (HB.out.trans (hb.mono HB.out.size))
    clear hb
    clear HP HU HQ HBK
    cases hg : decide (invE M = 0 ∧ M.length = A.length) with
    | false =>
      have hg2 := of_decide_eq_false hg
      clear hg
      go_wp2_with fail
      have h := invert_res HMB.out (Nat.le_refl _)
      refine h.mono ?_
      rintro e w10 ⟨y, rfl, _, hb⟩
      clear h
      replace HMA := Lib.hid (HMA.out.below hb)
      replace HMB := Lib.hid (HMB.out.below hb)
      replace HX := Lib.hid (HX.out.below hb)
      replace HB := Lib.hid (HB.out.trans (hb.mono HB.out.size))
      clear hb
      by_cases h0 : invE M = 0
      · have hl1 : ((M.length : Int) == (A.length : Int)) = false := by simp; omega
        have hl2 : ((M.length : Int) != (A.length : Int)) = true := by simp; omega
        rw [h0]
        clear h0 hg2
        go_wp2
        go_ret
        exact ⟨rfl, HB.out⟩
      · have hz1 : (invE M == 0) = false := by simpa using h0
        have hz2 : (invE M != 0) = true := by simpa using h0
        generalize invE M = E at *
        clear h0 hg2
        go_wp2
        go_ret
        exact ⟨rfl, HB.out⟩
    | true =>
      obtain ⟨hg1, hg2⟩ := of_decide_eq_true hg
      clear hg
      obtain ⟨r1, r2, r3, r4⟩ := either_two HEA.out hg1 hg2
      have HEM := Lib.hid hg1
      have R1 := Lib.hid r1
      have R2 := Lib.hid r2
      have R3 := Lib.hid r3
      have R4 := Lib.hid r4
      clear hg1 r1 r2 r3 r4
      have hl1 : ((M.length : Int) == (A.length : Int)) = true := by rw [hg2]; simp
      have hl2 : ((M.length : Int) != (A.length : Int)) = false := by rw [hg2]; simp
      clear hg2
      go_wp2_with fail
      have h := invert_res HMB.out (Nat.le_refl _)
      rw [HEM.out] at h
      refine h.mono ?_
      rintro e w10 ⟨y, rfl, hx, hb⟩
      clear h
      have HY : Hid (MatS w10 y (invL M)) := Lib.hid hx
      clear hx
      replace HMA := Lib.hid (HMA.out.below hb)
      replace HMB := Lib.hid (HMB.out.below hb)
      replace HX := Lib.hid (HX.out.below hb)
      replace HB := Lib.hid (HB.out.trans (hb.mono HB.out.size))
      clear hb
      go_wp2_with fail
      have h := mul_res HMA.out (Nat.le_refl _) HMB.out (Nat.le_refl _)
      rw [R1.out] at h
      refine h.mono ?_
      rintro e w11 ⟨ab, rfl, hx, hb⟩
      clear h
      have HAB : Hid (MatS w11 ab (mulL A M)) := Lib.hid hx
      clear hx
      replace HMA := Lib.hid (HMA.out.below hb)
      replace HMB := Lib.hid (HMB.out.below hb)
      replace HX := Lib.hid (HX.out.below hb)
      replace HY := Lib.hid (HY.out.below hb)
      replace HB := Lib.hid (HB.out.trans (hb.mono HB.out.size))
      clear hb
      go_wp2_with fail
      have h := invert_res HAB.out (Nat.le_refl _)
      rw [R2.out] at h
      rw [R4.out] at h
      refine h.mono ?_
      rintro e w12 ⟨z, rfl, hx, hb⟩
      clear h
      have HZ : Hid (MatS w12 z (mulL (invL M) (invL A))) := Lib.hid hx
      clear hx
      replace HMA := Lib.hid (HMA.out.below hb)
      replace HMB := Lib.hid (HMB.out.below hb)
      replace HX := Lib.hid (HX.out.below hb)
      replace HY := Lib.hid (HY.out.below hb)
      replace HAB := Lib.hid (HAB.out.below hb)
      replace HB := Lib.hid (HB.out.trans (hb.mono HB.out.size))
      clear hb
      go_wp2_with fail
      have h := mul_res HY.out (Nat.le_refl _) HX.out (Nat.le_refl _)
      rw [R3.out] at h
      refine h.mono ?_
      rintro e w13 ⟨yx, rfl, hx, hb⟩
      clear h
      have HYX : Hid (MatS w13 yx (mulL (invL M) (invL A))) := Lib.hid hx
      clear hx
      replace HMA := Lib.hid (HMA.out.below hb)
      replace HMB := Lib.hid (HMB.out.below hb)
      replace HX := Lib.hid (HX.out.below hb)
      replace HY := Lib.hid (HY.out.below hb)
      replace HAB := Lib.hid (HAB.out.below hb)
      replace HZ := Lib.hid (HZ.out.below hb)
      replace HB := Lib.hid (HB.out.trans (hb.mono HB.out.size))
      clear hb
      go_wp2_with fail
      refine (same_self HZ.out HYX.out).mono ?_
      rintro e w14 ⟨rfl, hb⟩
      replace HMA := Lib.hid (HMA.out.below hb)
      replace HMB := Lib.hid (HMB.out.below hb)
      replace HX := Lib.hid (HX.out.below hb)
      replace HY := Lib.hid (HY.out.below hb)
      replace HAB := Lib.hid (HAB.out.below hb)
      replace HZ := Lib.hid (HZ.out.below hb)
      replace HYX := Lib.hid (HYX.out.below hb)
      replace HB := Lib.hid (HB.out.trans (hb.mono HB.out.size))
      clear hb
      go_wp2
      go_ret
      exact ⟨rfl, HB.out⟩
end Go.Proofs.Ytpldnbfbpajbkaa
