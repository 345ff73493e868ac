/- The contract of caulklaw03.lives. -/
import Derived.Test.YtpldnbfbpajbkaaLawA
namespace Go.Proofs.Ytpldnbfbpajbkaa
open Go.RowKit
open Caulk.Lin (Fn2 invM)

theorem same_self {w : World} {a b : Value} {L : List (List UInt8)} (ha : MatS w a L) (hb : MatS w b L) :
    Calls Try.prog 21 #[a, b] w fun e w' => e = .returned (.bool true) ∧ Below w.heap.size w w' := by
  have := same_any (Nat.le_refl _) (Nat.le_refl _) ha hb
  rw [decide_eq_true rfl] at this
  exact this
theorem check_nil (w : World) : Calls Try.prog 19 #[.slice none 0 0] w fun e w' => e = .returned (.int .i64 2) ∧ w = w' := check_any (matV_nil w 0)
theorem cau21_head {w : World} {v : Value} (h : MatS w v (cauL 2 1)) : ∃ b off cap, v = .slice (some ⟨b, off, none⟩) 1 cap ∧ 1 ≤ cap ∧ cap ≤ maxLen ∧ ∀ W, Below w.heap.size w W → ∃ b' off' cap', W.cell? ⟨b, off, none⟩ = some (.slice (some ⟨b', off', none⟩) 2 cap') := by
  have e : cauL 2 1 = rowsL 1 2 (cauF 2) := by decide +kernel
  unfold MatS at h
  rw [e] at h
  obtain ⟨b, off, cap, rfl, h1, h2, h3⟩ := h.reads (Nat.le_refl _) (by decide) (by decide)
  refine ⟨b, off, cap, rfl, h1, h2, fun W hW => ?_⟩
  obtain ⟨b', off', cap', g, _⟩ := h3 W hW 0 (by decide)
  exact ⟨b', off', cap', g⟩

set_option maxRecDepth 100000 in
set_option maxHeartbeats 2000000 in
theorem lives3_any (w : World) : Calls Try.prog 10 #[] w fun e w' => e = .returned (.bool true) ∧ Below w.heap.size w w' := by
  obtain ⟨i1, i2, i3⟩ := c_inv
  have i4 := c_one
  obtain ⟨i5, i6, i7, i8, i9⟩ := c_cau
  obtain ⟨i10, i11⟩ := c_rows
  have I1 := Lib.hid i1
  have I2 := Lib.hid i2
  have I3 := Lib.hid i3
  have I4 := Lib.hid i4
  have I5 := Lib.hid i5
  have I6 := Lib.hid i6
  have I7 := Lib.hid i7
  have I8 := Lib.hid i8
  have I9 := Lib.hid i9
  have I10 := Lib.hid i10
  have I11 := Lib.hid i11
  clear i1 i2 i3 i4 i5 i6 i7 i8 i9 i10 i11
  go_enter Try.func10, Try.ntmps10
  go_wp2_with fail
  have h := unit_res 2 w
  rw [I8.out] at h
  refine h.mono ?_
  rintro e w1 ⟨u, rfl, hu, hb1⟩
  clear h
  have HU : Hid (MatS w1 u (unitL 2)) := Lib.hid hu
  have HB := Lib.hid hb1
  clear hu hb1
  go_wp2_with fail
  have HM : Hid (MatS _ _ [[1, 1], [0, 2]]) := Lib.hid (mat2 w1 1 1 0 2)
  have hbm := below3 w1 (.cells #[.int .u8 1, .int .u8 1] 5) (.cells #[.int .u8 0, .int .u8 2] 5) (.cells #[.slice (some ⟨w1.heap.size, 0, none⟩) 2 2, .slice (some ⟨w1.heap.size + 1, 0, none⟩) 2 2] 37)
  replace HU := Lib.hid (HU.out.below hbm)
  replace HB := Lib.hid (HB.out.trans (hbm.mono HB.out.size))
  clear hbm
  have h := invert_res HM.out (Nat.le_refl _)
  rw [I1.out] at h
  refine h.mono ?_
  rintro e w2 ⟨x, rfl, hx, hb⟩
  clear h
  have HX : Hid (MatS w2 x (invL [[1, 1], [0, 2]])) := Lib.hid hx
  clear hx
  replace HU := Lib.hid (HU.out.below hb)
  replace HM := Lib.hid (HM.out.below hb)
  replace HB := Lib.hid (HB.out.trans (hb.mono HB.out.size))
  clear hb
  go_wp2_with fail
  have h := mul_res HM.out (Nat.le_refl _) HX.out (Nat.le_refl _)
  rw [I2.out, I3.out] at h
  refine h.mono ?_
  rintro e w3 ⟨pv, rfl, hx, hb⟩
  clear h
  have HP : Hid (MatS w3 pv (unitL 2)) := Lib.hid hx
  clear hx
  replace HU := Lib.hid (HU.out.below hb)
  replace HM := Lib.hid (HM.out.below hb)
  replace HX := Lib.hid (HX.out.below hb)
  replace HB := Lib.hid (HB.out.trans (hb.mono HB.out.size))
  clear hb
  go_wp2_with fail
  have HO : Hid (MatS _ _ [[1, 1], [1, 1]]) := Lib.hid (mat2 w3 1 1 1 1)
  have hb := below3 w3 (.cells #[.int .u8 1, .int .u8 1] 5) (.cells #[.int .u8 1, .int .u8 1] 5) (.cells #[.slice (some ⟨w3.heap.size, 0, none⟩) 2 2, .slice (some ⟨w3.heap.size + 1, 0, none⟩) 2 2] 37)
  clear HX
  replace HU := Lib.hid (HU.out.below hb)
  replace HM := Lib.hid (HM.out.below hb)
  replace HP := Lib.hid (HP.out.below hb)
  replace HB := Lib.hid (HB.out.trans (hb.mono HB.out.size))
  clear hb
  have h := invert_res HO.out (Nat.le_refl _)
  rw [I4.out] at h
  refine h.mono ?_
  rintro e w4 ⟨xo, rfl, _, hb⟩
  clear h HO
  replace HU := Lib.hid (HU.out.below hb)
  replace HM := Lib.hid (HM.out.below hb)
  replace HP := Lib.hid (HP.out.below hb)
  replace HB := Lib.hid (HB.out.trans (hb.mono HB.out.size))
  clear hb
  go_wp2_with fail
  have h := cauchy_res 2 1 (by omega) (by omega) w4
  rw [I5.out] at h
  refine h.mono ?_
  rintro e w5 ⟨vc, rfl, hx, hb⟩
  clear h
  have HC : Hid (MatS w5 vc (cauL 2 1)) := Lib.hid hx
  clear hx
  replace HU := Lib.hid (HU.out.below hb)
  replace HM := Lib.hid (HM.out.below hb)
  replace HP := Lib.hid (HP.out.below hb)
  replace HB := Lib.hid (HB.out.trans (hb.mono HB.out.size))
  clear hb
  go_wp2_with fail
  have h := cauchy_res 255 1 (by omega) (by omega) w5
  rw [I6.out] at h
  refine h.mono ?_
  rintro e w6 ⟨vd, rfl, _, hb⟩
  clear h
  replace HU := Lib.hid (HU.out.below hb)
  replace HM := Lib.hid (HM.out.below hb)
  replace HP := Lib.hid (HP.out.below hb)
  replace HC := Lib.hid (HC.out.below hb)
  replace HB := Lib.hid (HB.out.trans (hb.mono HB.out.size))
  clear hb
  go_wp2_with fail
  have HI := Lib.hid (ints2 w6)
  have hb := below_alloc w6 (.cells #[.int .i64 1, .int .i64 1] 3)
  replace HU := Lib.hid (HU.out.below hb)
  replace HM := Lib.hid (HM.out.below hb)
  replace HP := Lib.hid (HP.out.below hb)
  replace HC := Lib.hid (HC.out.below hb)
  replace HB := Lib.hid (HB.out.trans (hb.mono HB.out.size))
  clear hb
  have h := rows_res HM.out (Nat.le_refl _) HI.out (Nat.le_refl _)
  rw [I10.out, I11.out] at h
  refine h.mono ?_
  rintro e w7 ⟨vr, rfl, hx, hb⟩
  clear h HI
  have HR : Hid (MatS w7 vr [[0, 2], [0, 2]]) := Lib.hid hx
  clear hx
  replace HU := Lib.hid (HU.out.below hb)
  replace HM := Lib.hid (HM.out.below hb)
  replace HP := Lib.hid (HP.out.below hb)
  replace HC := Lib.hid (HC.out.below hb)
  replace HB := Lib.hid (HB.out.trans (hb.mono HB.out.size))
  clear hb
  go_wp2_with fail
  have h := mul_res HM.out (Nat.le_refl _) HC.out (Nat.le_refl _)
  rw [I7.out] at h
  refine h.mono ?_
  rintro e w8 ⟨vn, rfl, _, hb⟩
  clear h
  replace HU := Lib.hid (HU.out.below hb)
  replace HM := Lib.hid (HM.out.below hb)
  replace HP := Lib.hid (HP.out.below hb)
  replace HC := Lib.hid (HC.out.below hb)
  replace HR := Lib.hid (HR.out.below hb)
  replace HB := Lib.hid (HB.out.trans (hb.mono HB.out.size))
  clear hb
  clear HM
  obtain ⟨bc, oc, kc, rfl, hc1, hc2, hc3⟩ := cau21_head HC.out
  unfold maxLen at hc2
  have HCH := Lib.hid hc3
  clear hc3
  go_wp2_with fail
  have HN := Lib.hid (mat2 w8 1 0 0 1)
  have hb := below3 w8 (.cells #[.int .u8 1, .int .u8 0] 5) (.cells #[.int .u8 0, .int .u8 1] 5) (.cells #[.slice (some ⟨w8.heap.size, 0, none⟩) 2 2, .slice (some ⟨w8.heap.size + 1, 0, none⟩) 2 2] 37)
  have HB8 := Lib.hid hb
  replace HU := Lib.hid (HU.out.below hb)
  replace HP := Lib.hid (HP.out.below hb)
  replace HR := Lib.hid (HR.out.below hb)
  replace HB := Lib.hid (HB.out.trans (hb.mono HB.out.size))
  clear hb
  have HU2 := HU.out
  rw [I9.out] at HU2
  refine (same_self HU2 HN.out).mono ?_
  rintro e w9 ⟨rfl, hb⟩
  clear HU2 HN
  replace HB8 := Lib.hid (HB8.out.trans (hb.mono HB8.out.size))
  replace HU := Lib.hid (HU.out.below hb)
  replace HP := Lib.hid (HP.out.below hb)
  replace HR := Lib.hid (HR.out.below hb)
  replace HB := Lib.hid (HB.out.trans (hb.mono HB.out.size))
  clear hb
  go_wp2_with fail
  refine (same_self HP.out HU.out).mono ?_
  rintro e w10 ⟨rfl, hb⟩
  replace HB8 := Lib.hid (HB8.out.trans (hb.mono HB8.out.size))
  clear HP HU
  replace HR := Lib.hid (HR.out.below hb)
  replace HB := Lib.hid (HB.out.trans (hb.mono HB.out.size))
  clear hb
  obtain ⟨bh, oh, kh, hh⟩ := HCH.out w10 HB8.out
  go_wp2_with fail
  have HN := Lib.hid (mat2 w10 0 2 0 2)
  have hb := below3 w10 (.cells #[.int .u8 0, .int .u8 2] 5) (.cells #[.int .u8 0, .int .u8 2] 5) (.cells #[.slice (some ⟨w10.heap.size, 0, none⟩) 2 2, .slice (some ⟨w10.heap.size + 1, 0, none⟩) 2 2] 37)
  replace HR := Lib.hid (HR.out.below hb)
  replace HB := Lib.hid (HB.out.trans (hb.mono HB.out.size))
  clear hb
  refine (same_self HR.out HN.out).mono ?_
  rintro e w11 ⟨rfl, hb⟩
  clear HN hh
  clear HR
  replace HB := Lib.hid (HB.out.trans (hb.mono HB.out.size))
  clear hb
  go_wp2_with fail
  refine (check_nil _).mono ?_
  rintro e w12 ⟨rfl, rfl⟩
  go_wp2
  go_ret
  exact ⟨rfl, HB.out⟩
end Go.Proofs.Ytpldnbfbpajbkaa
