/- Reports of damage: the law's own sample, walked. -/
import Derived.Test.YtfmpbohiahjafaaGreatDoorDmgV
import Derived.Test.YtfmpbohiahjafaaGreatDoorDmgK
import Derived.Test.YtfmpbohiahjafaaGreatDoorDmgS
import Derived.Test.YtfmpbohiahjafaaGreatDoorDmgT
import Derived.Test.YtfmpbohiahjafaaGreatDoorDmgU
namespace Go.Proofs.YtfmpbohiahjafaaGreatDoor
open Go.RowKit Go.Lib Go.Shelf Go.Sort

def lvAc : List Value := [.int .u8 3, .int .i64 3, .int .i64 2, .int .i64 9, .bool true]
def lvBc : List Value := [.int .u8 1, .int .i64 1, .int .i64 0, .int .i64 1, .bool false]
/-- Things just laid, one behind the other. -/
theorem st_laid {α : Type} {k : Nat} {enc : α → List Value} {z : α} (hk : ∀ x, (enc x).length = k) (w : World) (L : List α) (vs : List Value) (t : TypeId) (hv : vs = L.flatMap enc) (hm : L.length ≤ maxLen) : StS k enc z (w.alloc (.cells vs.toArray t)) (.slice (some ⟨w.heap.size, 0, none⟩) L.length L.length) L := by
  refine ⟨_, L.length, rfl, Nat.le_refl _, hm, .inr ⟨w.heap.size, 0, rfl, by simp, fun j hj q u hu => ?_⟩⟩
  have hq : q < k := by have := (List.getElem?_eq_some_iff.1 hu).1; rwa [hk] at this
  have h := new_cells w vs t (j * k + q) u (by rw [hv, flat_at hk L j hj q hq]; exact hu)
  rw [add_mid0] at h
  rw [Nat.zero_add]; exact h
theorem lv_many : manyW wrap64 [lvL] = 3 := by
  have h : loOk lvL = true := by decide
  unfold manyW
  rw [List.foldl_cons, List.foldl_nil, if_pos h]
  show wrap64 (0 + wrap64 (5 - 2)) = 3
  unfold wrap64; omega
set_option maxHeartbeats 16000000 in
set_option maxRecDepth 100000 in
theorem dmgLives_any {w : World} (hD : DmW w) : Calls Tryz.prog 6 #[] w fun e w' => e = .returned (.bool true) ∧ Below w.heap.size w w' := by
  obtain ⟨w1, hw1⟩ : ∃ w1, w1 = w.alloc (.cells #[.int .u8 3, .int .i64 3, .int .i64 2, .int .i64 9, .bool true] 42) := ⟨_, rfl⟩
  obtain ⟨w2, hw2⟩ : ∃ w2, w2 = w1.alloc (.cells #[.int .u8 1, .int .i64 1, .int .i64 0, .int .i64 1, .bool false] 42) := ⟨_, rfl⟩
  obtain ⟨w3, hw3⟩ : ∃ w3, w3 = w2.alloc (.cells #[.int .u8 3, .int .i64 3, .int .i64 2, .int .i64 9, .bool true, .int .u8 1, .int .i64 1, .int .i64 0, .int .i64 1, .bool false] 42) := ⟨_, rfl⟩
  have hb1 : Below w.heap.size w w1 := by rw [hw1]; exact below_new w _
  have hb2 : Below w.heap.size w w2 := by rw [hw2]; exact hb1.alloc hb1.size _
  have hb3 : Below w.heap.size w w3 := by rw [hw3]; exact hb2.alloc hb2.size _
  have n1 := new5 w (.int .u8 3) (.int .i64 3) (.int .i64 2) (.int .i64 9) (.bool true) 42
  rw [← hw1] at n1
  have n2 := new5 w1 (.int .u8 1) (.int .i64 1) (.int .i64 0) (.int .i64 1) (.bool false) 42
  rw [← hw2] at n2
  have hs1 : w1.heap.size = w.heap.size + 1 := by rw [hw1]; simp
  rw [hs1] at n2
  have hbb : Below w1.heap.size w1 w2 := by rw [hw2]; exact below_new w1 _
  have hs3 : WdS w3 (.slice (some ⟨w2.heap.size, 0, none⟩) 2 2) [lvA, lvB] := by rw [hw3]; exact st_laid WD.enc_len w2 [lvA, lvB] _ _ rfl (by unfold maxLen; decide)
  have hS := dmgSort_any hs3 (by decide)
  rw [lv_srt] at hS
  have HW1 := Lib.hid hw1
  have HW2 := Lib.hid hw2
  have HW3 := Lib.hid hw3
  have HB3 := Lib.hid hb3
  have HD := Lib.hid hD
  obtain ⟨y0, y1, y2, y3, y4⟩ := n2
  have x0 := cell_keep hbb n1.1
  have x1 := cell_keep hbb n1.2.1
  have x2 := cell_keep hbb n1.2.2.1
  have x3 := cell_keep hbb n1.2.2.2.1
  have x4 := cell_keep hbb n1.2.2.2.2
  rw [hw3] at hS
  clear hs1 hw1 hw2 hw3 hb1 hb2 hb3 n1 hbb hs3 hD
  go_enter Tryz.func6, Tryz.ntmps6
  go_upto_region 3 with fail
  rw [← HW1.out, ← HW2.out]
  go_upto_region 4 with (go_at_call 10; (with_reducible refine hS.mono ?_); rintro e w4 ⟨r, rfl, hr, hb4⟩; (obtain ⟨rA, rc, rfl⟩ := hr.form); have HR4 := Lib.hid hr; (have HB4 : Hid (Below w.heap.size w w4) := Lib.hid (by rw [← HW3.out] at hb4; exact HB3.out.trans (hb4.mono HB3.out.size))); clear hb4 hr)
  obtain ⟨w5, hw5⟩ : ∃ w5, w5 = w4.alloc (.cells #[.int .i64 (-1), .int .i64 2, .int .i64 5] 46) := ⟨_, rfl⟩
  obtain ⟨w6, hw6⟩ : ∃ w6, w6 = w5.alloc (.cells #[.slice rA 2 rc, .slice (some ⟨w4.heap.size, 0, none⟩) 1 1] 25) := ⟨_, rfl⟩
  have hb5 : Below w4.heap.size w4 w5 := by rw [hw5]; exact below_new w4 _
  have hb6 : Below w5.heap.size w5 w6 := by rw [hw6]; exact below_new w5 _
  have hs5 : w5.heap.size = w4.heap.size + 1 := by rw [hw5]; simp
  have hl5 : LoS w5 (.slice (some ⟨w4.heap.size, 0, none⟩) 1 1) [lvL] := by rw [hw5]; exact st_laid LO.enc_len w4 [lvL] _ _ rfl (by unfold maxLen; decide)
  have hc6 := cell2 w5 (.slice rA 2 rc) (.slice (some ⟨w4.heap.size, 0, none⟩) 1 1) 25
  rw [← hw6, hs5] at hc6
  have HB6 : Hid (Below w.heap.size w w6) := Lib.hid ((HB4.out.trans (hb5.mono HB4.out.size)).trans (hb6.mono (Nat.le_trans HB4.out.size hb5.size)))
  have HX6 : Hid (∀ V, Below w6.heap.size w6 V → V.cell? ⟨w4.heap.size + 1, 0, none⟩ = some (.slice rA 2 rc) ∧ V.cell? ⟨w4.heap.size + 1, 1, none⟩ = some (.slice (some ⟨w4.heap.size, 0, none⟩) 1 1)) := Lib.hid (fun V hb => ⟨cell_keep hb hc6.1, cell_keep hb hc6.2⟩)
  have hr6 : WdS w6 (.slice rA 2 rc) [lvB, lvA] := (HR4.out.below hb5 (Nat.le_refl _)).below hb6 (Nat.le_refl _)
  have hl6 : LoS w6 (.slice (some ⟨w4.heap.size, 0, none⟩) 1 1) [lvL] := hl5.below hb6 (Nat.le_refl _)
  have HS6 : Hid (∀ V, Below w6.heap.size w6 V → WdS V (.slice rA 2 rc) [lvB, lvA] ∧ LoS V (.slice (some ⟨w4.heap.size, 0, none⟩) 1 1) [lvL] ∧ DmW V) := Lib.hid (fun V hb => ⟨hr6.below hb (Nat.le_refl _), hl6.below hb (Nat.le_refl _), HD.out.below (HB6.out.trans (hb.mono HB6.out.size))⟩)
  have HKS : Hid (KsOk [lvB, lvA]) := Lib.hid (by intro x hx; simp only [List.mem_cons, List.not_mem_nil, or_false] at hx; rcases hx with rfl | rfl <;> decide)
  rw [← hw5, ← hw6]
  clear hw5 hw6 hb5 hb6 hs5 hl5 hr6 hl6 hc6 x0 x1 x2 x3 x4 y0 y1 y2 y3 y4 hS
  obtain ⟨k0, k1⟩ := HX6.out w6 (Below.refl _ _)
  have hT := dmgText_any (HS6.out w6 (Below.refl _ _)).1 (HS6.out w6 (Below.refl _ _)).2.1 HKS.out (HS6.out w6 (Below.refl _ _)).2.2
  rw [lv_txL, lv_ck] at hT
  obtain ⟨tx, htx⟩ : ∃ tx, tx = lvT := ⟨_, rfl⟩
  rw [← htx] at hT
  have HTX := Lib.hid htx
  have HTL : Hid (tx.length = 49) := Lib.hid (by rw [htx]; rfl)
  have hP0 : prsT tx = ([lvB, lvA], [lvL], 0, 0) := by rw [htx]; exact lv_prs
  have hP20 : prsT (tx ++ lvS) = ([], [], 4, 6) := by rw [htx]; exact lv_prs2
  have HP20 := Lib.hid hP20
  have HP0 := Lib.hid hP0
  clear hP20 hP0 htx
  go_upto_region 5 with (go_at_call 7; (with_reducible refine hT.mono ?_); rintro e w7 ⟨rfl, hb7⟩; have HB7 := Lib.hid hb7; clear hb7)
  have hP := dmgParse_any (T := tx) (by rw [HTL.out]; omega) (HS6.out w7 HB7.out).2.2
  rw [HP0.out] at hP
  clear hT k0 k1
  go_upto_region 6 with (go_at_call 18; (with_reducible refine hP.mono ?_); rintro e w8 ⟨⟨u, v, rfl, hu, hv⟩, hb8⟩; (obtain ⟨uA, uc, rfl⟩ := hu.form); (obtain ⟨vA, vc, rfl⟩ := hv.form); have HU8 := Lib.hid hu; have HV8 := Lib.hid hv; have HB8 := Lib.hid (HB7.out.trans (hb8.mono HB7.out.size)); clear hb8 hu hv)
  obtain ⟨w9, hw9⟩ : ∃ w9, w9 = w8.alloc (.cells #[.slice uA 2 uc, .slice vA 1 vc] 25) := ⟨_, rfl⟩
  have hb9 : Below w8.heap.size w8 w9 := by rw [hw9]; exact below_new w8 _
  have hc9 := cell2 w8 (.slice uA 2 uc) (.slice vA 1 vc) 25
  rw [← hw9] at hc9
  have HB9 : Hid (Below w6.heap.size w6 w9) := Lib.hid (HB8.out.trans (hb9.mono HB8.out.size))
  have hu9 : WdS w9 (.slice uA 2 uc) [lvB, lvA] := HU8.out.below hb9 (Nat.le_refl _)
  have hv9 : LoS w9 (.slice vA 1 vc) [lvL] := HV8.out.below hb9 (Nat.le_refl _)
  have HX9 : Hid (∀ V, Below w9.heap.size w9 V → V.cell? ⟨w8.heap.size, 0, none⟩ = some (.slice uA 2 uc) ∧ V.cell? ⟨w8.heap.size, 1, none⟩ = some (.slice vA 1 vc) ∧ WdS V (.slice uA 2 uc) [lvB, lvA] ∧ LoS V (.slice vA 1 vc) [lvL]) := Lib.hid (fun V hb => ⟨cell_keep hb hc9.1, cell_keep hb hc9.2, hu9.below hb (Nat.le_refl _), hv9.below hb (Nat.le_refl _)⟩)
  change Code.wp _ _ _ _ (w8.alloc (.cells #[.slice uA 2 uc, .slice vA 1 vc] 25))
  rw [← hw9]
  have hP2 : Calls Tryz.prog 18 #[.string ((⟨tx.toArray⟩ : ByteArray) ++ ⟨#[115, 108, 111, 116, 32, 48, 32, 48, 32, 48, 32, 111, 112, 101, 110, 10]⟩)] w9 fun e w' => PAns w' e ([], [], 4, 6) ∧ Below w9.heap.size w9 w' := by
    have h := dmgParse_any (T := tx ++ lvS) (by rw [List.length_append, HTL.out, show lvS.length = 16 from rfl]; omega) (HS6.out w9 HB9.out).2.2
    rw [HP20.out] at h
    rw [show ((⟨tx.toArray⟩ : ByteArray) ++ ⟨#[115, 108, 111, 116, 32, 48, 32, 48, 32, 48, 32, 111, 112, 101, 110, 10]⟩) = ⟨(tx ++ lvS).toArray⟩ from sapp tx lvS]
    exact h
  have z1 : ¬ 9223372036854775807 < tx.length + 16 := by rw [HTL.out]; omega
  clear hP hw9 hb9 hc9 hu9 hv9 HU8 HV8
  go_upto_region 7 with (go_at_call 18; (with_reducible refine hP2.mono ?_); rintro e w10 ⟨⟨u2, v2, rfl, hu, hv⟩, hb10⟩; (obtain ⟨uB, ud, rfl⟩ := hu.form); (obtain ⟨vB, vd, rfl⟩ := hv.form); have HB10 : Hid (Below w9.heap.size w9 w10) := Lib.hid hb10; clear hb10 hu hv)
  obtain ⟨w11, hw11⟩ : ∃ w11, w11 = w10.alloc (.cells #[.slice uB 0 ud, .slice vB 0 vd] 25) := ⟨_, rfl⟩
  have HB11 : Hid (Below w9.heap.size w9 w11) := Lib.hid (by rw [hw11]; exact HB10.out.alloc HB10.out.size _)
  change Code.wp _ _ _ _ (w10.alloc (.cells #[.slice uB 0 ud, .slice vB 0 vd] 25))
  rw [← hw11]
  clear hw11 hP2 z1
  have hb12 := below_new w11 (.cells #[.int .u8 0, .int .i64 0, .int .i64 0, .int .i64 0, .bool false] 42)
  have hw12 : WdS (w11.alloc (.cells #[.int .u8 0, .int .i64 0, .int .i64 0, .int .i64 0, .bool false] 42)) (.slice (some ⟨w11.heap.size, 0, none⟩) 1 1) [WD.zero] := st_laid WD.enc_len w11 [WD.zero] _ _ rfl (by unfold maxLen; decide)
  have hT2 := dmgText_any hw12 (StS.nil _) (by intro x hx; rw [List.mem_singleton] at hx; rw [hx]; decide) ((HS6.out w11 (HB9.out.trans (HB11.out.mono HB9.out.size))).2.2.below hb12)
  rw [show txL [WD.zero] [] = [] from rfl, lv_ckZ] at hT2
  have HB12 := Lib.hid (HB11.out.trans (hb12.mono HB11.out.size))
  clear hw12 hb12
  go_upto_region 8 with (go_at_call 7; (with_reducible refine hT2.mono ?_); rintro e w13 ⟨rfl, hb13⟩; have HB13 : Hid (Below w9.heap.size w9 w13) := Lib.hid (HB12.out.trans (hb13.mono HB12.out.size)); clear hb13)
  clear hT2
  have HS9 : Hid (∀ V, Below w9.heap.size w9 V → Below w6.heap.size w6 V) := Lib.hid (fun V hb => HB9.out.trans (hb.mono HB9.out.size))
  have HSM : Hid (∀ V, Below w9.heap.size w9 V → _) := Lib.hid (fun V hb => sameR_self (HX9.out V hb).2.2.1 (HX9.out V hb).2.2.2 (HS6.out V (HS9.out V hb)).1 (HS6.out V (HS9.out V hb)).2.1)
  have HOP : Hid (∀ V, Below w9.heap.size w9 V → _) := Lib.hid (fun V hb => dmgOpen_any (HS6.out V (HS9.out V hb)).1 (HS6.out V (HS9.out V hb)).2.1)
  have HMN : Hid (∀ V, Below w9.heap.size w9 V → _) := Lib.hid (fun V hb => dmgMany_any (HS6.out V (HS9.out V hb)).1 (HS6.out V (HS9.out V hb)).2.1)
  have HCK : Hid (∀ V, Below w9.heap.size w9 V → _) := Lib.hid (fun V hb => dmgCheck_any (HS6.out V (HS9.out V hb)).1 (HS6.out V (HS9.out V hb)).2.1 HKS.out (HS6.out V (HS9.out V hb)).2.2)
  rw [show opn [lvB, lvA] = 1 from rfl] at HOP
  rw [lv_many] at HMN
  rw [lv_ck] at HCK
  have ke : (tx == [115, 108, 111, 116, 32, 49, 32, 48, 32, 49, 32, 111, 112, 101, 110, 10, 115, 116, 114, 105, 112, 101, 32, 51, 32, 50, 32, 57, 32, 104, 101, 97, 108, 101, 100, 10, 108, 111, 115, 116, 32, 110, 111, 119, 32, 50, 32, 53, 10]) = true := by rw [HTX.out]; rfl
  have HCC : Hid (∀ V, Below w9.heap.size w9 V → V.cell? ⟨w8.heap.size, 0, none⟩ = some (.slice uA 2 uc) ∧ V.cell? ⟨w8.heap.size, 1, none⟩ = some (.slice vA 1 vc) ∧ V.cell? ⟨w4.heap.size + 1, 0, none⟩ = some (.slice rA 2 rc) ∧ V.cell? ⟨w4.heap.size + 1, 1, none⟩ = some (.slice (some ⟨w4.heap.size, 0, none⟩) 1 1)) := Lib.hid (fun V hb => ⟨(HX9.out V hb).1, (HX9.out V hb).2.1, (HX6.out V (HS9.out V hb)).1, (HX6.out V (HS9.out V hb)).2⟩)
  obtain ⟨k0, k1, k2, k3⟩ := HCC.out w13 HB13.out
  have hSM := HSM.out w13 HB13.out
  go_wp2_with (first
    | (go_at_call 20; (with_reducible refine hSM.mono ?_); rintro e w14 ⟨rfl, hb⟩; have HB14 : Hid (Below w9.heap.size w9 w14) := Lib.hid (HB13.out.trans (hb.mono HB13.out.size)); have hOP := HOP.out w14 HB14.out; obtain ⟨l0, l1, l2, l3⟩ := HCC.out w14 HB14.out; clear hb)
    | (go_at_call 14; (with_reducible refine hOP.mono ?_); rintro e w15 ⟨rfl, hb⟩; have HB15 : Hid (Below w9.heap.size w9 w15) := Lib.hid (HB14.out.trans (hb.mono HB14.out.size)); have hMN := HMN.out w15 HB15.out; obtain ⟨m0, m1, m2, m3⟩ := HCC.out w15 HB15.out; clear hb)
    | (go_at_call 16; (with_reducible refine hMN.mono ?_); rintro e w16 ⟨rfl, hb⟩; have HB16 : Hid (Below w9.heap.size w9 w16) := Lib.hid (HB15.out.trans (hb.mono HB15.out.size)); have hCK := HCK.out w16 HB16.out; obtain ⟨o0, o1, o2, o3⟩ := HCC.out w16 HB16.out; clear hb)
    | (go_at_call 12; (with_reducible refine hCK.mono ?_); rintro e w17 ⟨rfl, hb⟩; have HB17 : Hid (Below w9.heap.size w9 w17) := Lib.hid (HB16.out.trans (hb.mono HB16.out.size)); clear hb))
  go_ret
  exact ⟨rfl, HB6.out.trans ((HS9.out _ HB17.out).mono HB6.out.size)⟩
end Go.Proofs.YtfmpbohiahjafaaGreatDoor
