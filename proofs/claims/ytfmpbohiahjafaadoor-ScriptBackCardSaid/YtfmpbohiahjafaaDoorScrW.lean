/- Scripts: the law's own sample, walked. -/
import Derived.Test.YtfmpbohiahjafaaDoorScrU
import Derived.Test.YtfmpbohiahjafaaDoorScrV
namespace Go.Proofs.YtfmpbohiahjafaaDoor
open Go.RowKit Go.Lib Go.Shelf Go.Sort

/-- Five cells at a block's start. -/
def C5 (V : World) (b : Nat) (v0 v1 v2 v3 v4 : Value) : Prop := V.cell? ⟨b, 0, none⟩ = some v0 ∧ V.cell? ⟨b, 1, none⟩ = some v1 ∧ V.cell? ⟨b, 2, none⟩ = some v2 ∧ V.cell? ⟨b, 3, none⟩ = some v3 ∧ V.cell? ⟨b, 4, none⟩ = some v4
theorem C5.new (w : World) (v0 v1 v2 v3 v4 : Value) (t : TypeId) : C5 (w.alloc (.cells #[v0, v1, v2, v3, v4] t)) w.heap.size v0 v1 v2 v3 v4 := new5 w v0 v1 v2 v3 v4 t
theorem C5.below {w V : World} {b : Nat} {v0 v1 v2 v3 v4 : Value} (h : C5 w b v0 v1 v2 v3 v4) (hb : Below w.heap.size w V) : C5 V b v0 v1 v2 v3 v4 :=
  ⟨cell_keep hb h.1, cell_keep hb h.2.1, cell_keep hb h.2.2.1, cell_keep hb h.2.2.2.1, cell_keep hb h.2.2.2.2⟩
theorem DD.enc_len5 (d : DD) : d.enc.length = 5 := rfl
/-- Deeds just laid, one behind the other. -/
theorem dd_laid (w : World) (L : List DD) (vs : List Value) (t : TypeId) (hv : vs = L.flatMap DD.enc) (hm : L.length ≤ maxLen) : DdS (w.alloc (.cells vs.toArray t)) (.slice (some ⟨w.heap.size, 0, none⟩) L.length L.length) L := by
  refine ⟨_, L.length, rfl, Nat.le_refl _, hm, .inr ⟨w.heap.size, 0, rfl, by simp, fun j hj q u hu => ?_⟩⟩
  have hq : q < 5 := by have := (List.getElem?_eq_some_iff.1 hu).1; rwa [DD.enc_len5] at this
  have h := new_cells w vs t (j * 5 + q) u (by rw [hv, flat_at DD.enc_len5 L j hj q hq]; exact hu)
  rw [add_mid0] at h
  rw [Nat.zero_add]; exact h
theorem lv_su_ok : SUok lvSU := psS_ok lv_psS
theorem lv_d_ok : ∀ d ∈ [lvD1, lvD2], DDok d := by
  intro d hd
  simp only [List.mem_cons, List.not_mem_nil, or_false] at hd
  rcases hd with rfl | rfl
  · exact psD_ok lv_p1
  · exact psD_ok lv_p2
theorem get_is {T : List UInt8} {c : SU} {L : List DD} {a e0 : Int} (hT : T.length ≤ 100000000) {w : World} (hD : ScW w) (h : getS T = (c, L, a, e0)) :
    Calls Tryd.prog 13 #[.string ⟨T.toArray⟩] w fun e w' => (∃ A cap, e = .returned (.tuple #[.agg c.enc.toArray, .slice A L.length cap, .int .i64 a, .int .i64 e0]) ∧ DdS w' (.slice A L.length cap) L) ∧ Below w.heap.size w w' := by
  refine (get_any hT hD).mono ?_
  rintro e w' ⟨⟨v, he, hv⟩, hb⟩
  rw [h] at he hv
  obtain ⟨A, cap, rfl⟩ := hv.form
  exact ⟨⟨A, cap, he, hv⟩, hb⟩
set_option maxHeartbeats 16000000 in
set_option maxRecDepth 100000 in
theorem scrLives_any {w : World} (hD : ScW w) : Calls Tryd.prog 6 #[] w fun e w' => e = .returned (.bool true) ∧ Below w.heap.size w w' := by
  obtain ⟨w1, hw1⟩ : ∃ w1, w1 = w.alloc (.cells #[.int .i64 1, .int .i64 2, .int .i64 3, .int .i64 40, .int .i64 5] 35) := ⟨_, rfl⟩
  obtain ⟨w2, hw2⟩ : ∃ w2, w2 = w1.alloc (.cells #[.int .u8 2, .int .i64 7, .int .i64 0, .int .i64 0, .string ⟨#[104, 105]⟩] 24) := ⟨_, rfl⟩
  obtain ⟨w3, hw3⟩ : ∃ w3, w3 = w2.alloc (.cells #[.int .u8 14, .int .i64 2, .int .i64 3, .int .i64 1, .string ⟨#[]⟩] 24) := ⟨_, rfl⟩
  obtain ⟨w4, hw4⟩ : ∃ w4, w4 = w3.alloc (.cells #[.int .u8 2, .int .i64 7, .int .i64 0, .int .i64 0, .string ⟨#[104, 105]⟩, .int .u8 14, .int .i64 2, .int .i64 3, .int .i64 1, .string ⟨#[]⟩] 24) := ⟨_, rfl⟩
  have hs1 : w1.heap.size = w.heap.size + 1 := by rw [hw1]; simp
  have hs2 : w2.heap.size = w.heap.size + 1 + 1 := by rw [hw2]; simp [hs1]
  have hb1 : Below w.heap.size w w1 := by rw [hw1]; exact below_new w _
  have hb2 : Below w1.heap.size w1 w2 := by rw [hw2]; exact below_new w1 _
  have hb3 : Below w2.heap.size w2 w3 := by rw [hw3]; exact below_new w2 _
  have hb4 : Below w3.heap.size w3 w4 := by rw [hw4]; exact below_new w3 _
  have c1 := C5.new w (.int .i64 1) (.int .i64 2) (.int .i64 3) (.int .i64 40) (.int .i64 5) 35
  rw [← hw1] at c1
  have c2 := C5.new w1 (.int .u8 2) (.int .i64 7) (.int .i64 0) (.int .i64 0) (.string ⟨#[104, 105]⟩) 24
  rw [← hw2, hs1] at c2
  have c3 := C5.new w2 (.int .u8 14) (.int .i64 2) (.int .i64 3) (.int .i64 1) (.string ⟨#[]⟩) 24
  rw [← hw3, hs2] at c3
  have HB3 : Hid (Below w.heap.size w w3) := Lib.hid ((hb1.trans (hb2.mono hb1.size)).trans (hb3.mono (Nat.le_trans hb1.size hb2.size)))
  have HX3 : Hid (∀ V, Below w3.heap.size w3 V → ScW V ∧ C5 V w.heap.size (.int .i64 1) (.int .i64 2) (.int .i64 3) (.int .i64 40) (.int .i64 5) ∧ C5 V (w.heap.size + 1) (.int .u8 2) (.int .i64 7) (.int .i64 0) (.int .i64 0) (.string ⟨#[104, 105]⟩) ∧ C5 V (w.heap.size + 1 + 1) (.int .u8 14) (.int .i64 2) (.int .i64 3) (.int .i64 1) (.string ⟨#[]⟩)) :=
    Lib.hid (fun V hb => ⟨(hD.below HB3.out).below hb |> fun h => h, ((c1.below hb2).below hb3).below hb, (c2.below hb3).below hb, c3.below hb⟩)
  have hd4 : DdS w4 (.slice (some ⟨w3.heap.size, 0, none⟩) 2 2) [lvD1, lvD2] := by rw [hw4]; exact dd_laid w3 [lvD1, lvD2] _ _ rfl (by unfold maxLen; decide)
  obtain ⟨tx, htx⟩ : ∃ tx, tx = lvT0 := ⟨_, rfl⟩
  have hP : Calls Tryd.prog 11 #[.agg #[.int .i64 1, .int .i64 2, .int .i64 3, .int .i64 40, .int .i64 5], .slice (some ⟨w3.heap.size, 0, none⟩) 2 2] w4 fun e w' => e = .returned (.tuple #[.string ⟨tx.toArray⟩, .int .i64 0]) ∧ Below w4.heap.size w4 w' := by
    have h := put_any lv_su_ok lv_d_ok hd4 (HX3.out w4 hb4).1
    rw [lv_put, ← htx] at h
    exact h
  rw [hw4] at hP
  have HW1 := Lib.hid hw1
  have HW2 := Lib.hid hw2
  have HW3 := Lib.hid hw3
  have HW4 := Lib.hid hw4
  have HB4 := Lib.hid hb4
  have HTX := Lib.hid htx
  have HTL : Hid (tx.length = 43) := Lib.hid (by rw [htx]; rfl)
  have HG1 : Hid (getS tx = (lvSU, [lvD1, lvD2], 0, 0)) := Lib.hid (by rw [htx]; exact lv_get)
  have HG2 : Hid (getS (tx ++ lvR) = (SU.zero, [], 4, 6)) := Lib.hid (by rw [htx]; exact lv_get2)
  obtain ⟨_, ⟨x0, x1, x2, x3, x4⟩, ⟨y0, y1, y2, y3, y4⟩, ⟨z0, z1, z2, z3, z4⟩⟩ := HX3.out w3 (Below.refl _ _)
  clear hs1 hs2 hw1 hw2 hw3 hw4 hb1 hb2 hb3 hb4 c1 c2 c3 hd4 htx hD
  go_enter Tryd.func6, Tryd.ntmps6
  go_upto_region 4 with fail
  rw [← HW1.out, ← HW2.out, ← HW3.out]
  go_upto_region 5 with (go_at_call 11; (with_reducible refine hP.mono ?_); rintro e w5 ⟨rfl, hb5⟩; (have HB5 : Hid (Below w3.heap.size w3 w5) := Lib.hid (by rw [← HW4.out] at hb5; exact HB4.out.trans (hb5.mono HB4.out.size))); clear hb5)
  clear hP x0 x1 x2 x3 x4 y0 y1 y2 y3 y4 z0 z1 z2 z3 z4
  have hG : Calls Tryd.prog 13 #[.string ⟨tx.toArray⟩] w5 fun e w' => (∃ A cap, e = .returned (.tuple #[.agg #[.int .i64 1, .int .i64 2, .int .i64 3, .int .i64 40, .int .i64 5], .slice A 2 cap, .int .i64 0, .int .i64 0]) ∧ DdS w' (.slice A 2 cap) [lvD1, lvD2]) ∧ Below w5.heap.size w5 w' :=
    get_is (by rw [HTL.out]; omega) (HX3.out w5 HB5.out).1 HG1.out
  go_upto_region 6 with (go_at_call 13; (with_reducible refine hG.mono ?_); rintro e w6 ⟨⟨gA, gc, rfl, hg⟩, hb6⟩; have HL6 := Lib.hid hg; have HB6 : Hid (Below w3.heap.size w3 w6) := Lib.hid (HB5.out.trans (hb6.mono HB5.out.size)); clear hb6 hg)
  obtain ⟨w7, hw7⟩ : ∃ w7, w7 = w6.alloc (.cells #[.int .i64 1, .int .i64 2, .int .i64 3, .int .i64 40, .int .i64 5] 35) := ⟨_, rfl⟩
  have hb7 : Below w6.heap.size w6 w7 := by rw [hw7]; exact below_new w6 _
  have c7 := C5.new w6 (.int .i64 1) (.int .i64 2) (.int .i64 3) (.int .i64 40) (.int .i64 5) 35
  rw [← hw7] at c7
  have hd7 : DdS w7 (.slice gA 2 gc) [lvD1, lvD2] := HL6.out.below hb7 (Nat.le_refl _)
  have HB7 : Hid (Below w3.heap.size w3 w7) := Lib.hid (HB6.out.trans (hb7.mono HB6.out.size))
  have HX7 : Hid (∀ V, Below w7.heap.size w7 V → Below w3.heap.size w3 V ∧ C5 V w6.heap.size (.int .i64 1) (.int .i64 2) (.int .i64 3) (.int .i64 40) (.int .i64 5) ∧ DdS V (.slice gA 2 gc) [lvD1, lvD2]) :=
    Lib.hid (fun V hb => ⟨HB7.out.trans (hb.mono HB7.out.size), c7.below hb, hd7.below hb (Nat.le_refl _)⟩)
  change Code.wp _ _ _ _ (w6.alloc (.cells #[.int .i64 1, .int .i64 2, .int .i64 3, .int .i64 40, .int .i64 5] 35))
  rw [← hw7]
  have hG2 : Calls Tryd.prog 13 #[.string ((⟨tx.toArray⟩ : ByteArray) ++ ⟨#[114, 101, 115, 105, 122, 101, 32, 48, 49, 10]⟩)] w7 fun e w' => (∃ A cap, e = .returned (.tuple #[.agg #[.int .i64 0, .int .i64 0, .int .i64 0, .int .i64 0, .int .i64 0], .slice A 0 cap, .int .i64 4, .int .i64 6]) ∧ DdS w' (.slice A 0 cap) []) ∧ Below w7.heap.size w7 w' := by
    have h := get_is (T := tx ++ lvR) (by rw [List.length_append, HTL.out, show lvR.length = 10 from rfl]; omega) (HX3.out w7 HB7.out).1 HG2.out
    rw [show ((⟨tx.toArray⟩ : ByteArray) ++ ⟨#[114, 101, 115, 105, 122, 101, 32, 48, 49, 10]⟩) = ⟨(tx ++ lvR).toArray⟩ from sapp tx lvR]
    exact h
  have z1 : ¬ 9223372036854775807 < tx.length + 10 := by rw [HTL.out]; omega
  clear hG hw7 hb7 c7 hd7 HL6
  go_upto_region 7 with (go_at_call 13; (with_reducible refine hG2.mono ?_); rintro e w8 ⟨⟨eA, ec, rfl, _⟩, hb8⟩; have HB8 : Hid (Below w7.heap.size w7 w8) := Lib.hid hb8; clear hb8)
  obtain ⟨w9, hw9⟩ : ∃ w9, w9 = w8.alloc (.cells #[.int .i64 0, .int .i64 0, .int .i64 0, .int .i64 0, .int .i64 0] 35) := ⟨_, rfl⟩
  have HB9 : Hid (Below w7.heap.size w7 w9) := Lib.hid (by rw [hw9]; exact HB8.out.alloc HB8.out.size _)
  change Code.wp _ _ _ _ (w8.alloc (.cells #[.int .i64 0, .int .i64 0, .int .i64 0, .int .i64 0, .int .i64 0] 35))
  rw [← hw9]
  clear hw9 hG2 z1
  have hP1 : Calls Tryd.prog 9 #[.string ⟨#[115, 110, 97, 112, 32, 45]⟩] w9 fun e w' => e = .returned (.tuple #[.agg #[.int .u8 6, .int .i64 0, .int .i64 0, .int .i64 0, .string ⟨#[]⟩], .int .i64 0]) ∧ Below w9.heap.size w9 w' := by
    have h := parseD_tup (l := [115, 110, 97, 112, 32, 45]) (by decide) (HX3.out w9 (HX7.out w9 HB9.out).1).1
    rw [lv_p4] at h
    exact h
  go_upto_region 8 with (go_at_call 9; (with_reducible refine hP1.mono ?_); rintro e w10 ⟨rfl, hb10⟩; have HB10 : Hid (Below w7.heap.size w7 w10) := Lib.hid (HB9.out.trans (hb10.mono HB9.out.size)); clear hb10)
  obtain ⟨w11, hw11⟩ : ∃ w11, w11 = w10.alloc (.cells #[.int .u8 6, .int .i64 0, .int .i64 0, .int .i64 0, .string ⟨#[]⟩] 24) := ⟨_, rfl⟩
  have HB11 : Hid (Below w7.heap.size w7 w11) := Lib.hid (by rw [hw11]; exact HB10.out.alloc HB10.out.size _)
  have c11 := C5.new w10 (.int .u8 6) (.int .i64 0) (.int .i64 0) (.int .i64 0) (.string ⟨#[]⟩) 24
  rw [← hw11] at c11
  have HX11 : Hid (∀ V, Below w11.heap.size w11 V → Below w7.heap.size w7 V ∧ C5 V w10.heap.size (.int .u8 6) (.int .i64 0) (.int .i64 0) (.int .i64 0) (.string ⟨#[]⟩)) :=
    Lib.hid (fun V hb => ⟨HB11.out.trans (hb.mono HB11.out.size), c11.below hb⟩)
  change Code.wp _ _ _ _ (w10.alloc (.cells #[.int .u8 6, .int .i64 0, .int .i64 0, .int .i64 0, .string ⟨#[]⟩] 24))
  rw [← hw11]
  clear hw11 c11 hP1
  have hP2 : Calls Tryd.prog 9 #[.string ⟨#[102, 108, 117, 115, 104, 32, 49]⟩] w11 fun e w' => e = .returned (.tuple #[.agg #[.int .u8 0, .int .i64 0, .int .i64 0, .int .i64 0, .string ⟨#[]⟩], .int .i64 6]) ∧ Below w11.heap.size w11 w' := by
    have h := parseD_tup (l := [102, 108, 117, 115, 104, 32, 49]) (by decide) (HX3.out w11 (HX7.out w11 HB11.out).1).1
    rw [lv_p5] at h
    exact h
  go_upto_region 9 with (go_at_call 9; (with_reducible refine hP2.mono ?_); rintro e w12 ⟨rfl, hb12⟩; have HB12 : Hid (Below w11.heap.size w11 w12) := Lib.hid hb12; clear hb12)
  obtain ⟨w13, hw13⟩ : ∃ w13, w13 = w12.alloc (.cells #[.int .u8 0, .int .i64 0, .int .i64 0, .int .i64 0, .string ⟨#[]⟩] 24) := ⟨_, rfl⟩
  have HB13 : Hid (Below w11.heap.size w11 w13) := Lib.hid (by rw [hw13]; exact HB12.out.alloc HB12.out.size _)
  change Code.wp _ _ _ _ (w12.alloc (.cells #[.int .u8 0, .int .i64 0, .int .i64 0, .int .i64 0, .string ⟨#[]⟩] 24))
  rw [← hw13]
  clear hw13 hP2
  have hLn : Calls Tryd.prog 7 #[.agg #[.int .u8 10, .int .i64 0, .int .i64 0, .int .i64 1, .string ⟨#[]⟩]] w13 fun e w' => e = .returned (.tuple #[.string ⟨#[]⟩, .int .i64 2]) ∧ Below w13.heap.size w13 w' := by
    have h := line_tup (d := ⟨10, 0, 0, 1, []⟩) ⟨by decide, by decide, i6z, i6z, by unfold I6; decide⟩ (HX3.out w13 (HX7.out w13 (HX11.out w13 HB13.out).1).1).1
    rw [lv_p6] at h
    exact h
  go_upto_region 10 with (go_at_call 7; (with_reducible refine hLn.mono ?_); rintro e w14 ⟨rfl, hb14⟩; have HB14 : Hid (Below w11.heap.size w11 w14) := Lib.hid (HB13.out.trans (hb14.mono HB13.out.size)); clear hb14)
  clear hLn
  have hG3 : Calls Tryd.prog 13 #[.string ⟨#[]⟩] w14 fun e w' => (∃ A cap, e = .returned (.tuple #[.agg #[.int .i64 0, .int .i64 0, .int .i64 0, .int .i64 0, .int .i64 0], .slice A 0 cap, .int .i64 1, .int .i64 6]) ∧ DdS w' (.slice A 0 cap) []) ∧ Below w14.heap.size w14 w' :=
    get_is (T := []) (by decide) (HX3.out w14 (HX7.out w14 (HX11.out w14 HB14.out).1).1).1 lv_get0
  go_upto_region 11 with (go_at_call 13; (with_reducible refine hG3.mono ?_); rintro e w15 ⟨⟨fA, fc, rfl, _⟩, hb15⟩; have HB15 : Hid (Below w11.heap.size w11 w15) := Lib.hid (HB14.out.trans (hb15.mono HB14.out.size)); clear hb15)
  obtain ⟨w16, hw16⟩ : ∃ w16, w16 = w15.alloc (.cells #[.int .i64 0, .int .i64 0, .int .i64 0, .int .i64 0, .int .i64 0] 35) := ⟨_, rfl⟩
  have HB16 : Hid (Below w11.heap.size w11 w16) := Lib.hid (by rw [hw16]; exact HB15.out.alloc HB15.out.size _)
  change Code.wp _ _ _ _ (w15.alloc (.cells #[.int .i64 0, .int .i64 0, .int .i64 0, .int .i64 0, .int .i64 0] 35))
  rw [← hw16]
  clear hw16 hG3
  have ke : (tx == [105, 109, 97, 103, 101, 32, 49, 32, 50, 32, 51, 32, 52, 48, 32, 53, 10, 119, 114, 105, 116, 101, 32, 55, 32, 54, 56, 54, 57, 10, 103, 97, 114, 98, 108, 101, 32, 49, 32, 50, 32, 51, 10]) = true := by rw [HTX.out]; rfl
  have hb17 := below_new w16 (.cells #[.int .u8 2, .int .i64 7, .int .i64 0, .int .i64 0, .string ⟨#[104, 105]⟩, .int .u8 14, .int .i64 2, .int .i64 3, .int .i64 1, .string ⟨#[]⟩] 24)
  have HB17 := Lib.hid (HB16.out.trans (hb17.mono HB16.out.size))
  have hd17 : DdS (w16.alloc (.cells #[.int .u8 2, .int .i64 7, .int .i64 0, .int .i64 0, .string ⟨#[104, 105]⟩, .int .u8 14, .int .i64 2, .int .i64 3, .int .i64 1, .string ⟨#[]⟩] 24)) (.slice (some ⟨w16.heap.size, 0, none⟩) 2 2) [lvD1, lvD2] := dd_laid w16 [lvD1, lvD2] [.int .u8 2, .int .i64 7, .int .i64 0, .int .i64 0, .string ⟨#[104, 105]⟩, .int .u8 14, .int .i64 2, .int .i64 3, .int .i64 1, .string ⟨#[]⟩] 24 rfl (by unfold maxLen; decide)
  have hSM := sameD_self (HX7.out _ (HX11.out _ HB17.out).1).2.2 hd17
  obtain ⟨_, ⟨x0, x1, x2, x3, x4⟩, ⟨y0, y1, y2, y3, y4⟩, ⟨z0, z1, z2, z3, z4⟩⟩ := HX3.out w16 (HX7.out w16 (HX11.out w16 HB16.out).1).1
  obtain ⟨_, ⟨k0, k1, k2, k3, k4⟩, _⟩ := HX7.out w16 (HX11.out w16 HB16.out).1
  clear hb17 hd17
  go_wp2_with (go_at_call 15; (with_reducible refine hSM.mono ?_); rintro e w18 ⟨rfl, hb⟩; have HB18 : Hid (Below w11.heap.size w11 w18) := Lib.hid (HB17.out.trans (hb.mono HB17.out.size)); obtain ⟨_, l0, l1, l2, l3, l4⟩ := HX11.out w18 HB18.out; clear hb)
  go_ret
  exact ⟨rfl, HB3.out.trans ((HX7.out _ (HX11.out _ HB18.out).1).1.mono HB3.out.size)⟩
end Go.Proofs.YtfmpbohiahjafaaDoor
