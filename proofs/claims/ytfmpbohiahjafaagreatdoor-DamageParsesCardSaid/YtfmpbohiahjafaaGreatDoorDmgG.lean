/- Reports of damage: the document's lines, and its Text. -/
import Derived.Test.YtfmpbohiahjafaaGreatDoorDmgF
import Derived.Test.YtfmpbohiahjafaaGreatDoorOwnB
import Derived.Lib.AppendStr
namespace Go.Proofs.YtfmpbohiahjafaaGreatDoor
open Go.RowKit Go.Lib

theorem bsz (l : List UInt8) : (⟨l.toArray⟩ : ByteArray).size = l.length := by show l.toArray.size = _; simp
theorem wLn_cat (x : WD) : (⟨(kW x.k).toArray⟩ : ByteArray) ++ (((((⟨#[32]⟩ : ByteArray) ++ (⟨(itoa x.id).toArray⟩ : ByteArray) ++ (⟨#[32]⟩ : ByteArray)) ++ (⟨(itoa x.ix).toArray⟩ : ByteArray)) ++ (⟨#[32]⟩ : ByteArray)) ++ (⟨(itoa x.pl).toArray⟩ : ByteArray)) ++ (⟨(32 :: hW x.hl).toArray⟩ : ByteArray) = ⟨(wLn x).toArray⟩ := by
  have e : (⟨#[32]⟩ : ByteArray) = ⟨([32] : List UInt8).toArray⟩ := rfl
  rw [e, sapp, sapp, sapp, sapp, sapp, sapp, sapp]
  unfold wLn wWords
  rw [jn_cons, jn_cons, jn_cons, jn_cons, jn_one]
  simp
theorem lLn_cat (x : LO) : (((((⟨#[108, 111, 115, 116, 32]⟩ : ByteArray) ++ (⟨(cW x.c).toArray⟩ : ByteArray)) ++ (⟨#[32]⟩ : ByteArray)) ++ (⟨(itoa x.f).toArray⟩ : ByteArray)) ++ (⟨#[32]⟩ : ByteArray)) ++ (⟨(itoa x.t).toArray⟩ : ByteArray) = ⟨(lLn x).toArray⟩ := by
  have e : (⟨#[32]⟩ : ByteArray) = ⟨([32] : List UInt8).toArray⟩ := rfl
  have e2 : (⟨#[108, 111, 115, 116, 32]⟩ : ByteArray) = ⟨(lostW ++ [32] : List UInt8).toArray⟩ := rfl
  rw [e, e2, sapp, sapp, sapp, sapp, sapp]
  unfold lLn lWords
  rw [jn_cons, jn_cons, jn_cons, jn_one]
  simp
theorem wLn_len {x : WD} (h : wdOk x = true) : (wLn x).length ≤ 50 := by
  have h3 := wdOk_iff.1 h
  have a := ito_short (nmOk_iff.2 h3.2.1)
  have b := ito_short (nmOk_iff.2 h3.2.2.1)
  have c := ito_short (nmOk_iff.2 h3.2.2.2.1)
  have d : (kW x.k).length ≤ 6 := by unfold kW; split; decide; split <;> decide
  have e : (hW x.hl).length ≤ 6 := by cases x.hl <;> decide
  unfold wLn wWords
  rw [jn_cons, jn_cons, jn_cons, jn_cons, jn_one]
  simp only [List.length_append, List.length_cons]
  omega
theorem lLn_len {x : LO} (h : loOk x = true) : (lLn x).length ≤ 50 := by
  have h3 := loOk_iff.1 h
  have a := ito_short (nmOk_iff.2 ⟨h3.2.2.1, by omega⟩)
  have b := ito_short (n := x.t) (nmOk_iff.2 ⟨by omega, by omega⟩)
  have c : (cW x.c).length ≤ 10 := by
    unfold cW
    split
    · decide
    · exact ito_short (nmOk_iff.2 ⟨by omega, h3.2.1⟩)
  have d : lostW.length = 4 := rfl
  unfold lLn lWords
  rw [jn_cons, jn_cons, jn_cons, jn_one]
  simp only [List.length_append, List.length_cons]
  omega
theorem refNumI_any {n : Int} (h : nmOk n = true) (w : World) : Calls Tryz.prog 46 #[.int .i64 n] w fun e w' => e = .returned (Bs (itoa n)) ∧ Below w.heap.size w w' := by
  rw [nmOk_iff] at h
  obtain ⟨u, rfl⟩ : ∃ u : Nat, n = (u : Int) := ⟨n.toNat, by omega⟩
  have := refNum_any u (by omega) w
  rw [ito_dec h.1]
  exact this
set_option maxHeartbeats 8000000 in
set_option maxRecDepth 100000 in
theorem refWoundLine_any {x : WD} (hx : wdOk x = true) (w : World) : Calls Tryz.prog 25 #[.agg x.enc.toArray] w fun e w' => e = .returned (Bs (wLn x)) ∧ Below w.heap.size w w' := by
  have HV := Lib.hid (wLn_cat x)
  have h3 := wdOk_iff.1 hx
  have n1 := nmOk_iff.2 h3.2.1
  have n2 := nmOk_iff.2 h3.2.2.1
  have n3 := nmOk_iff.2 h3.2.2.2.1
  have a1 := ito_short n1
  have a2 := ito_short n2
  have a3 := ito_short n3
  have c1 := refNumI_any n1
  have c2 := refNumI_any n2
  have c3 := refNumI_any n3
  have hk := h3.1
  clear hx h3 n1 n2 n3
  obtain ⟨k, id, ix, pl, hl⟩ := x
  unfold WD.enc
  dsimp only at HV a1 a2 a3 c1 c2 c3 hk ⊢
  generalize wLn ⟨k, id, ix, pl, hl⟩ = ln at HV ⊢
  generalize itoa id = s1 at HV a1 c1
  generalize itoa ix = s2 at HV a2 c2
  generalize itoa pl = s3 at HV a3 c3
  have HX : Hid (∀ V, Below (w.heap.size + 1) (w.alloc (.cells #[.int .u8 k, .int .i64 id, .int .i64 ix, .int .i64 pl, .bool hl] 42)) V → V.cell? ⟨w.heap.size, 1, none⟩ = some (.int .i64 id) ∧ V.cell? ⟨w.heap.size, 2, none⟩ = some (.int .i64 ix) ∧ V.cell? ⟨w.heap.size, 3, none⟩ = some (.int .i64 pl) ∧ V.cell? ⟨w.heap.size, 4, none⟩ = some (.bool hl)) := Lib.hid (fun V hb => by
    obtain ⟨_, y1, y2, y3, y4⟩ := new5 w (.int .u8 k) (.int .i64 id) (.int .i64 ix) (.int .i64 pl) (.bool hl) 42
    exact ⟨(hb.cell (p := ⟨w.heap.size, 1, none⟩) (by show w.heap.size < _; omega)).trans y1, (hb.cell (p := ⟨w.heap.size, 2, none⟩) (by show w.heap.size < _; omega)).trans y2, (hb.cell (p := ⟨w.heap.size, 3, none⟩) (by show w.heap.size < _; omega)).trans y3, (hb.cell (p := ⟨w.heap.size, 4, none⟩) (by show w.heap.size < _; omega)).trans y4⟩)
  have hy0 := (new5 w (.int .u8 k) (.int .i64 id) (.int .i64 ix) (.int .i64 pl) (.bool hl) 42).1
  have HB0 := Lib.hid (below_new w (.cells #[.int .u8 k, .int .i64 id, .int .i64 ix, .int .i64 pl, .bool hl] 42))
  have HSZ : Hid (w.heap.size + 1 = (w.alloc (.cells #[.int .u8 k, .int .i64 id, .int .i64 ix, .int .i64 pl, .bool hl] 42)).heap.size) := Lib.hid (by simp)
  have z1 : ¬ 9223372036854775807 < 1 + s1.length := by omega
  have z2 : ¬ 9223372036854775807 < 1 + s1.length + 1 := by omega
  have z3 : ¬ 9223372036854775807 < 1 + s1.length + 1 + s2.length := by omega
  have z4 : ¬ 9223372036854775807 < 1 + s1.length + 1 + s2.length + 1 := by omega
  have z5 : ¬ 9223372036854775807 < 1 + s1.length + 1 + s2.length + 1 + s3.length := by omega
  have hk3 : k = 1 ∨ k = 2 ∨ k = 3 := by omega
  clear hk
  rcases hk3 with rfl | rfl | rfl
  · have z6 : ¬ 9223372036854775807 < 4 + (1 + s1.length + 1 + s2.length + 1 + s3.length) := by omega
    have z7 : ¬ 9223372036854775807 < 4 + (1 + s1.length + 1 + s2.length + 1 + s3.length) + 5 := by omega
    have z8 : ¬ 9223372036854775807 < 4 + (1 + s1.length + 1 + s2.length + 1 + s3.length) + 7 := by omega
    clear a1 a2 a3
    go_enter Tryz.func25, Tryz.ntmps25
    go_upto_region 1 with fail
    generalize w.alloc (.cells #[.int .u8 1, .int .i64 id, .int .i64 ix, .int .i64 pl, .bool hl] 42) = w0 at HX HB0 HSZ hy0 ⊢
    rw [HSZ.out] at HX
    have HD0 : Hid (Below w0.heap.size w0 w0.drew) := Lib.hid (Below.refl _ _).drew
    go_upto_region 6 with fail
    go_region_held3 (fun V => V.cell? ⟨w.heap.size, 1, none⟩ = some (.int .i64 id) ∧ V.cell? ⟨w.heap.size, 2, none⟩ = some (.int .i64 ix) ∧ V.cell? ⟨w.heap.size, 3, none⟩ = some (.int .i64 pl) ∧ V.cell? ⟨w.heap.size, 4, none⟩ = some (.bool hl)) (first | with_reducible exact HX.out _ HD0.out | with_reducible exact HX.out _ H1.out | with_reducible exact HX.out _ H2.out | with_reducible exact HX.out _ H3.out)
      (first
      | (go_at_call 46; (with_reducible refine (c1 _).mono ?_); rintro e wa ⟨rfl, hb⟩; have H1 : Hid (Below w0.heap.size w0 wa) := Lib.hid (by first | exact hb | exact HD0.out.trans (hb.mono HD0.out.size) | exact H2.out.trans (hb.mono H2.out.size) | exact H3.out.trans (hb.mono H3.out.size)); clear hb; obtain ⟨q11, q12, q13, q14⟩ := HX.out _ H1.out)
      | (go_at_call 46; (with_reducible refine (c2 _).mono ?_); rintro e wb ⟨rfl, hb⟩; have H2 : Hid (Below w0.heap.size w0 wb) := Lib.hid (by first | exact hb | exact HD0.out.trans (hb.mono HD0.out.size) | exact H1.out.trans (hb.mono H1.out.size) | exact H3.out.trans (hb.mono H3.out.size)); clear hb; obtain ⟨q21, q22, q23, q24⟩ := HX.out _ H2.out)
      | (go_at_call 46; (with_reducible refine (c3 _).mono ?_); rintro e wc ⟨rfl, hb⟩; have H3 : Hid (Below w0.heap.size w0 wc) := Lib.hid (by first | exact hb | exact HD0.out.trans (hb.mono HD0.out.size) | exact H1.out.trans (hb.mono H1.out.size) | exact H2.out.trans (hb.mono H2.out.size)); clear hb; obtain ⟨q31, q32, q33, q34⟩ := HX.out _ H3.out))
    all_goals cases hl
    all_goals go_wp2
    all_goals go_ret
    all_goals first
      | exact ⟨ret_str HV.out, HB0.out.trans (H3.out.mono HB0.out.size)⟩
      | exact ⟨ret_str HV.out, HB0.out.trans (H2.out.mono HB0.out.size)⟩
      | exact ⟨ret_str HV.out, HB0.out.trans (H1.out.mono HB0.out.size)⟩
  · have z6 : ¬ 9223372036854775807 < 4 + (1 + s1.length + 1 + s2.length + 1 + s3.length) := by omega
    have z7 : ¬ 9223372036854775807 < 4 + (1 + s1.length + 1 + s2.length + 1 + s3.length) + 5 := by omega
    have z8 : ¬ 9223372036854775807 < 4 + (1 + s1.length + 1 + s2.length + 1 + s3.length) + 7 := by omega
    clear a1 a2 a3
    go_enter Tryz.func25, Tryz.ntmps25
    go_upto_region 1 with fail
    generalize w.alloc (.cells #[.int .u8 2, .int .i64 id, .int .i64 ix, .int .i64 pl, .bool hl] 42) = w0 at HX HB0 HSZ hy0 ⊢
    rw [HSZ.out] at HX
    have HD0 : Hid (Below w0.heap.size w0 w0.drew) := Lib.hid (Below.refl _ _).drew
    go_upto_region 6 with fail
    go_region_held3 (fun V => V.cell? ⟨w.heap.size, 1, none⟩ = some (.int .i64 id) ∧ V.cell? ⟨w.heap.size, 2, none⟩ = some (.int .i64 ix) ∧ V.cell? ⟨w.heap.size, 3, none⟩ = some (.int .i64 pl) ∧ V.cell? ⟨w.heap.size, 4, none⟩ = some (.bool hl)) (first | with_reducible exact HX.out _ HD0.out | with_reducible exact HX.out _ H1.out | with_reducible exact HX.out _ H2.out | with_reducible exact HX.out _ H3.out)
      (first
      | (go_at_call 46; (with_reducible refine (c1 _).mono ?_); rintro e wa ⟨rfl, hb⟩; have H1 : Hid (Below w0.heap.size w0 wa) := Lib.hid (by first | exact hb | exact HD0.out.trans (hb.mono HD0.out.size) | exact H2.out.trans (hb.mono H2.out.size) | exact H3.out.trans (hb.mono H3.out.size)); clear hb; obtain ⟨q11, q12, q13, q14⟩ := HX.out _ H1.out)
      | (go_at_call 46; (with_reducible refine (c2 _).mono ?_); rintro e wb ⟨rfl, hb⟩; have H2 : Hid (Below w0.heap.size w0 wb) := Lib.hid (by first | exact hb | exact HD0.out.trans (hb.mono HD0.out.size) | exact H1.out.trans (hb.mono H1.out.size) | exact H3.out.trans (hb.mono H3.out.size)); clear hb; obtain ⟨q21, q22, q23, q24⟩ := HX.out _ H2.out)
      | (go_at_call 46; (with_reducible refine (c3 _).mono ?_); rintro e wc ⟨rfl, hb⟩; have H3 : Hid (Below w0.heap.size w0 wc) := Lib.hid (by first | exact hb | exact HD0.out.trans (hb.mono HD0.out.size) | exact H1.out.trans (hb.mono H1.out.size) | exact H2.out.trans (hb.mono H2.out.size)); clear hb; obtain ⟨q31, q32, q33, q34⟩ := HX.out _ H3.out))
    all_goals cases hl
    all_goals go_wp2
    all_goals go_ret
    all_goals first
      | exact ⟨ret_str HV.out, HB0.out.trans (H3.out.mono HB0.out.size)⟩
      | exact ⟨ret_str HV.out, HB0.out.trans (H2.out.mono HB0.out.size)⟩
      | exact ⟨ret_str HV.out, HB0.out.trans (H1.out.mono HB0.out.size)⟩
  · have z6 : ¬ 9223372036854775807 < 6 + (1 + s1.length + 1 + s2.length + 1 + s3.length) := by omega
    have z7 : ¬ 9223372036854775807 < 6 + (1 + s1.length + 1 + s2.length + 1 + s3.length) + 5 := by omega
    have z8 : ¬ 9223372036854775807 < 6 + (1 + s1.length + 1 + s2.length + 1 + s3.length) + 7 := by omega
    clear a1 a2 a3
    go_enter Tryz.func25, Tryz.ntmps25
    go_upto_region 1 with fail
    generalize w.alloc (.cells #[.int .u8 3, .int .i64 id, .int .i64 ix, .int .i64 pl, .bool hl] 42) = w0 at HX HB0 HSZ hy0 ⊢
    rw [HSZ.out] at HX
    have HD0 : Hid (Below w0.heap.size w0 w0.drew) := Lib.hid (Below.refl _ _).drew
    go_upto_region 6 with fail
    go_region_held3 (fun V => V.cell? ⟨w.heap.size, 1, none⟩ = some (.int .i64 id) ∧ V.cell? ⟨w.heap.size, 2, none⟩ = some (.int .i64 ix) ∧ V.cell? ⟨w.heap.size, 3, none⟩ = some (.int .i64 pl) ∧ V.cell? ⟨w.heap.size, 4, none⟩ = some (.bool hl)) (first | with_reducible exact HX.out _ HD0.out | with_reducible exact HX.out _ H1.out | with_reducible exact HX.out _ H2.out | with_reducible exact HX.out _ H3.out)
      (first
      | (go_at_call 46; (with_reducible refine (c1 _).mono ?_); rintro e wa ⟨rfl, hb⟩; have H1 : Hid (Below w0.heap.size w0 wa) := Lib.hid (by first | exact hb | exact HD0.out.trans (hb.mono HD0.out.size) | exact H2.out.trans (hb.mono H2.out.size) | exact H3.out.trans (hb.mono H3.out.size)); clear hb; obtain ⟨q11, q12, q13, q14⟩ := HX.out _ H1.out)
      | (go_at_call 46; (with_reducible refine (c2 _).mono ?_); rintro e wb ⟨rfl, hb⟩; have H2 : Hid (Below w0.heap.size w0 wb) := Lib.hid (by first | exact hb | exact HD0.out.trans (hb.mono HD0.out.size) | exact H1.out.trans (hb.mono H1.out.size) | exact H3.out.trans (hb.mono H3.out.size)); clear hb; obtain ⟨q21, q22, q23, q24⟩ := HX.out _ H2.out)
      | (go_at_call 46; (with_reducible refine (c3 _).mono ?_); rintro e wc ⟨rfl, hb⟩; have H3 : Hid (Below w0.heap.size w0 wc) := Lib.hid (by first | exact hb | exact HD0.out.trans (hb.mono HD0.out.size) | exact H1.out.trans (hb.mono H1.out.size) | exact H2.out.trans (hb.mono H2.out.size)); clear hb; obtain ⟨q31, q32, q33, q34⟩ := HX.out _ H3.out))
    all_goals cases hl
    all_goals go_wp2
    all_goals go_ret
    all_goals first
      | exact ⟨ret_str HV.out, HB0.out.trans (H3.out.mono HB0.out.size)⟩
      | exact ⟨ret_str HV.out, HB0.out.trans (H2.out.mono HB0.out.size)⟩
      | exact ⟨ret_str HV.out, HB0.out.trans (H1.out.mono HB0.out.size)⟩
set_option maxHeartbeats 8000000 in
set_option maxRecDepth 100000 in
theorem refLostLine_any {x : LO} (hx : loOk x = true) (w : World) : Calls Tryz.prog 26 #[.agg x.enc.toArray] w fun e w' => e = .returned (Bs (lLn x)) ∧ Below w.heap.size w w' := by
  have HV := Lib.hid (lLn_cat x)
  have h3 := loOk_iff.1 hx
  have n2 := nmOk_iff.2 (⟨h3.2.2.1, by omega⟩ : 0 ≤ x.f ∧ x.f ≤ 2147483648)
  have n3 := nmOk_iff.2 (⟨by omega, by omega⟩ : 0 ≤ x.t ∧ x.t ≤ 2147483648)
  have a2 := ito_short n2
  have a3 := ito_short n3
  have c2 := refNumI_any n2
  have c3 := refNumI_any n3
  have hc1 := h3.1
  have hc2 := h3.2.1
  clear hx h3 n2 n3
  obtain ⟨c, f, t⟩ := x
  unfold LO.enc
  dsimp only at HV a2 a3 c2 c3 hc1 hc2 ⊢
  generalize lLn ⟨c, f, t⟩ = ln at HV ⊢
  generalize itoa f = s2 at HV a2 c2
  generalize itoa t = s3 at HV a3 c3
  have HX : Hid (∀ V, Below (w.heap.size + 1) (w.alloc (.cells #[.int .i64 c, .int .i64 f, .int .i64 t] 46)) V → V.cell? ⟨w.heap.size, 1, none⟩ = some (.int .i64 f) ∧ V.cell? ⟨w.heap.size, 2, none⟩ = some (.int .i64 t)) := Lib.hid (fun V hb => by
    obtain ⟨_, y1, y2⟩ := new3 w (.int .i64 c) (.int .i64 f) (.int .i64 t) 46
    exact ⟨(hb.cell (p := ⟨w.heap.size, 1, none⟩) (by show w.heap.size < _; omega)).trans y1, (hb.cell (p := ⟨w.heap.size, 2, none⟩) (by show w.heap.size < _; omega)).trans y2⟩)
  have hy0 := (new3 w (.int .i64 c) (.int .i64 f) (.int .i64 t) 46).1
  have HB0 := Lib.hid (below_new w (.cells #[.int .i64 c, .int .i64 f, .int .i64 t] 46))
  have HSZ : Hid (w.heap.size + 1 = (w.alloc (.cells #[.int .i64 c, .int .i64 f, .int .i64 t] 46)).heap.size) := Lib.hid (by simp)
  by_cases hc : c = -1
  · subst hc
    have z1 : ¬ 9223372036854775807 < 8 + 1 + s2.length := by omega
    have z2 : ¬ 9223372036854775807 < 9 + s2.length := by omega
    have z3 : ¬ 9223372036854775807 < 9 + s2.length + 1 := by omega
    have z4 : ¬ 9223372036854775807 < 9 + s2.length + 1 + s3.length := by omega
    clear a2 a3 hc1 hc2
    go_enter Tryz.func26, Tryz.ntmps26
    go_upto_region 1 with fail
    generalize w.alloc (.cells #[.int .i64 (-1), .int .i64 f, .int .i64 t] 46) = w0 at HX HB0 HSZ hy0 ⊢
    rw [HSZ.out] at HX
    have HD0 : Hid (Below w0.heap.size w0 w0.drew) := Lib.hid (Below.refl _ _).drew
    go_upto_region 4 with fail
    go_region_held3 (fun V => V.cell? ⟨w.heap.size, 1, none⟩ = some (.int .i64 f) ∧ V.cell? ⟨w.heap.size, 2, none⟩ = some (.int .i64 t)) (first | with_reducible exact HX.out _ HD0.out | with_reducible exact HX.out _ H2.out | with_reducible exact HX.out _ H3.out)
      (first
      | (go_at_call 46; (with_reducible refine (c2 _).mono ?_); rintro e wb ⟨rfl, hb⟩; have H2 : Hid (Below w0.heap.size w0 wb) := Lib.hid (by first | exact hb | exact HD0.out.trans (hb.mono HD0.out.size) | exact H3.out.trans (hb.mono H3.out.size)); clear hb; obtain ⟨q21, q22⟩ := HX.out _ H2.out)
      | (go_at_call 46; (with_reducible refine (c3 _).mono ?_); rintro e wc ⟨rfl, hb⟩; have H3 : Hid (Below w0.heap.size w0 wc) := Lib.hid (by first | exact hb | exact HD0.out.trans (hb.mono HD0.out.size) | exact H2.out.trans (hb.mono H2.out.size)); clear hb; obtain ⟨q31, q32⟩ := HX.out _ H3.out))
    all_goals go_wp2
    all_goals go_ret
    all_goals first
      | exact ⟨ret_str HV.out, HB0.out.trans (H3.out.mono HB0.out.size)⟩
      | exact ⟨ret_str HV.out, HB0.out.trans (H2.out.mono HB0.out.size)⟩
  · have n1 := nmOk_iff.2 (⟨by omega, hc2⟩ : 0 ≤ c ∧ c ≤ 2147483648)
    have a1 := ito_short n1
    have c1 := refNumI_any n1
    have ecw : cW c = itoa c := if_neg hc
    rw [ecw] at HV
    generalize itoa c = s1 at HV a1 c1
    have d0 : decide (0 ≤ c) = true := decide_eq_true (by omega)
    have z1 : ¬ 9223372036854775807 < 5 + s1.length := by omega
    have z2 : ¬ 9223372036854775807 < 5 + s1.length + 1 := by omega
    have z3 : ¬ 9223372036854775807 < 5 + s1.length + 1 + s2.length := by omega
    have z4 : ¬ 9223372036854775807 < 5 + s1.length + 1 + s2.length + 1 := by omega
    have z5 : ¬ 9223372036854775807 < 5 + s1.length + 1 + s2.length + 1 + s3.length := by omega
    clear a1 a2 a3 hc1 hc2 n1 ecw hc
    go_enter Tryz.func26, Tryz.ntmps26
    go_upto_region 1 with fail
    generalize w.alloc (.cells #[.int .i64 c, .int .i64 f, .int .i64 t] 46) = w0 at HX HB0 HSZ hy0 ⊢
    rw [HSZ.out] at HX
    go_upto_region 4 with (go_at_call 46; (with_reducible refine (c1 _).mono ?_); rintro e w1 ⟨rfl, hb1⟩; have H1 := Lib.hid hb1; clear hb1)
    have HD0 : Hid (Below w0.heap.size w0 w1.drew) := Lib.hid H1.out.drew
    go_region_held3 (fun V => V.cell? ⟨w.heap.size, 1, none⟩ = some (.int .i64 f) ∧ V.cell? ⟨w.heap.size, 2, none⟩ = some (.int .i64 t)) (first | with_reducible exact HX.out _ HD0.out | with_reducible exact HX.out _ H2.out | with_reducible exact HX.out _ H3.out)
      (first
      | (go_at_call 46; (with_reducible refine (c2 _).mono ?_); rintro e wb ⟨rfl, hb⟩; have H2 : Hid (Below w0.heap.size w0 wb) := Lib.hid (by first | exact hb | exact HD0.out.trans (hb.mono HD0.out.size) | exact H3.out.trans (hb.mono H3.out.size)); clear hb; obtain ⟨q21, q22⟩ := HX.out _ H2.out)
      | (go_at_call 46; (with_reducible refine (c3 _).mono ?_); rintro e wc ⟨rfl, hb⟩; have H3 : Hid (Below w0.heap.size w0 wc) := Lib.hid (by first | exact hb | exact HD0.out.trans (hb.mono HD0.out.size) | exact H2.out.trans (hb.mono H2.out.size)); clear hb; obtain ⟨q31, q32⟩ := HX.out _ H3.out))
    all_goals go_wp2
    all_goals go_ret
    all_goals first
      | exact ⟨ret_str HV.out, HB0.out.trans (H3.out.mono HB0.out.size)⟩
      | exact ⟨ret_str HV.out, HB0.out.trans (H2.out.mono HB0.out.size)⟩
end Go.Proofs.YtfmpbohiahjafaaGreatDoor
