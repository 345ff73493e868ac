/- Reports of damage: the program's lines, and its Text. -/
import Derived.Test.YtfmpbohiahjafaaGreatDoorDmgH
import Derived.Test.YtfmpbohiahjafaaGreatDoorBld
import Derived.Test.YtfmpbohiahjafaaGreatDoorShelfD
namespace Go.Proofs.YtfmpbohiahjafaaGreatDoor
open Go.RowKit Go.Lib Go.Shelf Go.Sort

theorem grow_below {w : World} {q : Nat} {os : Array Obj} : Below w.heap.size w (grow (w.drewN q) os) :=
  ⟨rfl, rfl, rfl, by show w.heap.size ≤ (w.heap ++ os).size; simp, fun i hi => by show (w.heap ++ os)[i]? = _; rw [Array.getElem?_append_left hi]⟩
theorem itoaD_any {n : Int} (h : nmOk n = true) {w : World} (hD : DmW w) : Calls Tryz.prog 45 #[.int .i64 n] w fun e w' => e = .returned (Bs (itoa n)) ∧ Below w.heap.size w w' := by
  rw [nmOk_iff] at h
  have hI := Any.strconv_Itoa Tryz.lays171 n (by omega) (by omega) w hD.tab
  change Calls Tryz.prog 45 _ _ _ at hI
  refine hI.mono ?_
  intro e w' hh
  obtain ⟨he, k, os, hw⟩ := hh
  rw [hw]
  exact ⟨he, grow_below⟩
theorem jn_join (L : List (List UInt8)) : Lib.join L [32] = jn 32 L := rfl
theorem line_any {L : List (List UInt8)} {w : World} {b n c : Nat} (hn : n = L.length) (hb : b < w.heap.size) (hN : L.length ≤ 1000) (hc : L.length ≤ c) (hl : (jn 32 L).length ≤ 1000) (hcell : ∀ j, j < L.length → w.cell? ⟨b, j, none⟩ = some (Bs (L.getD j []))) :
    Calls Tryz.prog 44 #[.slice (some ⟨b, 0, none⟩) n c] w fun e w' => e = .returned (Bs (jn 32 L ++ [10])) ∧ Below w.heap.size w w' := by
  subst hn
  obtain ⟨xs, hxs⟩ : ∃ xs : List ByteArray, xs = L.map fun l => ⟨l.toArray⟩ := ⟨_, rfl⟩
  have hx1 : xs.length = L.length := by rw [hxs, List.length_map]
  have hx2 : xs.map (·.data.toList) = L := by rw [hxs, List.map_map]; exact List.map_id _
  have hJ := Any.strings_Join Tryz.lays156 Tryz.Builder_Extra_156 b 0 c xs ⟨#[32]⟩ w (fun j x hx => by
    rw [hxs, List.getElem?_map] at hx
    obtain ⟨l, hl, rfl⟩ := Option.map_eq_some_iff.1 hx
    have hlt := (List.getElem?_eq_some_iff.1 hl).1
    have := hcell j hlt
    rw [List.getD, hl] at this
    rw [Nat.zero_add]; exact this) hb (by omega) (by omega) (by rw [hx2]; show (Lib.join L [32]).length ≤ _; rw [jn_join]; omega)
  rw [hx1, hx2] at hJ
  change Calls Tryz.prog 64 #[.slice (some ⟨b, 0, none⟩) L.length c, .string ⟨#[32]⟩] w (fun e w' => e = .returned (Bs (jn 32 L)) ∧ Below w.heap.size w w') at hJ
  have HV : Hid ((⟨(jn 32 L).toArray⟩ : ByteArray) ++ (⟨#[10]⟩ : ByteArray) = ⟨(jn 32 L ++ [10]).toArray⟩) := Lib.hid (sapp _ [10])
  generalize jn 32 L = t at hJ hl HV ⊢
  have z1 : ¬ 9223372036854775807 < t.length + 1 := by omega
  clear hcell hxs hx1 hx2 hl hN hc
  go_enter Tryz.func44, Tryz.ntmps44
  go_wp2_with (go_at_call 64; (with_reducible refine hJ.mono ?_); rintro e w2 ⟨rfl, hb2⟩; have HB2 := Lib.hid hb2; clear hb2)
  go_ret
  exact ⟨ret_str HV.out, HB2.out⟩
/-- The words of a line, just laid. -/
theorem lineW_any {x : WD} (hx : wdOk x = true) (W : World) (t : TypeId) : Calls Tryz.prog 44 #[.slice (some ⟨W.heap.size, 0, none⟩) 5 5] (W.alloc (.cells #[Bs (kW x.k), Bs (itoa x.id), Bs (itoa x.ix), Bs (itoa x.pl), Bs (hW x.hl)] t)) fun e w' => e = .returned (Bs (wLn x ++ [10])) ∧ Below (W.alloc (.cells #[Bs (kW x.k), Bs (itoa x.id), Bs (itoa x.ix), Bs (itoa x.pl), Bs (hW x.hl)] t)).heap.size (W.alloc (.cells #[Bs (kW x.k), Bs (itoa x.id), Bs (itoa x.ix), Bs (itoa x.pl), Bs (hW x.hl)] t)) w' := by
  obtain ⟨y0, y1, y2, y3, y4⟩ := new5 W (Bs (kW x.k)) (Bs (itoa x.id)) (Bs (itoa x.ix)) (Bs (itoa x.pl)) (Bs (hW x.hl)) t
  refine line_any (L := wWords x) rfl (by simp) (Nat.le_of_ble_eq_true rfl) (Nat.le_refl 5) (by have := wLn_len hx; unfold wLn at this; omega) (fun j hj => ?_)
  match j, hj with
  | 0, _ => exact y0
  | 1, _ => exact y1
  | 2, _ => exact y2
  | 3, _ => exact y3
  | 4, _ => exact y4
theorem new4 (w : World) (a b c d : Value) (t : TypeId) : (w.alloc (.cells #[a, b, c, d] t)).cell? ⟨w.heap.size, 0, none⟩ = some a ∧ (w.alloc (.cells #[a, b, c, d] t)).cell? ⟨w.heap.size, 1, none⟩ = some b ∧ (w.alloc (.cells #[a, b, c, d] t)).cell? ⟨w.heap.size, 2, none⟩ = some c ∧ (w.alloc (.cells #[a, b, c, d] t)).cell? ⟨w.heap.size, 3, none⟩ = some d := by
  have g := heap_alloc_new w (.cells #[a, b, c, d] t)
  refine ⟨?_, ?_, ?_, ?_⟩ <;> (rw [cell_of_row _ _ _ _ _ (0, 0) g]; rfl)
theorem lineL_any {x : LO} (hx : loOk x = true) (W : World) (t : TypeId) : Calls Tryz.prog 44 #[.slice (some ⟨W.heap.size, 0, none⟩) 4 4] (W.alloc (.cells #[Bs lostW, Bs (cW x.c), Bs (itoa x.f), Bs (itoa x.t)] t)) fun e w' => e = .returned (Bs (lLn x ++ [10])) ∧ Below (W.alloc (.cells #[Bs lostW, Bs (cW x.c), Bs (itoa x.f), Bs (itoa x.t)] t)).heap.size (W.alloc (.cells #[Bs lostW, Bs (cW x.c), Bs (itoa x.f), Bs (itoa x.t)] t)) w' := by
  obtain ⟨y0, y1, y2, y3⟩ := new4 W (Bs lostW) (Bs (cW x.c)) (Bs (itoa x.f)) (Bs (itoa x.t)) t
  refine line_any (L := lWords x) rfl (by simp) (Nat.le_of_ble_eq_true rfl) (Nat.le_refl 4) (by have := lLn_len hx; unfold lLn at this; omega) (fun j hj => ?_)
  match j, hj with
  | 0, _ => exact y0
  | 1, _ => exact y1
  | 2, _ => exact y2
  | 3, _ => exact y3
theorem below_al {w V : World} {o : Obj} (h : Below w.heap.size w V) : Below w.heap.size w (V.alloc o) := h.alloc h.size o
set_option maxHeartbeats 8000000 in
set_option maxRecDepth 100000 in
theorem woundLine_any {x : WD} (hx : wdOk x = true) {w : World} (hD : DmW w) : Calls Tryz.prog 22 #[.agg x.enc.toArray] w fun e w' => e = .returned (Bs (wLn x ++ [10])) ∧ Below w.heap.size w w' := by
  have hLn := lineW_any hx
  have h3 := wdOk_iff.1 hx
  have n1 := nmOk_iff.2 h3.2.1
  have n2 := nmOk_iff.2 h3.2.2.1
  have n3 := nmOk_iff.2 h3.2.2.2.1
  have hk3 : x.k = 1 ∨ x.k = 2 ∨ x.k = 3 := by have := h3.1; omega
  obtain ⟨k, id, ix, pl, hl⟩ := x
  unfold WD.enc
  dsimp only at hLn n1 n2 n3 hk3 ⊢
  generalize wLn ⟨k, id, ix, pl, hl⟩ ++ [10] = ln at hLn ⊢
  have hD0 := hD.below (below_new w (.cells #[.int .u8 k, .int .i64 id, .int .i64 ix, .int .i64 pl, .bool hl] 42))
  have C1 : Hid (∀ V, Below (w.alloc (.cells #[.int .u8 k, .int .i64 id, .int .i64 ix, .int .i64 pl, .bool hl] 42)).heap.size (w.alloc (.cells #[.int .u8 k, .int .i64 id, .int .i64 ix, .int .i64 pl, .bool hl] 42)) V → _) := Lib.hid (fun V hb => itoaD_any n1 (hD0.below hb))
  have C2 : Hid (∀ V, Below (w.alloc (.cells #[.int .u8 k, .int .i64 id, .int .i64 ix, .int .i64 pl, .bool hl] 42)).heap.size (w.alloc (.cells #[.int .u8 k, .int .i64 id, .int .i64 ix, .int .i64 pl, .bool hl] 42)) V → _) := Lib.hid (fun V hb => itoaD_any n2 (hD0.below hb))
  have C3 : Hid (∀ V, Below (w.alloc (.cells #[.int .u8 k, .int .i64 id, .int .i64 ix, .int .i64 pl, .bool hl] 42)).heap.size (w.alloc (.cells #[.int .u8 k, .int .i64 id, .int .i64 ix, .int .i64 pl, .bool hl] 42)) V → _) := Lib.hid (fun V hb => itoaD_any n3 (hD0.below hb))
  generalize itoa id = s1 at hLn C1
  generalize itoa ix = s2 at hLn C2
  generalize itoa pl = s3 at hLn C3
  have hy := new5 w (.int .u8 k) (.int .i64 id) (.int .i64 ix) (.int .i64 pl) (.bool hl) 42
  have HB0 := Lib.hid (below_new w (.cells #[.int .u8 k, .int .i64 id, .int .i64 ix, .int .i64 pl, .bool hl] 42))
  clear hx h3 n1 n2 n3 hD
  rcases hk3 with rfl | rfl | rfl
  · change ∀ (W : World) (t : TypeId), Calls Tryz.prog 44 #[.slice (some ⟨W.heap.size, 0, none⟩) 5 5] (W.alloc (.cells #[Bs slotW, Bs s1, Bs s2, Bs s3, Bs (hW hl)] t)) _ at hLn
    cases hl
    · change ∀ (W : World) (t : TypeId), Calls Tryz.prog 44 #[.slice (some ⟨W.heap.size, 0, none⟩) 5 5] (W.alloc (.cells #[Bs slotW, Bs s1, Bs s2, Bs s3, .string ⟨#[111, 112, 101, 110]⟩] t)) (fun e w' => e = .returned (Bs ln) ∧ Below (W.alloc (.cells #[Bs slotW, Bs s1, Bs s2, Bs s3, .string ⟨#[111, 112, 101, 110]⟩] t)).heap.size (W.alloc (.cells #[Bs slotW, Bs s1, Bs s2, Bs s3, .string ⟨#[111, 112, 101, 110]⟩] t)) w') at hLn
      have hLn2 : ∀ (W V : World) (hb : Below V.heap.size V W), Calls Tryz.prog 44 #[.slice (some ⟨W.heap.size, 0, none⟩) 5 5] (W.alloc (.cells #[Bs slotW, Bs s1, Bs s2, Bs s3, .string ⟨#[111, 112, 101, 110]⟩] 9)) (fun e w' => e = .returned (Bs ln) ∧ Below V.heap.size V w') := fun W V hb => (hLn W _).mono (fun e w' h => ⟨h.1, (hb.alloc hb.size _).trans (h.2.mono (hb.alloc hb.size _).size)⟩)
      clear hLn
      go_enter Tryz.func22, Tryz.ntmps22
      go_upto_region 1 with fail
      generalize w.alloc (.cells #[.int .u8 1, .int .i64 id, .int .i64 ix, .int .i64 pl, .bool false] 42) = w0 at hy HB0 C1 C2 C3 hD0 ⊢
      obtain ⟨y0, y1, y2, y3, y4⟩ := hy
      have g0 := hD0.w1
      have HX : Hid (∀ V, Below w0.heap.size w0 V → (fun V => V.cell? ⟨w.heap.size, 0, none⟩ = some (.int .u8 1) ∧ V.cell? ⟨w.heap.size, 1, none⟩ = some (.int .i64 id) ∧ V.cell? ⟨w.heap.size, 2, none⟩ = some (.int .i64 ix) ∧ V.cell? ⟨w.heap.size, 3, none⟩ = some (.int .i64 pl) ∧ V.cell? ⟨0, 1, none⟩ = some (Bs slotW)) V) := Lib.hid (fun V hb => ⟨cell_keep hb y0, cell_keep hb y1, cell_keep hb y2, cell_keep hb y3, cell_keep hb g0⟩)
      have HD0 : Hid (Below w0.heap.size w0 w0.drew) := Lib.hid (Below.refl _ _).drew
      have c1 := C1.out
      have c2 := C2.out
      have c3 := C3.out
      clear hD0 g0
      go_upto_region 4 with fail
      clear y0 y1 y2 y3 y4
      go_region_held3 (fun V => V.cell? ⟨w.heap.size, 0, none⟩ = some (.int .u8 1) ∧ V.cell? ⟨w.heap.size, 1, none⟩ = some (.int .i64 id) ∧ V.cell? ⟨w.heap.size, 2, none⟩ = some (.int .i64 ix) ∧ V.cell? ⟨w.heap.size, 3, none⟩ = some (.int .i64 pl) ∧ V.cell? ⟨0, 1, none⟩ = some (Bs slotW)) (first | with_reducible exact HX.out _ HD0.out | with_reducible exact HX.out _ H1.out | with_reducible exact HX.out _ H2.out | with_reducible exact HX.out _ H3.out | with_reducible exact HX.out _ (below_al H1.out) | with_reducible exact HX.out _ (below_al H2.out) | with_reducible exact HX.out _ (below_al H3.out) | with_reducible exact HX.out _ H4.out)
        (first
        | (go_at_call 45; (with_reducible refine (c1 _ (by first | exact HD0.out | exact H2.out | exact H3.out)).mono ?_); rintro e wa ⟨rfl, hb⟩; have H1 : Hid (Below w0.heap.size w0 wa) := Lib.hid (by first | exact hb | exact HD0.out.trans (hb.mono HD0.out.size) | exact H2.out.trans (hb.mono H2.out.size) | exact H3.out.trans (hb.mono H3.out.size)); clear hb; obtain ⟨q10, q11, q12, q13, q14⟩ := HX.out _ H1.out)
        | (go_at_call 45; (with_reducible refine (c2 _ (by first | exact HD0.out | exact H1.out | exact H3.out)).mono ?_); rintro e wb ⟨rfl, hb⟩; have H2 : Hid (Below w0.heap.size w0 wb) := Lib.hid (by first | exact hb | exact HD0.out.trans (hb.mono HD0.out.size) | exact H1.out.trans (hb.mono H1.out.size) | exact H3.out.trans (hb.mono H3.out.size)); clear hb; obtain ⟨q20, q21, q22, q23, q24⟩ := HX.out _ H2.out)
        | (go_at_call 45; (with_reducible refine (c3 _ (by first | exact HD0.out | exact H1.out | exact H2.out)).mono ?_); rintro e wc ⟨rfl, hb⟩; have H3 : Hid (Below w0.heap.size w0 wc) := Lib.hid (by first | exact hb | exact HD0.out.trans (hb.mono HD0.out.size) | exact H1.out.trans (hb.mono H1.out.size) | exact H2.out.trans (hb.mono H2.out.size)); clear hb; obtain ⟨q30, q31, q32, q33, q34⟩ := HX.out _ H3.out)
        | (go_at_call 44; (first | (with_reducible refine (hLn2 _ _ H3.out).mono ?_) | (with_reducible refine (hLn2 _ _ H2.out).mono ?_) | (with_reducible refine (hLn2 _ _ H1.out).mono ?_)); rintro e wd ⟨rfl, hb⟩; have H4 := Lib.hid hb; clear hb))
      all_goals go_wp2
      all_goals go_ret
      all_goals exact ⟨rfl, HB0.out.trans (H4.out.mono HB0.out.size)⟩
    · change ∀ (W : World) (t : TypeId), Calls Tryz.prog 44 #[.slice (some ⟨W.heap.size, 0, none⟩) 5 5] (W.alloc (.cells #[Bs slotW, Bs s1, Bs s2, Bs s3, .string ⟨#[104, 101, 97, 108, 101, 100]⟩] t)) (fun e w' => e = .returned (Bs ln) ∧ Below (W.alloc (.cells #[Bs slotW, Bs s1, Bs s2, Bs s3, .string ⟨#[104, 101, 97, 108, 101, 100]⟩] t)).heap.size (W.alloc (.cells #[Bs slotW, Bs s1, Bs s2, Bs s3, .string ⟨#[104, 101, 97, 108, 101, 100]⟩] t)) w') at hLn
      have hLn2 : ∀ (W V : World) (hb : Below V.heap.size V W), Calls Tryz.prog 44 #[.slice (some ⟨W.heap.size, 0, none⟩) 5 5] (W.alloc (.cells #[Bs slotW, Bs s1, Bs s2, Bs s3, .string ⟨#[104, 101, 97, 108, 101, 100]⟩] 9)) (fun e w' => e = .returned (Bs ln) ∧ Below V.heap.size V w') := fun W V hb => (hLn W _).mono (fun e w' h => ⟨h.1, (hb.alloc hb.size _).trans (h.2.mono (hb.alloc hb.size _).size)⟩)
      clear hLn
      go_enter Tryz.func22, Tryz.ntmps22
      go_upto_region 1 with fail
      generalize w.alloc (.cells #[.int .u8 1, .int .i64 id, .int .i64 ix, .int .i64 pl, .bool true] 42) = w0 at hy HB0 C1 C2 C3 hD0 ⊢
      obtain ⟨y0, y1, y2, y3, y4⟩ := hy
      have g0 := hD0.w1
      have HX : Hid (∀ V, Below w0.heap.size w0 V → (fun V => V.cell? ⟨w.heap.size, 0, none⟩ = some (.int .u8 1) ∧ V.cell? ⟨w.heap.size, 1, none⟩ = some (.int .i64 id) ∧ V.cell? ⟨w.heap.size, 2, none⟩ = some (.int .i64 ix) ∧ V.cell? ⟨w.heap.size, 3, none⟩ = some (.int .i64 pl) ∧ V.cell? ⟨0, 1, none⟩ = some (Bs slotW)) V) := Lib.hid (fun V hb => ⟨cell_keep hb y0, cell_keep hb y1, cell_keep hb y2, cell_keep hb y3, cell_keep hb g0⟩)
      have HD0 : Hid (Below w0.heap.size w0 w0.drew) := Lib.hid (Below.refl _ _).drew
      have c1 := C1.out
      have c2 := C2.out
      have c3 := C3.out
      clear hD0 g0
      go_upto_region 4 with fail
      clear y0 y1 y2 y3 y4
      go_region_held3 (fun V => V.cell? ⟨w.heap.size, 0, none⟩ = some (.int .u8 1) ∧ V.cell? ⟨w.heap.size, 1, none⟩ = some (.int .i64 id) ∧ V.cell? ⟨w.heap.size, 2, none⟩ = some (.int .i64 ix) ∧ V.cell? ⟨w.heap.size, 3, none⟩ = some (.int .i64 pl) ∧ V.cell? ⟨0, 1, none⟩ = some (Bs slotW)) (first | with_reducible exact HX.out _ HD0.out | with_reducible exact HX.out _ H1.out | with_reducible exact HX.out _ H2.out | with_reducible exact HX.out _ H3.out | with_reducible exact HX.out _ (below_al H1.out) | with_reducible exact HX.out _ (below_al H2.out) | with_reducible exact HX.out _ (below_al H3.out) | with_reducible exact HX.out _ H4.out)
        (first
        | (go_at_call 45; (with_reducible refine (c1 _ (by first | exact HD0.out | exact H2.out | exact H3.out)).mono ?_); rintro e wa ⟨rfl, hb⟩; have H1 : Hid (Below w0.heap.size w0 wa) := Lib.hid (by first | exact hb | exact HD0.out.trans (hb.mono HD0.out.size) | exact H2.out.trans (hb.mono H2.out.size) | exact H3.out.trans (hb.mono H3.out.size)); clear hb; obtain ⟨q10, q11, q12, q13, q14⟩ := HX.out _ H1.out)
        | (go_at_call 45; (with_reducible refine (c2 _ (by first | exact HD0.out | exact H1.out | exact H3.out)).mono ?_); rintro e wb ⟨rfl, hb⟩; have H2 : Hid (Below w0.heap.size w0 wb) := Lib.hid (by first | exact hb | exact HD0.out.trans (hb.mono HD0.out.size) | exact H1.out.trans (hb.mono H1.out.size) | exact H3.out.trans (hb.mono H3.out.size)); clear hb; obtain ⟨q20, q21, q22, q23, q24⟩ := HX.out _ H2.out)
        | (go_at_call 45; (with_reducible refine (c3 _ (by first | exact HD0.out | exact H1.out | exact H2.out)).mono ?_); rintro e wc ⟨rfl, hb⟩; have H3 : Hid (Below w0.heap.size w0 wc) := Lib.hid (by first | exact hb | exact HD0.out.trans (hb.mono HD0.out.size) | exact H1.out.trans (hb.mono H1.out.size) | exact H2.out.trans (hb.mono H2.out.size)); clear hb; obtain ⟨q30, q31, q32, q33, q34⟩ := HX.out _ H3.out)
        | (go_at_call 44; (first | (with_reducible refine (hLn2 _ _ H3.out).mono ?_) | (with_reducible refine (hLn2 _ _ H2.out).mono ?_) | (with_reducible refine (hLn2 _ _ H1.out).mono ?_)); rintro e wd ⟨rfl, hb⟩; have H4 := Lib.hid hb; clear hb))
      all_goals go_wp2
      all_goals go_ret
      all_goals exact ⟨rfl, HB0.out.trans (H4.out.mono HB0.out.size)⟩
  · change ∀ (W : World) (t : TypeId), Calls Tryz.prog 44 #[.slice (some ⟨W.heap.size, 0, none⟩) 5 5] (W.alloc (.cells #[Bs pageW, Bs s1, Bs s2, Bs s3, Bs (hW hl)] t)) _ at hLn
    cases hl
    · change ∀ (W : World) (t : TypeId), Calls Tryz.prog 44 #[.slice (some ⟨W.heap.size, 0, none⟩) 5 5] (W.alloc (.cells #[Bs pageW, Bs s1, Bs s2, Bs s3, .string ⟨#[111, 112, 101, 110]⟩] t)) (fun e w' => e = .returned (Bs ln) ∧ Below (W.alloc (.cells #[Bs pageW, Bs s1, Bs s2, Bs s3, .string ⟨#[111, 112, 101, 110]⟩] t)).heap.size (W.alloc (.cells #[Bs pageW, Bs s1, Bs s2, Bs s3, .string ⟨#[111, 112, 101, 110]⟩] t)) w') at hLn
      have hLn2 : ∀ (W V : World) (hb : Below V.heap.size V W), Calls Tryz.prog 44 #[.slice (some ⟨W.heap.size, 0, none⟩) 5 5] (W.alloc (.cells #[Bs pageW, Bs s1, Bs s2, Bs s3, .string ⟨#[111, 112, 101, 110]⟩] 9)) (fun e w' => e = .returned (Bs ln) ∧ Below V.heap.size V w') := fun W V hb => (hLn W _).mono (fun e w' h => ⟨h.1, (hb.alloc hb.size _).trans (h.2.mono (hb.alloc hb.size _).size)⟩)
      clear hLn
      go_enter Tryz.func22, Tryz.ntmps22
      go_upto_region 1 with fail
      generalize w.alloc (.cells #[.int .u8 2, .int .i64 id, .int .i64 ix, .int .i64 pl, .bool false] 42) = w0 at hy HB0 C1 C2 C3 hD0 ⊢
      obtain ⟨y0, y1, y2, y3, y4⟩ := hy
      have g0 := hD0.w2
      have HX : Hid (∀ V, Below w0.heap.size w0 V → (fun V => V.cell? ⟨w.heap.size, 0, none⟩ = some (.int .u8 2) ∧ V.cell? ⟨w.heap.size, 1, none⟩ = some (.int .i64 id) ∧ V.cell? ⟨w.heap.size, 2, none⟩ = some (.int .i64 ix) ∧ V.cell? ⟨w.heap.size, 3, none⟩ = some (.int .i64 pl) ∧ V.cell? ⟨0, 2, none⟩ = some (Bs pageW)) V) := Lib.hid (fun V hb => ⟨cell_keep hb y0, cell_keep hb y1, cell_keep hb y2, cell_keep hb y3, cell_keep hb g0⟩)
      have HD0 : Hid (Below w0.heap.size w0 w0.drew) := Lib.hid (Below.refl _ _).drew
      have c1 := C1.out
      have c2 := C2.out
      have c3 := C3.out
      clear hD0 g0
      go_upto_region 4 with fail
      clear y0 y1 y2 y3 y4
      go_region_held3 (fun V => V.cell? ⟨w.heap.size, 0, none⟩ = some (.int .u8 2) ∧ V.cell? ⟨w.heap.size, 1, none⟩ = some (.int .i64 id) ∧ V.cell? ⟨w.heap.size, 2, none⟩ = some (.int .i64 ix) ∧ V.cell? ⟨w.heap.size, 3, none⟩ = some (.int .i64 pl) ∧ V.cell? ⟨0, 2, none⟩ = some (Bs pageW)) (first | with_reducible exact HX.out _ HD0.out | with_reducible exact HX.out _ H1.out | with_reducible exact HX.out _ H2.out | with_reducible exact HX.out _ H3.out | with_reducible exact HX.out _ (below_al H1.out) | with_reducible exact HX.out _ (below_al H2.out) | with_reducible exact HX.out _ (below_al H3.out) | with_reducible exact HX.out _ H4.out)
        (first
        | (go_at_call 45; (with_reducible refine (c1 _ (by first | exact HD0.out | exact H2.out | exact H3.out)).mono ?_); rintro e wa ⟨rfl, hb⟩; have H1 : Hid (Below w0.heap.size w0 wa) := Lib.hid (by first | exact hb | exact HD0.out.trans (hb.mono HD0.out.size) | exact H2.out.trans (hb.mono H2.out.size) | exact H3.out.trans (hb.mono H3.out.size)); clear hb; obtain ⟨q10, q11, q12, q13, q14⟩ := HX.out _ H1.out)
        | (go_at_call 45; (with_reducible refine (c2 _ (by first | exact HD0.out | exact H1.out | exact H3.out)).mono ?_); rintro e wb ⟨rfl, hb⟩; have H2 : Hid (Below w0.heap.size w0 wb) := Lib.hid (by first | exact hb | exact HD0.out.trans (hb.mono HD0.out.size) | exact H1.out.trans (hb.mono H1.out.size) | exact H3.out.trans (hb.mono H3.out.size)); clear hb; obtain ⟨q20, q21, q22, q23, q24⟩ := HX.out _ H2.out)
        | (go_at_call 45; (with_reducible refine (c3 _ (by first | exact HD0.out | exact H1.out | exact H2.out)).mono ?_); rintro e wc ⟨rfl, hb⟩; have H3 : Hid (Below w0.heap.size w0 wc) := Lib.hid (by first | exact hb | exact HD0.out.trans (hb.mono HD0.out.size) | exact H1.out.trans (hb.mono H1.out.size) | exact H2.out.trans (hb.mono H2.out.size)); clear hb; obtain ⟨q30, q31, q32, q33, q34⟩ := HX.out _ H3.out)
        | (go_at_call 44; (first | (with_reducible refine (hLn2 _ _ H3.out).mono ?_) | (with_reducible refine (hLn2 _ _ H2.out).mono ?_) | (with_reducible refine (hLn2 _ _ H1.out).mono ?_)); rintro e wd ⟨rfl, hb⟩; have H4 := Lib.hid hb; clear hb))
      all_goals go_wp2
      all_goals go_ret
      all_goals exact ⟨rfl, HB0.out.trans (H4.out.mono HB0.out.size)⟩
    · change ∀ (W : World) (t : TypeId), Calls Tryz.prog 44 #[.slice (some ⟨W.heap.size, 0, none⟩) 5 5] (W.alloc (.cells #[Bs pageW, Bs s1, Bs s2, Bs s3, .string ⟨#[104, 101, 97, 108, 101, 100]⟩] t)) (fun e w' => e = .returned (Bs ln) ∧ Below (W.alloc (.cells #[Bs pageW, Bs s1, Bs s2, Bs s3, .string ⟨#[104, 101, 97, 108, 101, 100]⟩] t)).heap.size (W.alloc (.cells #[Bs pageW, Bs s1, Bs s2, Bs s3, .string ⟨#[104, 101, 97, 108, 101, 100]⟩] t)) w') at hLn
      have hLn2 : ∀ (W V : World) (hb : Below V.heap.size V W), Calls Tryz.prog 44 #[.slice (some ⟨W.heap.size, 0, none⟩) 5 5] (W.alloc (.cells #[Bs pageW, Bs s1, Bs s2, Bs s3, .string ⟨#[104, 101, 97, 108, 101, 100]⟩] 9)) (fun e w' => e = .returned (Bs ln) ∧ Below V.heap.size V w') := fun W V hb => (hLn W _).mono (fun e w' h => ⟨h.1, (hb.alloc hb.size _).trans (h.2.mono (hb.alloc hb.size _).size)⟩)
      clear hLn
      go_enter Tryz.func22, Tryz.ntmps22
      go_upto_region 1 with fail
      generalize w.alloc (.cells #[.int .u8 2, .int .i64 id, .int .i64 ix, .int .i64 pl, .bool true] 42) = w0 at hy HB0 C1 C2 C3 hD0 ⊢
      obtain ⟨y0, y1, y2, y3, y4⟩ := hy
      have g0 := hD0.w2
      have HX : Hid (∀ V, Below w0.heap.size w0 V → (fun V => V.cell? ⟨w.heap.size, 0, none⟩ = some (.int .u8 2) ∧ V.cell? ⟨w.heap.size, 1, none⟩ = some (.int .i64 id) ∧ V.cell? ⟨w.heap.size, 2, none⟩ = some (.int .i64 ix) ∧ V.cell? ⟨w.heap.size, 3, none⟩ = some (.int .i64 pl) ∧ V.cell? ⟨0, 2, none⟩ = some (Bs pageW)) V) := Lib.hid (fun V hb => ⟨cell_keep hb y0, cell_keep hb y1, cell_keep hb y2, cell_keep hb y3, cell_keep hb g0⟩)
      have HD0 : Hid (Below w0.heap.size w0 w0.drew) := Lib.hid (Below.refl _ _).drew
      have c1 := C1.out
      have c2 := C2.out
      have c3 := C3.out
      clear hD0 g0
      go_upto_region 4 with fail
      clear y0 y1 y2 y3 y4
      go_region_held3 (fun V => V.cell? ⟨w.heap.size, 0, none⟩ = some (.int .u8 2) ∧ V.cell? ⟨w.heap.size, 1, none⟩ = some (.int .i64 id) ∧ V.cell? ⟨w.heap.size, 2, none⟩ = some (.int .i64 ix) ∧ V.cell? ⟨w.heap.size, 3, none⟩ = some (.int .i64 pl) ∧ V.cell? ⟨0, 2, none⟩ = some (Bs pageW)) (first | with_reducible exact HX.out _ HD0.out | with_reducible exact HX.out _ H1.out | with_reducible exact HX.out _ H2.out | with_reducible exact HX.out _ H3.out | with_reducible exact HX.out _ (below_al H1.out) | with_reducible exact HX.out _ (below_al H2.out) | with_reducible exact HX.out _ (below_al H3.out) | with_reducible exact HX.out _ H4.out)
        (first
        | (go_at_call 45; (with_reducible refine (c1 _ (by first | exact HD0.out | exact H2.out | exact H3.out)).mono ?_); rintro e wa ⟨rfl, hb⟩; have H1 : Hid (Below w0.heap.size w0 wa) := Lib.hid (by first | exact hb | exact HD0.out.trans (hb.mono HD0.out.size) | exact H2.out.trans (hb.mono H2.out.size) | exact H3.out.trans (hb.mono H3.out.size)); clear hb; obtain ⟨q10, q11, q12, q13, q14⟩ := HX.out _ H1.out)
        | (go_at_call 45; (with_reducible refine (c2 _ (by first | exact HD0.out | exact H1.out | exact H3.out)).mono ?_); rintro e wb ⟨rfl, hb⟩; have H2 : Hid (Below w0.heap.size w0 wb) := Lib.hid (by first | exact hb | exact HD0.out.trans (hb.mono HD0.out.size) | exact H1.out.trans (hb.mono H1.out.size) | exact H3.out.trans (hb.mono H3.out.size)); clear hb; obtain ⟨q20, q21, q22, q23, q24⟩ := HX.out _ H2.out)
        | (go_at_call 45; (with_reducible refine (c3 _ (by first | exact HD0.out | exact H1.out | exact H2.out)).mono ?_); rintro e wc ⟨rfl, hb⟩; have H3 : Hid (Below w0.heap.size w0 wc) := Lib.hid (by first | exact hb | exact HD0.out.trans (hb.mono HD0.out.size) | exact H1.out.trans (hb.mono H1.out.size) | exact H2.out.trans (hb.mono H2.out.size)); clear hb; obtain ⟨q30, q31, q32, q33, q34⟩ := HX.out _ H3.out)
        | (go_at_call 44; (first | (with_reducible refine (hLn2 _ _ H3.out).mono ?_) | (with_reducible refine (hLn2 _ _ H2.out).mono ?_) | (with_reducible refine (hLn2 _ _ H1.out).mono ?_)); rintro e wd ⟨rfl, hb⟩; have H4 := Lib.hid hb; clear hb))
      all_goals go_wp2
      all_goals go_ret
      all_goals exact ⟨rfl, HB0.out.trans (H4.out.mono HB0.out.size)⟩
  · change ∀ (W : World) (t : TypeId), Calls Tryz.prog 44 #[.slice (some ⟨W.heap.size, 0, none⟩) 5 5] (W.alloc (.cells #[Bs stripeW, Bs s1, Bs s2, Bs s3, Bs (hW hl)] t)) _ at hLn
    cases hl
    · change ∀ (W : World) (t : TypeId), Calls Tryz.prog 44 #[.slice (some ⟨W.heap.size, 0, none⟩) 5 5] (W.alloc (.cells #[Bs stripeW, Bs s1, Bs s2, Bs s3, .string ⟨#[111, 112, 101, 110]⟩] t)) (fun e w' => e = .returned (Bs ln) ∧ Below (W.alloc (.cells #[Bs stripeW, Bs s1, Bs s2, Bs s3, .string ⟨#[111, 112, 101, 110]⟩] t)).heap.size (W.alloc (.cells #[Bs stripeW, Bs s1, Bs s2, Bs s3, .string ⟨#[111, 112, 101, 110]⟩] t)) w') at hLn
      have hLn2 : ∀ (W V : World) (hb : Below V.heap.size V W), Calls Tryz.prog 44 #[.slice (some ⟨W.heap.size, 0, none⟩) 5 5] (W.alloc (.cells #[Bs stripeW, Bs s1, Bs s2, Bs s3, .string ⟨#[111, 112, 101, 110]⟩] 9)) (fun e w' => e = .returned (Bs ln) ∧ Below V.heap.size V w') := fun W V hb => (hLn W _).mono (fun e w' h => ⟨h.1, (hb.alloc hb.size _).trans (h.2.mono (hb.alloc hb.size _).size)⟩)
      clear hLn
      go_enter Tryz.func22, Tryz.ntmps22
      go_upto_region 1 with fail
      generalize w.alloc (.cells #[.int .u8 3, .int .i64 id, .int .i64 ix, .int .i64 pl, .bool false] 42) = w0 at hy HB0 C1 C2 C3 hD0 ⊢
      obtain ⟨y0, y1, y2, y3, y4⟩ := hy
      have g0 := hD0.w3
      have HX : Hid (∀ V, Below w0.heap.size w0 V → (fun V => V.cell? ⟨w.heap.size, 0, none⟩ = some (.int .u8 3) ∧ V.cell? ⟨w.heap.size, 1, none⟩ = some (.int .i64 id) ∧ V.cell? ⟨w.heap.size, 2, none⟩ = some (.int .i64 ix) ∧ V.cell? ⟨w.heap.size, 3, none⟩ = some (.int .i64 pl) ∧ V.cell? ⟨0, 3, none⟩ = some (Bs stripeW)) V) := Lib.hid (fun V hb => ⟨cell_keep hb y0, cell_keep hb y1, cell_keep hb y2, cell_keep hb y3, cell_keep hb g0⟩)
      have HD0 : Hid (Below w0.heap.size w0 w0.drew) := Lib.hid (Below.refl _ _).drew
      have c1 := C1.out
      have c2 := C2.out
      have c3 := C3.out
      clear hD0 g0
      go_upto_region 4 with fail
      clear y0 y1 y2 y3 y4
      go_region_held3 (fun V => V.cell? ⟨w.heap.size, 0, none⟩ = some (.int .u8 3) ∧ V.cell? ⟨w.heap.size, 1, none⟩ = some (.int .i64 id) ∧ V.cell? ⟨w.heap.size, 2, none⟩ = some (.int .i64 ix) ∧ V.cell? ⟨w.heap.size, 3, none⟩ = some (.int .i64 pl) ∧ V.cell? ⟨0, 3, none⟩ = some (Bs stripeW)) (first | with_reducible exact HX.out _ HD0.out | with_reducible exact HX.out _ H1.out | with_reducible exact HX.out _ H2.out | with_reducible exact HX.out _ H3.out | with_reducible exact HX.out _ (below_al H1.out) | with_reducible exact HX.out _ (below_al H2.out) | with_reducible exact HX.out _ (below_al H3.out) | with_reducible exact HX.out _ H4.out)
        (first
        | (go_at_call 45; (with_reducible refine (c1 _ (by first | exact HD0.out | exact H2.out | exact H3.out)).mono ?_); rintro e wa ⟨rfl, hb⟩; have H1 : Hid (Below w0.heap.size w0 wa) := Lib.hid (by first | exact hb | exact HD0.out.trans (hb.mono HD0.out.size) | exact H2.out.trans (hb.mono H2.out.size) | exact H3.out.trans (hb.mono H3.out.size)); clear hb; obtain ⟨q10, q11, q12, q13, q14⟩ := HX.out _ H1.out)
        | (go_at_call 45; (with_reducible refine (c2 _ (by first | exact HD0.out | exact H1.out | exact H3.out)).mono ?_); rintro e wb ⟨rfl, hb⟩; have H2 : Hid (Below w0.heap.size w0 wb) := Lib.hid (by first | exact hb | exact HD0.out.trans (hb.mono HD0.out.size) | exact H1.out.trans (hb.mono H1.out.size) | exact H3.out.trans (hb.mono H3.out.size)); clear hb; obtain ⟨q20, q21, q22, q23, q24⟩ := HX.out _ H2.out)
        | (go_at_call 45; (with_reducible refine (c3 _ (by first | exact HD0.out | exact H1.out | exact H2.out)).mono ?_); rintro e wc ⟨rfl, hb⟩; have H3 : Hid (Below w0.heap.size w0 wc) := Lib.hid (by first | exact hb | exact HD0.out.trans (hb.mono HD0.out.size) | exact H1.out.trans (hb.mono H1.out.size) | exact H2.out.trans (hb.mono H2.out.size)); clear hb; obtain ⟨q30, q31, q32, q33, q34⟩ := HX.out _ H3.out)
        | (go_at_call 44; (first | (with_reducible refine (hLn2 _ _ H3.out).mono ?_) | (with_reducible refine (hLn2 _ _ H2.out).mono ?_) | (with_reducible refine (hLn2 _ _ H1.out).mono ?_)); rintro e wd ⟨rfl, hb⟩; have H4 := Lib.hid hb; clear hb))
      all_goals go_wp2
      all_goals go_ret
      all_goals exact ⟨rfl, HB0.out.trans (H4.out.mono HB0.out.size)⟩
    · change ∀ (W : World) (t : TypeId), Calls Tryz.prog 44 #[.slice (some ⟨W.heap.size, 0, none⟩) 5 5] (W.alloc (.cells #[Bs stripeW, Bs s1, Bs s2, Bs s3, .string ⟨#[104, 101, 97, 108, 101, 100]⟩] t)) (fun e w' => e = .returned (Bs ln) ∧ Below (W.alloc (.cells #[Bs stripeW, Bs s1, Bs s2, Bs s3, .string ⟨#[104, 101, 97, 108, 101, 100]⟩] t)).heap.size (W.alloc (.cells #[Bs stripeW, Bs s1, Bs s2, Bs s3, .string ⟨#[104, 101, 97, 108, 101, 100]⟩] t)) w') at hLn
      have hLn2 : ∀ (W V : World) (hb : Below V.heap.size V W), Calls Tryz.prog 44 #[.slice (some ⟨W.heap.size, 0, none⟩) 5 5] (W.alloc (.cells #[Bs stripeW, Bs s1, Bs s2, Bs s3, .string ⟨#[104, 101, 97, 108, 101, 100]⟩] 9)) (fun e w' => e = .returned (Bs ln) ∧ Below V.heap.size V w') := fun W V hb => (hLn W _).mono (fun e w' h => ⟨h.1, (hb.alloc hb.size _).trans (h.2.mono (hb.alloc hb.size _).size)⟩)
      clear hLn
      go_enter Tryz.func22, Tryz.ntmps22
      go_upto_region 1 with fail
      generalize w.alloc (.cells #[.int .u8 3, .int .i64 id, .int .i64 ix, .int .i64 pl, .bool true] 42) = w0 at hy HB0 C1 C2 C3 hD0 ⊢
      obtain ⟨y0, y1, y2, y3, y4⟩ := hy
      have g0 := hD0.w3
      have HX : Hid (∀ V, Below w0.heap.size w0 V → (fun V => V.cell? ⟨w.heap.size, 0, none⟩ = some (.int .u8 3) ∧ V.cell? ⟨w.heap.size, 1, none⟩ = some (.int .i64 id) ∧ V.cell? ⟨w.heap.size, 2, none⟩ = some (.int .i64 ix) ∧ V.cell? ⟨w.heap.size, 3, none⟩ = some (.int .i64 pl) ∧ V.cell? ⟨0, 3, none⟩ = some (Bs stripeW)) V) := Lib.hid (fun V hb => ⟨cell_keep hb y0, cell_keep hb y1, cell_keep hb y2, cell_keep hb y3, cell_keep hb g0⟩)
      have HD0 : Hid (Below w0.heap.size w0 w0.drew) := Lib.hid (Below.refl _ _).drew
      have c1 := C1.out
      have c2 := C2.out
      have c3 := C3.out
      clear hD0 g0
      go_upto_region 4 with fail
      clear y0 y1 y2 y3 y4
      go_region_held3 (fun V => V.cell? ⟨w.heap.size, 0, none⟩ = some (.int .u8 3) ∧ V.cell? ⟨w.heap.size, 1, none⟩ = some (.int .i64 id) ∧ V.cell? ⟨w.heap.size, 2, none⟩ = some (.int .i64 ix) ∧ V.cell? ⟨w.heap.size, 3, none⟩ = some (.int .i64 pl) ∧ V.cell? ⟨0, 3, none⟩ = some (Bs stripeW)) (first | with_reducible exact HX.out _ HD0.out | with_reducible exact HX.out _ H1.out | with_reducible exact HX.out _ H2.out | with_reducible exact HX.out _ H3.out | with_reducible exact HX.out _ (below_al H1.out) | with_reducible exact HX.out _ (below_al H2.out) | with_reducible exact HX.out _ (below_al H3.out) | with_reducible exact HX.out _ H4.out)
        (first
        | (go_at_call 45; (with_reducible refine (c1 _ (by first | exact HD0.out | exact H2.out | exact H3.out)).mono ?_); rintro e wa ⟨rfl, hb⟩; have H1 : Hid (Below w0.heap.size w0 wa) := Lib.hid (by first | exact hb | exact HD0.out.trans (hb.mono HD0.out.size) | exact H2.out.trans (hb.mono H2.out.size) | exact H3.out.trans (hb.mono H3.out.size)); clear hb; obtain ⟨q10, q11, q12, q13, q14⟩ := HX.out _ H1.out)
        | (go_at_call 45; (with_reducible refine (c2 _ (by first | exact HD0.out | exact H1.out | exact H3.out)).mono ?_); rintro e wb ⟨rfl, hb⟩; have H2 : Hid (Below w0.heap.size w0 wb) := Lib.hid (by first | exact hb | exact HD0.out.trans (hb.mono HD0.out.size) | exact H1.out.trans (hb.mono H1.out.size) | exact H3.out.trans (hb.mono H3.out.size)); clear hb; obtain ⟨q20, q21, q22, q23, q24⟩ := HX.out _ H2.out)
        | (go_at_call 45; (with_reducible refine (c3 _ (by first | exact HD0.out | exact H1.out | exact H2.out)).mono ?_); rintro e wc ⟨rfl, hb⟩; have H3 : Hid (Below w0.heap.size w0 wc) := Lib.hid (by first | exact hb | exact HD0.out.trans (hb.mono HD0.out.size) | exact H1.out.trans (hb.mono H1.out.size) | exact H2.out.trans (hb.mono H2.out.size)); clear hb; obtain ⟨q30, q31, q32, q33, q34⟩ := HX.out _ H3.out)
        | (go_at_call 44; (first | (with_reducible refine (hLn2 _ _ H3.out).mono ?_) | (with_reducible refine (hLn2 _ _ H2.out).mono ?_) | (with_reducible refine (hLn2 _ _ H1.out).mono ?_)); rintro e wd ⟨rfl, hb⟩; have H4 := Lib.hid hb; clear hb))
      all_goals go_wp2
      all_goals go_ret
      all_goals exact ⟨rfl, HB0.out.trans (H4.out.mono HB0.out.size)⟩
set_option maxHeartbeats 8000000 in
set_option maxRecDepth 100000 in
theorem lostLine_any {x : LO} (hx : loOk x = true) {w : World} (hD : DmW w) : Calls Tryz.prog 23 #[.agg x.enc.toArray] w fun e w' => e = .returned (Bs (lLn x ++ [10])) ∧ Below w.heap.size w w' := by
  have hLn := lineL_any hx
  have h3 := loOk_iff.1 hx
  have n2 := nmOk_iff.2 (⟨h3.2.2.1, by omega⟩ : 0 ≤ x.f ∧ x.f ≤ 2147483648)
  have n3 := nmOk_iff.2 (⟨by omega, by omega⟩ : 0 ≤ x.t ∧ x.t ≤ 2147483648)
  have n1 : x.c ≠ -1 → nmOk x.c = true := fun h => nmOk_iff.2 ⟨by omega, h3.2.1⟩
  obtain ⟨c, f, t⟩ := x
  unfold LO.enc
  dsimp only at hLn n1 n2 n3 ⊢
  generalize lLn ⟨c, f, t⟩ ++ [10] = ln at hLn ⊢
  have hD0 := hD.below (below_new w (.cells #[.int .i64 c, .int .i64 f, .int .i64 t] 46))
  have C1 : Hid (∀ V, c ≠ -1 → Below (w.alloc (.cells #[.int .i64 c, .int .i64 f, .int .i64 t] 46)).heap.size (w.alloc (.cells #[.int .i64 c, .int .i64 f, .int .i64 t] 46)) V → _) := Lib.hid (fun V hc hb => itoaD_any (n1 hc) (hD0.below hb))
  have C2 : Hid (∀ V, Below (w.alloc (.cells #[.int .i64 c, .int .i64 f, .int .i64 t] 46)).heap.size (w.alloc (.cells #[.int .i64 c, .int .i64 f, .int .i64 t] 46)) V → _) := Lib.hid (fun V hb => itoaD_any n2 (hD0.below hb))
  have C3 : Hid (∀ V, Below (w.alloc (.cells #[.int .i64 c, .int .i64 f, .int .i64 t] 46)).heap.size (w.alloc (.cells #[.int .i64 c, .int .i64 f, .int .i64 t] 46)) V → _) := Lib.hid (fun V hb => itoaD_any n3 (hD0.below hb))
  generalize itoa f = s2 at hLn C2
  generalize itoa t = s3 at hLn C3
  have hy := new3 w (.int .i64 c) (.int .i64 f) (.int .i64 t) 46
  have HB0 := Lib.hid (below_new w (.cells #[.int .i64 c, .int .i64 f, .int .i64 t] 46))
  clear hx h3 n2 n3 hD n1
  by_cases hc : c = -1
  · subst hc
    have hLn2 : ∀ (W V : World) (hb : Below V.heap.size V W), Calls Tryz.prog 44 #[.slice (some ⟨W.heap.size, 0, none⟩) 4 4] (W.alloc (.cells #[.string ⟨#[108, 111, 115, 116]⟩, .string ⟨#[110, 111, 119]⟩, Bs s2, Bs s3] 9)) (fun e w' => e = .returned (Bs ln) ∧ Below V.heap.size V w') := fun W V hb => (hLn W _).mono (fun e w' h => ⟨h.1, (hb.alloc hb.size _).trans (h.2.mono (hb.alloc hb.size _).size)⟩)
    clear hLn
    go_enter Tryz.func23, Tryz.ntmps23
    go_upto_region 1 with fail
    generalize w.alloc (.cells #[.int .i64 (-1), .int .i64 f, .int .i64 t] 46) = w0 at hy HB0 C1 C2 C3 hD0 ⊢
    obtain ⟨y0, y1, y2⟩ := hy
    have HX : Hid (∀ V, Below w0.heap.size w0 V → (fun V => V.cell? ⟨w.heap.size, 1, none⟩ = some (.int .i64 f) ∧ V.cell? ⟨w.heap.size, 2, none⟩ = some (.int .i64 t)) V) := Lib.hid (fun V hb => ⟨cell_keep hb y1, cell_keep hb y2⟩)
    have c2 := C2.out
    have c3 := C3.out
    have HD0 : Hid (Below w0.heap.size w0 w0.drew) := Lib.hid (Below.refl _ _).drew
    clear hD0 C1
    go_upto_region 4 with fail
    clear y0 y1 y2
    go_region_held3 (fun V => V.cell? ⟨w.heap.size, 1, none⟩ = some (.int .i64 f) ∧ V.cell? ⟨w.heap.size, 2, none⟩ = some (.int .i64 t)) (first | with_reducible exact HX.out _ HD0.out | with_reducible exact HX.out _ H2.out | with_reducible exact HX.out _ H3.out | with_reducible exact HX.out _ (below_al H2.out) | with_reducible exact HX.out _ (below_al H3.out) | with_reducible exact HX.out _ H4.out)
      (first
      | (go_at_call 45; (with_reducible refine (c2 _ (by first | exact HD0.out | exact H3.out)).mono ?_); rintro e wb ⟨rfl, hb⟩; have H2 : Hid (Below w0.heap.size w0 wb) := Lib.hid (by first | exact hb | exact HD0.out.trans (hb.mono HD0.out.size) | exact H3.out.trans (hb.mono H3.out.size)); clear hb; obtain ⟨q20, q21⟩ := HX.out _ H2.out)
      | (go_at_call 45; (with_reducible refine (c3 _ (by first | exact HD0.out | exact H2.out)).mono ?_); rintro e wc ⟨rfl, hb⟩; have H3 : Hid (Below w0.heap.size w0 wc) := Lib.hid (by first | exact hb | exact HD0.out.trans (hb.mono HD0.out.size) | exact H2.out.trans (hb.mono H2.out.size)); clear hb; obtain ⟨q30, q31⟩ := HX.out _ H3.out)
      | (go_at_call 44; (first | (with_reducible refine (hLn2 _ _ H3.out).mono ?_) | (with_reducible refine (hLn2 _ _ H2.out).mono ?_)); rintro e wd ⟨rfl, hb⟩; have H4 := Lib.hid hb; clear hb))
    all_goals go_wp2
    all_goals go_ret
    all_goals exact ⟨rfl, HB0.out.trans (H4.out.mono HB0.out.size)⟩
  · have hcw : cW c = itoa c := if_neg hc
    rw [hcw] at hLn
    clear hcw
    have hc1 : ∀ V, _ → _ := fun V => C1.out V hc
    have d0 : (c != -1) = true := by rw [bne_iff_ne]; exact hc
    have d1 : (c == -1) = false := by rw [beq_eq_false_iff_ne]; exact hc
    clear C1 hc
    have C1 := Lib.hid hc1
    clear hc1
    generalize itoa c = s1 at hLn C1
    have hLn2 : ∀ (W V : World) (hb : Below V.heap.size V W), Calls Tryz.prog 44 #[.slice (some ⟨W.heap.size, 0, none⟩) 4 4] (W.alloc (.cells #[.string ⟨#[108, 111, 115, 116]⟩, Bs s1, Bs s2, Bs s3] 9)) (fun e w' => e = .returned (Bs ln) ∧ Below V.heap.size V w') := fun W V hb => (hLn W _).mono (fun e w' h => ⟨h.1, (hb.alloc hb.size _).trans (h.2.mono (hb.alloc hb.size _).size)⟩)
    clear hLn
    go_enter Tryz.func23, Tryz.ntmps23
    go_upto_region 1 with fail
    generalize w.alloc (.cells #[.int .i64 c, .int .i64 f, .int .i64 t] 46) = w0 at hy HB0 C1 C2 C3 hD0 ⊢
    obtain ⟨y0, y1, y2⟩ := hy
    have HX : Hid (∀ V, Below w0.heap.size w0 V → (fun V => V.cell? ⟨w.heap.size, 1, none⟩ = some (.int .i64 f) ∧ V.cell? ⟨w.heap.size, 2, none⟩ = some (.int .i64 t)) V) := Lib.hid (fun V hb => ⟨cell_keep hb y1, cell_keep hb y2⟩)
    have c2 := C2.out
    have c3 := C3.out
    have c1 := C1.out w0 (Below.refl _ _)
    clear hD0 C1
    go_upto_region 4 with (go_at_call 45; (with_reducible refine c1.mono ?_); rintro e w1 ⟨rfl, hb1⟩; have H1 := Lib.hid hb1; clear hb1)
    have HD0 : Hid (Below w0.heap.size w0 w1.drew) := Lib.hid H1.out.drew
    clear y0 y1 y2
    go_region_held3 (fun V => V.cell? ⟨w.heap.size, 1, none⟩ = some (.int .i64 f) ∧ V.cell? ⟨w.heap.size, 2, none⟩ = some (.int .i64 t)) (first | with_reducible exact HX.out _ HD0.out | with_reducible exact HX.out _ H2.out | with_reducible exact HX.out _ H3.out | with_reducible exact HX.out _ (below_al H2.out) | with_reducible exact HX.out _ (below_al H3.out) | with_reducible exact HX.out _ H4.out)
      (first
      | (go_at_call 45; (with_reducible refine (c2 _ (by first | exact HD0.out | exact H3.out)).mono ?_); rintro e wb ⟨rfl, hb⟩; have H2 : Hid (Below w0.heap.size w0 wb) := Lib.hid (by first | exact hb | exact HD0.out.trans (hb.mono HD0.out.size) | exact H3.out.trans (hb.mono H3.out.size)); clear hb; obtain ⟨q20, q21⟩ := HX.out _ H2.out)
      | (go_at_call 45; (with_reducible refine (c3 _ (by first | exact HD0.out | exact H2.out)).mono ?_); rintro e wc ⟨rfl, hb⟩; have H3 : Hid (Below w0.heap.size w0 wc) := Lib.hid (by first | exact hb | exact HD0.out.trans (hb.mono HD0.out.size) | exact H2.out.trans (hb.mono H2.out.size)); clear hb; obtain ⟨q30, q31⟩ := HX.out _ H3.out)
      | (go_at_call 44; (first | (with_reducible refine (hLn2 _ _ H3.out).mono ?_) | (with_reducible refine (hLn2 _ _ H2.out).mono ?_)); rintro e wd ⟨rfl, hb⟩; have H4 := Lib.hid hb; clear hb))
    all_goals go_wp2
    all_goals go_ret
    all_goals exact ⟨rfl, HB0.out.trans (H4.out.mono HB0.out.size)⟩

end Go.Proofs.YtfmpbohiahjafaaGreatDoor
