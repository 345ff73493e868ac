/- Reports of damage: the program's reading of a lost range's line. -/
import Derived.Test.YtfmpbohiahjafaaGreatDoorDmgN
import Derived.Deep.RegionHeld3
namespace Go.Proofs.YtfmpbohiahjafaaGreatDoor
open Go.RowKit Go.Lib Go.Shelf Go.Sort

/-- A block of three cells that may be written. -/
structure B3 (W : World) (b : Nat) (v0 v1 v2 : Value) : Prop where
  lt : b < W.heap.size
  c0 : W.cell? ⟨b, 0, none⟩ = some v0
  c1 : W.cell? ⟨b, 1, none⟩ = some v1
  c2 : W.cell? ⟨b, 2, none⟩ = some v2
  f0 : W.frozen? ⟨b, 0, none⟩ = false
  f1 : W.frozen? ⟨b, 1, none⟩ = false
  f2 : W.frozen? ⟨b, 2, none⟩ = false
theorem B3.new (w : World) (v0 v1 v2 : Value) (t : TypeId) : B3 (w.alloc (.cells #[v0, v1, v2] t)) w.heap.size v0 v1 v2 := by
  obtain ⟨y0, y1, y2⟩ := new3 w v0 v1 v2 t
  have hf := fun o => frozen_of_row (w.alloc (.cells #[v0, v1, v2] t)) w.heap.size o _ t (heap_alloc_new w _)
  exact ⟨by simp, y0, y1, y2, hf 0, hf 1, hf 2⟩
theorem B3.below {W W' : World} {b : Nat} {v0 v1 v2 : Value} (h : B3 W b v0 v1 v2) (hb : Below W.heap.size W W') : B3 W' b v0 v1 v2 :=
  ⟨Nat.lt_of_lt_of_le h.lt hb.size, cell_keep hb h.c0, cell_keep hb h.c1, cell_keep hb h.c2,
    (hb.frozen (p := ⟨b, 0, none⟩) h.lt).trans h.f0, (hb.frozen (p := ⟨b, 1, none⟩) h.lt).trans h.f1, (hb.frozen (p := ⟨b, 2, none⟩) h.lt).trans h.f2⟩
def put3 (W : World) (b : Nat) (v0 v1 v2 : Value) : World := ((W.setCell ⟨b, 0, none⟩ v0).setCell ⟨b, 1, none⟩ v1).setCell ⟨b, 2, none⟩ v2
theorem B3.put {W : World} {b : Nat} {v0 v1 v2 : Value} (h : B3 W b v0 v1 v2) (u0 u1 u2 : Value) : B3 (put3 W b u0 u1 u2) b u0 u1 u2 := by
  unfold put3
  have hf (o : Nat) (hh : W.frozen? ⟨b, o, none⟩ = false) : (((W.setCell ⟨b, 0, none⟩ u0).setCell ⟨b, 1, none⟩ u1).setCell ⟨b, 2, none⟩ u2).frozen? ⟨b, o, none⟩ = false := by
    rw [World.frozen?_setCell, World.frozen?_setCell, World.frozen?_setCell]; exact hh
  refine ⟨by simp only [World.size_setCell]; exact h.lt, ?_, ?_, ?_, hf 0 h.f0, hf 1 h.f1, hf 2 h.f2⟩
  · rw [put_else _ _ _ _ _ (by omega), put_else _ _ _ _ _ (by omega)]
    exact put_same h.c0 _
  · rw [put_else _ _ _ _ _ (by omega)]
    exact put_same ((put_else _ _ _ _ _ (by omega)).trans h.c1) _
  · exact put_same ((put_else _ _ _ _ _ (by omega)).trans ((put_else _ _ _ _ _ (by omega)).trans h.c2)) _
theorem below_put3 {B : Nat} {w W : World} {b : Nat} {v0 v1 v2 : Value} (h : Below B w W) (hB : B ≤ b) : Below B w (put3 W b v0 v1 v2) := by
  unfold put3
  exact below_set (below_set (below_set h hB) hB) hB
theorem num2_no {c d : List UInt8} (h : ¬ ∃ y z, num1 c = some y ∧ num1 d = some z) {V : List Int} (hV : ∀ j, j < 2 → num1 ([c, d].getD j []) = some (V.getD j 0)) : False :=
  h ⟨V.getD 0 0, V.getD 1 0, hV 0 (by omega), hV 1 (by omega)⟩
/-- Two numbers, or none. -/
theorem num2_any {c d : List UInt8} {w : World} {v : Value} (hv : WsS w v [c, d]) (hD : DmW w) (hl : ∀ x ∈ [c, d], x.length ≤ 1000000) :
    ((∃ y z, num1 c = some y ∧ num1 d = some z) → ∃ y z, num1 c = some y ∧ num1 d = some z ∧ Calls Tryz.prog 73 #[v] w fun e w' => ∃ q, e = .returned (.tuple #[.slice (some ⟨q, 0, none⟩) 2 2, .bool true]) ∧ w'.cell? ⟨q, 0, none⟩ = some (.int .i64 y) ∧ w'.cell? ⟨q, 1, none⟩ = some (.int .i64 z) ∧ Below w.heap.size w w')
    ∧ ((¬ ∃ y z, num1 c = some y ∧ num1 d = some z) → Calls Tryz.prog 73 #[v] w fun e w' => e = .returned (.tuple #[.slice none 0 0, .bool false]) ∧ Below w.heap.size w w') := by
  have hN := numbers_any hv hD (by simp) hl
  refine ⟨fun ⟨y, z, hy, hz⟩ => ⟨y, z, hy, hz, hN.mono ?_⟩, fun h => hN.mono ?_⟩
  · rintro e w' ⟨hb, h | h⟩
    · obtain ⟨V, hV, hn, q, he, hr⟩ := h
      have hV2 : V.length = 2 := hV
      have a1 : some y = some (V.getD 0 0) := hy.symm.trans (hn 0 (by simp))
      have a2 : some z = some (V.getD 1 0) := hz.symm.trans (hn 1 (by simp))
      injection a1 with a1
      injection a2 with a2
      refine ⟨q, he, ?_, ?_, hb⟩
      · rw [a1]; exact (hr.2 0 (by omega)).1
      · rw [a2]; exact (hr.2 1 (by omega)).1
    · obtain ⟨⟨j, hj, hn⟩, _⟩ := h
      have hj3 : j < 2 := hj
      exfalso
      match j, hj3, hn with
      | 0, _, hn => have hn : num1 c = none := hn; rw [hy] at hn; cases hn
      | 1, _, hn => have hn : num1 d = none := hn; rw [hz] at hn; cases hn
  · rintro e w' ⟨hb, h2 | h2⟩
    · obtain ⟨V, hV, hn, _⟩ := h2
      exact (num2_no h (fun j hj => hn j hj)).elim
    · exact ⟨h2.2, hb⟩
theorem toC_two {s : List UInt8} {w : World} (hC : Calls Tryz.prog 75 #[.string ⟨s.toArray⟩] w fun e w' => Below w.heap.size w w' ∧ ((∃ x, codC s = some x ∧ e = .returned (.tuple #[.int .i64 x, .bool true])) ∨ codC s = none ∧ e = .returned (.tuple #[.int .i64 0, .bool false]))) : Calls Tryz.prog 75 #[.string ⟨s.toArray⟩] w fun e w' => e = .returned (.tuple #[.int .i64 ((codC s).getD 0), .bool (codC s).isSome]) ∧ Below w.heap.size w w' := by
  refine hC.mono ?_
  rintro e w' ⟨hb, ⟨x, hx, he⟩ | ⟨hx, he⟩⟩
  · rw [hx]; exact ⟨he, hb⟩
  · rw [hx]; exact ⟨he, hb⟩
set_option maxHeartbeats 8000000 in
set_option maxRecDepth 100000 in
theorem toLost_any {l : List UInt8} (hl : l.length ≤ 1000000) {w : World} (hD : DmW w) :
    Calls Tryz.prog 60 #[.string ⟨l.toArray⟩] w fun e w' => (∃ (x : LO) (b : Bool), e = .returned (.tuple #[.agg x.enc.toArray, .bool b]) ∧ (b = true → rL l = some x) ∧ (b = false → rL l = none)) ∧ Below w.heap.size w w' := by
  obtain ⟨w1, hw1⟩ : ∃ w1, w1 = w.alloc (.cells #[.int .i64 0, .int .i64 0, .int .i64 0] 46) := ⟨_, rfl⟩
  have HB1 : Hid (Below w.heap.size w w1) := Lib.hid (by rw [hw1]; exact below_new w _)
  have HX1 : Hid (B3 w1 w.heap.size (.int .i64 0) (.int .i64 0) (.int .i64 0)) := Lib.hid (by rw [hw1]; exact B3.new w _ _ _ _)
  have hD1 := hD.below HB1.out
  have hS := split_any hl hD1
  obtain ⟨L, hL⟩ : ∃ L, L = spl 32 l := ⟨_, rfl⟩
  rw [← hL] at hS
  have HL := Lib.hid hL
  have HW1 := Lib.hid hw1
  have HLS : Hid (∀ x ∈ L, x.length ≤ 1000000) := Lib.hid (fun x hx => by rw [hL] at hx; exact Nat.le_trans (spl_short hx) hl)
  by_cases h5 : L.length = 4
  case neg =>
    have HN : Hid (rL l = none) := Lib.hid (pL_len (by rw [← hL]; exact h5))
    have k0 : ((L.length : Int) != 4) = true := by rw [bne_iff_ne]; omega
    have k1 : ((L.length : Int) == 4) = false := by rw [beq_eq_false_iff_ne]; omega
    clear hD hD1 hL h5 hw1
    go_enter Tryz.func60, Tryz.ntmps60
    go_upto_region 1 with fail
    rw [← HW1.out]
    go_upto_region 3 with (go_at_call 72; (with_reducible refine hS.mono ?_); rintro e w2 ⟨rfl, hw2⟩; have HB2 : Hid (Below w1.heap.size w1 w2) := Lib.hid (by rw [hw2]; exact below_new w1 _); clear hw2)
    have HX2 := Lib.hid (HX1.out.below HB2.out)
    obtain ⟨_, x0, x1, x2, f0, f1, f2⟩ := HX2.out
    go_wp2
    obtain ⟨_, z0, z1, z2, _⟩ := HX2.out.put (.int .i64 0) (.int .i64 0) (.int .i64 0)
    unfold put3 at z0 z1 z2
    refine bodyPost_ret (v := .tuple #[.agg #[.int .i64 0, .int .i64 0, .int .i64 0], .bool false]) (by simp [results, Tryz.results60, go_sem, z0, z1, z2]) rfl ?_
    exact ⟨⟨LO.zero, false, rfl, fun h => (by cases h), fun _ => HN.out⟩, below_put3 (HB1.out.trans (HB2.out.mono HB1.out.size)) (Nat.le_refl _)⟩
  obtain ⟨a, b, c, d, rfl⟩ : ∃ a b c d, L = [a, b, c, d] := by
    match L, h5 with
    | [a, b, c, d], _ => exact ⟨a, b, c, d, rfl⟩
  change Calls Tryz.prog 72 #[.string ⟨l.toArray⟩, .string ⟨#[32]⟩] w1 (fun e' w' => e' = .returned (.slice (some ⟨w1.heap.size, 0, none⟩) 4 4) ∧ w' = w1.alloc (.cells #[Bs a, Bs b, Bs c, Bs d] 9)) at hS
  have hQ := new4 w1 (Bs a) (Bs b) (Bs c) (Bs d) 9
  have HB2 := Lib.hid (below_new w1 (.cells #[Bs a, Bs b, Bs c, Bs d] 9))
  have HSZ2 : Hid (w1.heap.size < (w1.alloc (.cells #[Bs a, Bs b, Bs c, Bs d] 9)).heap.size) := Lib.hid (by simp)
  have HX2 := Lib.hid (HX1.out.below HB2.out)
  have hD2 := hD1.below HB2.out
  clear h5 hD hD1 hw1 HX1
  generalize w1.alloc (.cells #[Bs a, Bs b, Bs c, Bs d] 9) = w2 at hS hQ HB2 HX2 hD2 HSZ2
  have HBW2 : Hid (Below w.heap.size w w2) := Lib.hid (HB1.out.trans (HB2.out.mono HB1.out.size))
  have hws : ∀ V, Below w2.heap.size w2 V → WsS V (.slice (some ⟨w1.heap.size, 2, none⟩) 2 2) [c, d] := fun V hb => words_st rfl (by simp) (by unfold maxLen; omega) (Nat.lt_of_lt_of_le HSZ2.out hb.size) (fun j hj => by
    have hj3 : j < 2 := hj
    match j, hj3 with
    | 0, _ => exact cell_keep hb hQ.2.2.1
    | 1, _ => exact cell_keep hb hQ.2.2.2)
  obtain ⟨q0, q1, q2, q3⟩ := hQ
  have HCL : Hid (∀ x ∈ [c, d], x.length ≤ 1000000) := Lib.hid (fun x hx => HLS.out x (by simp only [List.mem_cons, List.not_mem_nil, or_false] at hx ⊢; rcases hx with h | h <;> simp [h]))
  have HN2 : Hid (∀ V, Below w2.heap.size w2 V → _) := Lib.hid (fun V hb => num2_any (hws V hb) (hD2.below hb) HCL.out)
  have hC := toC_two (toChart_any (HLS.out b (by simp)) hD2)
  have HD2 := Lib.hid hD2
  have hP := @pL_no l a b c d HL.out.symm
  have hPY := @pL_is l b c d
  clear hL hws hD2
  by_cases ha : a = lostW
  case neg =>
    have k2 : (a == [108, 111, 115, 116]) = false := by rw [beq_eq_false_iff_ne]; exact ha
    have HNO : Hid (rL l = none) := Lib.hid (hP (fun x y z he _ _ _ => absurd he ha))
    obtain ⟨_, x0, x1, x2, f0, f1, f2⟩ := HX2.out
    clear hP hPY HN2 hC ha
    go_enter Tryz.func60, Tryz.ntmps60
    go_upto_region 1 with fail
    rw [← HW1.out]
    go_wp2_with (go_at_call 72; (with_reducible refine hS.mono ?_); rintro e' w3 ⟨rfl, rfl⟩)
    obtain ⟨_, z0, z1, z2, _⟩ := HX2.out.put (.int .i64 0) (.int .i64 0) (.int .i64 0)
    unfold put3 at z0 z1 z2
    refine bodyPost_ret (v := .tuple #[.agg #[.int .i64 0, .int .i64 0, .int .i64 0], .bool false]) (by simp [results, Tryz.results60, go_sem, z0, z1, z2]) rfl ?_
    exact ⟨⟨LO.zero, false, rfl, fun h => (by cases h), fun _ => HNO.out⟩, below_put3 HBW2.out (Nat.le_refl _)⟩
  have k2 : (a == [108, 111, 115, 116]) = true := by rw [beq_iff_eq]; exact ha
  have HNC : Hid (codC b = none → rL l = none) := Lib.hid (fun h => hP (fun x y z _ hx _ _ => by rw [h] at hx; cases hx))
  have HNN : Hid ((¬ ∃ y z, num1 c = some y ∧ num1 d = some z) → rL l = none) := Lib.hid (fun h => hP (fun x y z _ _ hy hz => absurd ⟨y, z, hy, hz⟩ h))
  by_cases hnum : ∃ y z, num1 c = some y ∧ num1 d = some z
  case neg =>
    have HNO := Lib.hid (HNN.out hnum)
    have HN3 : Hid (∀ V, Below w2.heap.size w2 V → _) := Lib.hid (fun V hb => (HN2.out V hb).2 hnum)
    generalize codC b = oc at hC HNC
    clear hP hPY HN2 hnum HNN ha
    generalize oc.getD 0 = x at hC
    generalize oc.isSome = bs at hC
    cases bs
    all_goals
      go_enter Tryz.func60, Tryz.ntmps60
      go_upto_region 1 with fail
      rw [← HW1.out]
      go_upto_region 6 with (first
        | (go_at_call 72; (with_reducible refine hS.mono ?_); rintro e' w3 ⟨rfl, rfl⟩)
        | (go_at_call 75; (with_reducible refine hC.mono ?_); rintro e' w4 ⟨rfl, hb4⟩; have HB4 := Lib.hid hb4; have hN := HN3.out w4 hb4; clear hb4)
        | (go_at_call 73; (with_reducible refine hN.mono ?_); rintro e' w5 ⟨rfl, hb5⟩; have HB5 := Lib.hid (HB4.out.trans (hb5.mono HB4.out.size)); clear hb5))
      have HX5 := Lib.hid (HX2.out.below HB5.out)
      obtain ⟨_, x0, x1, x2, f0, f1, f2⟩ := HX5.out
      go_wp2
      obtain ⟨_, z0, z1, z2, _⟩ := HX5.out.put (.int .i64 0) (.int .i64 0) (.int .i64 0)
      unfold put3 at z0 z1 z2
      refine bodyPost_ret (v := .tuple #[.agg #[.int .i64 0, .int .i64 0, .int .i64 0], .bool false]) (by simp [results, Tryz.results60, go_sem, z0, z1, z2]) rfl ?_
      exact ⟨⟨LO.zero, false, rfl, fun h => (by cases h), fun _ => HNO.out⟩, below_put3 (HBW2.out.trans (HB5.out.mono HBW2.out.size)) (Nat.le_refl _)⟩
  cases hoc : codC b with
  | none =>
    have HNO := Lib.hid (HNC.out hoc)
    rw [hoc] at hC
    have HN3 : Hid (∀ V, Below w2.heap.size w2 V → ∃ y z, num1 c = some y ∧ num1 d = some z ∧ _) := Lib.hid (fun V hb => (HN2.out V hb).1 hnum)
    change Calls Tryz.prog 75 #[.string ⟨b.toArray⟩] w2 (fun e w' => e = .returned (.tuple #[.int .i64 0, .bool false]) ∧ Below w2.heap.size w2 w') at hC
    clear hP hPY HN2 hnum HNN ha HNC hoc
    go_enter Tryz.func60, Tryz.ntmps60
    go_upto_region 1 with fail
    rw [← HW1.out]
    go_upto_region 6 with (first
        | (go_at_call 72; (with_reducible refine hS.mono ?_); rintro e' w3 ⟨rfl, rfl⟩)
        | (go_at_call 75; (with_reducible refine hC.mono ?_); rintro e' w4 ⟨rfl, hb4⟩; have HB4 := Lib.hid hb4; obtain ⟨y, z, _, _, hN⟩ := HN3.out w4 hb4; clear hb4)
        | (go_at_call 73; (with_reducible refine hN.mono ?_); rintro e' w5 ⟨g, rfl, n0, n1, hb5⟩; have HB5 := Lib.hid (HB4.out.trans (hb5.mono HB4.out.size)); clear hb5))
    have HX5 := Lib.hid (HX2.out.below HB5.out)
    obtain ⟨_, x0, x1, x2, f0, f1, f2⟩ := HX5.out
    go_wp2
    obtain ⟨_, z0, z1, z2, _⟩ := HX5.out.put (.int .i64 0) (.int .i64 0) (.int .i64 0)
    unfold put3 at z0 z1 z2
    refine bodyPost_ret (v := .tuple #[.agg #[.int .i64 0, .int .i64 0, .int .i64 0], .bool false]) (by simp [results, Tryz.results60, go_sem, z0, z1, z2]) rfl ?_
    exact ⟨⟨LO.zero, false, rfl, fun h => (by cases h), fun _ => HNO.out⟩, below_put3 (HBW2.out.trans (HB5.out.mono HBW2.out.size)) (Nat.le_refl _)⟩
  | some x =>
    rw [hoc] at hC
    change Calls Tryz.prog 75 #[.string ⟨b.toArray⟩] w2 (fun e w' => e = .returned (.tuple #[.int .i64 x, .bool true]) ∧ Below w2.heap.size w2 w') at hC
    have hnn := hnum
    obtain ⟨y, z, hy, hz⟩ := hnn
    have HN3 : Hid (∀ V, Below w2.heap.size w2 V → Calls Tryz.prog 73 #[.slice (some ⟨w1.heap.size, 2, none⟩) 2 2] V fun e w' => ∃ q, e = .returned (.tuple #[.slice (some ⟨q, 0, none⟩) 2 2, .bool true]) ∧ w'.cell? ⟨q, 0, none⟩ = some (.int .i64 y) ∧ w'.cell? ⟨q, 1, none⟩ = some (.int .i64 z) ∧ Below V.heap.size V w') := Lib.hid (fun V hb => by
      obtain ⟨y', z', hy', hz', h⟩ := (HN2.out V hb).1 hnum
      rw [hy] at hy'; rw [hz] at hz'
      injection hy' with hy'; injection hz' with hz'
      subst hy'; subst hz'
      exact h)
    have HIL : Hid (∀ V, _) := Lib.hid (fun V => isLost_any ⟨x, y, z⟩ V)
    have HY : Hid (loOk ⟨x, y, z⟩ = true → rL l = some ⟨x, y, z⟩) := Lib.hid (fun h => hPY (by rw [← ha]; exact HL.out.symm) hoc hy hz h)
    have HNO : Hid (loOk ⟨x, y, z⟩ = false → rL l = none) := Lib.hid (fun h => hP (fun x' y' z' _ hx' hy' hz' => by
      rw [hoc] at hx'; rw [hy] at hy'; rw [hz] at hz'
      injection hx' with hx'; injection hy' with hy'; injection hz' with hz'
      rw [← hx', ← hy', ← hz']; exact h))
    generalize loOk ⟨x, y, z⟩ = ok at HIL HY HNO
    unfold LO.enc at HIL
    clear hP hPY HN2 hnum HNN ha HNC hoc hy hz
    go_enter Tryz.func60, Tryz.ntmps60
    go_upto_region 1 with fail
    rw [← HW1.out]
    go_upto_region 8 with (first
        | (go_at_call 72; (with_reducible refine hS.mono ?_); rintro e' w3 ⟨rfl, rfl⟩)
        | (go_at_call 75; (with_reducible refine hC.mono ?_); rintro e' w4 ⟨rfl, hb4⟩; have HB4 := Lib.hid hb4; have hN := HN3.out w4 hb4; clear hb4)
        | (go_at_call 73; (with_reducible refine hN.mono ?_); rintro e' w5 ⟨g, rfl, n0, n1, hb5⟩; have HB5 := Lib.hid (HB4.out.trans (hb5.mono HB4.out.size)); clear hb5))
    have HBW5 : Hid (Below w.heap.size w w5) := Lib.hid (HBW2.out.trans (HB5.out.mono HBW2.out.size))
    have HX5 := Lib.hid (HX2.out.below HB5.out)
    have HSG : Hid (∀ V, Below w5.heap.size w5 V → (fun V => V.cell? ⟨g, 0, none⟩ = some (.int .i64 y) ∧ V.cell? ⟨g, 1, none⟩ = some (.int .i64 z)) V) := Lib.hid (fun V hb => ⟨cell_keep hb n0, cell_keep hb n1⟩)
    have hba : Below w5.heap.size w5 (w5.alloc (.cells #[.int .i64 0, .int .i64 0, .int .i64 0] 46)).drew := ((Below.refl _ _).alloc (Nat.le_refl _) _).drew
    have HA0 : Hid (Below w5.heap.size w5 w5.drew) := Lib.hid (Below.refl _ _).drew
    have HA1 := Lib.hid hba
    have HA2 : Hid (Below w5.heap.size w5 ((((w5.alloc (.cells #[.int .i64 0, .int .i64 0, .int .i64 0] 46)).drew.setCell ⟨w5.heap.size, 0, none⟩ (.int .i64 x)).setCell ⟨w5.heap.size, 1, none⟩ (.int .i64 y)).setCell ⟨w5.heap.size, 2, none⟩ (.int .i64 z))) := Lib.hid (below_put3 hba (Nat.le_refl _))
    have HA3 : Hid (Below w5.heap.size w5 (w5.alloc (.cells #[.int .i64 x, .int .i64 y, .int .i64 z] 46)).drew) := Lib.hid ((Below.refl _ _).alloc (Nat.le_refl _) _).drew
    have HY5 : Hid (B3 (w5.alloc (.cells #[.int .i64 x, .int .i64 y, .int .i64 z] 46)).drew w5.heap.size (.int .i64 x) (.int .i64 y) (.int .i64 z)) := Lib.hid ((B3.new w5 (.int .i64 x) (.int .i64 y) (.int .i64 z) 46).below (Below.refl _ _).drew)
    clear hba q0 q1 q2 q3
    go_region_held3 (fun V => V.cell? ⟨g, 0, none⟩ = some (.int .i64 y) ∧ V.cell? ⟨g, 1, none⟩ = some (.int .i64 z)) (first | with_reducible exact HSG.out _ HA0.out | with_reducible exact HSG.out _ HA1.out | with_reducible exact HSG.out _ HA2.out | with_reducible exact HSG.out _ HA3.out) (fail)
    all_goals
      have HB6 : Hid (Below w.heap.size w (w5.alloc (.cells #[.int .i64 x, .int .i64 y, .int .i64 z] 46)).drew) := Lib.hid (HBW5.out.trans (HA3.out.mono HBW5.out.size))
      have HX6 := Lib.hid (HX5.out.below HA3.out)
      clear HSG HA0 HA1 HA2 HA3 n0 n1
      obtain ⟨v5, hv5⟩ : ∃ v5, v5 = (w5.alloc (.cells #[.int .i64 x, .int .i64 y, .int .i64 z] 46)).drew := ⟨_, rfl⟩
      rw [← hv5] at HB6 HX6 HY5 ⊢
      clear hv5
      have hIL := HIL.out v5
      obtain ⟨_, p0, p1, p2, _⟩ := HY5.out
      cases ok
      · go_wp2_with (go_at_call 34; (with_reducible refine hIL.mono ?_); rintro e' w6 ⟨rfl, hb6⟩; have HB7 : Hid (Below w.heap.size w w6) := Lib.hid (HB6.out.trans (hb6.mono HB6.out.size)); have HX7 := Lib.hid (HX6.out.below hb6); obtain ⟨_, x0, x1, x2, f0, f1, f2⟩ := HX7.out; clear hb6)
        obtain ⟨_, z0, z1, z2, _⟩ := HX7.out.put (.int .i64 0) (.int .i64 0) (.int .i64 0)
        unfold put3 at z0 z1 z2
        refine bodyPost_ret (v := .tuple #[.agg #[.int .i64 0, .int .i64 0, .int .i64 0], .bool false]) (by simp [results, Tryz.results60, go_sem, z0, z1, z2]) rfl ?_
        exact ⟨⟨LO.zero, false, rfl, fun h => (by cases h), fun _ => HNO.out (by first | rfl | trivial)⟩, below_put3 HB7.out (Nat.le_refl _)⟩
      · go_wp2_with (go_at_call 34; (with_reducible refine hIL.mono ?_); rintro e' w6 ⟨rfl, hb6⟩; have HB7 : Hid (Below w.heap.size w w6) := Lib.hid (HB6.out.trans (hb6.mono HB6.out.size)); have HX7 := Lib.hid (HX6.out.below hb6); obtain ⟨_, x0, x1, x2, f0, f1, f2⟩ := HX7.out; obtain ⟨_, s0, s1, s2, _⟩ := HY5.out.below hb6; clear hb6)
        obtain ⟨_, z0, z1, z2, _⟩ := HX7.out.put (.int .i64 x) (.int .i64 y) (.int .i64 z)
        unfold put3 at z0 z1 z2
        refine bodyPost_ret (v := .tuple #[.agg #[.int .i64 x, .int .i64 y, .int .i64 z], .bool true]) (by simp [results, Tryz.results60, go_sem, z0, z1, z2]) rfl ?_
        exact ⟨⟨⟨x, y, z⟩, true, rfl, fun _ => HY.out (by first | rfl | trivial), fun h => (by cases h)⟩, below_put3 HB7.out (Nat.le_refl _)⟩
end Go.Proofs.YtfmpbohiahjafaaGreatDoor
