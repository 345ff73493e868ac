/- Reports of damage: the program's reading of a line. -/
import Derived.Test.YtfmpbohiahjafaaGreatDoorDmgL
import Derived.Test.YtfmpbohiahjafaaGreatDoorDmgB
import Derived.Deep.RegionWith
namespace Go.Proofs.YtfmpbohiahjafaaGreatDoor
open Go.RowKit Go.Lib Go.Shelf Go.Sort

theorem splitB_spl (l : List UInt8) : (Lib.splitB ⟨#[32]⟩ 0 (Lib.countB ⟨l.toArray⟩ ⟨#[32]⟩) ⟨l.toArray⟩).map Value.string = (spl 32 l).map Bs := by
  have h := Lib.splitB_data ⟨#[32]⟩ 0 (Lib.countB ⟨l.toArray⟩ ⟨#[32]⟩) ⟨l.toArray⟩
  have h2 := splitK_spl 32 l.length l (Nat.le_refl _)
  have h3 : (Lib.splitB ⟨#[32]⟩ 0 (Lib.countB ⟨l.toArray⟩ ⟨#[32]⟩) ⟨l.toArray⟩).map (·.data.toList) = spl 32 l := h.trans h2
  rw [← h3, List.map_map]
  apply List.map_congr_left
  intro x _
  show Value.string x = Value.string ⟨x.data.toList.toArray⟩
  rw [Array.toArray_toList]
theorem split_any {l : List UInt8} (hl : l.length ≤ 1000000) {w : World} (hD : DmW w) :
    Calls Tryz.prog 72 #[.string ⟨l.toArray⟩, .string ⟨#[32]⟩] w fun e w' => e = .returned (.slice (some ⟨w.heap.size, 0, none⟩) (spl 32 l).length (spl 32 l).length) ∧ w' = w.alloc (.cells ((spl 32 l).map Bs).toArray 9) := by
  obtain ⟨m, hm⟩ := hD.ml
  have hsz := bsz l
  have hS := Any.strings_Split Tryz.lays146 (by kernel_rfl) ⟨l.toArray⟩ ⟨#[32]⟩ m w (by omega) hm (by decide)
  change Calls Tryz.prog 72 _ _ _ at hS
  have e1 := splitB_spl l
  have e2 := congrArg List.length e1
  rw [List.length_map, List.length_map, Lib.splitB_all ⟨#[32]⟩ (by decide) 0 _ ⟨l.toArray⟩ rfl] at e2
  rw [e1, e2] at hS
  exact hS
/-- Words of a line that lie in a block. -/
theorem words_at (w : World) (L : List (List UInt8)) (t : TypeId) : ∀ V, Below (w.heap.size + 1) (w.alloc (.cells (L.map Bs).toArray t)) V → ∀ j, j < L.length → V.cell? ⟨w.heap.size, j, none⟩ = some (Bs (L.getD j [])) := by
  intro V hb j hj
  refine (hb.cell (p := ⟨w.heap.size, j, none⟩) (by show w.heap.size < _; omega)).trans ?_
  rw [cell_of_row _ _ _ _ _ (0, 0) (heap_alloc_new w _)]
  simp [List.getD, hj]
theorem words_st {W : World} {b off n c : Nat} {L : List (List UInt8)} (hn : n = L.length) (h1 : L.length ≤ c) (h2 : c ≤ maxLen) (hb : b < W.heap.size) (hc : ∀ j, j < L.length → W.cell? ⟨b, off + j, none⟩ = some (Bs (L.getD j []))) : WsS W (.slice (some ⟨b, off, none⟩) n c) L := by
  subst hn
  refine ⟨_, c, rfl, h1, h2, .inr ⟨b, off, rfl, hb, fun j hj q u hu => ?_⟩⟩
  obtain rfl : q = 0 := by have := (List.getElem?_eq_some_iff.1 hu).1; rw [encB_len] at this; omega
  have : u = Bs (L.getD j []) := by simpa [encB] using hu.symm
  rw [this, Nat.mul_one, Nat.add_zero]
  exact hc j hj
theorem toC_num {s : List UInt8} (hs : s.length ≤ 1000000) {w : World} (hD : DmW w) (t : TypeId) : Calls Tryz.prog 73 #[.slice (some ⟨w.heap.size, 0, none⟩) 1 1] (w.alloc (.cells #[Bs s] t)) fun e w' => Below w.heap.size w w' ∧ ((∃ x b, num1 s = some x ∧ e = .returned (.tuple #[.slice (some ⟨b, 0, none⟩) 1 1, .bool true]) ∧ w'.cell? ⟨b, 0, none⟩ = some (.int .i64 x)) ∨ num1 s = none ∧ e = .returned (.tuple #[.slice none 0 0, .bool false])) := by
  have hb := below_new w (.cells #[Bs s] t)
  have hW : WsS (w.alloc (.cells #[Bs s] t)) (.slice (some ⟨w.heap.size, 0, none⟩) 1 1) [s] := words_st rfl (Nat.le_refl 1) (by unfold maxLen; omega) (by simp) (fun j hj => by
    obtain rfl : j = 0 := by simpa using hj
    have := new_cells w [Bs s] t 0 (Bs s) rfl
    rw [add_mid0] at this
    exact this)
  refine (numbers_any hW (hD.below hb) (by simp) (fun x hx => by rw [List.mem_singleton] at hx; rw [hx]; exact hs)).mono ?_
  rintro e w' ⟨hb2, h | h⟩
  · obtain ⟨V, hV, hn, b, he, hr⟩ := h
    refine ⟨hb.trans (hb2.mono hb.size), .inl ⟨V.getD 0 0, b, hn 0 (by simp), he, ?_⟩⟩
    exact (hr.2 0 (by rw [hV]; simp)).1
  · obtain ⟨⟨j, hj, hn⟩, he⟩ := h
    obtain rfl : j = 0 := by simpa using hj
    exact ⟨hb.trans (hb2.mono hb.size), .inr ⟨hn, he⟩⟩
theorem toC_he {s : List UInt8} {e : Ending} {w' : World} (h : (∃ x b, num1 s = some x ∧ e = .returned (.tuple #[.slice (some ⟨b, 0, none⟩) 1 1, .bool true]) ∧ w'.cell? ⟨b, 0, none⟩ = some (.int .i64 x)) ∨ num1 s = none ∧ e = .returned (.tuple #[.slice none 0 0, .bool false])) (hn : num1 s = none) : e = .returned (.tuple #[.slice none 0 0, .bool false]) := by
  rcases h with ⟨x, b, hx, _⟩ | ⟨_, he⟩
  · rw [hn] at hx; cases hx
  · exact he
set_option maxHeartbeats 4000000 in
set_option maxRecDepth 100000 in
theorem toChart_any {s : List UInt8} (hs : s.length ≤ 1000000) {w : World} (hD : DmW w) :
    Calls Tryz.prog 75 #[.string ⟨s.toArray⟩] w fun e w' => Below w.heap.size w w' ∧ ((∃ x, codC s = some x ∧ e = .returned (.tuple #[.int .i64 x, .bool true])) ∨ codC s = none ∧ e = .returned (.tuple #[.int .i64 0, .bool false])) := by
  have hN := toC_num hs hD 9
  by_cases h0 : s = nowW
  · subst h0
    clear hN
    go_enter Tryz.func75, Tryz.ntmps75
    go_wp2
    go_ret2
    exact ⟨Below.refl _ _, .inl ⟨-1, by decide, rfl⟩⟩
  · have e0 : (s == nowW) = false := by rw [beq_eq_false_iff_ne]; exact h0
    have e1 : (s == [110, 111, 119]) = false := e0
    have HC : Hid (∀ x, num1 s = some x → codC s = if x = -1 then none else some x) := Lib.hid (fun x hx => by unfold codC; rw [if_neg h0, hx])
    have HC2 : Hid (num1 s = none → codC s = none) := Lib.hid (fun hx => by unfold codC; rw [if_neg h0, hx])
    clear h0 hD
    cases hn : num1 s with
    | none =>
      have HZ := Lib.hid (HC2.out hn)
      have hN2 : Calls Tryz.prog 73 #[.slice (some ⟨w.heap.size, 0, none⟩) 1 1] (w.alloc (.cells #[Bs s] 9)) (fun e w' => e = .returned (.tuple #[.slice none 0 0, .bool false]) ∧ Below w.heap.size w w') := hN.mono (fun e w' h => ⟨by exact toC_he h.2 hn, h.1⟩)
      clear hN HC HC2 hn
      go_enter Tryz.func75, Tryz.ntmps75
      go_wp2_with (go_at_call 73; (with_reducible refine hN2.mono ?_); rintro e w2 ⟨rfl, hb2⟩; have HB2 := Lib.hid hb2; clear hb2)
      go_ret2
      exact ⟨HB2.out, .inr ⟨HZ.out, rfl⟩⟩
    | some x =>
      have HZ := Lib.hid (HC.out x hn)
      have hN2 : Calls Tryz.prog 73 #[.slice (some ⟨w.heap.size, 0, none⟩) 1 1] (w.alloc (.cells #[Bs s] 9)) (fun e w' => ∃ b, e = .returned (.tuple #[.slice (some ⟨b, 0, none⟩) 1 1, .bool true]) ∧ Below w.heap.size w w' ∧ w'.cell? ⟨b, 0, none⟩ = some (.int .i64 x)) := hN.mono (fun e w' h => by
        rcases h.2 with ⟨y, b, hx, he, hc⟩ | ⟨h0, _⟩
        · rw [hn] at hx
          injection hx with hx
          subst hx
          exact ⟨b, he, h.1, hc⟩
        · rw [hn] at h0; cases h0)
      clear hN HC HC2 hn
      by_cases hx : x = -1
      · subst hx
        rw [if_pos rfl] at HZ
        go_enter Tryz.func75, Tryz.ntmps75
        go_wp2_with (go_at_call 73; (with_reducible refine hN2.mono ?_); rintro e w2 ⟨b, rfl, hb2, hc⟩; have HB2 := Lib.hid hb2; clear hb2)
        go_ret2
        exact ⟨HB2.out, .inr ⟨HZ.out, rfl⟩⟩
      · rw [if_neg hx] at HZ
        have k0 : (x == -1) = false := by rw [beq_eq_false_iff_ne]; exact hx
        clear hx
        go_enter Tryz.func75, Tryz.ntmps75
        go_wp2_with (go_at_call 73; (with_reducible refine hN2.mono ?_); rintro e w2 ⟨b, rfl, hb2, hc⟩; have HB2 := Lib.hid hb2; clear hb2)
        go_ret2
        exact ⟨HB2.out, .inl ⟨x, HZ.out, rfl⟩⟩
/-- A block of five cells that may be written. -/
structure B5 (W : World) (b : Nat) (v0 v1 v2 v3 v4 : Value) : Prop where
  lt : b < W.heap.size
  c0 : W.cell? ⟨b, 0, none⟩ = some v0
  c1 : W.cell? ⟨b, 1, none⟩ = some v1
  c2 : W.cell? ⟨b, 2, none⟩ = some v2
  c3 : W.cell? ⟨b, 3, none⟩ = some v3
  c4 : W.cell? ⟨b, 4, none⟩ = some v4
  f0 : W.frozen? ⟨b, 0, none⟩ = false
  f1 : W.frozen? ⟨b, 1, none⟩ = false
  f2 : W.frozen? ⟨b, 2, none⟩ = false
  f3 : W.frozen? ⟨b, 3, none⟩ = false
  f4 : W.frozen? ⟨b, 4, none⟩ = false
theorem B5.new (w : World) (v0 v1 v2 v3 v4 : Value) (t : TypeId) : B5 (w.alloc (.cells #[v0, v1, v2, v3, v4] t)) w.heap.size v0 v1 v2 v3 v4 := by
  obtain ⟨y0, y1, y2, y3, y4⟩ := new5 w v0 v1 v2 v3 v4 t
  have hf := fun o => frozen_of_row (w.alloc (.cells #[v0, v1, v2, v3, v4] t)) w.heap.size o _ t (heap_alloc_new w _)
  exact ⟨by simp, y0, y1, y2, y3, y4, hf 0, hf 1, hf 2, hf 3, hf 4⟩
theorem B5.below {W W' : World} {b : Nat} {v0 v1 v2 v3 v4 : Value} (h : B5 W b v0 v1 v2 v3 v4) (hb : Below W.heap.size W W') : B5 W' b v0 v1 v2 v3 v4 :=
  ⟨Nat.lt_of_lt_of_le h.lt hb.size, cell_keep hb h.c0, cell_keep hb h.c1, cell_keep hb h.c2, cell_keep hb h.c3, cell_keep hb h.c4,
    (hb.frozen (p := ⟨b, 0, none⟩) h.lt).trans h.f0, (hb.frozen (p := ⟨b, 1, none⟩) h.lt).trans h.f1, (hb.frozen (p := ⟨b, 2, none⟩) h.lt).trans h.f2, (hb.frozen (p := ⟨b, 3, none⟩) h.lt).trans h.f3, (hb.frozen (p := ⟨b, 4, none⟩) h.lt).trans h.f4⟩
/-- Five stores. -/
def put5 (W : World) (b : Nat) (v0 v1 v2 v3 v4 : Value) : World := ((((W.setCell ⟨b, 0, none⟩ v0).setCell ⟨b, 1, none⟩ v1).setCell ⟨b, 2, none⟩ v2).setCell ⟨b, 3, none⟩ v3).setCell ⟨b, 4, none⟩ v4
theorem put_same {w : World} {b i : Nat} {u : Value} (hc : w.cell? ⟨b, i, none⟩ = some u) (v : Value) : (w.setCell ⟨b, i, none⟩ v).cell? ⟨b, i, none⟩ = some v := World.cell?_setCell_same' _ _ _ (by rw [hc]; rfl)
theorem put_else (w : World) (b i j : Nat) (v : Value) (hij : i ≠ j) : (w.setCell ⟨b, i, none⟩ v).cell? ⟨b, j, none⟩ = w.cell? ⟨b, j, none⟩ := World.cell?_setCell_other _ _ _ _ (by intro e; injection e with _ e; omega)
theorem B5.put {W : World} {b : Nat} {v0 v1 v2 v3 v4 : Value} (h : B5 W b v0 v1 v2 v3 v4) (u0 u1 u2 u3 u4 : Value) : B5 (put5 W b u0 u1 u2 u3 u4) b u0 u1 u2 u3 u4 := by
  unfold put5
  have hf (o : Nat) (hh : W.frozen? ⟨b, o, none⟩ = false) : (((((W.setCell ⟨b, 0, none⟩ u0).setCell ⟨b, 1, none⟩ u1).setCell ⟨b, 2, none⟩ u2).setCell ⟨b, 3, none⟩ u3).setCell ⟨b, 4, none⟩ u4).frozen? ⟨b, o, none⟩ = false := by
    rw [World.frozen?_setCell, World.frozen?_setCell, World.frozen?_setCell, World.frozen?_setCell, World.frozen?_setCell]; exact hh
  refine ⟨by simp only [World.size_setCell]; exact h.lt, ?_, ?_, ?_, ?_, ?_, hf 0 h.f0, hf 1 h.f1, hf 2 h.f2, hf 3 h.f3, hf 4 h.f4⟩
  · rw [put_else _ _ _ _ _ (by omega), put_else _ _ _ _ _ (by omega), put_else _ _ _ _ _ (by omega), put_else _ _ _ _ _ (by omega)]
    exact put_same h.c0 _
  · rw [put_else _ _ _ _ _ (by omega), put_else _ _ _ _ _ (by omega), put_else _ _ _ _ _ (by omega)]
    exact put_same ((put_else _ _ _ _ _ (by omega)).trans h.c1) _
  · rw [put_else _ _ _ _ _ (by omega), put_else _ _ _ _ _ (by omega)]
    exact put_same ((put_else _ _ _ _ _ (by omega)).trans ((put_else _ _ _ _ _ (by omega)).trans h.c2)) _
  · rw [put_else _ _ _ _ _ (by omega)]
    exact put_same ((put_else _ _ _ _ _ (by omega)).trans ((put_else _ _ _ _ _ (by omega)).trans ((put_else _ _ _ _ _ (by omega)).trans h.c3))) _
  · exact put_same ((put_else _ _ _ _ _ (by omega)).trans ((put_else _ _ _ _ _ (by omega)).trans ((put_else _ _ _ _ _ (by omega)).trans ((put_else _ _ _ _ _ (by omega)).trans h.c4)))) _
theorem below_put5 {B : Nat} {w W : World} {b : Nat} {v0 v1 v2 v3 v4 : Value} (h : Below B w W) (hB : B ≤ b) : Below B w (put5 W b v0 v1 v2 v3 v4) := by
  unfold put5
  exact below_set (below_set (below_set (below_set (below_set h hB) hB) hB) hB) hB
theorem codK_ge (a : List UInt8) : 0 ≤ codK a := by
  unfold codK
  split
  · decide
  · split
    · decide
    · split <;> decide
theorem num3_no {b c d : List UInt8} (h : ¬ ∃ x y z, num1 b = some x ∧ num1 c = some y ∧ num1 d = some z) {V : List Int} (hV : ∀ j, j < 3 → num1 ([b, c, d].getD j []) = some (V.getD j 0)) : False :=
  h ⟨V.getD 0 0, V.getD 1 0, V.getD 2 0, hV 0 (by omega), hV 1 (by omega), hV 2 (by omega)⟩
/-- Three numbers, or none. -/
theorem num3_any {b c d : List UInt8} {w : World} {v : Value} (hv : WsS w v [b, c, d]) (hD : DmW w) (hl : ∀ x ∈ [b, c, d], x.length ≤ 1000000) :
    ((∃ x y z, num1 b = some x ∧ num1 c = some y ∧ num1 d = some z) → ∃ x y z, num1 b = some x ∧ num1 c = some y ∧ num1 d = some z ∧ Calls Tryz.prog 73 #[v] w fun e w' => ∃ q, e = .returned (.tuple #[.slice (some ⟨q, 0, none⟩) 3 3, .bool true]) ∧ w'.cell? ⟨q, 0, none⟩ = some (.int .i64 x) ∧ w'.cell? ⟨q, 1, none⟩ = some (.int .i64 y) ∧ w'.cell? ⟨q, 2, none⟩ = some (.int .i64 z) ∧ Below w.heap.size w w')
    ∧ ((¬ ∃ x y z, num1 b = some x ∧ num1 c = some y ∧ num1 d = some z) → Calls Tryz.prog 73 #[v] w fun e w' => e = .returned (.tuple #[.slice none 0 0, .bool false]) ∧ Below w.heap.size w w') := by
  have hN := numbers_any hv hD (by simp) hl
  refine ⟨fun ⟨x, y, z, hx, hy, hz⟩ => ⟨x, y, z, hx, hy, hz, hN.mono ?_⟩, fun h => hN.mono ?_⟩
  · rintro e w' ⟨hb, h | h⟩
    · obtain ⟨V, hV, hn, q, he, hr⟩ := h
      have hV3 : V.length = 3 := hV
      have a0 : some x = some (V.getD 0 0) := hx.symm.trans (hn 0 (by simp))
      have a1 : some y = some (V.getD 1 0) := hy.symm.trans (hn 1 (by simp))
      have a2 : some z = some (V.getD 2 0) := hz.symm.trans (hn 2 (by simp))
      injection a0 with a0
      injection a1 with a1
      injection a2 with a2
      refine ⟨q, he, ?_, ?_, ?_, hb⟩
      · rw [a0]; exact (hr.2 0 (by omega)).1
      · rw [a1]; exact (hr.2 1 (by omega)).1
      · rw [a2]; exact (hr.2 2 (by omega)).1
    · obtain ⟨⟨j, hj, hn⟩, _⟩ := h
      have hj3 : j < 3 := hj
      exfalso
      match j, hj3, hn with
      | 0, _, hn => have hn : num1 b = none := hn; rw [hx] at hn; cases hn
      | 1, _, hn => have hn : num1 c = none := hn; rw [hy] at hn; cases hn
      | 2, _, hn => have hn : num1 d = none := hn; rw [hz] at hn; cases hn
  · rintro e w' ⟨hb, h2 | h2⟩
    · obtain ⟨V, hV, hn, _⟩ := h2
      exact (num3_no h (fun j hj => hn j hj)).elim
    · exact ⟨h2.2, hb⟩
theorem spl_short {l : List UInt8} {x : List UInt8} {c : UInt8} (hx : x ∈ spl c l) : x.length ≤ l.length := by
  revert x
  induction l with
  | nil => intro x hx; rw [spl, List.mem_singleton] at hx; rw [hx]; exact Nat.le_refl _
  | cons b r ih =>
    intro x hx
    rw [spl] at hx
    split at hx
    · rcases List.mem_cons.1 hx with rfl | hx
      · simp
      · have := ih hx; rw [List.length_cons]; omega
    · cases hs : spl c r with
      | nil => exact absurd hs (spl_ne c r)
      | cons h t =>
        rw [hs] at hx ih
        rcases List.mem_cons.1 hx with rfl | hx
        · have := ih (List.mem_cons_self ..); rw [List.length_cons, List.length_cons]; omega
        · have := ih (List.mem_cons_of_mem _ hx); rw [List.length_cons]; omega
set_option maxHeartbeats 8000000 in
set_option maxRecDepth 100000 in
theorem toWound_any {l : List UInt8} (hl : l.length ≤ 1000000) {w : World} (hD : DmW w) :
    Calls Tryz.prog 59 #[.string ⟨l.toArray⟩] w fun e w' => (∃ (x : WD) (b : Bool), e = .returned (.tuple #[.agg x.enc.toArray, .bool b]) ∧ (b = true → rW l = some x) ∧ (b = false → rW l = none)) ∧ Below w.heap.size w w' := by
  obtain ⟨w1, hw1⟩ : ∃ w1, w1 = w.alloc (.cells #[.int .u8 0, .int .i64 0, .int .i64 0, .int .i64 0, .bool false] 42) := ⟨_, rfl⟩
  have HB1 : Hid (Below w.heap.size w w1) := Lib.hid (by rw [hw1]; exact below_new w _)
  have HX1 : Hid (B5 w1 w.heap.size (.int .u8 0) (.int .i64 0) (.int .i64 0) (.int .i64 0) (.bool false)) := Lib.hid (by rw [hw1]; exact B5.new w _ _ _ _ _ _)
  have hD1 := hD.below HB1.out
  have hS := split_any hl hD1
  obtain ⟨L, hL⟩ : ∃ L, L = spl 32 l := ⟨_, rfl⟩
  rw [← hL] at hS
  have HL := Lib.hid hL
  have HW1 := Lib.hid hw1
  have HLS : Hid (∀ x ∈ L, x.length ≤ 1000000) := Lib.hid (fun x hx => by rw [hL] at hx; exact Nat.le_trans (spl_short hx) hl)
  by_cases h5 : L.length = 5
  case neg =>
    have HN : Hid (rW l = none) := Lib.hid (pW_len (by rw [← hL]; exact h5))
    have k0 : ((L.length : Int) != 5) = true := by rw [bne_iff_ne]; omega
    have k1 : ((L.length : Int) == 5) = false := by rw [beq_eq_false_iff_ne]; omega
    clear hD hD1 hL h5 hw1
    go_enter Tryz.func59, Tryz.ntmps59
    go_upto_region 1 with fail
    rw [← HW1.out]
    go_upto_region 3 with (go_at_call 72; (with_reducible refine hS.mono ?_); rintro e w2 ⟨rfl, hw2⟩; have HB2 : Hid (Below w1.heap.size w1 w2) := Lib.hid (by rw [hw2]; exact below_new w1 _); clear hw2)
    have HX2 := Lib.hid (HX1.out.below HB2.out)
    obtain ⟨_, x0, x1, x2, x3, x4, f0, f1, f2, f3, f4⟩ := HX2.out
    go_wp2
    obtain ⟨_, z0, z1, z2, z3, z4, _⟩ := HX2.out.put (.int .u8 0) (.int .i64 0) (.int .i64 0) (.int .i64 0) (.bool false)
    unfold put5 at z0 z1 z2 z3 z4
    refine bodyPost_ret (v := .tuple #[.agg #[.int .u8 0, .int .i64 0, .int .i64 0, .int .i64 0, .bool false], .bool false]) (by simp [results, Tryz.results59, go_sem, z0, z1, z2, z3, z4]) rfl ?_
    exact ⟨⟨WD.zero, false, rfl, fun h => (by cases h), fun _ => HN.out⟩, below_put5 (HB1.out.trans (HB2.out.mono HB1.out.size)) (Nat.le_refl _)⟩
  obtain ⟨a, b, c, d, e, rfl⟩ : ∃ a b c d e, L = [a, b, c, d, e] := by
    match L, h5 with
    | [a, b, c, d, e], _ => exact ⟨a, b, c, d, e, rfl⟩
  change Calls Tryz.prog 72 #[.string ⟨l.toArray⟩, .string ⟨#[32]⟩] w1 (fun e' w' => e' = .returned (.slice (some ⟨w1.heap.size, 0, none⟩) 5 5) ∧ w' = w1.alloc (.cells #[Bs a, Bs b, Bs c, Bs d, Bs e] 9)) at hS
  have hQ := new5 w1 (Bs a) (Bs b) (Bs c) (Bs d) (Bs e) 9
  have HB2 := Lib.hid (below_new w1 (.cells #[Bs a, Bs b, Bs c, Bs d, Bs e] 9))
  have HSZ2 : Hid (w1.heap.size < (w1.alloc (.cells #[Bs a, Bs b, Bs c, Bs d, Bs e] 9)).heap.size) := Lib.hid (by simp)
  have HX2 := Lib.hid (HX1.out.below HB2.out)
  have hD2 := hD1.below HB2.out
  clear h5 hD hD1 hw1 HX1
  generalize w1.alloc (.cells #[Bs a, Bs b, Bs c, Bs d, Bs e] 9) = w2 at hS hQ HB2 HX2 hD2 HSZ2
  have HQ : Hid (∀ V, Below w2.heap.size w2 V → V.cell? ⟨w1.heap.size, 0, none⟩ = some (Bs a) ∧ V.cell? ⟨w1.heap.size, 1, none⟩ = some (Bs b) ∧ V.cell? ⟨w1.heap.size, 2, none⟩ = some (Bs c) ∧ V.cell? ⟨w1.heap.size, 3, none⟩ = some (Bs d) ∧ V.cell? ⟨w1.heap.size, 4, none⟩ = some (Bs e)) := Lib.hid (fun V hb => ⟨cell_keep hb hQ.1, cell_keep hb hQ.2.1, cell_keep hb hQ.2.2.1, cell_keep hb hQ.2.2.2.1, cell_keep hb hQ.2.2.2.2⟩)
  have HBW2 : Hid (Below w.heap.size w w2) := Lib.hid (HB1.out.trans (HB2.out.mono HB1.out.size))
  have hws : WsS w2 (.slice (some ⟨w1.heap.size, 1, none⟩) 3 4) [b, c, d] := words_st rfl (by simp) (by unfold maxLen; omega) HSZ2.out (fun j hj => by
    have hj3 : j < 3 := hj
    match j, hj3 with
    | 0, _ => exact hQ.2.1
    | 1, _ => exact hQ.2.2.1
    | 2, _ => exact hQ.2.2.2.1)
  obtain ⟨q0, q1, q2, q3, q4⟩ := hQ
  have hN3 := num3_any hws hD2 (fun x hx => HLS.out x (by simp only [List.mem_cons, List.not_mem_nil, or_false] at hx ⊢; rcases hx with h | h | h <;> simp [h]))
  have HD2 := Lib.hid hD2
  obtain ⟨bh, hbh⟩ : ∃ bh, bh = (e == [104, 101, 97, 108, 101, 100]) := ⟨_, rfl⟩
  obtain ⟨bo, hbo⟩ : ∃ bo, bo = (e == [111, 112, 101, 110]) := ⟨_, rfl⟩
  have HBH : Hid (bh = decide (e = healedW)) := Lib.hid (by rw [hbh, Bool.eq_iff_iff, beq_iff_eq, decide_eq_true_eq]; rfl)
  have HBO : Hid (bo = decide (e = openW)) := Lib.hid (by rw [hbo, Bool.eq_iff_iff, beq_iff_eq, decide_eq_true_eq]; rfl)
  have kh := hbh.symm
  have ko := hbo.symm
  clear hL hws hD2 hbh hbo
  have hP := @pW_no l a b c d e HL.out.symm
  have hPY := @pW_is l a b c d e
  by_cases hio : bh = false ∧ bo = false
  · obtain ⟨rfl, rfl⟩ := hio
    have HNO : Hid (rW l = none) := Lib.hid (hP (fun x y z he _ _ _ => by
      rcases he with he | he
      · have := HBH.out; rw [he] at this; exact absurd this (by decide)
      · have := HBO.out; rw [he] at this; exact absurd this (by decide)))
    obtain ⟨_, x0, x1, x2, x3, x4, f0, f1, f2, f3, f4⟩ := HX2.out
    clear hP hPY hN3
    go_enter Tryz.func59, Tryz.ntmps59
    go_upto_region 1 with fail
    rw [← HW1.out]
    go_wp2_with (go_at_call 72; (with_reducible refine hS.mono ?_); rintro e w3 ⟨rfl, rfl⟩)
    obtain ⟨_, z0, z1, z2, z3, z4, _⟩ := HX2.out.put (.int .u8 0) (.int .i64 0) (.int .i64 0) (.int .i64 0) (.bool false)
    unfold put5 at z0 z1 z2 z3 z4
    refine bodyPost_ret (v := .tuple #[.agg #[.int .u8 0, .int .i64 0, .int .i64 0, .int .i64 0, .bool false], .bool false]) (by simp [results, Tryz.results59, go_sem, z0, z1, z2, z3, z4]) rfl ?_
    exact ⟨⟨WD.zero, false, rfl, fun h => (by cases h), fun _ => HNO.out⟩, below_put5 HBW2.out (Nat.le_refl _)⟩
  have HHO : Hid (e = healedW ∨ e = openW) := Lib.hid (by
    rcases Bool.eq_false_or_eq_true bh with h | h
    · left; have := HBH.out; rw [h] at this; exact of_decide_eq_true this.symm
    · rcases Bool.eq_false_or_eq_true bo with h2 | h2
      · right; have := HBO.out; rw [h2] at this; exact of_decide_eq_true this.symm
      · exact absurd ⟨h, h2⟩ hio)
  by_cases hnum : ∃ x y z, num1 b = some x ∧ num1 c = some y ∧ num1 d = some z
  case neg =>
    have hN := hN3.2 hnum
    have HNO : Hid (rW l = none) := Lib.hid (hP (fun x y z _ hx hy hz => absurd ⟨x, y, z, hx, hy, hz⟩ hnum))
    clear hP hPY hN3 hnum
    have hio2 : bh = true ∨ bh = false ∧ bo = true := by
      cases bh
      · cases bo
        · exact absurd ⟨rfl, rfl⟩ hio
        · exact .inr ⟨rfl, rfl⟩
      · exact .inl rfl
    clear hio
    rcases hio2 with rfl | ⟨rfl, rfl⟩
    all_goals
      go_enter Tryz.func59, Tryz.ntmps59
      go_upto_region 1 with fail
      rw [← HW1.out]
      go_upto_region 5 with (first
        | (go_at_call 72; (with_reducible refine hS.mono ?_); rintro e' w3 ⟨rfl, rfl⟩)
        | (go_at_call 73; (with_reducible refine hN.mono ?_); rintro e' w4 ⟨rfl, hb4⟩; have HB4 := Lib.hid hb4; clear hb4))
      have HX4 := Lib.hid (HX2.out.below HB4.out)
      obtain ⟨_, x0, x1, x2, x3, x4, f0, f1, f2, f3, f4⟩ := HX4.out
      go_wp2
      obtain ⟨_, z0, z1, z2, z3, z4, _⟩ := HX4.out.put (.int .u8 0) (.int .i64 0) (.int .i64 0) (.int .i64 0) (.bool false)
      unfold put5 at z0 z1 z2 z3 z4
      refine bodyPost_ret (v := .tuple #[.agg #[.int .u8 0, .int .i64 0, .int .i64 0, .int .i64 0, .bool false], .bool false]) (by simp [results, Tryz.results59, go_sem, z0, z1, z2, z3, z4]) rfl ?_
      exact ⟨⟨WD.zero, false, rfl, fun h => (by cases h), fun _ => HNO.out⟩, below_put5 (HBW2.out.trans (HB4.out.mono HBW2.out.size)) (Nat.le_refl _)⟩
  obtain ⟨x, y, z, hx, hy, hz, hN⟩ := hN3.1 hnum
  have hK := fun V hb => toKind_any a (w := V) (HD2.out.below hb)
  have HIW : Hid (∀ V, Below w2.heap.size w2 V → _) := Lib.hid (fun V hb => isWound_any ⟨codK a, x, y, z, bh⟩ (codK_ge a) V (HD2.out.below hb))
  have HY : Hid (wdOk ⟨codK a, x, y, z, bh⟩ = true → rW l = some ⟨codK a, x, y, z, bh⟩) := Lib.hid (fun h => by
    rw [HBH.out] at h ⊢
    exact hPY HL.out.symm HHO.out hx hy hz h)
  have HNN : Hid (wdOk ⟨codK a, x, y, z, bh⟩ = false → rW l = none) := Lib.hid (fun h => hP (fun x' y' z' _ hx' hy' hz' => by
    rw [hx] at hx'; rw [hy] at hy'; rw [hz] at hz'
    injection hx' with hx'; injection hy' with hy'; injection hz' with hz'
    rw [← hx', ← hy', ← hz', ← HBH.out]; exact h))
  generalize wdOk ⟨codK a, x, y, z, bh⟩ = ok at HIW HY HNN
  unfold WD.enc at HIW
  generalize codK a = kk at hK HIW HY HNN
  have hio2 : bh = true ∨ bh = false ∧ bo = true := by
    cases bh
    · cases bo
      · exact absurd ⟨rfl, rfl⟩ hio
      · exact .inr ⟨rfl, rfl⟩
    · exact .inl rfl
  clear hio hN3 hnum hP hPY hx hy hz
  rcases hio2 with rfl | ⟨rfl, rfl⟩
  · go_enter Tryz.func59, Tryz.ntmps59
    go_upto_region 1 with fail
    rw [← HW1.out]
    go_upto_region 7 with (first
      | (go_at_call 72; (with_reducible refine hS.mono ?_); rintro e' w3 ⟨rfl, rfl⟩)
      | (go_at_call 73; (with_reducible refine hN.mono ?_); rintro e' w4 ⟨g, rfl, n0, n1, n2, hb4⟩; have HB4 := Lib.hid hb4; clear hb4))
    obtain ⟨r0, r1, r2, r3, r4⟩ := HQ.out w4 HB4.out
    have hK4 := hK w4.drew HB4.out.drew
    have hK5 := hK (w4.alloc (.cells #[.int .u8 0, .int .i64 0, .int .i64 0, .int .i64 0, .bool false] 42)).drew (HB4.out.alloc HB4.out.size _).drew
    have HB5 : Hid (Below w3.heap.size w3 (w4.alloc (.cells #[.int .u8 kk, .int .i64 x, .int .i64 y, .int .i64 z, .bool true] 42)).drew) := Lib.hid (HB4.out.alloc HB4.out.size _).drew
    have HX5 := Lib.hid (HX2.out.below HB5.out)
    have HY5 : Hid (B5 (w4.alloc (.cells #[.int .u8 kk, .int .i64 x, .int .i64 y, .int .i64 z, .bool true] 42)).drew w4.heap.size (.int .u8 kk) (.int .i64 x) (.int .i64 y) (.int .i64 z) (.bool true)) := Lib.hid ((B5.new w4 (.int .u8 kk) (.int .i64 x) (.int .i64 y) (.int .i64 z) (.bool true) 42).below (Below.refl _ _).drew)
    have hIW := HIW.out _ HB5.out
    clear hK q0 q1 q2 q3 q4
    have HSG : Hid (∀ V, Below w4.heap.size w4 V → (fun V => V.cell? ⟨w1.heap.size, 0, none⟩ = some (Bs a) ∧ V.cell? ⟨w1.heap.size, 4, none⟩ = some (Bs e) ∧ V.cell? ⟨g, 0, none⟩ = some (.int .i64 x) ∧ V.cell? ⟨g, 1, none⟩ = some (.int .i64 y) ∧ V.cell? ⟨g, 2, none⟩ = some (.int .i64 z)) V) := Lib.hid (fun V hb => ⟨cell_keep hb r0, cell_keep hb r4, cell_keep hb n0, cell_keep hb n1, cell_keep hb n2⟩)
    have hba : Below w4.heap.size w4 (w4.alloc (.cells #[.int .u8 0, .int .i64 0, .int .i64 0, .int .i64 0, .bool false] 42)).drew := ((Below.refl _ _).alloc (Nat.le_refl _) _).drew
    have HA0 : Hid (Below w4.heap.size w4 w4.drew) := Lib.hid (Below.refl _ _).drew
    have HA1 := Lib.hid hba
    have HA2 : Hid (Below w4.heap.size w4 ((((((w4.alloc (.cells #[.int .u8 0, .int .i64 0, .int .i64 0, .int .i64 0, .bool false] 42)).drew.setCell ⟨w4.heap.size, 0, none⟩ (.int .u8 kk)).setCell ⟨w4.heap.size, 1, none⟩ (.int .i64 x)).setCell ⟨w4.heap.size, 2, none⟩ (.int .i64 y)).setCell ⟨w4.heap.size, 3, none⟩ (.int .i64 z)).setCell ⟨w4.heap.size, 4, none⟩ (.bool true))) := Lib.hid (below_put5 hba (Nat.le_refl _))
    have HA3 : Hid (Below w4.heap.size w4 (w4.alloc (.cells #[.int .u8 kk, .int .i64 x, .int .i64 y, .int .i64 z, .bool true] 42)).drew) := Lib.hid ((Below.refl _ _).alloc (Nat.le_refl _) _).drew
    clear hba
    go_region_held3 (fun V => V.cell? ⟨w1.heap.size, 0, none⟩ = some (Bs a) ∧ V.cell? ⟨w1.heap.size, 4, none⟩ = some (Bs e) ∧ V.cell? ⟨g, 0, none⟩ = some (.int .i64 x) ∧ V.cell? ⟨g, 1, none⟩ = some (.int .i64 y) ∧ V.cell? ⟨g, 2, none⟩ = some (.int .i64 z)) (first | with_reducible exact HSG.out _ HA0.out | with_reducible exact HSG.out _ HA1.out | with_reducible exact HSG.out _ HA2.out | with_reducible exact HSG.out _ HA3.out)
      (first | (go_at_call 74; (with_reducible refine hK4.mono ?_); rintro e' w5 ⟨rfl, rfl⟩) | (go_at_call 74; (with_reducible refine hK5.mono ?_); rintro e' w5 ⟨rfl, rfl⟩))
    all_goals
      clear hK4 hK5 HSG HA0 HA1 HA2 HA3 n0 n1 n2 r0 r1 r2 r3 r4
      obtain ⟨v5, hv5⟩ : ∃ v5, v5 = (w4.alloc (.cells #[.int .u8 kk, .int .i64 x, .int .i64 y, .int .i64 z, .bool true] 42)).drew := ⟨_, rfl⟩
      rw [← hv5] at hIW HB5 HX5 HY5 ⊢
      clear hv5
      obtain ⟨_, p0, p1, p2, p3, p4, _⟩ := HY5.out
      cases ok
      · go_wp2_with (go_at_call 32; (with_reducible refine hIW.mono ?_); rintro e' w6 ⟨rfl, hb6⟩; have HB6 : Hid (Below w.heap.size w w6) := Lib.hid ((HBW2.out.trans (HB5.out.mono HBW2.out.size)).trans (hb6.mono (Nat.le_trans HBW2.out.size HB5.out.size))); have HX6 := Lib.hid (HX5.out.below hb6); obtain ⟨_, x0, x1, x2, x3, x4, f0, f1, f2, f3, f4⟩ := HX6.out; clear hb6)
        obtain ⟨_, z0, z1, z2, z3, z4, _⟩ := HX6.out.put (.int .u8 0) (.int .i64 0) (.int .i64 0) (.int .i64 0) (.bool false)
        unfold put5 at z0 z1 z2 z3 z4
        refine bodyPost_ret (v := .tuple #[.agg #[.int .u8 0, .int .i64 0, .int .i64 0, .int .i64 0, .bool false], .bool false]) (by simp [results, Tryz.results59, go_sem, z0, z1, z2, z3, z4]) rfl ?_
        exact ⟨⟨WD.zero, false, rfl, fun h => (by cases h), fun _ => HNN.out (by first | rfl | trivial)⟩, below_put5 HB6.out (Nat.le_refl _)⟩
      · go_wp2_with (go_at_call 32; (with_reducible refine hIW.mono ?_); rintro e' w6 ⟨rfl, hb6⟩; have HB6 : Hid (Below w.heap.size w w6) := Lib.hid ((HBW2.out.trans (HB5.out.mono HBW2.out.size)).trans (hb6.mono (Nat.le_trans HBW2.out.size HB5.out.size))); have HX6 := Lib.hid (HX5.out.below hb6); obtain ⟨_, x0, x1, x2, x3, x4, f0, f1, f2, f3, f4⟩ := HX6.out; obtain ⟨_, s0, s1, s2, s3, s4, _⟩ := HY5.out.below hb6; clear hb6)
        obtain ⟨_, z0, z1, z2, z3, z4, _⟩ := HX6.out.put (.int .u8 kk) (.int .i64 x) (.int .i64 y) (.int .i64 z) (.bool true)
        unfold put5 at z0 z1 z2 z3 z4
        refine bodyPost_ret (v := .tuple #[.agg #[.int .u8 kk, .int .i64 x, .int .i64 y, .int .i64 z, .bool true], .bool true]) (by simp [results, Tryz.results59, go_sem, z0, z1, z2, z3, z4]) rfl ?_
        exact ⟨⟨⟨kk, x, y, z, true⟩, true, rfl, fun _ => HY.out (by first | rfl | trivial), fun h => (by cases h)⟩, below_put5 HB6.out (Nat.le_refl _)⟩
  · go_enter Tryz.func59, Tryz.ntmps59
    go_upto_region 1 with fail
    rw [← HW1.out]
    go_upto_region 7 with (first
      | (go_at_call 72; (with_reducible refine hS.mono ?_); rintro e' w3 ⟨rfl, rfl⟩)
      | (go_at_call 73; (with_reducible refine hN.mono ?_); rintro e' w4 ⟨g, rfl, n0, n1, n2, hb4⟩; have HB4 := Lib.hid hb4; clear hb4))
    obtain ⟨r0, r1, r2, r3, r4⟩ := HQ.out w4 HB4.out
    have hK4 := hK w4.drew HB4.out.drew
    have hK5 := hK (w4.alloc (.cells #[.int .u8 0, .int .i64 0, .int .i64 0, .int .i64 0, .bool false] 42)).drew (HB4.out.alloc HB4.out.size _).drew
    have HB5 : Hid (Below w3.heap.size w3 (w4.alloc (.cells #[.int .u8 kk, .int .i64 x, .int .i64 y, .int .i64 z, .bool false] 42)).drew) := Lib.hid (HB4.out.alloc HB4.out.size _).drew
    have HX5 := Lib.hid (HX2.out.below HB5.out)
    have HY5 : Hid (B5 (w4.alloc (.cells #[.int .u8 kk, .int .i64 x, .int .i64 y, .int .i64 z, .bool false] 42)).drew w4.heap.size (.int .u8 kk) (.int .i64 x) (.int .i64 y) (.int .i64 z) (.bool false)) := Lib.hid ((B5.new w4 (.int .u8 kk) (.int .i64 x) (.int .i64 y) (.int .i64 z) (.bool false) 42).below (Below.refl _ _).drew)
    have hIW := HIW.out _ HB5.out
    clear hK q0 q1 q2 q3 q4
    have HSG : Hid (∀ V, Below w4.heap.size w4 V → (fun V => V.cell? ⟨w1.heap.size, 0, none⟩ = some (Bs a) ∧ V.cell? ⟨w1.heap.size, 4, none⟩ = some (Bs e) ∧ V.cell? ⟨g, 0, none⟩ = some (.int .i64 x) ∧ V.cell? ⟨g, 1, none⟩ = some (.int .i64 y) ∧ V.cell? ⟨g, 2, none⟩ = some (.int .i64 z)) V) := Lib.hid (fun V hb => ⟨cell_keep hb r0, cell_keep hb r4, cell_keep hb n0, cell_keep hb n1, cell_keep hb n2⟩)
    have hba : Below w4.heap.size w4 (w4.alloc (.cells #[.int .u8 0, .int .i64 0, .int .i64 0, .int .i64 0, .bool false] 42)).drew := ((Below.refl _ _).alloc (Nat.le_refl _) _).drew
    have HA0 : Hid (Below w4.heap.size w4 w4.drew) := Lib.hid (Below.refl _ _).drew
    have HA1 := Lib.hid hba
    have HA2 : Hid (Below w4.heap.size w4 ((((((w4.alloc (.cells #[.int .u8 0, .int .i64 0, .int .i64 0, .int .i64 0, .bool false] 42)).drew.setCell ⟨w4.heap.size, 0, none⟩ (.int .u8 kk)).setCell ⟨w4.heap.size, 1, none⟩ (.int .i64 x)).setCell ⟨w4.heap.size, 2, none⟩ (.int .i64 y)).setCell ⟨w4.heap.size, 3, none⟩ (.int .i64 z)).setCell ⟨w4.heap.size, 4, none⟩ (.bool false))) := Lib.hid (below_put5 hba (Nat.le_refl _))
    have HA3 : Hid (Below w4.heap.size w4 (w4.alloc (.cells #[.int .u8 kk, .int .i64 x, .int .i64 y, .int .i64 z, .bool false] 42)).drew) := Lib.hid ((Below.refl _ _).alloc (Nat.le_refl _) _).drew
    clear hba
    go_region_held3 (fun V => V.cell? ⟨w1.heap.size, 0, none⟩ = some (Bs a) ∧ V.cell? ⟨w1.heap.size, 4, none⟩ = some (Bs e) ∧ V.cell? ⟨g, 0, none⟩ = some (.int .i64 x) ∧ V.cell? ⟨g, 1, none⟩ = some (.int .i64 y) ∧ V.cell? ⟨g, 2, none⟩ = some (.int .i64 z)) (first | with_reducible exact HSG.out _ HA0.out | with_reducible exact HSG.out _ HA1.out | with_reducible exact HSG.out _ HA2.out | with_reducible exact HSG.out _ HA3.out)
      (first | (go_at_call 74; (with_reducible refine hK4.mono ?_); rintro e' w5 ⟨rfl, rfl⟩) | (go_at_call 74; (with_reducible refine hK5.mono ?_); rintro e' w5 ⟨rfl, rfl⟩))
    all_goals
      clear hK4 hK5 HSG HA0 HA1 HA2 HA3 n0 n1 n2 r0 r1 r2 r3 r4
      obtain ⟨v5, hv5⟩ : ∃ v5, v5 = (w4.alloc (.cells #[.int .u8 kk, .int .i64 x, .int .i64 y, .int .i64 z, .bool false] 42)).drew := ⟨_, rfl⟩
      rw [← hv5] at hIW HB5 HX5 HY5 ⊢
      clear hv5
      obtain ⟨_, p0, p1, p2, p3, p4, _⟩ := HY5.out
      cases ok
      · go_wp2_with (go_at_call 32; (with_reducible refine hIW.mono ?_); rintro e' w6 ⟨rfl, hb6⟩; have HB6 : Hid (Below w.heap.size w w6) := Lib.hid ((HBW2.out.trans (HB5.out.mono HBW2.out.size)).trans (hb6.mono (Nat.le_trans HBW2.out.size HB5.out.size))); have HX6 := Lib.hid (HX5.out.below hb6); obtain ⟨_, x0, x1, x2, x3, x4, f0, f1, f2, f3, f4⟩ := HX6.out; clear hb6)
        obtain ⟨_, z0, z1, z2, z3, z4, _⟩ := HX6.out.put (.int .u8 0) (.int .i64 0) (.int .i64 0) (.int .i64 0) (.bool false)
        unfold put5 at z0 z1 z2 z3 z4
        refine bodyPost_ret (v := .tuple #[.agg #[.int .u8 0, .int .i64 0, .int .i64 0, .int .i64 0, .bool false], .bool false]) (by simp [results, Tryz.results59, go_sem, z0, z1, z2, z3, z4]) rfl ?_
        exact ⟨⟨WD.zero, false, rfl, fun h => (by cases h), fun _ => HNN.out (by first | rfl | trivial)⟩, below_put5 HB6.out (Nat.le_refl _)⟩
      · go_wp2_with (go_at_call 32; (with_reducible refine hIW.mono ?_); rintro e' w6 ⟨rfl, hb6⟩; have HB6 : Hid (Below w.heap.size w w6) := Lib.hid ((HBW2.out.trans (HB5.out.mono HBW2.out.size)).trans (hb6.mono (Nat.le_trans HBW2.out.size HB5.out.size))); have HX6 := Lib.hid (HX5.out.below hb6); obtain ⟨_, x0, x1, x2, x3, x4, f0, f1, f2, f3, f4⟩ := HX6.out; obtain ⟨_, s0, s1, s2, s3, s4, _⟩ := HY5.out.below hb6; clear hb6)
        obtain ⟨_, z0, z1, z2, z3, z4, _⟩ := HX6.out.put (.int .u8 kk) (.int .i64 x) (.int .i64 y) (.int .i64 z) (.bool false)
        unfold put5 at z0 z1 z2 z3 z4
        refine bodyPost_ret (v := .tuple #[.agg #[.int .u8 kk, .int .i64 x, .int .i64 y, .int .i64 z, .bool false], .bool true]) (by simp [results, Tryz.results59, go_sem, z0, z1, z2, z3, z4]) rfl ?_
        exact ⟨⟨⟨kk, x, y, z, false⟩, true, rfl, fun _ => HY.out (by first | rfl | trivial), fun h => (by cases h)⟩, below_put5 HB6.out (Nat.le_refl _)⟩
end Go.Proofs.YtfmpbohiahjafaaGreatDoor
