/- Superblocks: the contracts of widths, stands and Check. (Printed by wip/gensupa.py.) Superblocks: the contract of Bytes. Superblocks: the contract of Parse. -/
import Derived.Test.YtfpnlaafefdcaaaDoorSupM
import Derived.Test.YtfpnlaafefdcaaaDoorDevN
import Derived.Test.YtfpnlaafefdcaaaDoorDevD
import Derived.Deep.Cut
import Derived.Shelf.Small.Wraps
namespace Go.Proofs.YtfpnlaafefdcaaaDoor
open Go.RowKit

theorem num_seven (W W' : World) (t : TypeId) (x0 x1 x2 x3 x4 x5 x6 : Value) (hW : Below (W.heap.size + 1) (W.alloc (.cells #[x0, x1, x2, x3, x4, x5, x6] t)) W') : NumV W' (.slice (some ⟨W.heap.size, 0, none⟩) 7 7) [x0, x1, x2, x3, x4, x5, x6] := by
  have h0 : NumV (W.alloc (.cells #[x0, x1, x2, x3, x4, x5, x6] t)) (.slice (some ⟨W.heap.size, 0, none⟩) 7 7) [x0, x1, x2, x3, x4, x5, x6] := by
    refine ⟨_, 7, rfl, Nat.le_refl _, (by unfold maxLen; omega), .inr ⟨W.heap.size, 0, rfl, by simp, fun j hj => ?_⟩⟩
    rw [Nat.zero_add, cell_of_row _ _ _ _ t (0, 0) (heap_alloc_new W _)]
    simp
  exact h0.below hW (by simp)
theorem supWidths_any (w : World) : Calls Tryd.prog 70 #[] w fun e w' => e = .returned (.slice (some ⟨w.heap.size, 0, none⟩) 7 7) ∧ NumV w' (.slice (some ⟨w.heap.size, 0, none⟩) 7 7) (i64s supK) ∧ Below w.heap.size w w' := by
  go_enter Tryd.func70, Tryd.ntmps70
  go_wp2
  go_ret
  exact ⟨rfl, num_seven w _ _ _ _ _ _ _ _ _ (Below.refl _ _), (Below.refl _ _).alloc (Nat.le_refl _) _⟩
/-- A boxed superblock. -/
structure SBox (W : World) (b : Nat) (p : SP) : Prop where
  lt : b < W.heap.size
  c0 : W.cell? ⟨b, 0, none⟩ = some (.int .i64 p.gen)
  c1 : W.cell? ⟨b, 1, none⟩ = some (.int .i64 p.s)
  c2 : W.cell? ⟨b, 2, none⟩ = some (.int .i64 p.k)
  c3 : W.cell? ⟨b, 3, none⟩ = some (.int .i64 p.m)
  c4 : W.cell? ⟨b, 4, none⟩ = some (.int .i64 p.c)
  c5 : W.cell? ⟨b, 5, none⟩ = some (.int .i64 p.len)
  c6 : W.cell? ⟨b, 6, none⟩ = some (.int .i64 p.a)
  c7 : W.cell? ⟨b, 7, none⟩ = some (.int .i64 p.b)
  c8 : W.cell? ⟨b, 8, none⟩ = some (.int .u32 (p.sum : Int))
theorem SBox.ap {S : Nat → Prop} {W W' : World} {b : Nat} {p : SP} (k : SBox W b p) (a : Ap S W W') (hn : ¬ S b) : SBox W' b p :=
  ⟨Nat.lt_of_lt_of_le k.lt a.size, (a.cell k.lt hn _).trans k.c0, (a.cell k.lt hn _).trans k.c1, (a.cell k.lt hn _).trans k.c2, (a.cell k.lt hn _).trans k.c3, (a.cell k.lt hn _).trans k.c4, (a.cell k.lt hn _).trans k.c5, (a.cell k.lt hn _).trans k.c6, (a.cell k.lt hn _).trans k.c7, (a.cell k.lt hn _).trans k.c8⟩
theorem SBox.below {W W' : World} {b : Nat} {p : SP} (k : SBox W b p) (hb : Below W.heap.size W W') : SBox W' b p := k.ap (S := fun _ => False) (Ap.of_below hb) id
theorem SBox.drew {W : World} {b : Nat} {p : SP} (k : SBox W b p) : SBox W.drew b p := k.below ((Below.refl _ _).drew)
theorem SBox.new (w : World) (p : SP) (t : Nat) : SBox (w.alloc (.cells #[.int .i64 p.gen, .int .i64 p.s, .int .i64 p.k, .int .i64 p.m, .int .i64 p.c, .int .i64 p.len, .int .i64 p.a, .int .i64 p.b, .int .u32 (p.sum : Int)] t)) w.heap.size p := by
  refine ⟨by simp, ?_, ?_, ?_, ?_, ?_, ?_, ?_, ?_, ?_⟩ <;> simp [go_sem]
theorem supStands_any (s k m c a : Int) (w : World) : Calls Tryd.prog 80 #[geoV s k m c, .int .i64 a] w fun e w' => e = .returned (.bool (decide (2 ≤ a ∧ a < c))) ∧ Below w.heap.size w w' := by
  unfold geoV
  by_cases h1 : 2 ≤ a
  · by_cases h2 : a < c
    · have d0 : decide (2 ≤ a) = true := decide_eq_true h1
      have d1 : decide (a < c) = true := decide_eq_true h2
      rw [show decide (2 ≤ a ∧ a < c) = true from decide_eq_true ⟨h1, h2⟩]
      clear h1 h2
      go_enter Tryd.func80, Tryd.ntmps80
      go_wp2
      go_ret
      exact ⟨rfl, (Below.refl _ _).alloc (Nat.le_refl _) _⟩
    · have d0 : decide (2 ≤ a) = true := decide_eq_true h1
      have d1 : decide (a < c) = false := decide_eq_false h2
      rw [show decide (2 ≤ a ∧ a < c) = false from decide_eq_false (fun h => h2 h.2)]
      clear h1 h2
      go_enter Tryd.func80, Tryd.ntmps80
      go_wp2
      go_ret
      exact ⟨rfl, (Below.refl _ _).alloc (Nat.le_refl _) _⟩
  · have d0 : decide (2 ≤ a) = false := decide_eq_false h1
    rw [show decide (2 ≤ a ∧ a < c) = false from decide_eq_false (fun h => h1 h.1)]
    clear h1
    go_enter Tryd.func80, Tryd.ntmps80
    go_wp2
    go_ret
    exact ⟨rfl, (Below.refl _ _).alloc (Nat.le_refl _) _⟩
set_option maxHeartbeats 4000000 in
set_option maxRecDepth 100000 in
theorem supCheck_any (p : SP) (hp : p.In) (w : World) : Calls Tryd.prog 27 #[p.v] w fun e w' => e = .returned (.int .i64 (supE p)) ∧ Below w.heap.size w w' := by
  have hC := geoCheck_any p.s p.k p.m p.c hp.k hp.m hp.c
  have hA := supStands_any p.s p.k p.m p.c p.a
  have hB := supStands_any p.s p.k p.m p.c p.b
  have HX0 := Lib.hid (SBox.new w p 53)
  have HB0 : Hid (Below w.heap.size w (w.alloc (.cells #[.int .i64 p.gen, .int .i64 p.s, .int .i64 p.k, .int .i64 p.m, .int .i64 p.c, .int .i64 p.len, .int .i64 p.a, .int .i64 p.b, .int .u32 (p.sum : Int)] 53))) := Lib.hid (below1 _ _)
  have HO : Hid (supE p = if ((1 ≤ p.gen ∧ p.gen ≤ 281474976710656) ∧ (0 ≤ p.len ∧ p.len ≤ 1048576) ∧ GeoOk p.s p.k p.m p.c ∧ (2 ≤ p.a ∧ p.a < p.c) ∧ (2 ≤ p.b ∧ p.b < p.c)) then 0 else 2) := Lib.hid rfl
  unfold SP.v
  obtain ⟨gen, s, k, m, c, len, a, b, sum⟩ := p
  dsimp only at *
  unfold geoV geoE at hC
  unfold geoV at hA hB
  clear hp
  have HG : Hid (∃ g : Prop, g = GeoOk s k m c) := Lib.hid ⟨_, rfl⟩
  by_cases hd0 : gen < 1
  · have d0 : decide (gen < 1) = true := decide_eq_true hd0
    rw [HO.out, if_neg (by omega)]
    clear HO
    go_enter Tryd.func27, Tryd.ntmps27
    go_upto_region 1 with fail
    generalize w.alloc (.cells #[.int .i64 gen, .int .i64 s, .int .i64 k, .int .i64 m, .int .i64 c, .int .i64 len, .int .i64 a, .int .i64 b, .int .u32 (sum : Int)] 53) = w0 at HX0 HB0 ⊢
    obtain ⟨_, x0, x1, x2, x3, x4, x5, x6, x7, x8⟩ := HX0.out
    dsimp only at x0 x1 x2 x3 x4 x5 x6 x7 x8
    go_wp2
    go_ret
    exact ⟨rfl, HB0.out⟩
  have d0 : decide (gen < 1) = false := decide_eq_false hd0
  by_cases hd1 : 281474976710656 < gen
  · have d1 : decide (281474976710656 < gen) = true := decide_eq_true hd1
    rw [HO.out, if_neg (by omega)]
    clear HO
    go_enter Tryd.func27, Tryd.ntmps27
    go_upto_region 1 with fail
    generalize w.alloc (.cells #[.int .i64 gen, .int .i64 s, .int .i64 k, .int .i64 m, .int .i64 c, .int .i64 len, .int .i64 a, .int .i64 b, .int .u32 (sum : Int)] 53) = w0 at HX0 HB0 ⊢
    obtain ⟨_, x0, x1, x2, x3, x4, x5, x6, x7, x8⟩ := HX0.out
    dsimp only at x0 x1 x2 x3 x4 x5 x6 x7 x8
    go_wp2
    go_ret
    exact ⟨rfl, HB0.out⟩
  have d1 : decide (281474976710656 < gen) = false := decide_eq_false hd1
  by_cases hd2 : len < 0
  · have d2 : decide (len < 0) = true := decide_eq_true hd2
    rw [HO.out, if_neg (by omega)]
    clear HO
    go_enter Tryd.func27, Tryd.ntmps27
    go_upto_region 1 with fail
    generalize w.alloc (.cells #[.int .i64 gen, .int .i64 s, .int .i64 k, .int .i64 m, .int .i64 c, .int .i64 len, .int .i64 a, .int .i64 b, .int .u32 (sum : Int)] 53) = w0 at HX0 HB0 ⊢
    obtain ⟨_, x0, x1, x2, x3, x4, x5, x6, x7, x8⟩ := HX0.out
    dsimp only at x0 x1 x2 x3 x4 x5 x6 x7 x8
    go_wp2
    go_ret
    exact ⟨rfl, HB0.out⟩
  have d2 : decide (len < 0) = false := decide_eq_false hd2
  by_cases hd3 : 1048576 < len
  · have d3 : decide (1048576 < len) = true := decide_eq_true hd3
    rw [HO.out, if_neg (by omega)]
    clear HO
    go_enter Tryd.func27, Tryd.ntmps27
    go_upto_region 1 with fail
    generalize w.alloc (.cells #[.int .i64 gen, .int .i64 s, .int .i64 k, .int .i64 m, .int .i64 c, .int .i64 len, .int .i64 a, .int .i64 b, .int .u32 (sum : Int)] 53) = w0 at HX0 HB0 ⊢
    obtain ⟨_, x0, x1, x2, x3, x4, x5, x6, x7, x8⟩ := HX0.out
    dsimp only at x0 x1 x2 x3 x4 x5 x6 x7 x8
    go_wp2
    go_ret
    exact ⟨rfl, HB0.out⟩
  have d3 : decide (1048576 < len) = false := decide_eq_false hd3
  rcases Decidable.em (GeoOk s k m c) with g | g
  rotate_left
  · rw [if_neg g] at hC
    rw [HO.out, if_neg (by intro h; exact g h.2.2.1)]
    clear HO
    go_enter Tryd.func27, Tryd.ntmps27
    go_upto_region 1 with fail
    generalize w.alloc (.cells #[.int .i64 gen, .int .i64 s, .int .i64 k, .int .i64 m, .int .i64 c, .int .i64 len, .int .i64 a, .int .i64 b, .int .u32 (sum : Int)] 53) = w0 at HX0 HB0 ⊢
    obtain ⟨_, x0, x1, x2, x3, x4, x5, x6, x7, x8⟩ := HX0.out
    dsimp only at x0 x1 x2 x3 x4 x5 x6 x7 x8
    go_wp2_with (go_at_call 43; with_reducible refine (hC _).mono ?_; rintro e w1 ⟨rfl, hb1⟩; have HX1 := Lib.hid (HX0.out.below hb1); have HB1 := Lib.hid (HB0.out.trans (hb1.mono HB0.out.size)); clear hb1; obtain ⟨_, y0, y1, y2, y3, y4, y5, y6, y7, y8⟩ := HX1.out; dsimp only at y0 y1 y2 y3 y4 y5 y6 y7 y8)
    go_ret
    exact ⟨rfl, HB1.out⟩
  rw [if_pos g] at hC
  rcases Decidable.em (2 ≤ a ∧ a < c) with ga | ga
  rotate_left
  · rw [show decide (2 ≤ a ∧ a < c) = false from decide_eq_false ga] at hA
    rw [HO.out, if_neg (by intro h; exact ga h.2.2.2.1)]
    clear HO
    go_enter Tryd.func27, Tryd.ntmps27
    go_upto_region 1 with fail
    generalize w.alloc (.cells #[.int .i64 gen, .int .i64 s, .int .i64 k, .int .i64 m, .int .i64 c, .int .i64 len, .int .i64 a, .int .i64 b, .int .u32 (sum : Int)] 53) = w0 at HX0 HB0 ⊢
    obtain ⟨_, x0, x1, x2, x3, x4, x5, x6, x7, x8⟩ := HX0.out
    dsimp only at x0 x1 x2 x3 x4 x5 x6 x7 x8
    go_wp2_with (first
      | (go_at_call 43; with_reducible refine (hC _).mono ?_; rintro e w1 ⟨rfl, hb1⟩; have HX1 := Lib.hid (HX0.out.below hb1); have HB1 := Lib.hid (HB0.out.trans (hb1.mono HB0.out.size)); clear hb1; obtain ⟨_, y0, y1, y2, y3, y4, y5, y6, y7, y8⟩ := HX1.out; dsimp only at y0 y1 y2 y3 y4 y5 y6 y7 y8)
      | (go_at_call 80; with_reducible refine (hA _).mono ?_; rintro e w2 ⟨rfl, hb2⟩; have HX2 := Lib.hid (HX1.out.below hb2); have HB2 := Lib.hid (HB1.out.trans (hb2.mono HB1.out.size)); clear hA hb2; obtain ⟨_, z0, z1, z2, z3, z4, z5, z6, z7, z8⟩ := HX2.out; dsimp only at z0 z1 z2 z3 z4 z5 z6 z7 z8))
    go_ret
    exact ⟨rfl, HB2.out⟩
  rw [show decide (2 ≤ a ∧ a < c) = true from decide_eq_true ga] at hA
  rcases Decidable.em (2 ≤ b ∧ b < c) with gb | gb
  rotate_left
  · rw [show decide (2 ≤ b ∧ b < c) = false from decide_eq_false gb] at hB
    rw [HO.out, if_neg (by intro h; exact gb h.2.2.2.2)]
    clear HO
    go_enter Tryd.func27, Tryd.ntmps27
    go_upto_region 1 with fail
    generalize w.alloc (.cells #[.int .i64 gen, .int .i64 s, .int .i64 k, .int .i64 m, .int .i64 c, .int .i64 len, .int .i64 a, .int .i64 b, .int .u32 (sum : Int)] 53) = w0 at HX0 HB0 ⊢
    obtain ⟨_, x0, x1, x2, x3, x4, x5, x6, x7, x8⟩ := HX0.out
    dsimp only at x0 x1 x2 x3 x4 x5 x6 x7 x8
    go_wp2_with (first
      | (go_at_call 43; with_reducible refine (hC _).mono ?_; rintro e w1 ⟨rfl, hb1⟩; have HX1 := Lib.hid (HX0.out.below hb1); have HB1 := Lib.hid (HB0.out.trans (hb1.mono HB0.out.size)); clear hb1; obtain ⟨_, y0, y1, y2, y3, y4, y5, y6, y7, y8⟩ := HX1.out; dsimp only at y0 y1 y2 y3 y4 y5 y6 y7 y8)
      | (go_at_call 80; with_reducible refine (hA _).mono ?_; rintro e w2 ⟨rfl, hb2⟩; have HX2 := Lib.hid (HX1.out.below hb2); have HB2 := Lib.hid (HB1.out.trans (hb2.mono HB1.out.size)); clear hA hb2; obtain ⟨_, z0, z1, z2, z3, z4, z5, z6, z7, z8⟩ := HX2.out; dsimp only at z0 z1 z2 z3 z4 z5 z6 z7 z8)
      | (go_at_call 80; with_reducible refine (hB _).mono ?_; rintro e w3 ⟨rfl, hb3⟩; have HB3 := Lib.hid (HB2.out.trans (hb3.mono HB2.out.size)); clear hb3))
    go_ret
    exact ⟨rfl, HB3.out⟩
  rw [show decide (2 ≤ b ∧ b < c) = true from decide_eq_true gb] at hB
  rw [HO.out, if_pos ⟨⟨by omega, by omega⟩, ⟨by omega, by omega⟩, g, ga, gb⟩]
  clear HO
  go_enter Tryd.func27, Tryd.ntmps27
  go_upto_region 1 with fail
  generalize w.alloc (.cells #[.int .i64 gen, .int .i64 s, .int .i64 k, .int .i64 m, .int .i64 c, .int .i64 len, .int .i64 a, .int .i64 b, .int .u32 (sum : Int)] 53) = w0 at HX0 HB0 ⊢
  obtain ⟨_, x0, x1, x2, x3, x4, x5, x6, x7, x8⟩ := HX0.out
  dsimp only at x0 x1 x2 x3 x4 x5 x6 x7 x8
  go_wp2_with (first
    | (go_at_call 43; with_reducible refine (hC _).mono ?_; rintro e w1 ⟨rfl, hb1⟩; have HX1 := Lib.hid (HX0.out.below hb1); have HB1 := Lib.hid (HB0.out.trans (hb1.mono HB0.out.size)); clear hb1; obtain ⟨_, y0, y1, y2, y3, y4, y5, y6, y7, y8⟩ := HX1.out; dsimp only at y0 y1 y2 y3 y4 y5 y6 y7 y8)
    | (go_at_call 80; with_reducible refine (hA _).mono ?_; rintro e w2 ⟨rfl, hb2⟩; have HX2 := Lib.hid (HX1.out.below hb2); have HB2 := Lib.hid (HB1.out.trans (hb2.mono HB1.out.size)); clear hA hb2; obtain ⟨_, z0, z1, z2, z3, z4, z5, z6, z7, z8⟩ := HX2.out; dsimp only at z0 z1 z2 z3 z4 z5 z6 z7 z8)
    | (go_at_call 80; with_reducible refine (hB _).mono ?_; rintro e w3 ⟨rfl, hb3⟩; have HB3 := Lib.hid (HB2.out.trans (hb3.mono HB2.out.size)); clear hb3))
  go_ret
  exact ⟨rfl, HB3.out⟩
end Go.Proofs.YtfpnlaafefdcaaaDoor
namespace Go.Proofs.YtfpnlaafefdcaaaDoor
open Go.RowKit

/-- A boxed superblock, and its boxed geometry. -/
structure SQ (w W : World) (p : SP) (b : Nat) : Prop where
  be : Below w.heap.size w W
  bx : SBox W w.heap.size p
  bl : b < W.heap.size
  g0 : W.cell? ⟨b, 0, none⟩ = some (.int .i64 p.s)
  g1 : W.cell? ⟨b, 1, none⟩ = some (.int .i64 p.k)
  g2 : W.cell? ⟨b, 2, none⟩ = some (.int .i64 p.m)
  g3 : W.cell? ⟨b, 3, none⟩ = some (.int .i64 p.c)
section
variable {w W W' : World} {p : SP} {b : Nat}
theorem SQ.below (k : SQ w W p b) (hb : Below W.heap.size W W') : SQ w W' p b :=
  ⟨k.be.trans (hb.mono k.be.size), k.bx.below hb, Nat.lt_of_lt_of_le k.bl hb.size, (hb.cell (p := ⟨b, 0, none⟩) k.bl).trans k.g0, (hb.cell (p := ⟨b, 1, none⟩) k.bl).trans k.g1, (hb.cell (p := ⟨b, 2, none⟩) k.bl).trans k.g2, (hb.cell (p := ⟨b, 3, none⟩) k.bl).trans k.g3⟩
theorem SQ.drew (k : SQ w W p b) : SQ w W.drew p b := k.below ((Below.refl _ _).drew)
theorem SQ.start (hB : Below w.heap.size w W) (hx : SBox W w.heap.size p) (T : Nat) : SQ w (W.alloc (.cells #[.int .i64 p.s, .int .i64 p.k, .int .i64 p.m, .int .i64 p.c] T)) p W.heap.size :=
  ⟨hB.trans ((below1 _ _).mono hB.size), hx.below (below1 _ _), by simp, by simp [go_sem], by simp [go_sem], by simp [go_sem], by simp [go_sem]⟩
/-- What the region that makes the numbers reads. -/
def SQ6 (w : World) (p : SP) (b : Nat) (W : World) : Prop := W.cell? ⟨w.heap.size, 0, none⟩ = some (.int .i64 p.gen) ∧ W.cell? ⟨w.heap.size, 5, none⟩ = some (.int .i64 p.len) ∧ W.cell? ⟨b, 0, none⟩ = some (.int .i64 p.s) ∧ W.cell? ⟨b, 1, none⟩ = some (.int .i64 p.k) ∧ W.cell? ⟨b, 2, none⟩ = some (.int .i64 p.m) ∧ W.cell? ⟨b, 3, none⟩ = some (.int .i64 p.c)
theorem SQ.six (k : SQ w W p b) : W.cell? ⟨w.heap.size, 0, none⟩ = some (.int .i64 p.gen) ∧ W.cell? ⟨w.heap.size, 5, none⟩ = some (.int .i64 p.len) ∧ W.cell? ⟨b, 0, none⟩ = some (.int .i64 p.s) ∧ W.cell? ⟨b, 1, none⟩ = some (.int .i64 p.k) ∧ W.cell? ⟨b, 2, none⟩ = some (.int .i64 p.m) ∧ W.cell? ⟨b, 3, none⟩ = some (.int .i64 p.c) := ⟨k.bx.c0, k.bx.c5, k.g0, k.g1, k.g2, k.g3⟩
end
theorem num_ns (W W' : World) (t : TypeId) (p : SP) (hW : Below (W.heap.size + 1) (W.alloc (.cells #[.int .u64 (un p.gen : Int), .int .u64 (un p.s : Int), .int .u64 (un p.k : Int), .int .u64 (un p.m : Int), .int .u64 0, .int .u64 (un p.c : Int), .int .u64 (un p.len : Int)] t)) W') : NumV W' (.slice (some ⟨W.heap.size, 0, none⟩) 7 7) (u64s (supNs p)) :=
  num_seven W W' t _ _ _ _ _ _ _ hW
theorem supL_cat (p : SP) : (⟨(supBody p).toArray⟩ : ByteArray) ++ sumBytes (Caulk.Crc.sum (supBody p)) = ⟨(supBody p ++ supSum p).toArray⟩ := by
  apply ByteArray.ext
  rw [ByteArray.data_append]
  apply Array.ext'
  simp [supSum]
theorem supBody_cat (p : SP) : ((⟨magicL.toArray⟩ : ByteArray) ++ (⟨(joinS supK (supNs p)).toArray⟩ : ByteArray)) ++ (⟨(ptrS p.a p.b p.sum).toArray⟩ : ByteArray) = ⟨(supBody p).toArray⟩ := by
  apply ByteArray.ext
  rw [ByteArray.data_append, ByteArray.data_append]
  apply Array.ext'
  simp [supBody]
theorem step_copy_str {P : Program} {ops : Array Oper} {o : Oper} {a : Act} {K : Act → World → Prop} {Q : Exit → Act → World → Prop} {E : Prop} (w : World) (hgd : o.guard = none) (d x : Operand) (dT sT : TypeId)
    (hop : o.op = Op.call { callee := Callee.builtin Builtin.copy, args := #[d, x], argTypes := #[dT, sT] })
    (elem : TypeId) (hu : P.underlying dT = some (.slice elem)) (hz : ∀ w, (Go.sizeOf elem).run P w = .ok 1 w)
    (b off dLen dCap : Nat) (hd : a.eval d = .slice (some ⟨b, off, none⟩) dLen dCap) (t : ByteArray) (hx : a.eval x = .string t) (hle : t.size ≤ dLen)
    (ht : w.there b off t.size) (hK : K (a.put o.dst (goInt t.size)) (w.setCells b off (U8s t.data.toList))) :
    if Region.wanted o (yielded ops a.tmps) = true then Oper.wp P o a w K Q else E := by
  have hw : Region.wanted o (yielded ops a.tmps) = true := by simp [Region.wanted, hgd]
  rw [if_pos hw]
  have hrun := run_copy_string (P := P) w dT sT o.type elem b off dLen dCap t hu hz hle (fun j hj => (ht j hj).1) (fun j hj => (ht j hj).2)
  unfold Oper.wp
  simp [execOp, hop, resolve, invoke, builtin, hd, hx, hrun, Result.andThen]
  exact hK
/-! ### an array of 512 bytes -/
theorem arrInfo : (Tryd.prog.info? 116).map (fun i => (i.zero, i.size, i.bytes)) = some (some (.agg (Array.replicate 512 (.int .u8 0))), 512, 512) := by kernel_rfl
theorem ac_eq (w : World) : Tryd.zeroCells116 = (U8s blankB).toArray := by
  obtain ⟨i, hi, hz, _, _⟩ := info_parts arrInfo
  have h := Tryd.zeroValue116 w
  rw [blankA_eq]
  generalize Array.replicate 512 (Value.int .u8 0) = z at hz ⊢
  simp [zeroValue, typeInfo, hi, hz] at h
  exact h.symm
theorem ac_row (w : World) : Row8 (w.alloc (.cells Tryd.zeroCells116 116)) w.heap.size 0 blankB := by
  rw [ac_eq w]
  have h := range_new w (U8s blankB) 116
  refine Row8.of_range (by simp) h (fun j hj => ⟨h.isSome j (by rw [u8s_len]; exact hj), ?_⟩)
  rw [Nat.zero_add]
  exact frozen_of_row _ _ _ _ _ (heap_alloc_new w _)
theorem Row8.over {w : World} {b : Nat} {l : List UInt8} (h : Row8 w b 0 l) (t : List UInt8) (ht : t.length ≤ l.length) : Row8 (w.setCells b 0 (U8s t)) b 0 (t ++ l.drop t.length) := by
  have hl : (t ++ l.drop t.length).length = l.length := by rw [List.length_append, List.length_drop]; omega
  refine ⟨by rw [size_setCells]; exact h.1, fun j hj => ⟨?_, by rw [World.frozen?_setCells]; exact (h.2 j (by omega)).2⟩⟩
  by_cases e : j < t.length
  · have hin := World.cell?_setCells_in b (U8s t) 0 w (fun i hi => by rw [u8s_len] at hi; rw [(h.2 i (by omega)).1]; rfl) j (by rw [u8s_len]; exact e)
    rw [hin]
    have h2 := u8s_at t j e
    rw [List.getElem?_eq_getElem (by rw [u8s_len]; exact e)] at h2
    rw [h2, List.getD, List.getD, List.getElem?_append_left e]
  · have hout := World.cell?_setCells_out b (U8s t) 0 w ⟨b, 0 + j, none⟩ (fun _ _ => .inr (by rw [u8s_len]; show _ ≤ 0 + j; omega))
    rw [hout, (h.2 j (by omega)).1, List.getD, List.getD, List.getElem?_append_right (by omega), List.getElem?_drop, show t.length + (j - t.length) = j by omega]
/-- A superblock that is not right. -/
theorem supBytes_no (p : SP) (hp : p.In) (h : ¬ SupOk p) (w : World) : Calls Tryd.prog 23 #[p.v] w fun e w' => e = .returned (.tuple #[.string ⟨#[]⟩, .int .i64 2]) ∧ Below w.heap.size w w' := by
  have hC := fun W => supCheck_any p hp W
  rw [show supE p = 2 from if_neg h] at hC
  have HX0 := Lib.hid (SBox.new w p 53)
  have HB0 : Hid (Below w.heap.size w (w.alloc (.cells #[.int .i64 p.gen, .int .i64 p.s, .int .i64 p.k, .int .i64 p.m, .int .i64 p.c, .int .i64 p.len, .int .i64 p.a, .int .i64 p.b, .int .u32 (p.sum : Int)] 53))) := Lib.hid (below1 _ _)
  unfold SP.v at hC ⊢
  clear hp h
  go_enter Tryd.func23, Tryd.ntmps23
  go_upto_region 1 with fail
  generalize w.alloc (.cells #[.int .i64 p.gen, .int .i64 p.s, .int .i64 p.k, .int .i64 p.m, .int .i64 p.c, .int .i64 p.len, .int .i64 p.a, .int .i64 p.b, .int .u32 (p.sum : Int)] 53) = w0 at HX0 HB0 ⊢
  obtain ⟨_, x0, x1, x2, x3, x4, x5, x6, x7, x8⟩ := HX0.out
  go_wp2_with (go_at_call 27; with_reducible refine (hC _).mono ?_; rintro e w1 ⟨rfl, hb1⟩; have HB1 := Lib.hid (HB0.out.trans (hb1.mono HB0.out.size)); clear hb1)
  go_ret2
  exact ⟨rfl, HB1.out⟩
set_option maxRecDepth 100000 in
set_option maxHeartbeats 4000000 in
theorem supBytes_yes (p : SP) (hp : p.In) (h : SupOk p) (w : World) (hT : Tab w) : Calls Tryd.prog 23 #[p.v] w fun e w' => e = .returned (.tuple #[.string ⟨(supL p).toArray⟩, .int .i64 0]) ∧ Below w.heap.size w w' := by
  have hC := fun W => supCheck_any p hp W
  rw [show supE p = 0 from if_pos h] at hC
  have hJ0 : joinE supK (supNs p) = 0 := sup_join h
  have hP := fldPtr_any p.a p.b p.sum hp.sum
  rw [sup_ptr hp.sum h] at hP
  have u1 := un_wrap p.gen
  have u2 := un_wrap p.s
  have u3 := un_wrap p.k
  have u4 := un_wrap p.m
  have u5 := un_wrap p.c
  have u6 := un_wrap p.len
  have hJ := fun v u W h1 h2 => fldJoin_any supK (supNs p) v u W h1 h2 (by decide)
  rw [hJ0] at hJ
  have HX0 := Lib.hid (SBox.new w p 53)
  have HB0 : Hid (Below w.heap.size w (w.alloc (.cells #[.int .i64 p.gen, .int .i64 p.s, .int .i64 p.k, .int .i64 p.m, .int .i64 p.c, .int .i64 p.len, .int .i64 p.a, .int .i64 p.b, .int .u32 (p.sum : Int)] 53))) := Lib.hid (below1 _ _)
  have HT := Lib.hid hT
  have hcat := supBody_cat p
  rw [show (⟨magicL.toArray⟩ : ByteArray) = ⟨#[99, 97, 117, 108, 107, 32, 48, 49]⟩ from rfl] at hcat
  have hlen := supBody_len hp.sum h
  have hJl : (⟨(joinS supK (supNs p)).toArray⟩ : ByteArray).size ≤ 512 := by
    show (joinS supK (supNs p)).length ≤ 512
    unfold supBody at hlen; simp only [List.length_append] at hlen; omega
  have hPl : (⟨(ptrS p.a p.b p.sum).toArray⟩ : ByteArray).size ≤ 512 := by
    show (ptrS p.a p.b p.sum).length ≤ 512
    unfold supBody at hlen; simp only [List.length_append] at hlen; omega
  have hR : ∀ (X : World) (bb : Nat), Row8 X bb 0 blankB → Row8 (X.setCells bb 0 (U8s (supBody p ++ supSum p))) bb 0 (supL p) := fun X bb hx => by
    have h2 := hx.over (supBody p ++ supSum p) (by rw [List.length_append, hlen, supSum_len, blankB_len]; omega)
    have e : supBody p ++ supSum p ++ blankB.drop (supBody p ++ supSum p).length = supL p := by
      unfold supL; rw [if_pos h, List.length_append, hlen, supSum_len]; unfold blankB; rw [List.drop_replicate]
    rw [e] at h2; exact h2
  have hLl := supL_len hp.sum h
  have hS := fun W hW => crcBytes_any (⟨(supBody p).toArray⟩ : ByteArray) (by show (supBody p).length ≤ maxLen; unfold maxLen; omega) W hW
  have hBS := supL_cat p
  have hBsz : (⟨(supBody p).toArray⟩ : ByteArray).size = 40 := hlen
  rw [toList_mk] at hS
  have hSsz : (sumBytes (Caulk.Crc.sum (supBody p))).size = 4 := rfl
  generalize sumBytes (Caulk.Crc.sum (supBody p)) = S at hS hBS hSsz
  generalize (⟨(joinS supK (supNs p)).toArray⟩ : ByteArray) = J at hJ hcat hJl
  generalize (⟨(ptrS p.a p.b p.sum).toArray⟩ : ByteArray) = P at hP hcat hPl
  generalize (⟨(supBody p).toArray⟩ : ByteArray) = B at hS hBS hcat hBsz
  obtain ⟨Z, hZ⟩ : ∃ Z, B ++ S = Z := ⟨_, rfl⟩
  have HSZ : Hid (Z.size = 44) := Lib.hid (by rw [← hZ, ByteArray.size_append, hBsz, hSsz])
  have HBS : Hid (Z.data.toList = supBody p ++ supSum p) := Lib.hid (by rw [← hZ, hBS])
  have HR := Lib.hid hR
  have HLl := Lib.hid hLl
  generalize supBody p ++ supSum p = BS at HBS HR
  generalize supL p = L at HR HLl ⊢
  have n1 : ¬ 9223372036854775807 < (⟨#[99, 97, 117, 108, 107, 32, 48, 49]⟩ : ByteArray).size + J.size := by show ¬ _ < 8 + J.size; omega
  have n1' : ¬ 9223372036854775807 < 8 + J.size := by omega
  have n2 : ¬ 9223372036854775807 < ((⟨#[99, 97, 117, 108, 107, 32, 48, 49]⟩ : ByteArray) ++ J).size + P.size := by rw [ByteArray.size_append]; show ¬ _ < (8 + J.size) + P.size; omega
  have n3 : ¬ 9223372036854775807 < B.size + S.size := by omega
  unfold SP.v at hC ⊢
  clear hp h hT hJ0 hlen hJl hPl hR hLl hBS hBsz hSsz
  go_enter Tryd.func23, Tryd.ntmps23
  go_upto_region 1 with fail
  generalize w.alloc (.cells #[.int .i64 p.gen, .int .i64 p.s, .int .i64 p.k, .int .i64 p.m, .int .i64 p.c, .int .i64 p.len, .int .i64 p.a, .int .i64 p.b, .int .u32 (p.sum : Int)] 53) = w0 at HX0 HB0 ⊢
  obtain ⟨_, x0, x1, x2, x3, x4, x5, x6, x7, x8⟩ := HX0.out
  go_upto_region 5 with (go_at_call 27; with_reducible refine (hC _).mono ?_; rintro e w1 ⟨rfl, hb1⟩; have HB1 := Lib.hid (HB0.out.trans (hb1.mono HB0.out.size)); have HX1 := Lib.hid (HX0.out.below hb1); clear hb1; obtain ⟨_, y0, y1, y2, y3, y4, y5, y6, y7, y8⟩ := HX1.out)
  have HQ := Lib.hid (SQ.start HB1.out HX1.out 23)
  clear x0 x1 x2 x3 x4 x5 x6 x7 x8 y0 y1 y2 y3 y4 y5 y6 y7 y8 hC
  generalize w1.heap.size = b5 at HQ ⊢
  generalize w1.alloc (.cells #[.int .i64 p.s, .int .i64 p.k, .int .i64 p.m, .int .i64 p.c] 23) = W at HQ ⊢
  clear HX0 HB0 HX1 HB1
  have HK0 : Hid (W.cell? ⟨w.heap.size, 0, none⟩ = some (.int .i64 p.gen) ∧ W.cell? ⟨w.heap.size, 5, none⟩ = some (.int .i64 p.len) ∧ W.cell? ⟨b5, 0, none⟩ = some (.int .i64 p.s) ∧ W.cell? ⟨b5, 1, none⟩ = some (.int .i64 p.k) ∧ W.cell? ⟨b5, 2, none⟩ = some (.int .i64 p.m) ∧ W.cell? ⟨b5, 3, none⟩ = some (.int .i64 p.c)) := Lib.hid HQ.out.six
  have HKC : Hid (W.drew.cell? ⟨w.heap.size, 0, none⟩ = some (.int .i64 p.gen) ∧ W.drew.cell? ⟨w.heap.size, 5, none⟩ = some (.int .i64 p.len) ∧ W.drew.cell? ⟨b5, 0, none⟩ = some (.int .i64 p.s) ∧ W.drew.cell? ⟨b5, 1, none⟩ = some (.int .i64 p.k) ∧ W.drew.cell? ⟨b5, 2, none⟩ = some (.int .i64 p.m) ∧ W.drew.cell? ⟨b5, 3, none⟩ = some (.int .i64 p.c)) := Lib.hid HQ.out.six
  have HKA : Hid (∀ oo : Obj, (W.alloc oo).cell? ⟨w.heap.size, 0, none⟩ = some (.int .i64 p.gen) ∧ (W.alloc oo).cell? ⟨w.heap.size, 5, none⟩ = some (.int .i64 p.len) ∧ (W.alloc oo).cell? ⟨b5, 0, none⟩ = some (.int .i64 p.s) ∧ (W.alloc oo).cell? ⟨b5, 1, none⟩ = some (.int .i64 p.k) ∧ (W.alloc oo).cell? ⟨b5, 2, none⟩ = some (.int .i64 p.m) ∧ (W.alloc oo).cell? ⟨b5, 3, none⟩ = some (.int .i64 p.c)) := Lib.hid (fun oo => (HQ.out.below (below1 W oo)).six)
  have HKD : Hid (∀ oo : Obj, (W.alloc oo).drew.cell? ⟨w.heap.size, 0, none⟩ = some (.int .i64 p.gen) ∧ (W.alloc oo).drew.cell? ⟨w.heap.size, 5, none⟩ = some (.int .i64 p.len) ∧ (W.alloc oo).drew.cell? ⟨b5, 0, none⟩ = some (.int .i64 p.s) ∧ (W.alloc oo).drew.cell? ⟨b5, 1, none⟩ = some (.int .i64 p.k) ∧ (W.alloc oo).drew.cell? ⟨b5, 2, none⟩ = some (.int .i64 p.m) ∧ (W.alloc oo).drew.cell? ⟨b5, 3, none⟩ = some (.int .i64 p.c)) := Lib.hid (fun oo => (HQ.out.below (below1 W oo)).six)
  have HKE : Hid (∀ oo : Obj, (W.drew.alloc oo).cell? ⟨w.heap.size, 0, none⟩ = some (.int .i64 p.gen) ∧ (W.drew.alloc oo).cell? ⟨w.heap.size, 5, none⟩ = some (.int .i64 p.len) ∧ (W.drew.alloc oo).cell? ⟨b5, 0, none⟩ = some (.int .i64 p.s) ∧ (W.drew.alloc oo).cell? ⟨b5, 1, none⟩ = some (.int .i64 p.k) ∧ (W.drew.alloc oo).cell? ⟨b5, 2, none⟩ = some (.int .i64 p.m) ∧ (W.drew.alloc oo).cell? ⟨b5, 3, none⟩ = some (.int .i64 p.c)) := Lib.hid (fun oo => (HQ.out.drew.below (below1 W.drew oo)).six)
  go_region_held3 (fun w' => w'.cell? ⟨w.heap.size, 0, none⟩ = some (.int .i64 p.gen) ∧ w'.cell? ⟨w.heap.size, 5, none⟩ = some (.int .i64 p.len) ∧ w'.cell? ⟨b5, 0, none⟩ = some (.int .i64 p.s) ∧ w'.cell? ⟨b5, 1, none⟩ = some (.int .i64 p.k) ∧ w'.cell? ⟨b5, 2, none⟩ = some (.int .i64 p.m) ∧ w'.cell? ⟨b5, 3, none⟩ = some (.int .i64 p.c)) (first | with_reducible exact HK0.out | with_reducible exact HKC.out | with_reducible exact HKA.out _ | with_reducible exact HKD.out _ | with_reducible exact HKE.out _ | with_reducible exact HK1.out | with_reducible exact HKB.out _ | with_reducible exact HK2.out)
    (first
      | (go_at_call 70; with_reducible refine (supWidths_any _).mono ?_; rintro e w1 ⟨rfl, hn1, hb1⟩
         first
         | (have HN1 : Hid (NumV w1 (.slice (some ⟨W.heap.size, 0, none⟩) 7 7) (i64s supK)) := Lib.hid (by exact hn1))
         | (have HN1 : Hid (NumV w1 (.slice (some ⟨W.heap.size + 1, 0, none⟩) 7 7) (i64s supK)) := Lib.hid (by simpa using hn1))
         have HZ1 : Hid (SQ w w1 p b5) := Lib.hid (by first | with_reducible exact HQ.out.drew.below hb1 | with_reducible exact (HQ.out.below (below1 W (.cells #[.int .u64 (un p.gen : Int), .int .u64 (un p.s : Int), .int .u64 (un p.k : Int), .int .u64 (un p.m : Int), .int .u64 0, .int .u64 (un p.c : Int), .int .u64 (un p.len : Int)] 95))).drew.below hb1 | with_reducible exact (HQ.out.drew.below (below1 W.drew (.cells #[.int .u64 (un p.gen : Int), .int .u64 (un p.s : Int), .int .u64 (un p.k : Int), .int .u64 (un p.m : Int), .int .u64 0, .int .u64 (un p.c : Int), .int .u64 (un p.len : Int)] 95))).below hb1)
         have HK1 : Hid (w1.cell? ⟨w.heap.size, 0, none⟩ = some (.int .i64 p.gen) ∧ w1.cell? ⟨w.heap.size, 5, none⟩ = some (.int .i64 p.len) ∧ w1.cell? ⟨b5, 0, none⟩ = some (.int .i64 p.s) ∧ w1.cell? ⟨b5, 1, none⟩ = some (.int .i64 p.k) ∧ w1.cell? ⟨b5, 2, none⟩ = some (.int .i64 p.m) ∧ w1.cell? ⟨b5, 3, none⟩ = some (.int .i64 p.c)) := Lib.hid HZ1.out.six
         have HKB : Hid (∀ oo : Obj, (w1.alloc oo).cell? ⟨w.heap.size, 0, none⟩ = some (.int .i64 p.gen) ∧ (w1.alloc oo).cell? ⟨w.heap.size, 5, none⟩ = some (.int .i64 p.len) ∧ (w1.alloc oo).cell? ⟨b5, 0, none⟩ = some (.int .i64 p.s) ∧ (w1.alloc oo).cell? ⟨b5, 1, none⟩ = some (.int .i64 p.k) ∧ (w1.alloc oo).cell? ⟨b5, 2, none⟩ = some (.int .i64 p.m) ∧ (w1.alloc oo).cell? ⟨b5, 3, none⟩ = some (.int .i64 p.c)) := Lib.hid (fun oo => (HZ1.out.below (below1 w1 oo)).six)
         first
         | (have HNB : Hid (NumV w1 (.slice (some ⟨W.heap.size, 0, none⟩) 7 7) (u64s (supNs p))) := Lib.hid (by first | with_reducible exact (num_ns W _ 95 p ((Below.refl _ _).drew)).below hb1 (Nat.le_refl _) | with_reducible exact (num_ns W.drew _ 95 p (Below.refl _ _)).below hb1 (Nat.le_refl _)))
         | skip
         clear hb1 hn1)
      | (go_at_call 69
         first
         | (with_reducible refine (hJ _ _ _ HN1.out HNB.out).mono ?_)
         | (with_reducible refine (hJ _ _ _ (HN1.out.below (below1 w1 (.cells #[.int .u64 (un p.gen : Int), .int .u64 (un p.s : Int), .int .u64 (un p.k : Int), .int .u64 (un p.m : Int), .int .u64 0, .int .u64 (un p.c : Int), .int .u64 (un p.len : Int)] 95)) (Nat.le_refl _)) (num_ns w1 _ 95 p (Below.refl _ _))).mono ?_)
         rintro e w2 ⟨rfl, hb2⟩
         have HZ2 : Hid (SQ w w2 p b5) := Lib.hid (by first | with_reducible exact HZ1.out.below hb2 | with_reducible exact (HZ1.out.below (below1 w1 (.cells #[.int .u64 (un p.gen : Int), .int .u64 (un p.s : Int), .int .u64 (un p.k : Int), .int .u64 (un p.m : Int), .int .u64 0, .int .u64 (un p.c : Int), .int .u64 (un p.len : Int)] 95))).below hb2)
         have HK2 : Hid (w2.cell? ⟨w.heap.size, 0, none⟩ = some (.int .i64 p.gen) ∧ w2.cell? ⟨w.heap.size, 5, none⟩ = some (.int .i64 p.len) ∧ w2.cell? ⟨b5, 0, none⟩ = some (.int .i64 p.s) ∧ w2.cell? ⟨b5, 1, none⟩ = some (.int .i64 p.k) ∧ w2.cell? ⟨b5, 2, none⟩ = some (.int .i64 p.m) ∧ w2.cell? ⟨b5, 3, none⟩ = some (.int .i64 p.c)) := Lib.hid HZ2.out.six
         clear hb2))
  all_goals obtain ⟨HBE, ⟨_, x0, x1, x2, x3, x4, x5, x6, x7, x8⟩, _, _, _, _, _⟩ := HZ2.out
  all_goals have HBE := Lib.hid HBE
  all_goals clear HKA HKB HKC HKD HKE HK0 HK1 HK2 HQ HZ1 HZ2 hJ HN1
  all_goals go_upto_region 13 with (go_at_call 71; with_reducible refine (hP _).mono ?_; rintro e w3 ⟨rfl, hb3⟩; have HB3 := Lib.hid (HBE.out.trans (hb3.mono HBE.out.size)); clear hb3)
  all_goals have HR4 := Lib.hid (ac_row w3)
  all_goals have HB4 := Lib.hid (HB3.out.trans ((below1 w3 (.cells Tryd.zeroCells116 116)).mono HB3.out.size))
  all_goals have HLB : Hid (w.heap.size ≤ w3.heap.size) := Lib.hid HB3.out.size
  all_goals generalize w3.heap.size = b10 at HR4 HLB ⊢
  all_goals generalize w3.alloc (.cells Tryd.zeroCells116 116) = w4 at HR4 HB4 ⊢
  all_goals go_region_law (first
    | (go_simp; go_at_call 72; (refine (hS _ (HT.out.below (HB4.out.trans ((Below.refl _ _).drew)) (Nat.le_refl _))).mono ?_); rintro e w5 ⟨rfl, hb5⟩; have HB5 := Lib.hid ((HB4.out.trans ((Below.refl _ _).drew)).trans (hb5.mono HB4.out.size)); have HR5 := Lib.hid (HR4.out.drew.below hb5 HR4.out.1); clear hb5)
    | (refine step_copy_str _ (by rfl) (.tmp 58) (.tmp 62) 87 9 (by rfl) 5 Tryd.underlying87 Tryd.sizeOf5 b10 0 512 512 (by rfl) Z (by rfl) (by rw [HSZ.out]; omega) (fun j hj => HR5.out.there j (by rw [HSZ.out] at hj; rw [blankB_len]; omega)) ?_))
  all_goals rw [HBS.out]
  all_goals have HR6 := Lib.hid (HR.out _ _ HR5.out)
  all_goals have HB6 := Lib.hid (Go.below_setCells HLB.out (U8s BS) 0 _ HB5.out)
  all_goals have hcv := string_at (cap := 512) 512 HLl.out.symm HR6.out
  all_goals generalize w5.setCells b10 0 (U8s BS) = w6 at HR6 HB6 hcv ⊢
  all_goals go_wp2_with fail
  all_goals go_ret2
  all_goals exact ⟨rfl, HB6.out⟩
end Go.Proofs.YtfpnlaafefdcaaaDoor
namespace Go.Proofs.YtfpnlaafefdcaaaDoor
open Go.RowKit

theorem supBytes_any (p : SP) (hp : p.In) (w : World) (hT : Tab w) : Calls Tryd.prog 23 #[p.v] w fun e w' => e = .returned (.tuple #[.string ⟨(supL p).toArray⟩, .int .i64 (supE p)]) ∧ Below w.heap.size w w' := by
  by_cases h : SupOk p
  · rw [show supE p = 0 from if_pos h]; exact supBytes_yes p hp h w hT
  · rw [show supE p = 2 from if_neg h, show supL p = [] from if_neg h]; exact supBytes_no p hp h w
theorem own_seven {w : World} {base : Nat} {v : Value} {L : List Nat} (h : OwnN w base v L) (hl : L.length = 7) : ∃ b off cap, v = .slice (some ⟨b, off, none⟩) 7 cap ∧ 7 ≤ cap ∧ b < w.heap.size ∧ ∀ j, j < 7 → w.cell? ⟨b, off + j, none⟩ = some (.int .u64 ((L.getD j 0 : Nat) : Int)) := by
  obtain ⟨A, cap, hv, h1, _, h3⟩ := h.num
  rw [u64s_len, hl] at hv h1 h3
  obtain ⟨b, off, rfl, hb, hc⟩ := h3.resolve_left (by intro e; have := congrArg List.length e; rw [u64s_len, hl] at this; simp at this)
  exact ⟨b, off, cap, hv, h1, hb, fun j hj => by rw [hc j hj]; exact u64s_at (by omega)⟩
theorem allL_seven {s : List UInt8} (h : allE s supK = 0) : (allV s supK).length = 7 := by
  unfold allV; rw [if_pos h, allL_len]; rfl
/-- Why bytes are no superblock's. -/
theorem supIs_drop {l : List UInt8} (h : SupIs l) : allE (l.drop 8) supK = 0 ∧ getPE (supR l) = 0 ∧ ∃ r, l = magicL ++ r := by
  refine ⟨?_, ?_, supIs_magic h⟩
  · have h1 := supIs_len h
    have h2 := h.2
    unfold supL supBody at h2
    rw [if_pos h.1, List.append_assoc, List.append_assoc, List.append_assoc] at h2
    have hd : l.drop 8 = joinS supK (supNs (supD l)) ++ (ptrS (supD l).a (supD l).b (supD l).sum ++ (supSum (supD l) ++ List.replicate 468 0)) := by
      rw [← h2, List.drop_append_of_le_length (by decide)]
      rw [show magicL.drop 8 = [] by decide, List.nil_append, h2]
    rw [hd]
    exact (join_back (sup_join h.1) _).1
  · have h2 := h.2
    unfold supL supBody at h2
    rw [if_pos h.1, List.append_assoc, List.append_assoc, List.append_assoc] at h2
    have hd : l.drop 8 = joinS supK (supNs (supD l)) ++ (ptrS (supD l).a (supD l).b (supD l).sum ++ (supSum (supD l) ++ List.replicate 468 0)) := by
      rw [← h2, List.drop_append_of_le_length (by decide)]
      rw [show magicL.drop 8 = [] by decide, List.nil_append, h2]
    have hr : supR l = ptrS (supD l).a (supD l).b (supD l).sum ++ (supSum (supD l) ++ List.replicate 468 0) := by
      unfold supR; rw [hd]; exact (join_back (sup_join h.1) _).2.2
    rw [hr]
    have q0 : joinE ptrK (ptrL (supD l).a (supD l).b (supD l).sum) = 0 := sup_ptr (supD_in l).sum h.1
    exact (join_back q0 _).1
theorem cutPre_any (s p : ByteArray) (w : World) : Calls Tryd.prog 75 #[.string s, .string p] w fun e w' => e = .returned (.tuple #[.string ⟨(Lib.trimPrefix s.data.toList p.data.toList).toArray⟩, .bool (Lib.hasPrefix s.data.toList p.data.toList)]) ∧ w' = w :=
  Any.strings_CutPrefix Tryd.lays103 s p w
/-- What has the beginning. -/
theorem cut_magic (l : List UInt8) : (Lib.hasPrefix l magicL = true ∧ Lib.trimPrefix l magicL = l.drop 8 ∧ 8 ≤ l.length) ∨ (Lib.hasPrefix l magicL = false ∧ ¬ SupIs l) := by
  cases h : Lib.hasPrefix l magicL
  · refine .inr ⟨rfl, fun hi => ?_⟩
    obtain ⟨r, hr⟩ := supIs_magic hi
    subst hr
    have h2 : magicL.isPrefixOf (magicL ++ r) = true := List.isPrefixOf_iff_prefix.2 (List.prefix_append _ _)
    unfold Lib.hasPrefix at h
    rw [h2] at h
    cases h
  · refine .inl ⟨rfl, ?_, ?_⟩
    · unfold Lib.trimPrefix; rw [if_pos h]; rfl
    · have := (List.isPrefixOf_iff_prefix.1 h).length_le; exact this
/-- What the bytes say, in cells. -/
theorem supD_cells (l : List UInt8) : SP.v (supD l) = .agg #[.int .i64 (si (supN l 0)), .int .i64 (si (supN l 1)), .int .i64 (si (supN l 2)), .int .i64 (si (supN l 3)), .int .i64 (si (supN l 5)), .int .i64 (si (supN l 6)), .int .i64 (getA (supR l) 0 : Int), .int .i64 (getA (supR l) 1 : Int), .int .u32 (getA (supR l) 2 : Int)] := rfl
theorem si_wrap (n : Nat) : IntKind.i64.wrap (n : Int) = si n := rfl
/-- A result of nine cells. -/
structure B9 (w W : World) (b : Nat) (p : SP) : Prop where
  be : Below w.heap.size w W
  hb : w.heap.size ≤ b
  bx : SBox W b p
  f0 : W.frozen? ⟨b, 0, none⟩ = false
  f1 : W.frozen? ⟨b, 1, none⟩ = false
  f2 : W.frozen? ⟨b, 2, none⟩ = false
  f3 : W.frozen? ⟨b, 3, none⟩ = false
  f4 : W.frozen? ⟨b, 4, none⟩ = false
  f5 : W.frozen? ⟨b, 5, none⟩ = false
  f6 : W.frozen? ⟨b, 6, none⟩ = false
  f7 : W.frozen? ⟨b, 7, none⟩ = false
  f8 : W.frozen? ⟨b, 8, none⟩ = false
section
variable {w W W' : World} {b : Nat} {p : SP}
theorem B9.new (w : World) (p : SP) (t : Nat) : B9 w (w.alloc (.cells #[.int .i64 p.gen, .int .i64 p.s, .int .i64 p.k, .int .i64 p.m, .int .i64 p.c, .int .i64 p.len, .int .i64 p.a, .int .i64 p.b, .int .u32 (p.sum : Int)] t)) w.heap.size p :=
  ⟨below1 _ _, Nat.le_refl _, SBox.new w p t, frozen_of_row _ _ _ _ t (heap_alloc_new w _), frozen_of_row _ _ _ _ t (heap_alloc_new w _), frozen_of_row _ _ _ _ t (heap_alloc_new w _), frozen_of_row _ _ _ _ t (heap_alloc_new w _), frozen_of_row _ _ _ _ t (heap_alloc_new w _), frozen_of_row _ _ _ _ t (heap_alloc_new w _), frozen_of_row _ _ _ _ t (heap_alloc_new w _), frozen_of_row _ _ _ _ t (heap_alloc_new w _), frozen_of_row _ _ _ _ t (heap_alloc_new w _)⟩
theorem B9.below (k : B9 w W b p) (h : Below W.heap.size W W') : B9 w W' b p :=
  ⟨k.be.trans (h.mono k.be.size), k.hb, k.bx.below h, (h.frozen (p := ⟨b, 0, none⟩) k.bx.lt).trans k.f0, (h.frozen (p := ⟨b, 1, none⟩) k.bx.lt).trans k.f1, (h.frozen (p := ⟨b, 2, none⟩) k.bx.lt).trans k.f2, (h.frozen (p := ⟨b, 3, none⟩) k.bx.lt).trans k.f3, (h.frozen (p := ⟨b, 4, none⟩) k.bx.lt).trans k.f4, (h.frozen (p := ⟨b, 5, none⟩) k.bx.lt).trans k.f5, (h.frozen (p := ⟨b, 6, none⟩) k.bx.lt).trans k.f6, (h.frozen (p := ⟨b, 7, none⟩) k.bx.lt).trans k.f7, (h.frozen (p := ⟨b, 8, none⟩) k.bx.lt).trans k.f8⟩
/-- Nine cells that are stored. -/
theorem B9.put (k : B9 w W b p) (v0 v1 v2 v3 v4 v5 v6 v7 v8 : Value) :
    ∃ W3, (((((((((W.setCell ⟨b, 0, none⟩ v0).setCell ⟨b, 1, none⟩ v1).setCell ⟨b, 2, none⟩ v2).setCell ⟨b, 3, none⟩ v3).setCell ⟨b, 4, none⟩ v4).setCell ⟨b, 5, none⟩ v5).setCell ⟨b, 6, none⟩ v6).setCell ⟨b, 7, none⟩ v7).setCell ⟨b, 8, none⟩ v8) = W3 ∧
      W3.cell? ⟨b, 0, none⟩ = some v0 ∧ W3.cell? ⟨b, 1, none⟩ = some v1 ∧ W3.cell? ⟨b, 2, none⟩ = some v2 ∧ W3.cell? ⟨b, 3, none⟩ = some v3 ∧ W3.cell? ⟨b, 4, none⟩ = some v4 ∧ W3.cell? ⟨b, 5, none⟩ = some v5 ∧ W3.cell? ⟨b, 6, none⟩ = some v6 ∧ W3.cell? ⟨b, 7, none⟩ = some v7 ∧ W3.cell? ⟨b, 8, none⟩ = some v8 ∧ Below w.heap.size w W3 := by
  refine ⟨_, rfl, ?_⟩
  have hs : ∀ j, j < 9 → (W.cell? ⟨b, 0 + j, none⟩).isSome = true := fun j hj => by
    have : j = 0 ∨ j = 1 ∨ j = 2 ∨ j = 3 ∨ j = 4 ∨ j = 5 ∨ j = 6 ∨ j = 7 ∨ j = 8 := by omega
    rcases this with rfl | rfl | rfl | rfl | rfl | rfl | rfl | rfl | rfl
    · rw [k.bx.c0]; rfl
    · rw [k.bx.c1]; rfl
    · rw [k.bx.c2]; rfl
    · rw [k.bx.c3]; rfl
    · rw [k.bx.c4]; rfl
    · rw [k.bx.c5]; rfl
    · rw [k.bx.c6]; rfl
    · rw [k.bx.c7]; rfl
    · rw [k.bx.c8]; rfl
  have h := World.cell?_setCells_in b [v0, v1, v2, v3, v4, v5, v6, v7, v8] 0 W hs
  refine ⟨h 0 (by simp), h 1 (by simp), h 2 (by simp), h 3 (by simp), h 4 (by simp), h 5 (by simp), h 6 (by simp), h 7 (by simp), h 8 (by simp), ?_⟩
  exact Go.below_setCells k.hb [v0, v1, v2, v3, v4, v5, v6, v7, v8] 0 W k.be
end
/-- The numbers and the pointer, in memory. -/
structure PF (w W : World) (b off b8 : Nat) (l : List UInt8) : Prop where
  k : B9 w W w.heap.size SP.zero
  lt : b < W.heap.size
  nums : ∀ j, j < 7 → W.cell? ⟨b, off + j, none⟩ = some (.int .u64 (supN l j : Int))
  l8 : b8 < W.heap.size
  p0 : W.cell? ⟨b8, 0, none⟩ = some (.int .i64 (getA (supR l) 0 : Int))
  p1 : W.cell? ⟨b8, 1, none⟩ = some (.int .i64 (getA (supR l) 1 : Int))
  p2 : W.cell? ⟨b8, 2, none⟩ = some (.int .u32 (getA (supR l) 2 : Int))
theorem PF.below {w W W' : World} {b off b8 : Nat} {l : List UInt8} (k : PF w W b off b8 l) (h : Below W.heap.size W W') : PF w W' b off b8 l :=
  ⟨k.k.below h, Nat.lt_of_lt_of_le k.lt h.size, fun j hj => (h.cell (p := ⟨b, off + j, none⟩) k.lt).trans (k.nums j hj), Nat.lt_of_lt_of_le k.l8 h.size, (h.cell (p := ⟨b8, 0, none⟩) k.l8).trans k.p0, (h.cell (p := ⟨b8, 1, none⟩) k.l8).trans k.p1, (h.cell (p := ⟨b8, 2, none⟩) k.l8).trans k.p2⟩
theorem PF.drew {w W : World} {b off b8 : Nat} {l : List UInt8} (k : PF w W b off b8 l) : PF w W.drew b off b8 l := k.below ((Below.refl _ _).drew)
theorem PF.seven {w W : World} {b off b8 : Nat} {l : List UInt8} (k : PF w W b off b8 l) : W.cell? ⟨b, off, none⟩ = some (.int .u64 (supN l 0 : Int)) ∧ W.cell? ⟨b, off + 1, none⟩ = some (.int .u64 (supN l 1 : Int)) ∧ W.cell? ⟨b, off + 2, none⟩ = some (.int .u64 (supN l 2 : Int)) ∧ W.cell? ⟨b, off + 3, none⟩ = some (.int .u64 (supN l 3 : Int)) ∧ W.cell? ⟨b, off + 5, none⟩ = some (.int .u64 (supN l 5 : Int)) ∧ W.cell? ⟨b, off + 6, none⟩ = some (.int .u64 (supN l 6 : Int)) :=
  ⟨k.nums 0 (by omega), k.nums 1 (by omega), k.nums 2 (by omega), k.nums 3 (by omega), k.nums 5 (by omega), k.nums 6 (by omega)⟩
/-- And the geometry. -/
structure PG2 (w W : World) (b off b8 b9 : Nat) (l : List UInt8) : Prop where
  p : PF w W b off b8 l
  l9 : b9 < W.heap.size
  g0 : W.cell? ⟨b9, 0, none⟩ = some (.int .i64 (si (supN l 1)))
  g1 : W.cell? ⟨b9, 1, none⟩ = some (.int .i64 (si (supN l 2)))
  g2 : W.cell? ⟨b9, 2, none⟩ = some (.int .i64 (si (supN l 3)))
  g3 : W.cell? ⟨b9, 3, none⟩ = some (.int .i64 (si (supN l 5)))
theorem PG2.below {w W W' : World} {b off b8 b9 : Nat} {l : List UInt8} (k : PG2 w W b off b8 b9 l) (h : Below W.heap.size W W') : PG2 w W' b off b8 b9 l :=
  ⟨k.p.below h, Nat.lt_of_lt_of_le k.l9 h.size, (h.cell (p := ⟨b9, 0, none⟩) k.l9).trans k.g0, (h.cell (p := ⟨b9, 1, none⟩) k.l9).trans k.g1, (h.cell (p := ⟨b9, 2, none⟩) k.l9).trans k.g2, (h.cell (p := ⟨b9, 3, none⟩) k.l9).trans k.g3⟩
theorem PG2.drew {w W : World} {b off b8 b9 : Nat} {l : List UInt8} (k : PG2 w W b off b8 b9 l) : PG2 w W.drew b off b8 b9 l := k.below ((Below.refl _ _).drew)
theorem PG2.start {w W : World} {b off b8 : Nat} {l : List UInt8} (k : PF w W b off b8 l) : PG2 w (W.alloc (.cells #[.int .i64 (si (supN l 1)), .int .i64 (si (supN l 2)), .int .i64 (si (supN l 3)), .int .i64 (si (supN l 5))] 23)) b off b8 W.heap.size l :=
  ⟨k.below (below1 _ _), by simp, by simp [go_sem], by simp [go_sem], by simp [go_sem], by simp [go_sem]⟩
theorem PG2.nine {w W : World} {b off b8 b9 : Nat} {l : List UInt8} (k : PG2 w W b off b8 b9 l) : W.cell? ⟨b, off, none⟩ = some (.int .u64 (supN l 0 : Int)) ∧ W.cell? ⟨b, off + 6, none⟩ = some (.int .u64 (supN l 6 : Int)) ∧ W.cell? ⟨b9, 0, none⟩ = some (.int .i64 (si (supN l 1))) ∧ W.cell? ⟨b9, 1, none⟩ = some (.int .i64 (si (supN l 2))) ∧ W.cell? ⟨b9, 2, none⟩ = some (.int .i64 (si (supN l 3))) ∧ W.cell? ⟨b9, 3, none⟩ = some (.int .i64 (si (supN l 5))) ∧ W.cell? ⟨b8, 0, none⟩ = some (.int .i64 (getA (supR l) 0 : Int)) ∧ W.cell? ⟨b8, 1, none⟩ = some (.int .i64 (getA (supR l) 1 : Int)) ∧ W.cell? ⟨b8, 2, none⟩ = some (.int .u32 (getA (supR l) 2 : Int)) :=
  ⟨k.p.nums 0 (by omega), k.p.nums 6 (by omega), k.g0, k.g1, k.g2, k.g3, k.p.p0, k.p.p1, k.p.p2⟩
set_option maxRecDepth 100000 in
set_option maxHeartbeats 4000000 in
/-- Where the numbers and the pointer are there. -/
theorem supParse_there (s : ByteArray) (h1 : Lib.hasPrefix s.data.toList magicL = true) (h2 : Lib.trimPrefix s.data.toList magicL = s.data.toList.drop 8) (hA : allE (s.data.toList.drop 8) supK = 0) (hG : getPE (supR s.data.toList) = 0) (w : World) (hT : Tab w) :
    Calls Tryd.prog 25 #[.string s] w fun e w' => e = .returned (.tuple #[SP.v (supP s.data.toList), .int .i64 (supPE s.data.toList)]) ∧ Below w.heap.size w w' := by
  obtain ⟨l, hl⟩ : ∃ l, l = s.data.toList := ⟨_, rfl⟩
  have hs : s = ⟨l.toArray⟩ := by rw [hl]
  rw [← hl] at h1 h2 hA hG ⊢
  have hCut := fun W => cutPre_any s ⟨magicL.toArray⟩ W
  rw [show (⟨magicL.toArray⟩ : ByteArray).data.toList = magicL from rfl, ← hl, h1, h2, show (⟨magicL.toArray⟩ : ByteArray) = ⟨#[99, 97, 117, 108, 107, 32, 48, 49]⟩ from rfl] at hCut
  have hAll := fun v W hk => fldAll_any (⟨(l.drop 8).toArray⟩ : ByteArray) supK v W hk (by decide)
  rw [show (⟨(l.drop 8).toArray⟩ : ByteArray).data.toList = l.drop 8 from rfl, hA] at hAll
  rw [show allT (l.drop 8) supK = supR l from rfl] at hAll
  have hGet := fun W => fldGetPtr_any (⟨(supR l).toArray⟩ : ByteArray) W
  rw [show (⟨(supR l).toArray⟩ : ByteArray).data.toList = supR l from rfl, hG] at hGet
  unfold getPV at hGet
  have hSv := Lib.hid (fun (B : Nat) (W : World) (v : Value) (h : OwnN W B v (allV (l.drop 8) supK)) => own_seven h (allL_seven hA))
  have hBy := fun W hW => supBytes_any (supD l) (supD_in l) W hW
  rw [supD_cells] at hBy
  have hN : ∀ j, (allV (l.drop 8) supK).getD j 0 = supN l j := fun _ => rfl
  simp only [hN] at hSv
  have hDv := Lib.hid (supD_cells l)
  have hW : ∀ j, IntKind.i64.wrap (supN l j : Int) = si (supN l j) := fun _ => rfl
  have HX0 : Hid (B9 w (w.alloc (.cells #[.int .i64 0, .int .i64 0, .int .i64 0, .int .i64 0, .int .i64 0, .int .i64 0, .int .i64 0, .int .i64 0, .int .u32 0] 53)) w.heap.size SP.zero) := Lib.hid (B9.new w SP.zero 53)
  have HT := Lib.hid hT
  have HS := Lib.hid hs
  clear hT hA hG h1 h2 hN hl hs
  generalize (⟨(l.drop 8).toArray⟩ : ByteArray) = R1 at *
  generalize (⟨(supR l).toArray⟩ : ByteArray) = R3 at *
  go_enter Tryd.func25, Tryd.ntmps25
  go_upto_region 1 with fail
  generalize w.alloc (.cells #[.int .i64 0, .int .i64 0, .int .i64 0, .int .i64 0, .int .i64 0, .int .i64 0, .int .i64 0, .int .i64 0, .int .u32 0] 53) = W0 at HX0 ⊢
  go_upto_region 10 with (first
    | (go_at_call 75; with_reducible refine (hCut _).mono ?_; rintro e w1 ⟨rfl, rfl⟩)
    | (go_at_call 70; with_reducible refine (supWidths_any _).mono ?_; rintro e w2 ⟨rfl, hn2, hb2⟩; have HX2 := Lib.hid (HX0.out.below hb2); have HN2 := Lib.hid hn2; clear hb2 hn2)
    | (go_at_call 76; refine (hAll _ _ HN2.out).mono ?_; rintro e w3 ⟨⟨x, rfl, hown⟩, hb3⟩; obtain ⟨b, off, cap, rfl, hcap, hlt, hc⟩ := hSv.out _ _ _ hown; have HX3 := Lib.hid (HX2.out.below hb3); have HC3 := Lib.hid hc; have HLT := Lib.hid hlt; clear hb3 hown hc hlt)
    | (go_at_call 77; with_reducible refine (hGet _).mono ?_; rintro e w4 ⟨rfl, hb4⟩; have HX4 := Lib.hid (HX3.out.below hb4); have HC4 := Lib.hid (fun j hj => (hb4.cell (p := ⟨b, off + j, none⟩) HLT.out).trans (HC3.out j hj)); have HLT4 := Lib.hid (Nat.lt_of_lt_of_le HLT.out hb4.size); clear hb4))
  have HB8 := B3.new w4 (.int .i64 (getA (supR l) 0 : Int)) (.int .i64 (getA (supR l) 1 : Int)) (.int .u32 (getA (supR l) 2 : Int)) 32
  have HBW := below1 w4 (.cells #[.int .i64 (getA (supR l) 0 : Int), .int .i64 (getA (supR l) 1 : Int), .int .u32 (getA (supR l) 2 : Int)] 32)
  have HP : Hid (PF w (w4.alloc (.cells #[.int .i64 (getA (supR l) 0 : Int), .int .i64 (getA (supR l) 1 : Int), .int .u32 (getA (supR l) 2 : Int)] 32)) b off w4.heap.size l) :=
    Lib.hid ⟨HX4.out.below HBW, Nat.lt_of_lt_of_le HLT4.out HBW.size, fun j hj => (HBW.cell (p := ⟨b, off + j, none⟩) HLT4.out).trans (HC4.out j hj), HB8.lt, HB8.c0, HB8.c1, HB8.c2⟩
  clear HB8 HBW HX0 HX2 HN2 HX3 HC3 HLT HX4 HC4 HLT4 hCut hGet hAll hSv
  generalize w4.heap.size = b8 at HP ⊢
  generalize w4.alloc (.cells #[.int .i64 (getA (supR l) 0 : Int), .int .i64 (getA (supR l) 1 : Int), .int .u32 (getA (supR l) 2 : Int)] 32) = w5 at HP ⊢
  have HK0 : Hid (w5.cell? ⟨b, off, none⟩ = some (.int .u64 (supN l 0 : Int)) ∧ w5.cell? ⟨b, off + 1, none⟩ = some (.int .u64 (supN l 1 : Int)) ∧ w5.cell? ⟨b, off + 2, none⟩ = some (.int .u64 (supN l 2 : Int)) ∧ w5.cell? ⟨b, off + 3, none⟩ = some (.int .u64 (supN l 3 : Int)) ∧ w5.cell? ⟨b, off + 5, none⟩ = some (.int .u64 (supN l 5 : Int)) ∧ w5.cell? ⟨b, off + 6, none⟩ = some (.int .u64 (supN l 6 : Int))) := Lib.hid HP.out.seven
  have HKC : Hid (w5.drew.cell? ⟨b, off, none⟩ = some (.int .u64 (supN l 0 : Int)) ∧ w5.drew.cell? ⟨b, off + 1, none⟩ = some (.int .u64 (supN l 1 : Int)) ∧ w5.drew.cell? ⟨b, off + 2, none⟩ = some (.int .u64 (supN l 2 : Int)) ∧ w5.drew.cell? ⟨b, off + 3, none⟩ = some (.int .u64 (supN l 3 : Int)) ∧ w5.drew.cell? ⟨b, off + 5, none⟩ = some (.int .u64 (supN l 5 : Int)) ∧ w5.drew.cell? ⟨b, off + 6, none⟩ = some (.int .u64 (supN l 6 : Int))) := Lib.hid HP.out.seven
  have HKA : Hid (∀ oo : Obj, (w5.alloc oo).cell? ⟨b, off, none⟩ = some (.int .u64 (supN l 0 : Int)) ∧ (w5.alloc oo).cell? ⟨b, off + 1, none⟩ = some (.int .u64 (supN l 1 : Int)) ∧ (w5.alloc oo).cell? ⟨b, off + 2, none⟩ = some (.int .u64 (supN l 2 : Int)) ∧ (w5.alloc oo).cell? ⟨b, off + 3, none⟩ = some (.int .u64 (supN l 3 : Int)) ∧ (w5.alloc oo).cell? ⟨b, off + 5, none⟩ = some (.int .u64 (supN l 5 : Int)) ∧ (w5.alloc oo).cell? ⟨b, off + 6, none⟩ = some (.int .u64 (supN l 6 : Int))) := Lib.hid (fun oo => (HP.out.below (below1 w5 oo)).seven)
  have HKD : Hid (∀ oo : Obj, (w5.alloc oo).drew.cell? ⟨b, off, none⟩ = some (.int .u64 (supN l 0 : Int)) ∧ (w5.alloc oo).drew.cell? ⟨b, off + 1, none⟩ = some (.int .u64 (supN l 1 : Int)) ∧ (w5.alloc oo).drew.cell? ⟨b, off + 2, none⟩ = some (.int .u64 (supN l 2 : Int)) ∧ (w5.alloc oo).drew.cell? ⟨b, off + 3, none⟩ = some (.int .u64 (supN l 3 : Int)) ∧ (w5.alloc oo).drew.cell? ⟨b, off + 5, none⟩ = some (.int .u64 (supN l 5 : Int)) ∧ (w5.alloc oo).drew.cell? ⟨b, off + 6, none⟩ = some (.int .u64 (supN l 6 : Int))) := Lib.hid (fun oo => (HP.out.below (below1 w5 oo)).seven)
  have HKE : Hid (∀ oo : Obj, (w5.drew.alloc oo).cell? ⟨b, off, none⟩ = some (.int .u64 (supN l 0 : Int)) ∧ (w5.drew.alloc oo).cell? ⟨b, off + 1, none⟩ = some (.int .u64 (supN l 1 : Int)) ∧ (w5.drew.alloc oo).cell? ⟨b, off + 2, none⟩ = some (.int .u64 (supN l 2 : Int)) ∧ (w5.drew.alloc oo).cell? ⟨b, off + 3, none⟩ = some (.int .u64 (supN l 3 : Int)) ∧ (w5.drew.alloc oo).cell? ⟨b, off + 5, none⟩ = some (.int .u64 (supN l 5 : Int)) ∧ (w5.drew.alloc oo).cell? ⟨b, off + 6, none⟩ = some (.int .u64 (supN l 6 : Int))) := Lib.hid (fun oo => (HP.out.drew.below (below1 w5.drew oo)).seven)
  go_region_held3 (fun w' => w'.cell? ⟨b, off, none⟩ = some (.int .u64 (supN l 0 : Int)) ∧ w'.cell? ⟨b, off + 1, none⟩ = some (.int .u64 (supN l 1 : Int)) ∧ w'.cell? ⟨b, off + 2, none⟩ = some (.int .u64 (supN l 2 : Int)) ∧ w'.cell? ⟨b, off + 3, none⟩ = some (.int .u64 (supN l 3 : Int)) ∧ w'.cell? ⟨b, off + 5, none⟩ = some (.int .u64 (supN l 5 : Int)) ∧ w'.cell? ⟨b, off + 6, none⟩ = some (.int .u64 (supN l 6 : Int))) (first | with_reducible exact HK0.out | with_reducible exact HKC.out | with_reducible exact HKA.out _ | with_reducible exact HKD.out _ | with_reducible exact HKE.out _) (fail)
  go_upto_region 11 with fail
  have HQ := Lib.hid (PG2.start HP.out).drew
  generalize w5.heap.size = b9 at HQ ⊢
  generalize (w5.alloc (.cells #[.int .i64 (si (supN l 1)), .int .i64 (si (supN l 2)), .int .i64 (si (supN l 3)), .int .i64 (si (supN l 5))] 23)).drew = w6 at HQ ⊢
  clear HP HK0 HKC HKA HKD HKE
  have HK0 : Hid (w6.cell? ⟨b, off, none⟩ = some (.int .u64 (supN l 0 : Int)) ∧ w6.cell? ⟨b, off + 6, none⟩ = some (.int .u64 (supN l 6 : Int)) ∧ w6.cell? ⟨b9, 0, none⟩ = some (.int .i64 (si (supN l 1))) ∧ w6.cell? ⟨b9, 1, none⟩ = some (.int .i64 (si (supN l 2))) ∧ w6.cell? ⟨b9, 2, none⟩ = some (.int .i64 (si (supN l 3))) ∧ w6.cell? ⟨b9, 3, none⟩ = some (.int .i64 (si (supN l 5))) ∧ w6.cell? ⟨b8, 0, none⟩ = some (.int .i64 (getA (supR l) 0 : Int)) ∧ w6.cell? ⟨b8, 1, none⟩ = some (.int .i64 (getA (supR l) 1 : Int)) ∧ w6.cell? ⟨b8, 2, none⟩ = some (.int .u32 (getA (supR l) 2 : Int))) := Lib.hid HQ.out.nine
  have HKC : Hid (w6.drew.cell? ⟨b, off, none⟩ = some (.int .u64 (supN l 0 : Int)) ∧ w6.drew.cell? ⟨b, off + 6, none⟩ = some (.int .u64 (supN l 6 : Int)) ∧ w6.drew.cell? ⟨b9, 0, none⟩ = some (.int .i64 (si (supN l 1))) ∧ w6.drew.cell? ⟨b9, 1, none⟩ = some (.int .i64 (si (supN l 2))) ∧ w6.drew.cell? ⟨b9, 2, none⟩ = some (.int .i64 (si (supN l 3))) ∧ w6.drew.cell? ⟨b9, 3, none⟩ = some (.int .i64 (si (supN l 5))) ∧ w6.drew.cell? ⟨b8, 0, none⟩ = some (.int .i64 (getA (supR l) 0 : Int)) ∧ w6.drew.cell? ⟨b8, 1, none⟩ = some (.int .i64 (getA (supR l) 1 : Int)) ∧ w6.drew.cell? ⟨b8, 2, none⟩ = some (.int .u32 (getA (supR l) 2 : Int))) := Lib.hid HQ.out.nine
  have HKA : Hid (∀ oo : Obj, (w6.alloc oo).cell? ⟨b, off, none⟩ = some (.int .u64 (supN l 0 : Int)) ∧ (w6.alloc oo).cell? ⟨b, off + 6, none⟩ = some (.int .u64 (supN l 6 : Int)) ∧ (w6.alloc oo).cell? ⟨b9, 0, none⟩ = some (.int .i64 (si (supN l 1))) ∧ (w6.alloc oo).cell? ⟨b9, 1, none⟩ = some (.int .i64 (si (supN l 2))) ∧ (w6.alloc oo).cell? ⟨b9, 2, none⟩ = some (.int .i64 (si (supN l 3))) ∧ (w6.alloc oo).cell? ⟨b9, 3, none⟩ = some (.int .i64 (si (supN l 5))) ∧ (w6.alloc oo).cell? ⟨b8, 0, none⟩ = some (.int .i64 (getA (supR l) 0 : Int)) ∧ (w6.alloc oo).cell? ⟨b8, 1, none⟩ = some (.int .i64 (getA (supR l) 1 : Int)) ∧ (w6.alloc oo).cell? ⟨b8, 2, none⟩ = some (.int .u32 (getA (supR l) 2 : Int))) := Lib.hid (fun oo => (HQ.out.below (below1 w6 oo)).nine)
  have HKD : Hid (∀ oo : Obj, (w6.alloc oo).drew.cell? ⟨b, off, none⟩ = some (.int .u64 (supN l 0 : Int)) ∧ (w6.alloc oo).drew.cell? ⟨b, off + 6, none⟩ = some (.int .u64 (supN l 6 : Int)) ∧ (w6.alloc oo).drew.cell? ⟨b9, 0, none⟩ = some (.int .i64 (si (supN l 1))) ∧ (w6.alloc oo).drew.cell? ⟨b9, 1, none⟩ = some (.int .i64 (si (supN l 2))) ∧ (w6.alloc oo).drew.cell? ⟨b9, 2, none⟩ = some (.int .i64 (si (supN l 3))) ∧ (w6.alloc oo).drew.cell? ⟨b9, 3, none⟩ = some (.int .i64 (si (supN l 5))) ∧ (w6.alloc oo).drew.cell? ⟨b8, 0, none⟩ = some (.int .i64 (getA (supR l) 0 : Int)) ∧ (w6.alloc oo).drew.cell? ⟨b8, 1, none⟩ = some (.int .i64 (getA (supR l) 1 : Int)) ∧ (w6.alloc oo).drew.cell? ⟨b8, 2, none⟩ = some (.int .u32 (getA (supR l) 2 : Int))) := Lib.hid (fun oo => (HQ.out.below (below1 w6 oo)).nine)
  have HKE : Hid (∀ oo : Obj, (w6.drew.alloc oo).cell? ⟨b, off, none⟩ = some (.int .u64 (supN l 0 : Int)) ∧ (w6.drew.alloc oo).cell? ⟨b, off + 6, none⟩ = some (.int .u64 (supN l 6 : Int)) ∧ (w6.drew.alloc oo).cell? ⟨b9, 0, none⟩ = some (.int .i64 (si (supN l 1))) ∧ (w6.drew.alloc oo).cell? ⟨b9, 1, none⟩ = some (.int .i64 (si (supN l 2))) ∧ (w6.drew.alloc oo).cell? ⟨b9, 2, none⟩ = some (.int .i64 (si (supN l 3))) ∧ (w6.drew.alloc oo).cell? ⟨b9, 3, none⟩ = some (.int .i64 (si (supN l 5))) ∧ (w6.drew.alloc oo).cell? ⟨b8, 0, none⟩ = some (.int .i64 (getA (supR l) 0 : Int)) ∧ (w6.drew.alloc oo).cell? ⟨b8, 1, none⟩ = some (.int .i64 (getA (supR l) 1 : Int)) ∧ (w6.drew.alloc oo).cell? ⟨b8, 2, none⟩ = some (.int .u32 (getA (supR l) 2 : Int))) := Lib.hid (fun oo => (HQ.out.drew.below (below1 w6.drew oo)).nine)
  go_region_held3 (fun w' => w'.cell? ⟨b, off, none⟩ = some (.int .u64 (supN l 0 : Int)) ∧ w'.cell? ⟨b, off + 6, none⟩ = some (.int .u64 (supN l 6 : Int)) ∧ w'.cell? ⟨b9, 0, none⟩ = some (.int .i64 (si (supN l 1))) ∧ w'.cell? ⟨b9, 1, none⟩ = some (.int .i64 (si (supN l 2))) ∧ w'.cell? ⟨b9, 2, none⟩ = some (.int .i64 (si (supN l 3))) ∧ w'.cell? ⟨b9, 3, none⟩ = some (.int .i64 (si (supN l 5))) ∧ w'.cell? ⟨b8, 0, none⟩ = some (.int .i64 (getA (supR l) 0 : Int)) ∧ w'.cell? ⟨b8, 1, none⟩ = some (.int .i64 (getA (supR l) 1 : Int)) ∧ w'.cell? ⟨b8, 2, none⟩ = some (.int .u32 (getA (supR l) 2 : Int))) (first | with_reducible exact HK0.out | with_reducible exact HKC.out | with_reducible exact HKA.out _ | with_reducible exact HKD.out _ | with_reducible exact HKE.out _) (fail)
  go_upto_region 12 with fail
  have HR := Lib.hid ((HQ.out.p.k.below (below1 w6 (.cells #[.int .i64 (si (supN l 0)), .int .i64 (si (supN l 1)), .int .i64 (si (supN l 2)), .int .i64 (si (supN l 3)), .int .i64 (si (supN l 5)), .int .i64 (si (supN l 6)), .int .i64 (getA (supR l) 0 : Int), .int .i64 (getA (supR l) 1 : Int), .int .u32 (getA (supR l) 2 : Int)] 53))).below ((Below.refl _ _).drew))
  have HY : Hid (SBox (w6.alloc (.cells #[.int .i64 (si (supN l 0)), .int .i64 (si (supN l 1)), .int .i64 (si (supN l 2)), .int .i64 (si (supN l 3)), .int .i64 (si (supN l 5)), .int .i64 (si (supN l 6)), .int .i64 (getA (supR l) 0 : Int), .int .i64 (getA (supR l) 1 : Int), .int .u32 (getA (supR l) 2 : Int)] 53)).drew w6.heap.size (supD l)) := Lib.hid (SBox.new w6 (supD l) 53).drew
  generalize w6.heap.size = b10 at HY ⊢
  generalize (w6.alloc (.cells #[.int .i64 (si (supN l 0)), .int .i64 (si (supN l 1)), .int .i64 (si (supN l 2)), .int .i64 (si (supN l 3)), .int .i64 (si (supN l 5)), .int .i64 (si (supN l 6)), .int .i64 (getA (supR l) 0 : Int), .int .i64 (getA (supR l) 1 : Int), .int .u32 (getA (supR l) 2 : Int)] 53)).drew = w7 at HR HY ⊢
  clear HQ HK0 HKC HKA HKD HKE
  obtain ⟨_, c0, c1, c2, c3, c4, c5, c6, c7, c8⟩ := HY.out
  unfold supD at c0 c1 c2 c3 c4 c5 c6 c7 c8
  dsimp only at c0 c1 c2 c3 c4 c5 c6 c7 c8
  by_cases hO : SupOk (supD l)
  · have e0 : supE (supD l) = 0 := if_pos hO
    rw [e0] at hBy
    by_cases hL : supL (supD l) = l
    · have HP : Hid (SP.v (supP l) = .agg #[.int .i64 (si (supN l 0)), .int .i64 (si (supN l 1)), .int .i64 (si (supN l 2)), .int .i64 (si (supN l 3)), .int .i64 (si (supN l 5)), .int .i64 (si (supN l 6)), .int .i64 (getA (supR l) 0 : Int), .int .i64 (getA (supR l) 1 : Int), .int .u32 (getA (supR l) 2 : Int)]) := Lib.hid (by rw [← hDv.out]; unfold supP; rw [if_pos ⟨hO, hL⟩])
      have HE : Hid (supPE l = 0) := Lib.hid (if_pos ⟨hO, hL⟩)
      rw [hL, ← HS.out] at hBy
      clear hO hL e0
      go_wp2_with (go_at_call 23; refine (hBy _ (HT.out.below HR.out.be (Nat.le_refl _))).mono ?_; rintro e w8 ⟨rfl, hb8⟩; have HR8 := Lib.hid (HR.out.below hb8); have HY8 := Lib.hid (HY.out.below hb8); clear hb8; clear c0 c1 c2 c3 c4 c5 c6 c7 c8; obtain ⟨_, c0, c1, c2, c3, c4, c5, c6, c7, c8⟩ := HY8.out; unfold supD at c0 c1 c2 c3 c4 c5 c6 c7 c8; dsimp only at c0 c1 c2 c3 c4 c5 c6 c7 c8; obtain ⟨_, _, ⟨_, z0, z1, z2, z3, z4, z5, z6, z7, z8⟩, f0, f1, f2, f3, f4, f5, f6, f7, f8⟩ := HR8.out)
      obtain ⟨W3, hW3, y0, y1, y2, y3, y4, y5, y6, y7, y8, hBF⟩ := HR8.out.put (.int .i64 (si (supN l 0))) (.int .i64 (si (supN l 1))) (.int .i64 (si (supN l 2))) (.int .i64 (si (supN l 3))) (.int .i64 (si (supN l 5))) (.int .i64 (si (supN l 6))) (.int .i64 (getA (supR l) 0 : Int)) (.int .i64 (getA (supR l) 1 : Int)) (.int .u32 (getA (supR l) 2 : Int))
      rw [hW3]
      clear hW3
      exact bodyPost_ret (v := .tuple #[.agg #[.int .i64 (si (supN l 0)), .int .i64 (si (supN l 1)), .int .i64 (si (supN l 2)), .int .i64 (si (supN l 3)), .int .i64 (si (supN l 5)), .int .i64 (si (supN l 6)), .int .i64 (getA (supR l) 0 : Int), .int .i64 (getA (supR l) 1 : Int), .int .u32 (getA (supR l) 2 : Int)], .int .i64 0]) (by simp [results, Tryd.results25, go_sem, y0, y1, y2, y3, y4, y5, y6, y7, y8]) rfl ⟨by rw [HP.out, HE.out], hBF⟩
    · have HP : Hid (SP.v (supP l) = .agg #[.int .i64 0, .int .i64 0, .int .i64 0, .int .i64 0, .int .i64 0, .int .i64 0, .int .i64 0, .int .i64 0, .int .u32 0]) := Lib.hid (by unfold supP; rw [if_neg (fun h => hL h.2)]; rfl)
      have HE : Hid (supPE l = 6) := Lib.hid (if_neg (fun h => hL h.2))
      have hX : (⟨(supL (supD l)).toArray⟩ : ByteArray) ≠ s := fun e => hL (by rw [HS.out] at e; have := congrArg (fun b : ByteArray => b.data.toList) e; simpa using this)
      generalize (⟨(supL (supD l)).toArray⟩ : ByteArray) = X at hBy hX
      have d0 : (X.toList == s.toList) = false := by rw [beq_eq_false_iff_ne]; intro e; rw [Lib.toList_data, Lib.toList_data] at e; exact hX (ByteArray.ext (Array.ext' e))
      clear hO hL e0
      go_wp2_with (go_at_call 23; refine (hBy _ (HT.out.below HR.out.be (Nat.le_refl _))).mono ?_; rintro e w8 ⟨rfl, hb8⟩; have HR8 := Lib.hid (HR.out.below hb8); have HY8 := Lib.hid (HY.out.below hb8); clear hb8; clear c0 c1 c2 c3 c4 c5 c6 c7 c8; obtain ⟨_, c0, c1, c2, c3, c4, c5, c6, c7, c8⟩ := HY8.out; unfold supD at c0 c1 c2 c3 c4 c5 c6 c7 c8; dsimp only at c0 c1 c2 c3 c4 c5 c6 c7 c8; obtain ⟨_, _, ⟨_, z0, z1, z2, z3, z4, z5, z6, z7, z8⟩, f0, f1, f2, f3, f4, f5, f6, f7, f8⟩ := HR8.out)
      obtain ⟨W3, hW3, y0, y1, y2, y3, y4, y5, y6, y7, y8, hBF⟩ := HR8.out.put (.int .i64 0) (.int .i64 0) (.int .i64 0) (.int .i64 0) (.int .i64 0) (.int .i64 0) (.int .i64 0) (.int .i64 0) (.int .u32 0)
      rw [hW3]
      clear hW3
      exact bodyPost_ret (v := .tuple #[.agg #[.int .i64 0, .int .i64 0, .int .i64 0, .int .i64 0, .int .i64 0, .int .i64 0, .int .i64 0, .int .i64 0, .int .u32 0], .int .i64 6]) (by simp [results, Tryd.results25, go_sem, y0, y1, y2, y3, y4, y5, y6, y7, y8]) rfl ⟨by rw [HP.out, HE.out], hBF⟩
  · have e0 : supE (supD l) = 2 := if_neg hO
    rw [e0] at hBy
    have HP : Hid (SP.v (supP l) = .agg #[.int .i64 0, .int .i64 0, .int .i64 0, .int .i64 0, .int .i64 0, .int .i64 0, .int .i64 0, .int .i64 0, .int .u32 0]) := Lib.hid (by unfold supP; rw [if_neg (fun h => hO h.1)]; rfl)
    have HE : Hid (supPE l = 6) := Lib.hid (if_neg (fun h => hO h.1))
    generalize (⟨(supL (supD l)).toArray⟩ : ByteArray) = X at hBy
    clear hO e0
    go_wp2_with (go_at_call 23; refine (hBy _ (HT.out.below HR.out.be (Nat.le_refl _))).mono ?_; rintro e w8 ⟨rfl, hb8⟩; have HR8 := Lib.hid (HR.out.below hb8); have HY8 := Lib.hid (HY.out.below hb8); clear hb8; clear c0 c1 c2 c3 c4 c5 c6 c7 c8; obtain ⟨_, c0, c1, c2, c3, c4, c5, c6, c7, c8⟩ := HY8.out; unfold supD at c0 c1 c2 c3 c4 c5 c6 c7 c8; dsimp only at c0 c1 c2 c3 c4 c5 c6 c7 c8; obtain ⟨_, _, ⟨_, z0, z1, z2, z3, z4, z5, z6, z7, z8⟩, f0, f1, f2, f3, f4, f5, f6, f7, f8⟩ := HR8.out)
    obtain ⟨W3, hW3, y0, y1, y2, y3, y4, y5, y6, y7, y8, hBF⟩ := HR8.out.put (.int .i64 0) (.int .i64 0) (.int .i64 0) (.int .i64 0) (.int .i64 0) (.int .i64 0) (.int .i64 0) (.int .i64 0) (.int .u32 0)
    rw [hW3]
    clear hW3
    exact bodyPost_ret (v := .tuple #[.agg #[.int .i64 0, .int .i64 0, .int .i64 0, .int .i64 0, .int .i64 0, .int .i64 0, .int .i64 0, .int .i64 0, .int .u32 0], .int .i64 6]) (by simp [results, Tryd.results25, go_sem, y0, y1, y2, y3, y4, y5, y6, y7, y8]) rfl ⟨by rw [HP.out, HE.out], hBF⟩
set_option maxRecDepth 100000 in
set_option maxHeartbeats 1000000 in
/-- What does not begin so. -/
theorem supParse_n1 (s : ByteArray) (h1 : Lib.hasPrefix s.data.toList magicL = false) (w : World) (hT : Tab w) : Calls Tryd.prog 25 #[.string s] w fun e w' => e = .returned (.tuple #[.agg #[.int .i64 0, .int .i64 0, .int .i64 0, .int .i64 0, .int .i64 0, .int .i64 0, .int .i64 0, .int .i64 0, .int .u32 0], .int .i64 6]) ∧ Below w.heap.size w w' := by
  have hCut := fun W => cutPre_any s ⟨magicL.toArray⟩ W
  rw [show (⟨magicL.toArray⟩ : ByteArray).data.toList = magicL from rfl, show (⟨magicL.toArray⟩ : ByteArray) = ⟨#[99, 97, 117, 108, 107, 32, 48, 49]⟩ from rfl] at hCut
  rw [h1] at hCut
  generalize (⟨(Lib.trimPrefix s.data.toList magicL).toArray⟩ : ByteArray) = R1 at hCut
  clear h1
  have HX0 : Hid (B9 w (w.alloc (.cells #[.int .i64 0, .int .i64 0, .int .i64 0, .int .i64 0, .int .i64 0, .int .i64 0, .int .i64 0, .int .i64 0, .int .u32 0] 53)) w.heap.size SP.zero) := Lib.hid (B9.new w SP.zero 53)
  have HT := Lib.hid hT
  clear hT
  go_enter Tryd.func25, Tryd.ntmps25
  go_upto_region 1 with fail
  generalize w.alloc (.cells #[.int .i64 0, .int .i64 0, .int .i64 0, .int .i64 0, .int .i64 0, .int .i64 0, .int .i64 0, .int .i64 0, .int .u32 0] 53) = W0 at HX0 ⊢
  go_wp2_with (go_at_call 75; with_reducible refine (hCut _).mono ?_; rintro e w1 ⟨rfl, rfl⟩; obtain ⟨_, _, ⟨_, z0, z1, z2, z3, z4, z5, z6, z7, z8⟩, f0, f1, f2, f3, f4, f5, f6, f7, f8⟩ := HX0.out)
  obtain ⟨W3, hW3, y0, y1, y2, y3, y4, y5, y6, y7, y8, hBF⟩ := HX0.out.put (.int .i64 0) (.int .i64 0) (.int .i64 0) (.int .i64 0) (.int .i64 0) (.int .i64 0) (.int .i64 0) (.int .i64 0) (.int .u32 0)
  rw [hW3]
  clear hW3
  exact bodyPost_ret (v := .tuple #[.agg #[.int .i64 0, .int .i64 0, .int .i64 0, .int .i64 0, .int .i64 0, .int .i64 0, .int .i64 0, .int .i64 0, .int .u32 0], .int .i64 6]) (by simp [results, Tryd.results25, go_sem, y0, y1, y2, y3, y4, y5, y6, y7, y8]) rfl ⟨rfl, hBF⟩
set_option maxRecDepth 100000 in
set_option maxHeartbeats 1000000 in
/-- Too few numbers. -/
theorem supParse_n2 (s : ByteArray) (h1 : Lib.hasPrefix s.data.toList magicL = true) (h2 : Lib.trimPrefix s.data.toList magicL = s.data.toList.drop 8) (hA : allE (s.data.toList.drop 8) supK ≠ 0) (w : World) (hT : Tab w) : Calls Tryd.prog 25 #[.string s] w fun e w' => e = .returned (.tuple #[.agg #[.int .i64 0, .int .i64 0, .int .i64 0, .int .i64 0, .int .i64 0, .int .i64 0, .int .i64 0, .int .i64 0, .int .u32 0], .int .i64 6]) ∧ Below w.heap.size w w' := by
  have hCut := fun W => cutPre_any s ⟨magicL.toArray⟩ W
  rw [show (⟨magicL.toArray⟩ : ByteArray).data.toList = magicL from rfl, show (⟨magicL.toArray⟩ : ByteArray) = ⟨#[99, 97, 117, 108, 107, 32, 48, 49]⟩ from rfl] at hCut
  rw [h1, h2] at hCut
  have hAll := fun v W hk => fldAll_any (⟨(s.data.toList.drop 8).toArray⟩ : ByteArray) supK v W hk (by decide)
  rw [show (⟨(s.data.toList.drop 8).toArray⟩ : ByteArray).data.toList = s.data.toList.drop 8 from rfl] at hAll
  rw [show allV (s.data.toList.drop 8) supK = [] from if_neg hA] at hAll
  generalize allE (s.data.toList.drop 8) supK = z at hAll hA
  have d0 : (z == 0) = false := by simpa using hA
  have d1 : (z != 0) = true := by simpa using hA
  generalize (⟨(s.data.toList.drop 8).toArray⟩ : ByteArray) = R1 at hCut hAll
  generalize (⟨(allT (s.data.toList.drop 8) supK).toArray⟩ : ByteArray) = R2 at hAll
  clear h1 h2 hA
  have HX0 : Hid (B9 w (w.alloc (.cells #[.int .i64 0, .int .i64 0, .int .i64 0, .int .i64 0, .int .i64 0, .int .i64 0, .int .i64 0, .int .i64 0, .int .u32 0] 53)) w.heap.size SP.zero) := Lib.hid (B9.new w SP.zero 53)
  have HT := Lib.hid hT
  clear hT
  go_enter Tryd.func25, Tryd.ntmps25
  go_upto_region 1 with fail
  generalize w.alloc (.cells #[.int .i64 0, .int .i64 0, .int .i64 0, .int .i64 0, .int .i64 0, .int .i64 0, .int .i64 0, .int .i64 0, .int .u32 0] 53) = W0 at HX0 ⊢
  go_wp2_with (first
    | (go_at_call 75; with_reducible refine (hCut _).mono ?_; rintro e w1 ⟨rfl, rfl⟩)
    | (go_at_call 70; with_reducible refine (supWidths_any _).mono ?_; rintro e w2 ⟨rfl, hn2, hb2⟩; have HX2 := Lib.hid (HX0.out.below hb2); have HN2 := Lib.hid hn2; clear hb2 hn2)
    | (go_at_call 76; refine (hAll _ _ HN2.out).mono ?_; rintro e w3 ⟨⟨x, rfl, hown⟩, hb3⟩; have HX3 := Lib.hid (HX2.out.below hb3); clear hb3 hown; obtain ⟨_, _, ⟨_, z0, z1, z2, z3, z4, z5, z6, z7, z8⟩, f0, f1, f2, f3, f4, f5, f6, f7, f8⟩ := HX3.out))
  obtain ⟨W3, hW3, y0, y1, y2, y3, y4, y5, y6, y7, y8, hBF⟩ := HX3.out.put (.int .i64 0) (.int .i64 0) (.int .i64 0) (.int .i64 0) (.int .i64 0) (.int .i64 0) (.int .i64 0) (.int .i64 0) (.int .u32 0)
  rw [hW3]
  clear hW3
  exact bodyPost_ret (v := .tuple #[.agg #[.int .i64 0, .int .i64 0, .int .i64 0, .int .i64 0, .int .i64 0, .int .i64 0, .int .i64 0, .int .i64 0, .int .u32 0], .int .i64 6]) (by simp [results, Tryd.results25, go_sem, y0, y1, y2, y3, y4, y5, y6, y7, y8]) rfl ⟨rfl, hBF⟩
set_option maxRecDepth 100000 in
set_option maxHeartbeats 1000000 in
/-- No pointer. -/
theorem supParse_n3 (s : ByteArray) (h1 : Lib.hasPrefix s.data.toList magicL = true) (h2 : Lib.trimPrefix s.data.toList magicL = s.data.toList.drop 8) (hA : allE (s.data.toList.drop 8) supK = 0) (hG : getPE (supR s.data.toList) ≠ 0) (w : World) (hT : Tab w) : Calls Tryd.prog 25 #[.string s] w fun e w' => e = .returned (.tuple #[.agg #[.int .i64 0, .int .i64 0, .int .i64 0, .int .i64 0, .int .i64 0, .int .i64 0, .int .i64 0, .int .i64 0, .int .u32 0], .int .i64 6]) ∧ Below w.heap.size w w' := by
  have hCut := fun W => cutPre_any s ⟨magicL.toArray⟩ W
  rw [show (⟨magicL.toArray⟩ : ByteArray).data.toList = magicL from rfl, show (⟨magicL.toArray⟩ : ByteArray) = ⟨#[99, 97, 117, 108, 107, 32, 48, 49]⟩ from rfl] at hCut
  rw [h1, h2] at hCut
  have hAll := fun v W hk => fldAll_any (⟨(s.data.toList.drop 8).toArray⟩ : ByteArray) supK v W hk (by decide)
  rw [show (⟨(s.data.toList.drop 8).toArray⟩ : ByteArray).data.toList = s.data.toList.drop 8 from rfl, hA] at hAll
  have hSv := Lib.hid (fun (B : Nat) (W : World) (v : Value) (h : OwnN W B v (allV (s.data.toList.drop 8) supK)) => own_seven h (allL_seven hA))
  rw [show allT (s.data.toList.drop 8) supK = supR s.data.toList from rfl] at hAll
  have hGet := fun W => fldGetPtr_any (⟨(supR s.data.toList).toArray⟩ : ByteArray) W
  rw [show (⟨(supR s.data.toList).toArray⟩ : ByteArray).data.toList = supR s.data.toList from rfl] at hGet
  unfold getPV at hGet
  generalize getPE (supR s.data.toList) = z at hGet hG
  have d0 : (z == 0) = false := by simpa using hG
  have d1 : (z != 0) = true := by simpa using hG
  generalize getA (supR s.data.toList) 0 = x0 at hGet
  generalize getA (supR s.data.toList) 1 = x1 at hGet
  generalize getA (supR s.data.toList) 2 = x2 at hGet
  generalize (⟨(s.data.toList.drop 8).toArray⟩ : ByteArray) = R1 at hCut hAll
  generalize (⟨(supR s.data.toList).toArray⟩ : ByteArray) = R2 at hAll hGet
  clear h1 h2 hA hG
  have HX0 : Hid (B9 w (w.alloc (.cells #[.int .i64 0, .int .i64 0, .int .i64 0, .int .i64 0, .int .i64 0, .int .i64 0, .int .i64 0, .int .i64 0, .int .u32 0] 53)) w.heap.size SP.zero) := Lib.hid (B9.new w SP.zero 53)
  have HT := Lib.hid hT
  clear hT
  go_enter Tryd.func25, Tryd.ntmps25
  go_upto_region 1 with fail
  generalize w.alloc (.cells #[.int .i64 0, .int .i64 0, .int .i64 0, .int .i64 0, .int .i64 0, .int .i64 0, .int .i64 0, .int .i64 0, .int .u32 0] 53) = W0 at HX0 ⊢
  go_upto_region 8 with (first
    | (go_at_call 75; with_reducible refine (hCut _).mono ?_; rintro e w1 ⟨rfl, rfl⟩)
    | (go_at_call 70; with_reducible refine (supWidths_any _).mono ?_; rintro e w2 ⟨rfl, hn2, hb2⟩; have HX2 := Lib.hid (HX0.out.below hb2); have HN2 := Lib.hid hn2; clear hb2 hn2)
    | (go_at_call 76; refine (hAll _ _ HN2.out).mono ?_; rintro e w3 ⟨⟨x, rfl, hown⟩, hb3⟩; obtain ⟨b, off, cap, rfl, _, _, _⟩ := hSv.out _ _ _ hown; have HX3 := Lib.hid (HX2.out.below hb3); clear hb3 hown)
    | (go_at_call 77; with_reducible refine (hGet _).mono ?_; rintro e w4 ⟨rfl, hb4⟩; have HX4 := Lib.hid (HX3.out.below hb4); clear hb4))
  have HX5 := Lib.hid (HX4.out.below (below1 w4 (.cells #[.int .i64 (x0 : Int), .int .i64 (x1 : Int), .int .u32 (x2 : Int)] 32)))
  generalize w4.alloc (.cells #[.int .i64 (x0 : Int), .int .i64 (x1 : Int), .int .u32 (x2 : Int)] 32) = w5 at HX5 ⊢
  obtain ⟨_, _, ⟨_, z0, z1, z2, z3, z4, z5, z6, z7, z8⟩, f0, f1, f2, f3, f4, f5, f6, f7, f8⟩ := HX5.out
  go_wp2_with fail
  obtain ⟨W3, hW3, y0, y1, y2, y3, y4, y5, y6, y7, y8, hBF⟩ := HX5.out.put (.int .i64 0) (.int .i64 0) (.int .i64 0) (.int .i64 0) (.int .i64 0) (.int .i64 0) (.int .i64 0) (.int .i64 0) (.int .u32 0)
  rw [hW3]
  clear hW3
  exact bodyPost_ret (v := .tuple #[.agg #[.int .i64 0, .int .i64 0, .int .i64 0, .int .i64 0, .int .i64 0, .int .i64 0, .int .i64 0, .int .i64 0, .int .u32 0], .int .i64 6]) (by simp [results, Tryd.results25, go_sem, y0, y1, y2, y3, y4, y5, y6, y7, y8]) rfl ⟨rfl, hBF⟩
theorem supParse_any (s : ByteArray) (w : World) (hT : Tab w) : Calls Tryd.prog 25 #[.string s] w fun e w' => e = .returned (.tuple #[SP.v (supP s.data.toList), .int .i64 (supPE s.data.toList)]) ∧ Below w.heap.size w w' := by
  have hno : ¬ SupIs s.data.toList → SP.v (supP s.data.toList) = .agg #[.int .i64 0, .int .i64 0, .int .i64 0, .int .i64 0, .int .i64 0, .int .i64 0, .int .i64 0, .int .i64 0, .int .u32 0] ∧ supPE s.data.toList = 6 := fun h => ⟨by unfold supP; rw [if_neg h]; rfl, if_neg h⟩
  rcases cut_magic s.data.toList with ⟨h1, h2, _⟩ | ⟨h1, h2⟩
  · by_cases hA : allE (s.data.toList.drop 8) supK = 0
    · by_cases hG : getPE (supR s.data.toList) = 0
      · exact supParse_there s h1 h2 hA hG w hT
      · obtain ⟨e1, e2⟩ := hno (fun h => hG (supIs_drop h).2.1)
        rw [e1, e2]; exact supParse_n3 s h1 h2 hA hG w hT
    · obtain ⟨e1, e2⟩ := hno (fun h => hA (supIs_drop h).1)
      rw [e1, e2]; exact supParse_n2 s h1 h2 hA w hT
  · obtain ⟨e1, e2⟩ := hno h2
    rw [e1, e2]; exact supParse_n1 s h1 w hT
end Go.Proofs.YtfpnlaafefdcaaaDoor
