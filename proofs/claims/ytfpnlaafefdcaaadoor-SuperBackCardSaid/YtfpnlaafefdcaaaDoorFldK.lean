/- Fields: the contracts of GetPtr, the program's and the document's. -/
import Derived.Test.YtfpnlaafefdcaaaDoorFldJ
import Derived.Deep.Cut
namespace Go.Proofs.YtfpnlaafefdcaaaDoor
open Go.RowKit

theorem putF_same {w : World} {b i : Nat} {u : Value} (hc : w.cell? ⟨b, i, none⟩ = some u) (v : Value) : (w.setCell ⟨b, i, none⟩ v).cell? ⟨b, i, none⟩ = some v := World.cell?_setCell_same' _ _ _ (by rw [hc]; rfl)
theorem putF_ne (w : World) (b i j : Nat) (v : Value) (hij : i ≠ j) : (w.setCell ⟨b, i, none⟩ v).cell? ⟨b, j, none⟩ = w.cell? ⟨b, j, none⟩ := World.cell?_setCell_other _ _ _ _ (by intro e; injection e with _ e; omega)
/-- A block of three cells. -/
structure B3 (W : World) (b : Nat) (v0 v1 v2 : Value) : Prop where
  lt : b < W.heap.size
  c0 : W.cell? ⟨b, 0, none⟩ = some v0
  c1 : W.cell? ⟨b, 1, none⟩ = some v1
  c2 : W.cell? ⟨b, 2, none⟩ = some v2
  f0 : W.frozen? ⟨b, 0, none⟩ = false
  f1 : W.frozen? ⟨b, 1, none⟩ = false
  f2 : W.frozen? ⟨b, 2, none⟩ = false
theorem B3.new (w : World) (v0 v1 v2 : Value) (t : Nat) : B3 (w.alloc (.cells #[v0, v1, v2] t)) w.heap.size v0 v1 v2 :=
  ⟨by simp, by simp [go_sem], by simp [go_sem], by simp [go_sem], frozen_of_row _ _ _ _ t (heap_alloc_new w _), frozen_of_row _ _ _ _ t (heap_alloc_new w _), frozen_of_row _ _ _ _ t (heap_alloc_new w _)⟩
theorem B3.drew {W : World} {b : Nat} {v0 v1 v2 : Value} (k : B3 W b v0 v1 v2) : B3 W.drew b v0 v1 v2 := ⟨k.lt, k.c0, k.c1, k.c2, k.f0, k.f1, k.f2⟩
theorem B3.below {W W' : World} {B b : Nat} {v0 v1 v2 : Value} (k : B3 W b v0 v1 v2) (hb : Below B W W') (hB : b < B) : B3 W' b v0 v1 v2 :=
  ⟨Nat.lt_of_lt_of_le k.lt hb.size, (hb.cell (p := ⟨b, 0, none⟩) hB).trans k.c0, (hb.cell (p := ⟨b, 1, none⟩) hB).trans k.c1, (hb.cell (p := ⟨b, 2, none⟩) hB).trans k.c2,
    (hb.frozen (p := ⟨b, 0, none⟩) hB).trans k.f0, (hb.frozen (p := ⟨b, 1, none⟩) hB).trans k.f1, (hb.frozen (p := ⟨b, 2, none⟩) hB).trans k.f2⟩
def put3 (W : World) (b : Nat) (u0 u1 u2 : Value) : World := ((W.setCell ⟨b, 0, none⟩ u0).setCell ⟨b, 1, none⟩ u1).setCell ⟨b, 2, none⟩ u2
theorem B3.put {W : World} {b : Nat} {v0 v1 v2 : Value} (k : B3 W b v0 v1 v2) (u0 u1 u2 : Value) :
    (put3 W b u0 u1 u2).cell? ⟨b, 0, none⟩ = some u0 ∧ (put3 W b u0 u1 u2).cell? ⟨b, 1, none⟩ = some u1 ∧ (put3 W b u0 u1 u2).cell? ⟨b, 2, none⟩ = some u2 := by
  unfold put3
  refine ⟨?_, ?_, ?_⟩
  · rw [putF_ne _ _ _ _ _ (by omega), putF_ne _ _ _ _ _ (by omega)]; exact putF_same k.c0 u0
  · rw [putF_ne _ _ _ _ _ (by omega)]; exact putF_same ((putF_ne _ _ _ _ _ (by omega)).trans k.c1) u1
  · exact putF_same ((putF_ne _ _ _ _ _ (by omega)).trans ((putF_ne _ _ _ _ _ (by omega)).trans k.c2)) u2
theorem below_put3 {B : Nat} {w W : World} (h : Below B w W) (b : Nat) (hb : B ≤ b) (u0 u1 u2 : Value) : Below B w (put3 W b u0 u1 u2) :=
  ((h.setCell (p := ⟨b, 0, none⟩) hb _).setCell (p := ⟨b, 1, none⟩) hb _).setCell (p := ⟨b, 2, none⟩) hb _
theorem put3_end {B b : Nat} {w W : World} {v0 v1 v2 : Value} (k : B3 W b v0 v1 v2) (hB : Below B w W) (hb : B ≤ b) (u0 u1 u2 : Value) :
    ∃ W3, ((W.setCell ⟨b, 0, none⟩ u0).setCell ⟨b, 1, none⟩ u1).setCell ⟨b, 2, none⟩ u2 = W3 ∧ W3.cell? ⟨b, 0, none⟩ = some u0 ∧ W3.cell? ⟨b, 1, none⟩ = some u1 ∧ W3.cell? ⟨b, 2, none⟩ = some u2 ∧ Below B w W3 := by
  obtain ⟨h0, h1, h2⟩ := k.put u0 u1 u2
  exact ⟨_, rfl, h0, h1, h2, below_put3 hB b hb u0 u1 u2⟩
theorem getP_start (w : World) : ∃ W0, ((w.alloc (.cells #[.int .i64 0, .int .i64 0, .int .u32 0] 32)).alloc (.cells #[.int .i64 4, .int .i64 4, .int .i64 4] 3)) = W0 ∧ NumV W0 (.slice (some ⟨w.heap.size + 1, 0, none⟩) 3 3) (i64s ptrK) ∧ Below w.heap.size w W0 ∧ B3 W0 w.heap.size (.int .i64 0) (.int .i64 0) (.int .u32 0) ∧ w.heap.size < W0.heap.size := by
  refine ⟨_, rfl, ?_, ((Below.refl _ _).alloc (Nat.le_refl _) _).alloc (by simp) _, (B3.new w _ _ _ _).below (B := w.heap.size + 1) ((Below.refl _ _).alloc (by simp) _) (by omega), by simp; omega⟩
  have h := num_three (w.alloc (.cells #[.int .i64 0, .int .i64 0, .int .u32 0] 32)) _ 3 (.int .i64 4) (.int .i64 4) (.int .i64 4) (Below.refl _ _)
  rw [World.size_alloc] at h
  exact h
set_option maxHeartbeats 2000000 in
set_option maxRecDepth 100000 in
theorem refGetPtr_any (s : ByteArray) (w : World) :
    Calls Tryd.prog 79 #[.string s] w fun e w' => e = .returned (.tuple #[getPV s.data.toList, .int .i64 (getPE s.data.toList)]) ∧ Below w.heap.size w w' := by
  obtain ⟨W0, hW, hN, hB, hX, hlt⟩ := getP_start w
  have hA := refAll_any s ptrK (.slice (some ⟨w.heap.size + 1, 0, none⟩) 3 3) W0 hN (by decide)
  have HB := Lib.hid hB
  have HX := Lib.hid hX
  have HLT := Lib.hid hlt
  clear hN hB hX hlt
  by_cases h0 : getPE s.data.toList = 0
  · obtain ⟨a1, a2, a3, a4⟩ := getA_ok h0
    unfold getPV
    rw [h0]
    unfold getPE at h0
    rw [h0, a1] at hA
    generalize getA s.data.toList 0 = x0 at *
    generalize getA s.data.toList 1 = x1 at *
    generalize getA s.data.toList 2 = x2 at *
    generalize allT s.data.toList ptrK = z at *
    have w0 : IntKind.i64.wrap (x0 : Int) = (x0 : Int) := by rw [IntKind.wrap_i64]; omega
    have w1 : IntKind.i64.wrap (x1 : Int) = (x1 : Int) := by rw [IntKind.wrap_i64]; omega
    have w2 : IntKind.u32.wrap (x2 : Int) = (x2 : Int) := by rw [IntKind.wrap_u32]; omega
    have w3 : (x2 : Int) % 4294967296 = (x2 : Int) := by omega
    clear h0 a1 a2 a3 a4
    go_enter Tryd.func79, Tryd.ntmps79
    go_upto_region 2 with (first
      | (go_at_call 78; refine hA.mono ?_; rintro e wA ⟨⟨v, rfl, hown⟩, hbA⟩; obtain ⟨b, off, cap, rfl, hcap, k0, k1, k2⟩ := own_three hown; have HBA := Lib.hid (HB.out.trans (hbA.mono HB.out.size)); have HXA := Lib.hid (HX.out.below hbA HLT.out); clear hbA hown; clear hW))
    obtain ⟨_, q0, q1, q2, f0, f1, f2⟩ := HXA.out
    go_upto_region 4 with fail
    go_still_tail 13, (by kernel_rfl)
    change wpList _ _ _ _ _ wA.drew
    go_wp2_with fail
    obtain ⟨W3, hW3, y0, y1, y2, HBF⟩ := put3_end HXA.out HBA.out (Nat.le_refl _) (.int .i64 (x0 : Int)) (.int .i64 (x1 : Int)) (.int .u32 (x2 : Int))
    obtain ⟨W4, hW4, g0, g1, g2, HBF2⟩ : ∃ W4, W4 = W3.drew ∧ W4.cell? ⟨w.heap.size, 0, none⟩ = some (.int .i64 (x0 : Int)) ∧ W4.cell? ⟨w.heap.size, 1, none⟩ = some (.int .i64 (x1 : Int)) ∧ W4.cell? ⟨w.heap.size, 2, none⟩ = some (.int .u32 (x2 : Int)) ∧ Below w.heap.size w W4 := ⟨_, rfl, y0, y1, y2, HBF.drew⟩
    rw [hW3, ← hW4]
    clear hW3 hW4 y0 y1 y2 HBF
    refine bodyPost_ret (v := .tuple #[.agg #[.int .i64 (x0 : Int), .int .i64 (x1 : Int), .int .u32 (x2 : Int)], .int .i64 0]) (by simp [results, Tryd.results79, go_sem, g0, g1, g2]) rfl ⟨rfl, HBF2⟩
  · have hv : Hid (getPV s.data.toList = .agg #[.int .i64 0, .int .i64 0, .int .u32 0]) := Lib.hid (by unfold getPV; rw [getA_no h0, getA_no h0, getA_no h0]; rfl)
    rw [hv.out]
    have hE : allV s.data.toList ptrK = [] := if_neg h0
    have hT : allT s.data.toList ptrK = [] := if_neg h0
    unfold getPE at h0 ⊢
    rw [hE, hT] at hA
    generalize allE s.data.toList ptrK = z at *
    have hz : (z == 0) = false := by simpa using h0
    clear hv hE hT h0
    go_enter Tryd.func79, Tryd.ntmps79
    go_upto_region 2 with (first
      | (go_at_call 78; refine hA.mono ?_; rintro e wA ⟨⟨v, rfl, _⟩, hbA⟩; have HBA := Lib.hid (HB.out.trans (hbA.mono HB.out.size)); have HXA := Lib.hid (HX.out.below hbA HLT.out); clear hbA; clear hW))
    obtain ⟨_, q0, q1, q2, f0, f1, f2⟩ := HXA.out
    go_wp2_with fail
    obtain ⟨W3, hW3, y0, y1, y2, HBF⟩ := put3_end HXA.out HBA.out (Nat.le_refl _) (.int .i64 0) (.int .i64 0) (.int .u32 0)
    rw [hW3]
    clear hW3
    refine bodyPost_ret (v := .tuple #[.agg #[.int .i64 0, .int .i64 0, .int .u32 0], .int .i64 z]) (by simp [results, Tryd.results79, go_sem, y0, y1, y2]) rfl ⟨rfl, HBF⟩
set_option maxHeartbeats 2000000 in
set_option maxRecDepth 100000 in
theorem fldGetPtr_any (s : ByteArray) (w : World) :
    Calls Tryd.prog 77 #[.string s] w fun e w' => e = .returned (.tuple #[getPV s.data.toList, .int .i64 (getPE s.data.toList)]) ∧ Below w.heap.size w w' := by
  obtain ⟨W0, hW, hN, hB, hX, hlt⟩ := getP_start w
  have hA := fldAll_any s ptrK (.slice (some ⟨w.heap.size + 1, 0, none⟩) 3 3) W0 hN (by decide)
  have HB := Lib.hid hB
  have HX := Lib.hid hX
  have HLT := Lib.hid hlt
  clear hN hB hX hlt
  by_cases h0 : getPE s.data.toList = 0
  · obtain ⟨a1, a2, a3, a4⟩ := getA_ok h0
    unfold getPV
    rw [h0]
    unfold getPE at h0
    rw [h0, a1] at hA
    generalize getA s.data.toList 0 = x0 at *
    generalize getA s.data.toList 1 = x1 at *
    generalize getA s.data.toList 2 = x2 at *
    generalize allT s.data.toList ptrK = z at *
    have w0 : IntKind.i64.wrap (x0 : Int) = (x0 : Int) := by rw [IntKind.wrap_i64]; omega
    have w1 : IntKind.i64.wrap (x1 : Int) = (x1 : Int) := by rw [IntKind.wrap_i64]; omega
    have w2 : IntKind.u32.wrap (x2 : Int) = (x2 : Int) := by rw [IntKind.wrap_u32]; omega
    have w3 : (x2 : Int) % 4294967296 = (x2 : Int) := by omega
    clear h0 a1 a2 a3 a4
    go_enter Tryd.func77, Tryd.ntmps77
    go_upto_region 2 with (first
      | (go_at_call 76; refine hA.mono ?_; rintro e wA ⟨⟨v, rfl, hown⟩, hbA⟩; obtain ⟨b, off, cap, rfl, hcap, k0, k1, k2⟩ := own_three hown; have HBA := Lib.hid (HB.out.trans (hbA.mono HB.out.size)); have HXA := Lib.hid (HX.out.below hbA HLT.out); clear hbA hown; clear hW))
    obtain ⟨_, q0, q1, q2, f0, f1, f2⟩ := HXA.out
    go_upto_region 4 with fail
    go_still_tail 13, (by kernel_rfl)
    change wpList _ _ _ _ _ wA.drew
    go_wp2_with fail
    obtain ⟨W3, hW3, y0, y1, y2, HBF⟩ := put3_end HXA.out HBA.out (Nat.le_refl _) (.int .i64 (x0 : Int)) (.int .i64 (x1 : Int)) (.int .u32 (x2 : Int))
    obtain ⟨W4, hW4, g0, g1, g2, HBF2⟩ : ∃ W4, W4 = W3.drew ∧ W4.cell? ⟨w.heap.size, 0, none⟩ = some (.int .i64 (x0 : Int)) ∧ W4.cell? ⟨w.heap.size, 1, none⟩ = some (.int .i64 (x1 : Int)) ∧ W4.cell? ⟨w.heap.size, 2, none⟩ = some (.int .u32 (x2 : Int)) ∧ Below w.heap.size w W4 := ⟨_, rfl, y0, y1, y2, HBF.drew⟩
    rw [hW3, ← hW4]
    clear hW3 hW4 y0 y1 y2 HBF
    refine bodyPost_ret (v := .tuple #[.agg #[.int .i64 (x0 : Int), .int .i64 (x1 : Int), .int .u32 (x2 : Int)], .int .i64 0]) (by simp [results, Tryd.results77, go_sem, g0, g1, g2]) rfl ⟨rfl, HBF2⟩
  · have hv : Hid (getPV s.data.toList = .agg #[.int .i64 0, .int .i64 0, .int .u32 0]) := Lib.hid (by unfold getPV; rw [getA_no h0, getA_no h0, getA_no h0]; rfl)
    rw [hv.out]
    have hE : allV s.data.toList ptrK = [] := if_neg h0
    have hT : allT s.data.toList ptrK = [] := if_neg h0
    unfold getPE at h0 ⊢
    rw [hE, hT] at hA
    generalize allE s.data.toList ptrK = z at *
    have hz : (z == 0) = false := by simpa using h0
    clear hv hE hT h0
    go_enter Tryd.func77, Tryd.ntmps77
    go_upto_region 2 with (first
      | (go_at_call 76; refine hA.mono ?_; rintro e wA ⟨⟨v, rfl, _⟩, hbA⟩; have HBA := Lib.hid (HB.out.trans (hbA.mono HB.out.size)); have HXA := Lib.hid (HX.out.below hbA HLT.out); clear hbA; clear hW))
    obtain ⟨_, q0, q1, q2, f0, f1, f2⟩ := HXA.out
    go_wp2_with fail
    obtain ⟨W3, hW3, y0, y1, y2, HBF⟩ := put3_end HXA.out HBA.out (Nat.le_refl _) (.int .i64 0) (.int .i64 0) (.int .u32 0)
    rw [hW3]
    clear hW3
    refine bodyPost_ret (v := .tuple #[.agg #[.int .i64 0, .int .i64 0, .int .u32 0], .int .i64 z]) (by simp [results, Tryd.results77, go_sem, y0, y1, y2]) rfl ⟨rfl, HBF⟩
end Go.Proofs.YtfpnlaafefdcaaaDoor
