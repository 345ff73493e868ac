/- Two grids side by side; what Invert answers where there is none; caulkref03.unit. -/
import Derived.Test.YtpldnbfbpajbkaaInvD
namespace Go.Proofs.Ytpldnbfbpajbkaa
open Go.RowKit
open Caulk.Lin (Fn2 sx swp scl elm pv stp gjN wide0 invM)
open Caulk.Gf (mul putL scaleL)

/-- A grid's blocks lie below U. -/
def BoundH (w : World) (U : Nat) (v : Value) (r : Nat) : Prop :=
  ∃ b n, v = .slice (some ⟨b, 0, none⟩) r n ∧ b < U ∧ ∀ i, i < r → ∃ b' o k c, w.cell? ⟨b, i, none⟩ = some (.slice (some ⟨b', o, none⟩) k c) ∧ b' < U
theorem Grid.boundH {w : World} {B : Nat} {v : Value} {r k : Nat} {f : Fn2} (h : Grid w B v r k f) : BoundH w w.heap.size v r := by
  obtain ⟨b, n, hf, rfl, h1, h2, h3, h4, pl, h5, h6⟩ := h
  refine ⟨b, n, rfl, h2.lt, fun i hi => ?_⟩
  obtain ⟨a1, a2, a3, a4, a5, a6⟩ := h5 i hi
  exact ⟨_, _, _, _, by rw [h2.cell (by omega), a1], a6.1⟩
theorem Grid.under {w w' : World} {B U : Nat} {v : Value} {r k : Nat} {f : Fn2} (h : Grid w B v r k f) (hu : BoundH w U v r) (hb : Below U w w') : Grid w' B v r k f ∧ BoundH w' U v r := by
  obtain ⟨b, n, hf, rfl, h1, h2, h3, h4, pl, h5, h6⟩ := h
  obtain ⟨b2, n2, e, hbU, hh⟩ := hu
  injection e with e1 e2 e3
  have e1 : b = b2 := by simpa using e1
  subst e1; subst e3
  have hpl : ∀ i, i < r → (pl i).1 < U := fun i hi => by
    obtain ⟨b', o, k', c, g1, g2⟩ := hh i hi
    have := Option.some.inj ((h2.cell (show i < n by omega)).symm.trans g1)
    rw [(h5 i hi).1] at this
    injection this with t1
    injection t1 with t1
    injection t1 with t2
    rw [t2]; exact g2
  refine ⟨⟨b, n, hf, rfl, h1, h2.of_block (hb.block b hbU), h3, h4, pl, fun i hi => ?_, h6⟩, b, n, rfl, hbU, fun i hi => ?_⟩
  · obtain ⟨a1, a2, a3, a4, a5, a6⟩ := h5 i hi
    exact ⟨a1, a2, a3, a4, a5, a6.below hb (hpl i hi)⟩
  · obtain ⟨b', o, k', c, g1, g2⟩ := hh i hi
    exact ⟨b', o, k', c, (hb.cell (p := ⟨b, i, none⟩) hbU).trans g1, g2⟩
theorem BoundH.head {w : World} {U b n r : Nat} (h : BoundH w U (.slice (some ⟨b, 0, none⟩) r n) r) : b < U ∧ ∀ i, i < r → ∀ b' o k c, w.cell? ⟨b, i, none⟩ = some (.slice (some ⟨b', o, none⟩) k c) → b' < U := by
  obtain ⟨b2, n2, e, hbU, hh⟩ := h
  injection e with e1 e2 e3
  have e1 : b = b2 := by simpa using e1
  subst e1
  refine ⟨hbU, fun i hi b' o k c hc => ?_⟩
  obtain ⟨b3, o3, k3, c3, g1, g2⟩ := hh i hi
  have := Option.some.inj (hc.symm.trans g1)
  injection this with t1
  injection t1 with t1
  injection t1 with t2
  rw [t2]; exact g2
theorem BoundH.set {w : World} {U b n r : Nat} (h : BoundH w U (.slice (some ⟨b, 0, none⟩) r n) r) {p : Addr} (hp : p.block ≠ b) (x : Value) : BoundH (w.setCell p x) U (.slice (some ⟨b, 0, none⟩) r n) r := by
  obtain ⟨b2, n2, e, hbU, hh⟩ := h
  injection e with e1 e2 e3
  have e1 : b = b2 := by simpa using e1
  subst e1
  refine ⟨b, n, rfl, hbU, fun i hi => ?_⟩
  obtain ⟨b3, o3, k3, c3, g1, g2⟩ := hh i hi
  exact ⟨b3, o3, k3, c3, (World.cell?_of_block (a := ⟨b, i, none⟩) (Below.heap_setCell w p x b (Ne.symm hp))).trans g1, g2⟩
theorem BoundH.swap {w : World} {U b n r : Nat} (h : BoundH w U (.slice (some ⟨b, 0, none⟩) r n) r) {i j : Nat} (hi : i < r) (hj : j < r) {x y : Value} (hx : w.cell? ⟨b, i, none⟩ = some x) (hy : w.cell? ⟨b, j, none⟩ = some y) :
    BoundH ((w.setCell ⟨b, i, none⟩ y).setCell ⟨b, j, none⟩ x) U (.slice (some ⟨b, 0, none⟩) r n) r := by
  obtain ⟨b2, n2, e, hbU, hh⟩ := h
  injection e with e1 e2 e3
  have e1 : b = b2 := by simpa using e1
  subst e1
  refine ⟨b, n, rfl, hbU, fun t ht => ?_⟩
  obtain ⟨v2, hv2⟩ := cell?_setCell_some (w := w) (p := ⟨b, i, none⟩) (x := y) (q := ⟨b, j, none⟩) (v := y) hy
  by_cases e1 : t = j
  · subst e1
    obtain ⟨b3, o3, k3, c3, g1, g2⟩ := hh i hi
    obtain rfl := Option.some.inj (hx.symm.trans g1)
    exact ⟨b3, o3, k3, c3, World.cell?_setCell_same' _ _ _ (by rw [hv2]; rfl), g2⟩
  · rw [World.cell?_setCell_other _ _ _ _ (by intro e'; injection e' with _ e2; exact e1 e2.symm)]
    by_cases e2 : t = i
    · subst e2
      obtain ⟨b3, o3, k3, c3, g1, g2⟩ := hh j hj
      obtain rfl := Option.some.inj (hy.symm.trans g1)
      exact ⟨b3, o3, k3, c3, World.cell?_setCell_same' _ _ _ (by rw [hx]; rfl), g2⟩
    · rw [World.cell?_setCell_other _ _ _ _ (by intro e'; injection e' with _ e3; exact e2 e3.symm)]
      exact hh t ht
theorem Grid.setBelow {w : World} {U : Nat} {v : Value} {r k : Nat} {f : Fn2} (h : Grid w U v r k f) {p : Addr} (hp : p.block < U) (x : Value) : Grid (w.setCell p x) U v r k f := by
  obtain ⟨b, n, hf, rfl, h1, h2, h3, h4, pl, h5, h6⟩ := h
  refine ⟨b, n, hf, rfl, h1, h2.setOther (by omega) x, h3, h4, pl, fun i hi => ?_, h6⟩
  obtain ⟨a1, a2, a3, a4, a5, a6⟩ := h5 i hi
  exact ⟨a1, a2, a3, a4, a5, a6.other (by omega) x⟩
theorem mulF_unit {n : Nat} {F : Fn2} {i j : Nat} (hj : j < n) : mulF n F unitF i j = F i j := by
  unfold mulF
  rw [Caulk.Lin.sx_single (p := j) hj]
  · unfold unitF; rw [if_pos rfl, Caulk.Gf.mul_comm, Caulk.Gf.one_mul]
  · intro t _ ht; unfold unitF; rw [if_neg ht, Caulk.Gf.mul_zeroR]
theorem refunit_any (n : Nat) (h1 : 1 ≤ n) (h2 : n ≤ 255) (w : World) :
    Calls Try.prog 43 #[.int .i64 (n : Int)] w (GotGrid w n n unitF) := by
  go_enter Try.func43, Try.ntmps43
  go_wp2_with fail
  refine (refUnit_any n h1 h2 _).mono ?_
  rintro e w1 ⟨v, rfl, hg, hb⟩
  have HG := Lib.hid hg
  have HB := Lib.hid hb
  clear hg hb
  go_wp2
  go_ret
  exact ⟨_, rfl, HG.out, HB.out⟩
theorem invert_form {w : World} {B : Nat} {v : Value} {M : List (List UInt8)} (hM : MatV w B v M) (h : ¬ RightM M) :
    Calls Try.prog 22 #[v] w fun e w' => e = .returned (.tuple #[.slice none 0 0, .int .i64 2]) ∧ w = w' := by
  have HC := check_any hM
  rw [ckE_no h] at HC
  go_enter Try.func22, Try.ntmps22
  go_wp2_with fail
  refine HC.mono ?_
  rintro e w' ⟨rfl, rfl⟩
  clear HC
  go_wp2
  go_ret2
  exact ⟨rfl, rfl⟩
theorem invert_range {w : World} {B r n : Nat} {va : Value} {f : Fn2} (hA : MatV w B va (rowsL r n f)) (hB : B ≤ w.heap.size) (hr1 : 1 ≤ r) (hr2 : r ≤ 255) (hn1 : 1 ≤ n) (hn2 : n ≤ 255) (hne : r ≠ n) :
    Calls Try.prog 22 #[va] w fun e w' => e = .returned (.tuple #[.slice none 0 0, .int .i64 1]) ∧ w = w' := by
  have HC := check_any hA
  rw [ckE_yes (right_rowsL hr1 hr2 hn1 hn2)] at HC
  obtain ⟨b1, off1, cap1, rfl, hrc1, hcm1, hread1⟩ := hA.reads hB hr1 hn1
  unfold maxLen at hcm1
  obtain ⟨b3, off3, cap3, h03, _, hc3, hcm3, _⟩ := hread1 w (Below.refl _ _) 0 hr1
  rw [Nat.add_zero] at h03
  have hb1 : ((n : Int) == (r : Int)) = false := by simp; omega
  have hb2 : ((n : Int) != (r : Int)) = true := by simp; omega
  clear hread1 hA hne
  go_enter Try.func22, Try.ntmps22
  go_wp2_with fail
  refine HC.mono ?_
  rintro e w' ⟨rfl, rfl⟩
  clear HC
  go_wp2
  go_ret2
  exact ⟨rfl, rfl⟩
set_option maxRecDepth 100000 in
set_option maxHeartbeats 400000 in
theorem refInvert_form {w : World} {B : Nat} {v : Value} {M : List (List UInt8)} (hM : MatV w B v M) (h : ¬ RightM M) :
    Calls Try.prog 23 #[v] w fun e w' => e = .returned (.tuple #[.slice none 0 0, .int .i64 2]) ∧ w = w' := by
  have HC := refCheck_any hM
  rw [ckE_no h] at HC
  go_enter Try.func23, Try.ntmps23
  go_wp2_with fail
  refine HC.mono ?_
  rintro e w' ⟨rfl, rfl⟩
  clear HC
  go_wp2
  go_ret2
  exact ⟨rfl, rfl⟩
set_option maxRecDepth 100000 in
set_option maxHeartbeats 400000 in
theorem refInvert_range {w : World} {B r n : Nat} {va : Value} {f : Fn2} (hA : MatV w B va (rowsL r n f)) (hB : B ≤ w.heap.size) (hr1 : 1 ≤ r) (hr2 : r ≤ 255) (hn1 : 1 ≤ n) (hn2 : n ≤ 255) (hne : r ≠ n) :
    Calls Try.prog 23 #[va] w fun e w' => e = .returned (.tuple #[.slice none 0 0, .int .i64 1]) ∧ w = w' := by
  have HC := refCheck_any hA
  rw [ckE_yes (right_rowsL hr1 hr2 hn1 hn2)] at HC
  obtain ⟨b1, off1, cap1, rfl, hrc1, hcm1, hread1⟩ := hA.reads hB hr1 hn1
  unfold maxLen at hcm1
  obtain ⟨b3, off3, cap3, h03, _, hc3, hcm3, _⟩ := hread1 w (Below.refl _ _) 0 hr1
  rw [Nat.add_zero] at h03
  have hb1 : ((n : Int) == (r : Int)) = false := by simp; omega
  have hb2 : ((n : Int) != (r : Int)) = true := by simp; omega
  clear hread1 hA hne
  go_enter Try.func23, Try.ntmps23
  go_wp2_with fail
  refine HC.mono ?_
  rintro e w' ⟨rfl, rfl⟩
  clear HC
  go_wp2
  go_ret2
  exact ⟨rfl, rfl⟩
end Go.Proofs.Ytpldnbfbpajbkaa
