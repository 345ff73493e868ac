/- References: their order, and a list that is sorted by it. -/
import Derived.Test.YthhbaccbhfngbaaMc06
import Derived.Test.YthhbaccbhfngbaaMb05
import Derived.Test.YthhbaccbhfngbaaShelfS
import Derived.Deep.RegionHeld3
namespace Go.Proofs.Ythhbaccbhfngbaa
open Go.RowKit Go.Sort Go.Shelf

set_option maxHeartbeats 1000000 in
theorem cmpOr_any (x y : Int) (g : Nat) (w : World) (h0 : w.cell? ⟨g, 0, none⟩ = some (.int .i64 x)) (h1 : w.cell? ⟨g, 1, none⟩ = some (.int .i64 y)) :
    Calls Try.prog 38 #[.slice (some ⟨g, 0, none⟩) 2 2] w fun e w' => e = .returned (.int .i64 (if x = 0 then y else x)) ∧ w' = w := by
  by_cases hx : x = 0
  · subst hx
    rw [if_pos rfl]
    by_cases hy : y = 0
    · subst hy
      go_enter Try.func38, Try.ntmps38
      go_wp2
      refine wp_loop_rounds 3 ?_
      rw [rounds_succ]
      go_wp2
      rw [rounds_succ]
      go_wp2
      rw [rounds_succ]
      go_wp2
      go_ret
      exact ⟨rfl, rfl⟩
    · have d : (y != 0) = true := by rw [bne_iff_ne]; exact hy
      have d' : (y == 0) = false := by rw [beq_eq_false_iff_ne]; exact hy
      go_enter Try.func38, Try.ntmps38
      go_wp2
      refine wp_loop_rounds 3 ?_
      rw [rounds_succ]
      go_wp2
      rw [rounds_succ]
      go_wp2
      go_ret
      exact ⟨rfl, rfl⟩
  · have d : (x != 0) = true := by rw [bne_iff_ne]; exact hx
    have d' : (x == 0) = false := by rw [beq_eq_false_iff_ne]; exact hx
    rw [if_neg hx]
    go_enter Try.func38, Try.ntmps38
    go_wp2
    refine wp_loop_rounds 3 ?_
    rw [rounds_succ]
    go_wp2
    go_ret
    exact ⟨rfl, rfl⟩
def cmpR (x y : RF) : Int := if cmpI x.s y.s = 0 then cmpI x.m y.m else cmpI x.s y.s
theorem cmpR_lt (x y : RF) : ltOf cmpR x y = aheadB x.s x.m y.s y.m := by
  unfold ltOf cmpR cmpI aheadB
  by_cases h1 : x.s < y.s
  · simp [h1]
  · by_cases h2 : y.s < x.s
    · have : x.s ≠ y.s := by omega
      simp [h1, h2, this]
    · have h3 : x.s = y.s := by omega
      by_cases h4 : x.m < y.m
      · simp [h3, h4]
      · by_cases h5 : y.m < x.m <;> simp [h3, h4, h5]
theorem cmpR_swo : SWO (ltOf cmpR) where
  irrefl x := by rw [cmpR_lt]; cases h : aheadB x.s x.m x.s x.m; rfl; rw [aheadB_iff] at h; omega
  trans x y z h1 h2 := by rw [cmpR_lt, aheadB_iff] at *; omega
  ntrans x y z h1 h2 := by
    rw [cmpR_lt] at *
    cases h : aheadB x.s x.m z.s z.m
    · rfl
    · have k1 : ¬ aheadB x.s x.m y.s y.m = true := by rw [h1]; decide
      have k2 : ¬ aheadB y.s y.m z.s z.m = true := by rw [h2]; decide
      rw [aheadB_iff] at h k1 k2
      omega
/-- Blocks, and draws, and nothing else. -/
theorem grow_of {w w' : World} (h : Below w.heap.size w w') (hd : w.drawn ≤ w'.drawn) : ∃ q os, w' = grow (w.drewN q) os := by
  refine ⟨w'.drawn - w.drawn, w'.heap.extract w.heap.size w'.heap.size, ?_⟩
  obtain ⟨heap, tape, drawn, os, output⟩ := w
  obtain ⟨heap', tape', drawn', os', output'⟩ := w'
  obtain ⟨e1, e2, e3, e4, e5⟩ := h
  dsimp only at e1 e2 e3 e4 e5 hd
  subst e1; subst e2; subst e3
  unfold grow World.drewN
  simp only [World.mk.injEq, true_and, and_true]
  refine ⟨?_, by omega⟩
  apply Array.ext_getElem?
  intro i
  rw [Array.getElem?_append]
  split
  · rename_i h; exact e5 i h
  · rename_i h
    rw [Array.getElem?_extract]
    split
    · congr 1; omega
    · exact Array.getElem?_eq_none (by omega)
set_option maxHeartbeats 4000000 in
set_option maxRecDepth 100000 in
theorem refOrder_any (x y : RF) (w : World) :
    Calls Try.prog 25 #[.agg x.enc.toArray, .agg y.enc.toArray] w fun e w' => e = .returned (.int .i64 (cmpR x y)) ∧ Below w.heap.size w w' ∧ w.drawn ≤ w'.drawn := by
  obtain ⟨a, b, c⟩ := x
  obtain ⟨a', b', c'⟩ := y
  unfold RF.enc cmpR
  dsimp only
  have h1 := compare_any a a'
  have h2 := compare_any b b'
  generalize cmpI a a' = z1 at h1 ⊢
  generalize cmpI b b' = z2 at h2 ⊢
  obtain ⟨W, hW⟩ : ∃ W, W = (w.alloc (.cells #[.int .i64 a, .int .i64 b, .int .i64 c] 52)).alloc (.cells #[.int .i64 a', .int .i64 b', .int .i64 c'] 52) := ⟨_, rfl⟩
  have hb : Below w.heap.size w W := by rw [hW]; exact ((Below.refl _ w).alloc (Nat.le_refl _) _).alloc (by simp) _
  have hd : W.drawn = w.drawn := by rw [hW]; rfl
  have g1 := heap_alloc_new (w.alloc (.cells #[.int .i64 a, .int .i64 b, .int .i64 c] 52)) (.cells #[.int .i64 a', .int .i64 b', .int .i64 c'] 52)
  have g0 := ((below_new (w.alloc (.cells #[.int .i64 a, .int .i64 b, .int .i64 c] 52)) (.cells #[.int .i64 a', .int .i64 b', .int .i64 c'] 52)).block w.heap.size (by simp)).trans (heap_alloc_new w (.cells #[.int .i64 a, .int .i64 b, .int .i64 c] 52))
  rw [World.size_alloc] at g1
  rw [← hW] at g0 g1
  have x0 : W.cell? ⟨w.heap.size, 0, none⟩ = some (.int .i64 a) := by rw [cell_of_row _ _ _ _ _ (0, 0) g0]; rfl
  have x1 : W.cell? ⟨w.heap.size, 1, none⟩ = some (.int .i64 b) := by rw [cell_of_row _ _ _ _ _ (0, 0) g0]; rfl
  have y0 : W.cell? ⟨w.heap.size + 1, 0, none⟩ = some (.int .i64 a') := by rw [cell_of_row _ _ _ _ _ (0, 0) g1]; rfl
  have y1 : W.cell? ⟨w.heap.size + 1, 1, none⟩ = some (.int .i64 b') := by rw [cell_of_row _ _ _ _ _ (0, 0) g1]; rfl
  have hO : Calls Try.prog 38 #[.slice (some ⟨W.heap.size, 0, none⟩) 2 2] ((W.alloc (.cells #[.int .i64 z1, .int .i64 z2] 3)).drew) fun e w' => e = .returned (.int .i64 (if z1 = 0 then z2 else z1)) ∧ w' = (W.alloc (.cells #[.int .i64 z1, .int .i64 z2] 3)).drew := by
    have g : ((W.alloc (.cells #[.int .i64 z1, .int .i64 z2] 3)).drew).heap[W.heap.size]? = _ := heap_alloc_new W (.cells #[.int .i64 z1, .int .i64 z2] 3)
    exact cmpOr_any z1 z2 _ _ (by rw [cell_of_row _ _ _ _ _ (0, 0) g]; rfl) (by rw [cell_of_row _ _ _ _ _ (0, 0) g]; rfl)
  generalize (if z1 = 0 then z2 else z1) = z at hO ⊢
  have hlt : w.heap.size + 1 < W.heap.size := by rw [hW]; simp
  have HK : Hid (∀ W', Below W.heap.size W W' → W'.cell? ⟨w.heap.size, 0, none⟩ = some (.int .i64 a) ∧ W'.cell? ⟨w.heap.size, 1, none⟩ = some (.int .i64 b) ∧ W'.cell? ⟨w.heap.size + 1, 0, none⟩ = some (.int .i64 a') ∧ W'.cell? ⟨w.heap.size + 1, 1, none⟩ = some (.int .i64 b')) := Lib.hid (fun W' hb' =>
    ⟨(hb'.cell (p := ⟨w.heap.size, 0, none⟩) (by show w.heap.size < _; omega)).trans x0, (hb'.cell (p := ⟨w.heap.size, 1, none⟩) (by show w.heap.size < _; omega)).trans x1, (hb'.cell (p := ⟨w.heap.size + 1, 0, none⟩) hlt).trans y0, (hb'.cell (p := ⟨w.heap.size + 1, 1, none⟩) hlt).trans y1⟩)
  have HD1 : Hid (Below W.heap.size W W.drew) := Lib.hid ((Below.refl _ _).drew)
  have HD2 : Hid (Below W.heap.size W ((W.alloc (.cells #[.int .i64 z1, .int .i64 z2] 3)).drew)) := Lib.hid (((Below.refl _ _).alloc (Nat.le_refl _) _).drew)
  have HB := Lib.hid hb
  have HD := Lib.hid hd
  have HBX : Hid (Below w.heap.size w ((W.alloc (.cells #[.int .i64 z1, .int .i64 z2] 3)).drew) ∧ w.drawn ≤ ((W.alloc (.cells #[.int .i64 z1, .int .i64 z2] 3)).drew).drawn) := Lib.hid ⟨(hb.alloc hb.size _).drew, by show w.drawn ≤ W.drawn + 1; omega⟩
  have HW := Lib.hid hW
  clear hW hb hd g0 g1 hlt
  go_enter Try.func25, Try.ntmps25
  go_upto_region 1 with fail
  rw [← HW.out]
  clear HW
  go_region_held3 (fun W' => W'.cell? ⟨w.heap.size, 0, none⟩ = some (.int .i64 a) ∧ W'.cell? ⟨w.heap.size, 1, none⟩ = some (.int .i64 b) ∧ W'.cell? ⟨w.heap.size + 1, 0, none⟩ = some (.int .i64 a') ∧ W'.cell? ⟨w.heap.size + 1, 1, none⟩ = some (.int .i64 b')) (first | with_reducible exact HK.out _ HD1.out | with_reducible exact HK.out _ HD2.out)
    (first
    | (go_at_call 39; (with_reducible refine (h1 _).mono ?_); rintro e w2 ⟨rfl, rfl⟩)
    | (go_at_call 39; (with_reducible refine (h2 _).mono ?_); rintro e w2 ⟨rfl, rfl⟩)
    | (go_at_call 38; refine hO.mono ?_; rintro e w2 ⟨rfl, rfl⟩))
  all_goals go_wp2
  all_goals go_ret
  all_goals exact ⟨rfl, HBX.out⟩
end Go.Proofs.Ythhbaccbhfngbaa
