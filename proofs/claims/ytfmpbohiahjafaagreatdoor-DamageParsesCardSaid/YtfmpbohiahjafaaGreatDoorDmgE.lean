/- Wounds: the program's order, and a row of them sorted by it. -/
import Derived.Test.YtfmpbohiahjafaaGreatDoorDmgA
import Derived.Test.YtfmpbohiahjafaaGreatDoorShelfS
import Derived.Deep.RegionHeld3
namespace Go.Proofs.YtfmpbohiahjafaaGreatDoor
open Go.RowKit Go.Sort Go.Shelf

def cmpI (a b : Int) : Int := if a < b then -1 else if b < a then 1 else 0
theorem isNaNI_any (a : Int) (w : World) : Calls Tryz.prog 70 #[.int .i64 a] w fun e w' => e = .returned (.bool false) ∧ w' = w := by
  go_enter Tryz.func70, Tryz.ntmps70
  go_wp2
  go_ret
  exact ⟨rfl, rfl⟩
theorem compI_any (a b : Int) (w : World) : Calls Tryz.prog 52 #[.int .i64 a, .int .i64 b] w fun e w' => e = .returned (.int .i64 (cmpI a b)) ∧ w' = w := by
  have hN := isNaNI_any
  unfold cmpI
  by_cases h1 : a < b
  · have d1 : decide (a < b) = true := decide_eq_true h1
    rw [if_pos h1]
    clear h1
    go_enter Tryz.func52, Tryz.ntmps52
    go_wp2_with (go_at_call 70; refine (hN _ _).mono ?_; rintro e w2 ⟨rfl, rfl⟩)
    go_ret
    exact ⟨rfl, rfl⟩
  · have d1 : decide (a < b) = false := decide_eq_false h1
    rw [if_neg h1]
    by_cases h2 : b < a
    · have d2 : decide (b < a) = true := decide_eq_true h2
      rw [if_pos h2]
      clear h1 h2
      go_enter Tryz.func52, Tryz.ntmps52
      go_wp2_with (go_at_call 70; refine (hN _ _).mono ?_; rintro e w2 ⟨rfl, rfl⟩)
      go_ret
      exact ⟨rfl, rfl⟩
    · have d2 : decide (b < a) = false := decide_eq_false h2
      rw [if_neg h2]
      clear h1 h2
      go_enter Tryz.func52, Tryz.ntmps52
      go_wp2_with (go_at_call 70; refine (hN _ _).mono ?_; rintro e w2 ⟨rfl, rfl⟩)
      go_ret
      exact ⟨rfl, rfl⟩
theorem isNaNK_any (a : Int) (w : World) : Calls Tryz.prog 69 #[.int .u8 a] w fun e w' => e = .returned (.bool false) ∧ w' = w := by
  go_enter Tryz.func69, Tryz.ntmps69
  go_wp2
  go_ret
  exact ⟨rfl, rfl⟩
theorem compK_any (a b : Int) (w : World) : Calls Tryz.prog 51 #[.int .u8 a, .int .u8 b] w fun e w' => e = .returned (.int .i64 (cmpI a b)) ∧ w' = w := by
  have hN := isNaNK_any
  unfold cmpI
  by_cases h1 : a < b
  · have d1 : decide (a < b) = true := decide_eq_true h1
    rw [if_pos h1]
    clear h1
    go_enter Tryz.func51, Tryz.ntmps51
    go_wp2_with (go_at_call 69; refine (hN _ _).mono ?_; rintro e w2 ⟨rfl, rfl⟩)
    go_ret
    exact ⟨rfl, rfl⟩
  · have d1 : decide (a < b) = false := decide_eq_false h1
    rw [if_neg h1]
    by_cases h2 : b < a
    · have d2 : decide (b < a) = true := decide_eq_true h2
      rw [if_pos h2]
      clear h1 h2
      go_enter Tryz.func51, Tryz.ntmps51
      go_wp2_with (go_at_call 69; refine (hN _ _).mono ?_; rintro e w2 ⟨rfl, rfl⟩)
      go_ret
      exact ⟨rfl, rfl⟩
    · have d2 : decide (b < a) = false := decide_eq_false h2
      rw [if_neg h2]
      clear h1 h2
      go_enter Tryz.func51, Tryz.ntmps51
      go_wp2_with (go_at_call 69; refine (hN _ _).mono ?_; rintro e w2 ⟨rfl, rfl⟩)
      go_ret
      exact ⟨rfl, rfl⟩
theorem rank_any (b : Bool) (w : World) : Calls Tryz.prog 53 #[.bool b] w fun e w' => e = .returned (.int .i64 (rk b)) ∧ w' = w := by
  cases b
  all_goals
    go_enter Tryz.func53, Tryz.ntmps53
    go_wp2
    go_ret
    exact ⟨rfl, rfl⟩
def or5 (z0 z1 z2 z3 z4 : Int) : Int := if z0 = 0 then (if z1 = 0 then (if z2 = 0 then (if z3 = 0 then (if z4 = 0 then 0 else z4) else z3) else z2) else z1) else z0
set_option maxHeartbeats 2000000 in
theorem cmpOr5_any (z0 z1 z2 z3 z4 : Int) (g : Nat) (w : World) (h0 : w.cell? ⟨g, 0, none⟩ = some (.int .i64 z0)) (h1 : w.cell? ⟨g, 1, none⟩ = some (.int .i64 z1)) (h2 : w.cell? ⟨g, 2, none⟩ = some (.int .i64 z2)) (h3 : w.cell? ⟨g, 3, none⟩ = some (.int .i64 z3)) (h4 : w.cell? ⟨g, 4, none⟩ = some (.int .i64 z4)) :
    Calls Tryz.prog 50 #[.slice (some ⟨g, 0, none⟩) 5 5] w fun e w' => e = .returned (.int .i64 (or5 z0 z1 z2 z3 z4)) ∧ w' = w := by
  unfold or5
  by_cases x0 : z0 = 0
  case neg =>
    have d : (z0 != 0) = true := by rw [bne_iff_ne]; exact x0
    have d' : (z0 == 0) = false := by rw [beq_eq_false_iff_ne]; exact x0
    rw [if_neg x0]
    go_enter Tryz.func50, Tryz.ntmps50
    go_wp2
    refine wp_loop_rounds 6 ?_
    rw [rounds_succ]
    go_wp2
    go_ret
    exact ⟨rfl, rfl⟩
  subst x0
  rw [if_pos rfl]
  by_cases x1 : z1 = 0
  case neg =>
    have d : (z1 != 0) = true := by rw [bne_iff_ne]; exact x1
    have d' : (z1 == 0) = false := by rw [beq_eq_false_iff_ne]; exact x1
    rw [if_neg x1]
    go_enter Tryz.func50, Tryz.ntmps50
    go_wp2
    refine wp_loop_rounds 6 ?_
    rw [rounds_succ]
    go_wp2
    rw [rounds_succ]
    go_wp2
    go_ret
    exact ⟨rfl, rfl⟩
  subst x1
  rw [if_pos rfl]
  by_cases x2 : z2 = 0
  case neg =>
    have d : (z2 != 0) = true := by rw [bne_iff_ne]; exact x2
    have d' : (z2 == 0) = false := by rw [beq_eq_false_iff_ne]; exact x2
    rw [if_neg x2]
    go_enter Tryz.func50, Tryz.ntmps50
    go_wp2
    refine wp_loop_rounds 6 ?_
    rw [rounds_succ]
    go_wp2
    rw [rounds_succ]
    go_wp2
    rw [rounds_succ]
    go_wp2
    go_ret
    exact ⟨rfl, rfl⟩
  subst x2
  rw [if_pos rfl]
  by_cases x3 : z3 = 0
  case neg =>
    have d : (z3 != 0) = true := by rw [bne_iff_ne]; exact x3
    have d' : (z3 == 0) = false := by rw [beq_eq_false_iff_ne]; exact x3
    rw [if_neg x3]
    go_enter Tryz.func50, Tryz.ntmps50
    go_wp2
    refine wp_loop_rounds 6 ?_
    rw [rounds_succ]
    go_wp2
    rw [rounds_succ]
    go_wp2
    rw [rounds_succ]
    go_wp2
    rw [rounds_succ]
    go_wp2
    go_ret
    exact ⟨rfl, rfl⟩
  subst x3
  rw [if_pos rfl]
  by_cases x4 : z4 = 0
  case neg =>
    have d : (z4 != 0) = true := by rw [bne_iff_ne]; exact x4
    have d' : (z4 == 0) = false := by rw [beq_eq_false_iff_ne]; exact x4
    rw [if_neg x4]
    go_enter Tryz.func50, Tryz.ntmps50
    go_wp2
    refine wp_loop_rounds 6 ?_
    rw [rounds_succ]
    go_wp2
    rw [rounds_succ]
    go_wp2
    rw [rounds_succ]
    go_wp2
    rw [rounds_succ]
    go_wp2
    rw [rounds_succ]
    go_wp2
    go_ret
    exact ⟨rfl, rfl⟩
  subst x4
  rw [if_pos rfl]
  go_enter Tryz.func50, Tryz.ntmps50
  go_wp2
  refine wp_loop_rounds 6 ?_
  rw [rounds_succ]
  go_wp2
  rw [rounds_succ]
  go_wp2
  rw [rounds_succ]
  go_wp2
  rw [rounds_succ]
  go_wp2
  rw [rounds_succ]
  go_wp2
  rw [rounds_succ]
  go_wp2
  go_ret
  exact ⟨rfl, rfl⟩
def cmpW (x y : WD) : Int := or5 (cmpI x.k y.k) (cmpI x.id y.id) (cmpI x.ix y.ix) (cmpI x.pl y.pl) (cmpI (rk x.hl) (rk y.hl))
theorem cmpI_0 {a b : Int} : cmpI a b = 0 ↔ a = b := by unfold cmpI; split <;> rename_i h <;> (try split) <;> omega
theorem cmpI_lt {a b : Int} : cmpI a b < 0 ↔ a < b := by unfold cmpI; split <;> rename_i h <;> (try split) <;> omega
theorem cmpW_lt (x y : WD) : ltOf cmpW x y = decide (Aw x y) := by
  have e : cmpW x y < 0 ↔ Aw x y := by
    unfold cmpW or5 Aw
    generalize rk x.hl = r
    generalize rk y.hl = s
    split
    · rename_i h0
      rw [cmpI_0] at h0
      split
      · rename_i h1
        rw [cmpI_0] at h1
        split
        · rename_i h2
          rw [cmpI_0] at h2
          split
          · rename_i h3
            rw [cmpI_0] at h3
            split
            · rename_i h4
              rw [cmpI_0] at h4
              omega
            · rw [cmpI_lt]; omega
          · rename_i h3
            rw [cmpI_0] at h3
            rw [cmpI_lt]; omega
        · rename_i h2
          rw [cmpI_0] at h2
          rw [cmpI_lt]; omega
      · rename_i h1
        rw [cmpI_0] at h1
        rw [cmpI_lt]; omega
    · rename_i h0
      rw [cmpI_0] at h0
      rw [cmpI_lt]; omega
  unfold ltOf
  exact decide_eq_decide.2 e
theorem cmpW_swo : SWO (ltOf cmpW) where
  irrefl x := by rw [cmpW_lt]; exact decide_eq_false (Aw_irr x)
  trans x y z h1 h2 := by rw [cmpW_lt, decide_eq_true_eq] at *; exact Aw_trans h1 h2
  ntrans x y z h1 h2 := by rw [cmpW_lt, decide_eq_false_iff_not] at *; exact Aw_ntrans h1 h2
/-- Blocks, and draws, and nothing else. -/
theorem grow_of {w w' : World} (h : Below w.heap.size w w') (hd : w.drawn ≤ w'.drawn) : ∃ q os, w' = grow (w.drewN q) os := by
  refine ⟨w'.drawn - w.drawn, w'.heap.extract w.heap.size w'.heap.size, ?_⟩
  obtain ⟨heap, tape, drawn, os, output⟩ := w
  obtain ⟨heap', tape', drawn', os', output'⟩ := w'
  obtain ⟨e1, e2, e3, e4, e5⟩ := h
  dsimp only at e1 e2 e3 e4 e5 hd
  subst e1; subst e2; subst e3
  unfold grow World.drewN
  simp only [World.mk.injEq, true_and, and_true]
  refine ⟨?_, by omega⟩
  apply Array.ext_getElem?
  intro i
  rw [Array.getElem?_append]
  split
  · rename_i h; exact e5 i h
  · rename_i h
    rw [Array.getElem?_extract]
    split
    · congr 1; omega
    · exact Array.getElem?_eq_none (by omega)
set_option maxHeartbeats 8000000 in
set_option maxRecDepth 100000 in
theorem woundOrder_any (x y : WD) (w : World) :
    Calls Tryz.prog 29 #[.agg x.enc.toArray, .agg y.enc.toArray] w fun e w' => e = .returned (.int .i64 (cmpW x y)) ∧ Below w.heap.size w w' ∧ w.drawn ≤ w'.drawn := by
  obtain ⟨k, a, b, c, d⟩ := x
  obtain ⟨k', a', b', c', d'⟩ := y
  unfold WD.enc cmpW
  dsimp only
  have h0 := compK_any k k'
  have h1 := compI_any a a'
  have h2 := compI_any b b'
  have h3 := compI_any c c'
  have r1 := rank_any d
  have r2 := rank_any d'
  have h4 := compI_any (rk d) (rk d')
  generalize rk d = q1 at r1 h4 ⊢
  generalize rk d' = q2 at r2 h4 ⊢
  generalize cmpI k k' = z0 at h0 ⊢
  generalize cmpI a a' = z1 at h1 ⊢
  generalize cmpI b b' = z2 at h2 ⊢
  generalize cmpI c c' = z3 at h3 ⊢
  generalize cmpI q1 q2 = z4 at h4 ⊢
  obtain ⟨W, hW⟩ : ∃ W, W = (w.alloc (.cells #[.int .u8 k, .int .i64 a, .int .i64 b, .int .i64 c, .bool d] 42)).alloc (.cells #[.int .u8 k', .int .i64 a', .int .i64 b', .int .i64 c', .bool d'] 42) := ⟨_, rfl⟩
  have hb : Below w.heap.size w W := by rw [hW]; exact ((Below.refl _ w).alloc (Nat.le_refl _) _).alloc (by simp) _
  have hd : W.drawn = w.drawn := by rw [hW]; rfl
  have g1 := heap_alloc_new (w.alloc (.cells #[.int .u8 k, .int .i64 a, .int .i64 b, .int .i64 c, .bool d] 42)) (.cells #[.int .u8 k', .int .i64 a', .int .i64 b', .int .i64 c', .bool d'] 42)
  have g0 := ((below_new (w.alloc (.cells #[.int .u8 k, .int .i64 a, .int .i64 b, .int .i64 c, .bool d] 42)) (.cells #[.int .u8 k', .int .i64 a', .int .i64 b', .int .i64 c', .bool d'] 42)).block w.heap.size (by simp)).trans (heap_alloc_new w (.cells #[.int .u8 k, .int .i64 a, .int .i64 b, .int .i64 c, .bool d] 42))
  rw [World.size_alloc] at g1
  rw [← hW] at g0 g1
  have x0 : W.cell? ⟨w.heap.size, 0, none⟩ = some (.int .u8 k) := by rw [cell_of_row _ _ _ _ _ (0, 0) g0]; rfl
  have x1 : W.cell? ⟨w.heap.size, 1, none⟩ = some (.int .i64 a) := by rw [cell_of_row _ _ _ _ _ (0, 0) g0]; rfl
  have x2 : W.cell? ⟨w.heap.size, 2, none⟩ = some (.int .i64 b) := by rw [cell_of_row _ _ _ _ _ (0, 0) g0]; rfl
  have x3 : W.cell? ⟨w.heap.size, 3, none⟩ = some (.int .i64 c) := by rw [cell_of_row _ _ _ _ _ (0, 0) g0]; rfl
  have x4 : W.cell? ⟨w.heap.size, 4, none⟩ = some (.bool d) := by rw [cell_of_row _ _ _ _ _ (0, 0) g0]; rfl
  have y0 : W.cell? ⟨w.heap.size + 1, 0, none⟩ = some (.int .u8 k') := by rw [cell_of_row _ _ _ _ _ (0, 0) g1]; rfl
  have y1 : W.cell? ⟨w.heap.size + 1, 1, none⟩ = some (.int .i64 a') := by rw [cell_of_row _ _ _ _ _ (0, 0) g1]; rfl
  have y2 : W.cell? ⟨w.heap.size + 1, 2, none⟩ = some (.int .i64 b') := by rw [cell_of_row _ _ _ _ _ (0, 0) g1]; rfl
  have y3 : W.cell? ⟨w.heap.size + 1, 3, none⟩ = some (.int .i64 c') := by rw [cell_of_row _ _ _ _ _ (0, 0) g1]; rfl
  have y4 : W.cell? ⟨w.heap.size + 1, 4, none⟩ = some (.bool d') := by rw [cell_of_row _ _ _ _ _ (0, 0) g1]; rfl
  have hO : Calls Tryz.prog 50 #[.slice (some ⟨W.heap.size, 0, none⟩) 5 5] ((W.alloc (.cells #[.int .i64 z0, .int .i64 z1, .int .i64 z2, .int .i64 z3, .int .i64 z4] 3)).drew) fun e w' => e = .returned (.int .i64 (or5 z0 z1 z2 z3 z4)) ∧ w' = (W.alloc (.cells #[.int .i64 z0, .int .i64 z1, .int .i64 z2, .int .i64 z3, .int .i64 z4] 3)).drew := by
    have g : ((W.alloc (.cells #[.int .i64 z0, .int .i64 z1, .int .i64 z2, .int .i64 z3, .int .i64 z4] 3)).drew).heap[W.heap.size]? = _ := heap_alloc_new W (.cells #[.int .i64 z0, .int .i64 z1, .int .i64 z2, .int .i64 z3, .int .i64 z4] 3)
    exact cmpOr5_any z0 z1 z2 z3 z4 _ _ (by rw [cell_of_row _ _ _ _ _ (0, 0) g]; rfl) (by rw [cell_of_row _ _ _ _ _ (0, 0) g]; rfl) (by rw [cell_of_row _ _ _ _ _ (0, 0) g]; rfl) (by rw [cell_of_row _ _ _ _ _ (0, 0) g]; rfl) (by rw [cell_of_row _ _ _ _ _ (0, 0) g]; rfl)
  generalize or5 z0 z1 z2 z3 z4 = z at hO ⊢
  have hlt : w.heap.size + 1 < W.heap.size := by rw [hW]; simp
  have HK : Hid (∀ W', Below W.heap.size W W' → W'.cell? ⟨w.heap.size, 0, none⟩ = some (.int .u8 k) ∧ W'.cell? ⟨w.heap.size, 1, none⟩ = some (.int .i64 a) ∧ W'.cell? ⟨w.heap.size, 2, none⟩ = some (.int .i64 b) ∧ W'.cell? ⟨w.heap.size, 3, none⟩ = some (.int .i64 c) ∧ W'.cell? ⟨w.heap.size, 4, none⟩ = some (.bool d) ∧ W'.cell? ⟨w.heap.size + 1, 0, none⟩ = some (.int .u8 k') ∧ W'.cell? ⟨w.heap.size + 1, 1, none⟩ = some (.int .i64 a') ∧ W'.cell? ⟨w.heap.size + 1, 2, none⟩ = some (.int .i64 b') ∧ W'.cell? ⟨w.heap.size + 1, 3, none⟩ = some (.int .i64 c') ∧ W'.cell? ⟨w.heap.size + 1, 4, none⟩ = some (.bool d')) := Lib.hid (fun W' hb' =>
    ⟨(hb'.cell (p := ⟨w.heap.size, 0, none⟩) (by show w.heap.size < _; omega)).trans x0, (hb'.cell (p := ⟨w.heap.size, 1, none⟩) (by show w.heap.size < _; omega)).trans x1, (hb'.cell (p := ⟨w.heap.size, 2, none⟩) (by show w.heap.size < _; omega)).trans x2, (hb'.cell (p := ⟨w.heap.size, 3, none⟩) (by show w.heap.size < _; omega)).trans x3, (hb'.cell (p := ⟨w.heap.size, 4, none⟩) (by show w.heap.size < _; omega)).trans x4, (hb'.cell (p := ⟨w.heap.size + 1, 0, none⟩) hlt).trans y0, (hb'.cell (p := ⟨w.heap.size + 1, 1, none⟩) hlt).trans y1, (hb'.cell (p := ⟨w.heap.size + 1, 2, none⟩) hlt).trans y2, (hb'.cell (p := ⟨w.heap.size + 1, 3, none⟩) hlt).trans y3, (hb'.cell (p := ⟨w.heap.size + 1, 4, none⟩) hlt).trans y4⟩)
  have HD1 : Hid (Below W.heap.size W W.drew) := Lib.hid ((Below.refl _ _).drew)
  have HD2 : Hid (Below W.heap.size W ((W.alloc (.cells #[.int .i64 z0, .int .i64 z1, .int .i64 z2, .int .i64 z3, .int .i64 z4] 3)).drew)) := Lib.hid (((Below.refl _ _).alloc (Nat.le_refl _) _).drew)
  have HBX : Hid (Below w.heap.size w ((W.alloc (.cells #[.int .i64 z0, .int .i64 z1, .int .i64 z2, .int .i64 z3, .int .i64 z4] 3)).drew) ∧ w.drawn ≤ ((W.alloc (.cells #[.int .i64 z0, .int .i64 z1, .int .i64 z2, .int .i64 z3, .int .i64 z4] 3)).drew).drawn) := Lib.hid ⟨(hb.alloc hb.size _).drew, by show w.drawn ≤ W.drawn + 1; omega⟩
  have HW := Lib.hid hW
  clear hW hb hd g0 g1 hlt
  go_enter Tryz.func29, Tryz.ntmps29
  go_upto_region 1 with fail
  rw [← HW.out]
  clear HW
  go_region_held3 (fun W' => W'.cell? ⟨w.heap.size, 0, none⟩ = some (.int .u8 k) ∧ W'.cell? ⟨w.heap.size, 1, none⟩ = some (.int .i64 a) ∧ W'.cell? ⟨w.heap.size, 2, none⟩ = some (.int .i64 b) ∧ W'.cell? ⟨w.heap.size, 3, none⟩ = some (.int .i64 c) ∧ W'.cell? ⟨w.heap.size, 4, none⟩ = some (.bool d) ∧ W'.cell? ⟨w.heap.size + 1, 0, none⟩ = some (.int .u8 k') ∧ W'.cell? ⟨w.heap.size + 1, 1, none⟩ = some (.int .i64 a') ∧ W'.cell? ⟨w.heap.size + 1, 2, none⟩ = some (.int .i64 b') ∧ W'.cell? ⟨w.heap.size + 1, 3, none⟩ = some (.int .i64 c') ∧ W'.cell? ⟨w.heap.size + 1, 4, none⟩ = some (.bool d')) (first | with_reducible exact HK.out _ HD1.out | with_reducible exact HK.out _ HD2.out)
    (first
    | (go_at_call 51; (with_reducible refine (h0 _).mono ?_); rintro e w2 ⟨rfl, rfl⟩)
    | (go_at_call 52; (with_reducible refine (h1 _).mono ?_); rintro e w2 ⟨rfl, rfl⟩)
    | (go_at_call 52; (with_reducible refine (h2 _).mono ?_); rintro e w2 ⟨rfl, rfl⟩)
    | (go_at_call 52; (with_reducible refine (h3 _).mono ?_); rintro e w2 ⟨rfl, rfl⟩)
    | (go_at_call 52; (with_reducible refine (h4 _).mono ?_); rintro e w2 ⟨rfl, rfl⟩)
    | (go_at_call 53; (with_reducible refine (r1 _).mono ?_); rintro e w2 ⟨rfl, rfl⟩)
    | (go_at_call 53; (with_reducible refine (r2 _).mono ?_); rintro e w2 ⟨rfl, rfl⟩)
    | (go_at_call 50; refine hO.mono ?_; rintro e w2 ⟨rfl, rfl⟩))
  all_goals go_wp2
  all_goals go_ret
  all_goals exact ⟨rfl, HBX.out⟩
end Go.Proofs.YtfmpbohiahjafaaGreatDoor
