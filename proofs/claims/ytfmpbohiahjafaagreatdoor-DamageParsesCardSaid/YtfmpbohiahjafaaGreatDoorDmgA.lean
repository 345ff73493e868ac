/- Reports of damage: what stands in the world, wounds and lost ranges as cells, and whether one is right (the program's and the document's answers). -/
import Derived.Test.YtfmpbohiahjafaaGreatDoorDmgQ
import Derived.Test.YtfmpbohiahjafaaGreatDoorStrIn
import Derived.Lib.AppendIntMem
import Derived.Deep.Cut
namespace Go.Proofs.YtfmpbohiahjafaaGreatDoor
open Go.RowKit Go.Lib

/-- A string of these bytes. -/
abbrev Bs (l : List UInt8) : Value := .string ⟨l.toArray⟩
/-- What the package variables hold. -/
structure DmW (w : World) : Prop where
  tab : Lib.TabIs Tryz.prog w "internal/strconv.uint64pow10" .u64 Lib.pow10Tab
  ml : ∃ m, w.cell? ⟨1, 0, none⟩ = some (.int .i64 m)
  syn : ∃ ev, w.cell? ⟨3, 0, none⟩ = some ev ∧ (ev = .nilIface ∨ ∃ te pe, ev = .iface te pe)
  rng : ∃ ev, w.cell? ⟨4, 0, none⟩ = some ev ∧ (ev = .nilIface ∨ ∃ te pe, ev = .iface te pe)
  w0 : w.cell? ⟨0, 0, none⟩ = some (Bs [])
  w1 : w.cell? ⟨0, 1, none⟩ = some (Bs slotW)
  w2 : w.cell? ⟨0, 2, none⟩ = some (Bs pageW)
  w3 : w.cell? ⟨0, 3, none⟩ = some (Bs stripeW)
theorem cell_keep {w w' : World} (hb : Below w.heap.size w w') {g i : Nat} {v : Value} (h : w.cell? ⟨g, i, none⟩ = some v) : w'.cell? ⟨g, i, none⟩ = some v :=
  (hb.cell (p := ⟨g, i, none⟩) (World.block_lt_of_cell? _ _ h)).trans h
theorem DmW.below {w w' : World} (h : DmW w) (hb : Below w.heap.size w w') : DmW w' := by
  obtain ⟨h0, ⟨m, h1⟩, ⟨e1, h2, k2⟩, ⟨e2, h3, k3⟩, h4, h5, h6, h7⟩ := h
  exact ⟨tabBelow_of_tabIs h0 _ hb, ⟨m, cell_keep hb h1⟩, ⟨e1, cell_keep hb h2, k2⟩, ⟨e2, cell_keep hb h3, k3⟩, cell_keep hb h4, cell_keep hb h5, cell_keep hb h6, cell_keep hb h7⟩
def WD.enc (x : WD) : List Value := [.int .u8 x.k, .int .i64 x.id, .int .i64 x.ix, .int .i64 x.pl, .bool x.hl]
theorem WD.enc_len (x : WD) : x.enc.length = 5 := rfl
theorem WD.enc_one (x : WD) : ∀ u ∈ x.enc, u.oneCell' = true := by
  intro u hu
  simp only [WD.enc, List.mem_cons, List.not_mem_nil, or_false] at hu
  rcases hu with rfl | rfl | rfl | rfl | rfl <;> rfl
def LO.enc (x : LO) : List Value := [.int .i64 x.c, .int .i64 x.f, .int .i64 x.t]
theorem LO.enc_len (x : LO) : x.enc.length = 3 := rfl
theorem LO.enc_one (x : LO) : ∀ u ∈ x.enc, u.oneCell' = true := by
  intro u hu
  simp only [LO.enc, List.mem_cons, List.not_mem_nil, or_false] at hu
  rcases hu with rfl | rfl | rfl <;> rfl
abbrev WdS (w : World) (v : Value) (L : List WD) : Prop := StS 5 WD.enc WD.zero w v L
abbrev LoS (w : World) (v : Value) (L : List LO) : Prop := StS 3 LO.enc LO.zero w v L
/-- A wound's numbers are 64-bit ones, its kind a byte. -/
structure WdK (x : WD) : Prop where
  k0 : 0 ≤ x.k
  k1 : x.k < 256
theorem number_any (n : Int) (w : World) : Calls Tryz.prog 57 #[.int .i64 n] w fun e w' => e = .returned (.bool (nmOk n)) ∧ w' = w := by
  unfold nmOk
  by_cases h : 0 ≤ n
  · have d : decide (0 ≤ n) = true := decide_eq_true h
    rw [d, Bool.true_and]
    go_enter Tryz.func57, Tryz.ntmps57
    go_wp2
    go_ret
    exact ⟨rfl, rfl⟩
  · have d : decide (0 ≤ n) = false := decide_eq_false h
    rw [d, Bool.false_and]
    go_enter Tryz.func57, Tryz.ntmps57
    go_wp2
    go_ret
    exact ⟨rfl, rfl⟩
theorem isId_any (n : Int) (w : World) : Calls Tryz.prog 54 #[.int .i64 n] w fun e w' => e = .returned (.bool (nmOk n)) ∧ w' = w := by
  unfold nmOk
  by_cases h : 0 ≤ n
  · have d : decide (0 ≤ n) = true := decide_eq_true h
    rw [d, Bool.true_and]
    go_enter Tryz.func54, Tryz.ntmps54
    go_wp2
    go_ret
    exact ⟨rfl, rfl⟩
  · have d : decide (0 ≤ n) = false := decide_eq_false h
    rw [d, Bool.false_and]
    go_enter Tryz.func54, Tryz.ntmps54
    go_wp2
    go_ret
    exact ⟨rfl, rfl⟩
theorem new5 (w : World) (a b c d e : Value) (t : TypeId) : (w.alloc (.cells #[a, b, c, d, e] t)).cell? ⟨w.heap.size, 0, none⟩ = some a ∧ (w.alloc (.cells #[a, b, c, d, e] t)).cell? ⟨w.heap.size, 1, none⟩ = some b ∧ (w.alloc (.cells #[a, b, c, d, e] t)).cell? ⟨w.heap.size, 2, none⟩ = some c ∧ (w.alloc (.cells #[a, b, c, d, e] t)).cell? ⟨w.heap.size, 3, none⟩ = some d ∧ (w.alloc (.cells #[a, b, c, d, e] t)).cell? ⟨w.heap.size, 4, none⟩ = some e := by
  have g := heap_alloc_new w (.cells #[a, b, c, d, e] t)
  refine ⟨?_, ?_, ?_, ?_, ?_⟩ <;> (rw [cell_of_row _ _ _ _ _ (0, 0) g]; rfl)
theorem new3 (w : World) (a b c : Value) (t : TypeId) : (w.alloc (.cells #[a, b, c] t)).cell? ⟨w.heap.size, 0, none⟩ = some a ∧ (w.alloc (.cells #[a, b, c] t)).cell? ⟨w.heap.size, 1, none⟩ = some b ∧ (w.alloc (.cells #[a, b, c] t)).cell? ⟨w.heap.size, 2, none⟩ = some c := by
  have g := heap_alloc_new w (.cells #[a, b, c] t)
  refine ⟨?_, ?_, ?_⟩ <;> (rw [cell_of_row _ _ _ _ _ (0, 0) g]; rfl)
set_option maxHeartbeats 4000000 in
set_option maxRecDepth 100000 in
theorem refWound_any (x : WD) (w : World) : Calls Tryz.prog 37 #[.agg x.enc.toArray] w fun e w' => e = .returned (.bool (wdOk x)) ∧ Below w.heap.size w w' := by
  obtain ⟨k, id, ix, pl, hl⟩ := x
  obtain ⟨r, hr⟩ : ∃ r, r = wdOk ⟨k, id, ix, pl, hl⟩ := ⟨_, rfl⟩
  rw [← hr]
  unfold WD.enc
  unfold wdOk at hr
  dsimp only at hr ⊢
  have c1 := number_any id
  have c2 := number_any ix
  have c3 := number_any pl
  have hn2 : nmOk ix = true → 0 ≤ ix := fun h => (nmOk_iff.1 h).1
  generalize nmOk id = b1 at c1 hr
  generalize nmOk ix = b2 at c2 hr hn2
  generalize nmOk pl = b3 at c3 hr
  have HB := Lib.hid (below_new w (.cells #[.int .u8 k, .int .i64 id, .int .i64 ix, .int .i64 pl, .bool hl] 42))
  have h5 := new5 w (.int .u8 k) (.int .i64 id) (.int .i64 ix) (.int .i64 pl) (.bool hl) 42
  by_cases q0 : k < 1
  · have d0 : decide (k < 1) = true := decide_eq_true q0
    have d1 : decide (1 ≤ k) = false := decide_eq_false (by omega)
    obtain rfl : r = false := by rw [hr, d1]; rfl
    clear d1 q0
    clear hr
    go_enter Tryz.func37, Tryz.ntmps37
    go_upto_region 1 with fail
    generalize w.alloc (.cells #[.int .u8 k, .int .i64 id, .int .i64 ix, .int .i64 pl, .bool hl] 42) = w1 at h5 HB ⊢
    obtain ⟨y0, y1, y2, y3, y4⟩ := h5
    go_wp2_with (first
        | (go_at_call 57; (with_reducible refine (c1 _).mono ?_); rintro e w2 ⟨rfl, rfl⟩)
        | (go_at_call 57; (with_reducible refine (c2 _).mono ?_); rintro e w2 ⟨rfl, rfl⟩)
        | (go_at_call 57; (with_reducible refine (c3 _).mono ?_); rintro e w2 ⟨rfl, rfl⟩))
    go_ret
    exact ⟨rfl, HB.out⟩
  have d0 : decide (k < 1) = false := decide_eq_false q0
  by_cases q1 : 4 ≤ k
  · have d2 : decide (4 ≤ k) = true := decide_eq_true q1
    have d3 : decide (k < 4) = false := decide_eq_false (by omega)
    obtain rfl : r = false := by rw [hr, d3, Bool.and_false]; rfl
    clear d3 q1
    clear hr
    go_enter Tryz.func37, Tryz.ntmps37
    go_upto_region 1 with fail
    generalize w.alloc (.cells #[.int .u8 k, .int .i64 id, .int .i64 ix, .int .i64 pl, .bool hl] 42) = w1 at h5 HB ⊢
    obtain ⟨y0, y1, y2, y3, y4⟩ := h5
    go_wp2_with (first
        | (go_at_call 57; (with_reducible refine (c1 _).mono ?_); rintro e w2 ⟨rfl, rfl⟩)
        | (go_at_call 57; (with_reducible refine (c2 _).mono ?_); rintro e w2 ⟨rfl, rfl⟩)
        | (go_at_call 57; (with_reducible refine (c3 _).mono ?_); rintro e w2 ⟨rfl, rfl⟩))
    go_ret
    exact ⟨rfl, HB.out⟩
  clear d0
  obtain rfl | rfl | rfl : k = 1 ∨ k = 2 ∨ k = 3 := by omega
  · clear q1 q0
    cases b1
    · obtain rfl : r = false := by rw [hr]; simp
      clear hr
      go_enter Tryz.func37, Tryz.ntmps37
      go_upto_region 1 with fail
      generalize w.alloc (.cells #[.int .u8 1, .int .i64 id, .int .i64 ix, .int .i64 pl, .bool hl] 42) = w1 at h5 HB ⊢
      obtain ⟨y0, y1, y2, y3, y4⟩ := h5
      go_wp2_with (first
          | (go_at_call 57; (with_reducible refine (c1 _).mono ?_); rintro e w2 ⟨rfl, rfl⟩)
          | (go_at_call 57; (with_reducible refine (c2 _).mono ?_); rintro e w2 ⟨rfl, rfl⟩)
          | (go_at_call 57; (with_reducible refine (c3 _).mono ?_); rintro e w2 ⟨rfl, rfl⟩))
      go_ret
      exact ⟨rfl, HB.out⟩
    cases b2
    · obtain rfl : r = false := by rw [hr]; simp
      clear hr
      go_enter Tryz.func37, Tryz.ntmps37
      go_upto_region 1 with fail
      generalize w.alloc (.cells #[.int .u8 1, .int .i64 id, .int .i64 ix, .int .i64 pl, .bool hl] 42) = w1 at h5 HB ⊢
      obtain ⟨y0, y1, y2, y3, y4⟩ := h5
      go_wp2_with (first
          | (go_at_call 57; (with_reducible refine (c1 _).mono ?_); rintro e w2 ⟨rfl, rfl⟩)
          | (go_at_call 57; (with_reducible refine (c2 _).mono ?_); rintro e w2 ⟨rfl, rfl⟩)
          | (go_at_call 57; (with_reducible refine (c3 _).mono ?_); rintro e w2 ⟨rfl, rfl⟩))
      go_ret
      exact ⟨rfl, HB.out⟩
    cases b3
    · obtain rfl : r = false := by rw [hr]; simp
      clear hr
      go_enter Tryz.func37, Tryz.ntmps37
      go_upto_region 1 with fail
      generalize w.alloc (.cells #[.int .u8 1, .int .i64 id, .int .i64 ix, .int .i64 pl, .bool hl] 42) = w1 at h5 HB ⊢
      obtain ⟨y0, y1, y2, y3, y4⟩ := h5
      go_wp2_with (first
          | (go_at_call 57; (with_reducible refine (c1 _).mono ?_); rintro e w2 ⟨rfl, rfl⟩)
          | (go_at_call 57; (with_reducible refine (c2 _).mono ?_); rintro e w2 ⟨rfl, rfl⟩)
          | (go_at_call 57; (with_reducible refine (c3 _).mono ?_); rintro e w2 ⟨rfl, rfl⟩))
      go_ret
      exact ⟨rfl, HB.out⟩
    by_cases e1 : ix = 0
    · subst e1
      obtain rfl : r = true := by rw [hr]; rfl
      clear hr
      go_enter Tryz.func37, Tryz.ntmps37
      go_upto_region 1 with fail
      generalize w.alloc (.cells #[.int .u8 1, .int .i64 id, .int .i64 0, .int .i64 pl, .bool hl] 42) = w1 at h5 HB ⊢
      obtain ⟨y0, y1, y2, y3, y4⟩ := h5
      go_wp2_with (first
          | (go_at_call 57; (with_reducible refine (c1 _).mono ?_); rintro e w2 ⟨rfl, rfl⟩)
          | (go_at_call 57; (with_reducible refine (c2 _).mono ?_); rintro e w2 ⟨rfl, rfl⟩)
          | (go_at_call 57; (with_reducible refine (c3 _).mono ?_); rintro e w2 ⟨rfl, rfl⟩))
      go_ret
      exact ⟨rfl, HB.out⟩
    have f1 : (ix == 0) = false := by rw [beq_eq_false_iff_ne]; exact e1
    obtain rfl : r = false := by rw [hr]; simp [e1]
    clear hr
    go_enter Tryz.func37, Tryz.ntmps37
    go_upto_region 1 with fail
    generalize w.alloc (.cells #[.int .u8 1, .int .i64 id, .int .i64 ix, .int .i64 pl, .bool hl] 42) = w1 at h5 HB ⊢
    obtain ⟨y0, y1, y2, y3, y4⟩ := h5
    go_wp2_with (first
        | (go_at_call 57; (with_reducible refine (c1 _).mono ?_); rintro e w2 ⟨rfl, rfl⟩)
        | (go_at_call 57; (with_reducible refine (c2 _).mono ?_); rintro e w2 ⟨rfl, rfl⟩)
        | (go_at_call 57; (with_reducible refine (c3 _).mono ?_); rintro e w2 ⟨rfl, rfl⟩))
    go_ret
    exact ⟨rfl, HB.out⟩
  · clear q1 q0
    cases b1
    · obtain rfl : r = false := by rw [hr]; simp
      clear hr
      go_enter Tryz.func37, Tryz.ntmps37
      go_upto_region 1 with fail
      generalize w.alloc (.cells #[.int .u8 2, .int .i64 id, .int .i64 ix, .int .i64 pl, .bool hl] 42) = w1 at h5 HB ⊢
      obtain ⟨y0, y1, y2, y3, y4⟩ := h5
      go_wp2_with (first
          | (go_at_call 57; (with_reducible refine (c1 _).mono ?_); rintro e w2 ⟨rfl, rfl⟩)
          | (go_at_call 57; (with_reducible refine (c2 _).mono ?_); rintro e w2 ⟨rfl, rfl⟩)
          | (go_at_call 57; (with_reducible refine (c3 _).mono ?_); rintro e w2 ⟨rfl, rfl⟩))
      go_ret
      exact ⟨rfl, HB.out⟩
    cases b2
    · obtain rfl : r = false := by rw [hr]; simp
      clear hr
      go_enter Tryz.func37, Tryz.ntmps37
      go_upto_region 1 with fail
      generalize w.alloc (.cells #[.int .u8 2, .int .i64 id, .int .i64 ix, .int .i64 pl, .bool hl] 42) = w1 at h5 HB ⊢
      obtain ⟨y0, y1, y2, y3, y4⟩ := h5
      go_wp2_with (first
          | (go_at_call 57; (with_reducible refine (c1 _).mono ?_); rintro e w2 ⟨rfl, rfl⟩)
          | (go_at_call 57; (with_reducible refine (c2 _).mono ?_); rintro e w2 ⟨rfl, rfl⟩)
          | (go_at_call 57; (with_reducible refine (c3 _).mono ?_); rintro e w2 ⟨rfl, rfl⟩))
      go_ret
      exact ⟨rfl, HB.out⟩
    cases b3
    · obtain rfl : r = false := by rw [hr]; simp
      clear hr
      go_enter Tryz.func37, Tryz.ntmps37
      go_upto_region 1 with fail
      generalize w.alloc (.cells #[.int .u8 2, .int .i64 id, .int .i64 ix, .int .i64 pl, .bool hl] 42) = w1 at h5 HB ⊢
      obtain ⟨y0, y1, y2, y3, y4⟩ := h5
      go_wp2_with (first
          | (go_at_call 57; (with_reducible refine (c1 _).mono ?_); rintro e w2 ⟨rfl, rfl⟩)
          | (go_at_call 57; (with_reducible refine (c2 _).mono ?_); rintro e w2 ⟨rfl, rfl⟩)
          | (go_at_call 57; (with_reducible refine (c3 _).mono ?_); rintro e w2 ⟨rfl, rfl⟩))
      go_ret
      exact ⟨rfl, HB.out⟩
    by_cases e1 : ix = 0
    · subst e1
      obtain rfl : r = true := by rw [hr]; rfl
      clear hr
      go_enter Tryz.func37, Tryz.ntmps37
      go_upto_region 1 with fail
      generalize w.alloc (.cells #[.int .u8 2, .int .i64 id, .int .i64 0, .int .i64 pl, .bool hl] 42) = w1 at h5 HB ⊢
      obtain ⟨y0, y1, y2, y3, y4⟩ := h5
      go_wp2_with (first
          | (go_at_call 57; (with_reducible refine (c1 _).mono ?_); rintro e w2 ⟨rfl, rfl⟩)
          | (go_at_call 57; (with_reducible refine (c2 _).mono ?_); rintro e w2 ⟨rfl, rfl⟩)
          | (go_at_call 57; (with_reducible refine (c3 _).mono ?_); rintro e w2 ⟨rfl, rfl⟩))
      go_ret
      exact ⟨rfl, HB.out⟩
    by_cases e2 : ix = 1
    · subst e2
      obtain rfl : r = true := by rw [hr]; rfl
      clear hr
      go_enter Tryz.func37, Tryz.ntmps37
      go_upto_region 1 with fail
      generalize w.alloc (.cells #[.int .u8 2, .int .i64 id, .int .i64 1, .int .i64 pl, .bool hl] 42) = w1 at h5 HB ⊢
      obtain ⟨y0, y1, y2, y3, y4⟩ := h5
      go_wp2_with (first
          | (go_at_call 57; (with_reducible refine (c1 _).mono ?_); rintro e w2 ⟨rfl, rfl⟩)
          | (go_at_call 57; (with_reducible refine (c2 _).mono ?_); rintro e w2 ⟨rfl, rfl⟩)
          | (go_at_call 57; (with_reducible refine (c3 _).mono ?_); rintro e w2 ⟨rfl, rfl⟩))
      go_ret
      exact ⟨rfl, HB.out⟩
    have f1 : (ix == 0) = false := by rw [beq_eq_false_iff_ne]; exact e1
    have f2 : (ix == 1) = false := by rw [beq_eq_false_iff_ne]; exact e2
    have f3 : decide (ix ≤ 1) = false := decide_eq_false (by have := hn2 rfl; omega)
    obtain rfl : r = false := by rw [hr]; simp [e1, e2]
    clear hr
    go_enter Tryz.func37, Tryz.ntmps37
    go_upto_region 1 with fail
    generalize w.alloc (.cells #[.int .u8 2, .int .i64 id, .int .i64 ix, .int .i64 pl, .bool hl] 42) = w1 at h5 HB ⊢
    obtain ⟨y0, y1, y2, y3, y4⟩ := h5
    go_wp2_with (first
        | (go_at_call 57; (with_reducible refine (c1 _).mono ?_); rintro e w2 ⟨rfl, rfl⟩)
        | (go_at_call 57; (with_reducible refine (c2 _).mono ?_); rintro e w2 ⟨rfl, rfl⟩)
        | (go_at_call 57; (with_reducible refine (c3 _).mono ?_); rintro e w2 ⟨rfl, rfl⟩))
    go_ret
    exact ⟨rfl, HB.out⟩
  · clear q1 q0
    cases b1
    · obtain rfl : r = false := by rw [hr]; simp
      clear hr
      go_enter Tryz.func37, Tryz.ntmps37
      go_upto_region 1 with fail
      generalize w.alloc (.cells #[.int .u8 3, .int .i64 id, .int .i64 ix, .int .i64 pl, .bool hl] 42) = w1 at h5 HB ⊢
      obtain ⟨y0, y1, y2, y3, y4⟩ := h5
      go_wp2_with (first
          | (go_at_call 57; (with_reducible refine (c1 _).mono ?_); rintro e w2 ⟨rfl, rfl⟩)
          | (go_at_call 57; (with_reducible refine (c2 _).mono ?_); rintro e w2 ⟨rfl, rfl⟩)
          | (go_at_call 57; (with_reducible refine (c3 _).mono ?_); rintro e w2 ⟨rfl, rfl⟩))
      go_ret
      exact ⟨rfl, HB.out⟩
    cases b2
    · obtain rfl : r = false := by rw [hr]; simp
      clear hr
      go_enter Tryz.func37, Tryz.ntmps37
      go_upto_region 1 with fail
      generalize w.alloc (.cells #[.int .u8 3, .int .i64 id, .int .i64 ix, .int .i64 pl, .bool hl] 42) = w1 at h5 HB ⊢
      obtain ⟨y0, y1, y2, y3, y4⟩ := h5
      go_wp2_with (first
          | (go_at_call 57; (with_reducible refine (c1 _).mono ?_); rintro e w2 ⟨rfl, rfl⟩)
          | (go_at_call 57; (with_reducible refine (c2 _).mono ?_); rintro e w2 ⟨rfl, rfl⟩)
          | (go_at_call 57; (with_reducible refine (c3 _).mono ?_); rintro e w2 ⟨rfl, rfl⟩))
      go_ret
      exact ⟨rfl, HB.out⟩
    cases b3
    · obtain rfl : r = false := by rw [hr]; simp
      clear hr
      go_enter Tryz.func37, Tryz.ntmps37
      go_upto_region 1 with fail
      generalize w.alloc (.cells #[.int .u8 3, .int .i64 id, .int .i64 ix, .int .i64 pl, .bool hl] 42) = w1 at h5 HB ⊢
      obtain ⟨y0, y1, y2, y3, y4⟩ := h5
      go_wp2_with (first
          | (go_at_call 57; (with_reducible refine (c1 _).mono ?_); rintro e w2 ⟨rfl, rfl⟩)
          | (go_at_call 57; (with_reducible refine (c2 _).mono ?_); rintro e w2 ⟨rfl, rfl⟩)
          | (go_at_call 57; (with_reducible refine (c3 _).mono ?_); rintro e w2 ⟨rfl, rfl⟩))
      go_ret
      exact ⟨rfl, HB.out⟩
    obtain rfl : r = true := by rw [hr]; rfl
    clear hr
    go_enter Tryz.func37, Tryz.ntmps37
    go_upto_region 1 with fail
    generalize w.alloc (.cells #[.int .u8 3, .int .i64 id, .int .i64 ix, .int .i64 pl, .bool hl] 42) = w1 at h5 HB ⊢
    obtain ⟨y0, y1, y2, y3, y4⟩ := h5
    go_wp2_with (first
        | (go_at_call 57; (with_reducible refine (c1 _).mono ?_); rintro e w2 ⟨rfl, rfl⟩)
        | (go_at_call 57; (with_reducible refine (c2 _).mono ?_); rintro e w2 ⟨rfl, rfl⟩)
        | (go_at_call 57; (with_reducible refine (c3 _).mono ?_); rintro e w2 ⟨rfl, rfl⟩))
    go_ret
    exact ⟨rfl, HB.out⟩
set_option maxHeartbeats 4000000 in
set_option maxRecDepth 100000 in
theorem isWound_any (x : WD) (h0 : 0 ≤ x.k) (w : World) (hD : DmW w) : Calls Tryz.prog 32 #[.agg x.enc.toArray] w fun e w' => e = .returned (.bool (wdOk x)) ∧ Below w.heap.size w w' := by
  obtain ⟨k, id, ix, pl, hl⟩ := x
  obtain ⟨r, hr⟩ : ∃ r, r = wdOk ⟨k, id, ix, pl, hl⟩ := ⟨_, rfl⟩
  rw [← hr]
  unfold WD.enc
  unfold wdOk at hr
  dsimp only at hr h0 ⊢
  have c1 := isId_any id
  have c2 := isId_any ix
  have c3 := isId_any pl
  have hn2 : nmOk ix = true → 0 ≤ ix := fun h => (nmOk_iff.1 h).1
  generalize nmOk id = b1 at c1 hr
  generalize nmOk ix = b2 at c2 hr hn2
  generalize nmOk pl = b3 at c3 hr
  have HB := Lib.hid (below_new w (.cells #[.int .u8 k, .int .i64 id, .int .i64 ix, .int .i64 pl, .bool hl] 42))
  have h5 := new5 w (.int .u8 k) (.int .i64 id) (.int .i64 ix) (.int .i64 pl) (.bool hl) 42
  have hD1 := hD.below HB.out
  by_cases q1 : 4 ≤ k
  · have d2 : decide (4 ≤ k) = true := decide_eq_true q1
    have d3 : decide (k < 4) = false := decide_eq_false (by omega)
    obtain rfl : r = false := by rw [hr, d3, Bool.and_false]; rfl
    clear d3 q1
    clear hr
    go_enter Tryz.func32, Tryz.ntmps32
    go_upto_region 1 with fail
    generalize w.alloc (.cells #[.int .u8 k, .int .i64 id, .int .i64 ix, .int .i64 pl, .bool hl] 42) = w1 at h5 HB hD1 ⊢
    obtain ⟨y0, y1, y2, y3, y4⟩ := h5
    have z0 := hD1.w0
    have z1 := hD1.w1
    have z2 := hD1.w2
    have z3 := hD1.w3
    clear hD1 hD
    go_wp2_with (first
        | (go_at_call 54; (with_reducible refine (c1 _).mono ?_); rintro e w2 ⟨rfl, rfl⟩)
        | (go_at_call 54; (with_reducible refine (c2 _).mono ?_); rintro e w2 ⟨rfl, rfl⟩)
        | (go_at_call 54; (with_reducible refine (c3 _).mono ?_); rintro e w2 ⟨rfl, rfl⟩))
    go_ret
    exact ⟨rfl, HB.out⟩
  obtain rfl | rfl | rfl | rfl : k = 0 ∨ k = 1 ∨ k = 2 ∨ k = 3 := by omega
  · obtain rfl : r = false := by rw [hr]; rfl
    clear q1 h0
    clear hr
    go_enter Tryz.func32, Tryz.ntmps32
    go_upto_region 1 with fail
    generalize w.alloc (.cells #[.int .u8 0, .int .i64 id, .int .i64 ix, .int .i64 pl, .bool hl] 42) = w1 at h5 HB hD1 ⊢
    obtain ⟨y0, y1, y2, y3, y4⟩ := h5
    have z0 := hD1.w0
    have z1 := hD1.w1
    have z2 := hD1.w2
    have z3 := hD1.w3
    clear hD1 hD
    go_wp2_with (first
        | (go_at_call 54; (with_reducible refine (c1 _).mono ?_); rintro e w2 ⟨rfl, rfl⟩)
        | (go_at_call 54; (with_reducible refine (c2 _).mono ?_); rintro e w2 ⟨rfl, rfl⟩)
        | (go_at_call 54; (with_reducible refine (c3 _).mono ?_); rintro e w2 ⟨rfl, rfl⟩))
    go_ret
    exact ⟨rfl, HB.out⟩
  · clear q1 h0
    cases b1
    · obtain rfl : r = false := by rw [hr]; simp
      clear hr
      go_enter Tryz.func32, Tryz.ntmps32
      go_upto_region 1 with fail
      generalize w.alloc (.cells #[.int .u8 1, .int .i64 id, .int .i64 ix, .int .i64 pl, .bool hl] 42) = w1 at h5 HB hD1 ⊢
      obtain ⟨y0, y1, y2, y3, y4⟩ := h5
      have z0 := hD1.w0
      have z1 := hD1.w1
      have z2 := hD1.w2
      have z3 := hD1.w3
      clear hD1 hD
      go_wp2_with (first
          | (go_at_call 54; (with_reducible refine (c1 _).mono ?_); rintro e w2 ⟨rfl, rfl⟩)
          | (go_at_call 54; (with_reducible refine (c2 _).mono ?_); rintro e w2 ⟨rfl, rfl⟩)
          | (go_at_call 54; (with_reducible refine (c3 _).mono ?_); rintro e w2 ⟨rfl, rfl⟩))
      go_ret
      exact ⟨rfl, HB.out⟩
    cases b2
    · obtain rfl : r = false := by rw [hr]; simp
      clear hr
      go_enter Tryz.func32, Tryz.ntmps32
      go_upto_region 1 with fail
      generalize w.alloc (.cells #[.int .u8 1, .int .i64 id, .int .i64 ix, .int .i64 pl, .bool hl] 42) = w1 at h5 HB hD1 ⊢
      obtain ⟨y0, y1, y2, y3, y4⟩ := h5
      have z0 := hD1.w0
      have z1 := hD1.w1
      have z2 := hD1.w2
      have z3 := hD1.w3
      clear hD1 hD
      go_wp2_with (first
          | (go_at_call 54; (with_reducible refine (c1 _).mono ?_); rintro e w2 ⟨rfl, rfl⟩)
          | (go_at_call 54; (with_reducible refine (c2 _).mono ?_); rintro e w2 ⟨rfl, rfl⟩)
          | (go_at_call 54; (with_reducible refine (c3 _).mono ?_); rintro e w2 ⟨rfl, rfl⟩))
      go_ret
      exact ⟨rfl, HB.out⟩
    cases b3
    · obtain rfl : r = false := by rw [hr]; simp
      clear hr
      go_enter Tryz.func32, Tryz.ntmps32
      go_upto_region 1 with fail
      generalize w.alloc (.cells #[.int .u8 1, .int .i64 id, .int .i64 ix, .int .i64 pl, .bool hl] 42) = w1 at h5 HB hD1 ⊢
      obtain ⟨y0, y1, y2, y3, y4⟩ := h5
      have z0 := hD1.w0
      have z1 := hD1.w1
      have z2 := hD1.w2
      have z3 := hD1.w3
      clear hD1 hD
      go_wp2_with (first
          | (go_at_call 54; (with_reducible refine (c1 _).mono ?_); rintro e w2 ⟨rfl, rfl⟩)
          | (go_at_call 54; (with_reducible refine (c2 _).mono ?_); rintro e w2 ⟨rfl, rfl⟩)
          | (go_at_call 54; (with_reducible refine (c3 _).mono ?_); rintro e w2 ⟨rfl, rfl⟩))
      go_ret
      exact ⟨rfl, HB.out⟩
    by_cases e1 : ix = 0
    · subst e1
      obtain rfl : r = true := by rw [hr]; rfl
      clear hr
      go_enter Tryz.func32, Tryz.ntmps32
      go_upto_region 1 with fail
      generalize w.alloc (.cells #[.int .u8 1, .int .i64 id, .int .i64 0, .int .i64 pl, .bool hl] 42) = w1 at h5 HB hD1 ⊢
      obtain ⟨y0, y1, y2, y3, y4⟩ := h5
      have z0 := hD1.w0
      have z1 := hD1.w1
      have z2 := hD1.w2
      have z3 := hD1.w3
      clear hD1 hD
      go_wp2_with (first
          | (go_at_call 54; (with_reducible refine (c1 _).mono ?_); rintro e w2 ⟨rfl, rfl⟩)
          | (go_at_call 54; (with_reducible refine (c2 _).mono ?_); rintro e w2 ⟨rfl, rfl⟩)
          | (go_at_call 54; (with_reducible refine (c3 _).mono ?_); rintro e w2 ⟨rfl, rfl⟩))
      go_ret
      exact ⟨rfl, HB.out⟩
    have f1 : (ix == 0) = false := by rw [beq_eq_false_iff_ne]; exact e1
    obtain rfl : r = false := by rw [hr]; simp [e1]
    clear hr
    go_enter Tryz.func32, Tryz.ntmps32
    go_upto_region 1 with fail
    generalize w.alloc (.cells #[.int .u8 1, .int .i64 id, .int .i64 ix, .int .i64 pl, .bool hl] 42) = w1 at h5 HB hD1 ⊢
    obtain ⟨y0, y1, y2, y3, y4⟩ := h5
    have z0 := hD1.w0
    have z1 := hD1.w1
    have z2 := hD1.w2
    have z3 := hD1.w3
    clear hD1 hD
    go_wp2_with (first
        | (go_at_call 54; (with_reducible refine (c1 _).mono ?_); rintro e w2 ⟨rfl, rfl⟩)
        | (go_at_call 54; (with_reducible refine (c2 _).mono ?_); rintro e w2 ⟨rfl, rfl⟩)
        | (go_at_call 54; (with_reducible refine (c3 _).mono ?_); rintro e w2 ⟨rfl, rfl⟩))
    go_ret
    exact ⟨rfl, HB.out⟩
  · clear q1 h0
    cases b1
    · obtain rfl : r = false := by rw [hr]; simp
      clear hr
      go_enter Tryz.func32, Tryz.ntmps32
      go_upto_region 1 with fail
      generalize w.alloc (.cells #[.int .u8 2, .int .i64 id, .int .i64 ix, .int .i64 pl, .bool hl] 42) = w1 at h5 HB hD1 ⊢
      obtain ⟨y0, y1, y2, y3, y4⟩ := h5
      have z0 := hD1.w0
      have z1 := hD1.w1
      have z2 := hD1.w2
      have z3 := hD1.w3
      clear hD1 hD
      go_wp2_with (first
          | (go_at_call 54; (with_reducible refine (c1 _).mono ?_); rintro e w2 ⟨rfl, rfl⟩)
          | (go_at_call 54; (with_reducible refine (c2 _).mono ?_); rintro e w2 ⟨rfl, rfl⟩)
          | (go_at_call 54; (with_reducible refine (c3 _).mono ?_); rintro e w2 ⟨rfl, rfl⟩))
      go_ret
      exact ⟨rfl, HB.out⟩
    cases b2
    · obtain rfl : r = false := by rw [hr]; simp
      clear hr
      go_enter Tryz.func32, Tryz.ntmps32
      go_upto_region 1 with fail
      generalize w.alloc (.cells #[.int .u8 2, .int .i64 id, .int .i64 ix, .int .i64 pl, .bool hl] 42) = w1 at h5 HB hD1 ⊢
      obtain ⟨y0, y1, y2, y3, y4⟩ := h5
      have z0 := hD1.w0
      have z1 := hD1.w1
      have z2 := hD1.w2
      have z3 := hD1.w3
      clear hD1 hD
      go_wp2_with (first
          | (go_at_call 54; (with_reducible refine (c1 _).mono ?_); rintro e w2 ⟨rfl, rfl⟩)
          | (go_at_call 54; (with_reducible refine (c2 _).mono ?_); rintro e w2 ⟨rfl, rfl⟩)
          | (go_at_call 54; (with_reducible refine (c3 _).mono ?_); rintro e w2 ⟨rfl, rfl⟩))
      go_ret
      exact ⟨rfl, HB.out⟩
    cases b3
    · obtain rfl : r = false := by rw [hr]; simp
      clear hr
      go_enter Tryz.func32, Tryz.ntmps32
      go_upto_region 1 with fail
      generalize w.alloc (.cells #[.int .u8 2, .int .i64 id, .int .i64 ix, .int .i64 pl, .bool hl] 42) = w1 at h5 HB hD1 ⊢
      obtain ⟨y0, y1, y2, y3, y4⟩ := h5
      have z0 := hD1.w0
      have z1 := hD1.w1
      have z2 := hD1.w2
      have z3 := hD1.w3
      clear hD1 hD
      go_wp2_with (first
          | (go_at_call 54; (with_reducible refine (c1 _).mono ?_); rintro e w2 ⟨rfl, rfl⟩)
          | (go_at_call 54; (with_reducible refine (c2 _).mono ?_); rintro e w2 ⟨rfl, rfl⟩)
          | (go_at_call 54; (with_reducible refine (c3 _).mono ?_); rintro e w2 ⟨rfl, rfl⟩))
      go_ret
      exact ⟨rfl, HB.out⟩
    by_cases e1 : ix = 0
    · subst e1
      obtain rfl : r = true := by rw [hr]; rfl
      clear hr
      go_enter Tryz.func32, Tryz.ntmps32
      go_upto_region 1 with fail
      generalize w.alloc (.cells #[.int .u8 2, .int .i64 id, .int .i64 0, .int .i64 pl, .bool hl] 42) = w1 at h5 HB hD1 ⊢
      obtain ⟨y0, y1, y2, y3, y4⟩ := h5
      have z0 := hD1.w0
      have z1 := hD1.w1
      have z2 := hD1.w2
      have z3 := hD1.w3
      clear hD1 hD
      go_wp2_with (first
          | (go_at_call 54; (with_reducible refine (c1 _).mono ?_); rintro e w2 ⟨rfl, rfl⟩)
          | (go_at_call 54; (with_reducible refine (c2 _).mono ?_); rintro e w2 ⟨rfl, rfl⟩)
          | (go_at_call 54; (with_reducible refine (c3 _).mono ?_); rintro e w2 ⟨rfl, rfl⟩))
      go_ret
      exact ⟨rfl, HB.out⟩
    by_cases e2 : ix = 1
    · subst e2
      obtain rfl : r = true := by rw [hr]; rfl
      clear hr
      go_enter Tryz.func32, Tryz.ntmps32
      go_upto_region 1 with fail
      generalize w.alloc (.cells #[.int .u8 2, .int .i64 id, .int .i64 1, .int .i64 pl, .bool hl] 42) = w1 at h5 HB hD1 ⊢
      obtain ⟨y0, y1, y2, y3, y4⟩ := h5
      have z0 := hD1.w0
      have z1 := hD1.w1
      have z2 := hD1.w2
      have z3 := hD1.w3
      clear hD1 hD
      go_wp2_with (first
          | (go_at_call 54; (with_reducible refine (c1 _).mono ?_); rintro e w2 ⟨rfl, rfl⟩)
          | (go_at_call 54; (with_reducible refine (c2 _).mono ?_); rintro e w2 ⟨rfl, rfl⟩)
          | (go_at_call 54; (with_reducible refine (c3 _).mono ?_); rintro e w2 ⟨rfl, rfl⟩))
      go_ret
      exact ⟨rfl, HB.out⟩
    have f1 : (ix == 0) = false := by rw [beq_eq_false_iff_ne]; exact e1
    have f2 : (ix == 1) = false := by rw [beq_eq_false_iff_ne]; exact e2
    have f3 : decide (ix ≤ 1) = false := decide_eq_false (by have := hn2 rfl; omega)
    obtain rfl : r = false := by rw [hr]; simp [e1, e2]
    clear hr
    go_enter Tryz.func32, Tryz.ntmps32
    go_upto_region 1 with fail
    generalize w.alloc (.cells #[.int .u8 2, .int .i64 id, .int .i64 ix, .int .i64 pl, .bool hl] 42) = w1 at h5 HB hD1 ⊢
    obtain ⟨y0, y1, y2, y3, y4⟩ := h5
    have z0 := hD1.w0
    have z1 := hD1.w1
    have z2 := hD1.w2
    have z3 := hD1.w3
    clear hD1 hD
    go_wp2_with (first
        | (go_at_call 54; (with_reducible refine (c1 _).mono ?_); rintro e w2 ⟨rfl, rfl⟩)
        | (go_at_call 54; (with_reducible refine (c2 _).mono ?_); rintro e w2 ⟨rfl, rfl⟩)
        | (go_at_call 54; (with_reducible refine (c3 _).mono ?_); rintro e w2 ⟨rfl, rfl⟩))
    go_ret
    exact ⟨rfl, HB.out⟩
  · clear q1 h0
    cases b1
    · obtain rfl : r = false := by rw [hr]; simp
      clear hr
      go_enter Tryz.func32, Tryz.ntmps32
      go_upto_region 1 with fail
      generalize w.alloc (.cells #[.int .u8 3, .int .i64 id, .int .i64 ix, .int .i64 pl, .bool hl] 42) = w1 at h5 HB hD1 ⊢
      obtain ⟨y0, y1, y2, y3, y4⟩ := h5
      have z0 := hD1.w0
      have z1 := hD1.w1
      have z2 := hD1.w2
      have z3 := hD1.w3
      clear hD1 hD
      go_wp2_with (first
          | (go_at_call 54; (with_reducible refine (c1 _).mono ?_); rintro e w2 ⟨rfl, rfl⟩)
          | (go_at_call 54; (with_reducible refine (c2 _).mono ?_); rintro e w2 ⟨rfl, rfl⟩)
          | (go_at_call 54; (with_reducible refine (c3 _).mono ?_); rintro e w2 ⟨rfl, rfl⟩))
      go_ret
      exact ⟨rfl, HB.out⟩
    cases b2
    · obtain rfl : r = false := by rw [hr]; simp
      clear hr
      go_enter Tryz.func32, Tryz.ntmps32
      go_upto_region 1 with fail
      generalize w.alloc (.cells #[.int .u8 3, .int .i64 id, .int .i64 ix, .int .i64 pl, .bool hl] 42) = w1 at h5 HB hD1 ⊢
      obtain ⟨y0, y1, y2, y3, y4⟩ := h5
      have z0 := hD1.w0
      have z1 := hD1.w1
      have z2 := hD1.w2
      have z3 := hD1.w3
      clear hD1 hD
      go_wp2_with (first
          | (go_at_call 54; (with_reducible refine (c1 _).mono ?_); rintro e w2 ⟨rfl, rfl⟩)
          | (go_at_call 54; (with_reducible refine (c2 _).mono ?_); rintro e w2 ⟨rfl, rfl⟩)
          | (go_at_call 54; (with_reducible refine (c3 _).mono ?_); rintro e w2 ⟨rfl, rfl⟩))
      go_ret
      exact ⟨rfl, HB.out⟩
    cases b3
    · obtain rfl : r = false := by rw [hr]; simp
      clear hr
      go_enter Tryz.func32, Tryz.ntmps32
      go_upto_region 1 with fail
      generalize w.alloc (.cells #[.int .u8 3, .int .i64 id, .int .i64 ix, .int .i64 pl, .bool hl] 42) = w1 at h5 HB hD1 ⊢
      obtain ⟨y0, y1, y2, y3, y4⟩ := h5
      have z0 := hD1.w0
      have z1 := hD1.w1
      have z2 := hD1.w2
      have z3 := hD1.w3
      clear hD1 hD
      go_wp2_with (first
          | (go_at_call 54; (with_reducible refine (c1 _).mono ?_); rintro e w2 ⟨rfl, rfl⟩)
          | (go_at_call 54; (with_reducible refine (c2 _).mono ?_); rintro e w2 ⟨rfl, rfl⟩)
          | (go_at_call 54; (with_reducible refine (c3 _).mono ?_); rintro e w2 ⟨rfl, rfl⟩))
      go_ret
      exact ⟨rfl, HB.out⟩
    obtain rfl : r = true := by rw [hr]; rfl
    clear hr
    go_enter Tryz.func32, Tryz.ntmps32
    go_upto_region 1 with fail
    generalize w.alloc (.cells #[.int .u8 3, .int .i64 id, .int .i64 ix, .int .i64 pl, .bool hl] 42) = w1 at h5 HB hD1 ⊢
    obtain ⟨y0, y1, y2, y3, y4⟩ := h5
    have z0 := hD1.w0
    have z1 := hD1.w1
    have z2 := hD1.w2
    have z3 := hD1.w3
    clear hD1 hD
    go_wp2_with (first
        | (go_at_call 54; (with_reducible refine (c1 _).mono ?_); rintro e w2 ⟨rfl, rfl⟩)
        | (go_at_call 54; (with_reducible refine (c2 _).mono ?_); rintro e w2 ⟨rfl, rfl⟩)
        | (go_at_call 54; (with_reducible refine (c3 _).mono ?_); rintro e w2 ⟨rfl, rfl⟩))
    go_ret
    exact ⟨rfl, HB.out⟩
set_option maxHeartbeats 4000000 in
set_option maxRecDepth 100000 in
theorem refLost_any (x : LO) (w : World) : Calls Tryz.prog 38 #[.agg x.enc.toArray] w fun e w' => e = .returned (.bool (loOk x)) ∧ Below w.heap.size w w' := by
  obtain ⟨c, f, t⟩ := x
  obtain ⟨r, hr⟩ : ∃ r, r = loOk ⟨c, f, t⟩ := ⟨_, rfl⟩
  rw [← hr]
  unfold LO.enc
  unfold loOk at hr
  dsimp only at hr ⊢
  have HB := Lib.hid (below_new w (.cells #[.int .i64 c, .int .i64 f, .int .i64 t] 46))
  have h5 := new3 w (.int .i64 c) (.int .i64 f) (.int .i64 t) 46
  by_cases q1 : -1 ≤ c
  case neg =>
    have d1 : decide (-1 ≤ c) = false := decide_eq_false q1
    obtain rfl : r = false := by rw [hr, d1]; simp
    clear hr
    go_enter Tryz.func38, Tryz.ntmps38
    go_upto_region 1 with fail
    generalize w.alloc (.cells #[.int .i64 c, .int .i64 f, .int .i64 t] 46) = w1 at h5 HB ⊢
    obtain ⟨y0, y1, y2⟩ := h5
    go_wp2
    go_ret
    exact ⟨rfl, HB.out⟩
  have d1 : decide (-1 ≤ c) = true := decide_eq_true q1
  by_cases q2 : c ≤ 2147483648
  case neg =>
    have d2 : decide (c ≤ 2147483648) = false := decide_eq_false q2
    obtain rfl : r = false := by rw [hr, d2]; simp
    clear hr
    go_enter Tryz.func38, Tryz.ntmps38
    go_upto_region 1 with fail
    generalize w.alloc (.cells #[.int .i64 c, .int .i64 f, .int .i64 t] 46) = w1 at h5 HB ⊢
    obtain ⟨y0, y1, y2⟩ := h5
    go_wp2
    go_ret
    exact ⟨rfl, HB.out⟩
  have d2 : decide (c ≤ 2147483648) = true := decide_eq_true q2
  by_cases q3 : 0 ≤ f
  case neg =>
    have d3 : decide (0 ≤ f) = false := decide_eq_false q3
    obtain rfl : r = false := by rw [hr, d3]; simp
    clear hr
    go_enter Tryz.func38, Tryz.ntmps38
    go_upto_region 1 with fail
    generalize w.alloc (.cells #[.int .i64 c, .int .i64 f, .int .i64 t] 46) = w1 at h5 HB ⊢
    obtain ⟨y0, y1, y2⟩ := h5
    go_wp2
    go_ret
    exact ⟨rfl, HB.out⟩
  have d3 : decide (0 ≤ f) = true := decide_eq_true q3
  by_cases q4 : f < t
  case neg =>
    have d4 : decide (f < t) = false := decide_eq_false q4
    obtain rfl : r = false := by rw [hr, d4]; simp
    clear hr
    go_enter Tryz.func38, Tryz.ntmps38
    go_upto_region 1 with fail
    generalize w.alloc (.cells #[.int .i64 c, .int .i64 f, .int .i64 t] 46) = w1 at h5 HB ⊢
    obtain ⟨y0, y1, y2⟩ := h5
    go_wp2
    go_ret
    exact ⟨rfl, HB.out⟩
  have d4 : decide (f < t) = true := decide_eq_true q4
  by_cases q5 : t ≤ 65536
  case neg =>
    have d5 : decide (t ≤ 65536) = false := decide_eq_false q5
    obtain rfl : r = false := by rw [hr, d5]; simp
    clear hr
    go_enter Tryz.func38, Tryz.ntmps38
    go_upto_region 1 with fail
    generalize w.alloc (.cells #[.int .i64 c, .int .i64 f, .int .i64 t] 46) = w1 at h5 HB ⊢
    obtain ⟨y0, y1, y2⟩ := h5
    go_wp2
    go_ret
    exact ⟨rfl, HB.out⟩
  have d5 : decide (t ≤ 65536) = true := decide_eq_true q5
  obtain rfl : r = true := by rw [hr, d1, d2, d3, d4, d5]; rfl
  clear hr
  go_enter Tryz.func38, Tryz.ntmps38
  go_upto_region 1 with fail
  generalize w.alloc (.cells #[.int .i64 c, .int .i64 f, .int .i64 t] 46) = w1 at h5 HB ⊢
  obtain ⟨y0, y1, y2⟩ := h5
  go_wp2
  go_ret
  exact ⟨rfl, HB.out⟩
set_option maxHeartbeats 4000000 in
set_option maxRecDepth 100000 in
theorem isLost_any (x : LO) (w : World) : Calls Tryz.prog 34 #[.agg x.enc.toArray] w fun e w' => e = .returned (.bool (loOk x)) ∧ Below w.heap.size w w' := by
  obtain ⟨c, f, t⟩ := x
  obtain ⟨r, hr⟩ : ∃ r, r = loOk ⟨c, f, t⟩ := ⟨_, rfl⟩
  rw [← hr]
  unfold LO.enc
  unfold loOk at hr
  dsimp only at hr ⊢
  have HB := Lib.hid (below_new w (.cells #[.int .i64 c, .int .i64 f, .int .i64 t] 46))
  have h5 := new3 w (.int .i64 c) (.int .i64 f) (.int .i64 t) 46
  have c1 := isId_any c
  have HN : Hid (nmOk c = (decide (0 ≤ c) && decide (c ≤ 2147483648))) := Lib.hid rfl
  generalize nmOk c = b1 at c1 HN
  by_cases e0 : c = -1
  · subst e0
    by_cases q3 : 0 ≤ f
    case neg =>
      have d3 : decide (0 ≤ f) = false := decide_eq_false q3
      obtain rfl : r = false := by rw [hr, d3]; simp
      clear hr
      go_enter Tryz.func34, Tryz.ntmps34
      go_upto_region 1 with fail
      generalize w.alloc (.cells #[.int .i64 (-1), .int .i64 f, .int .i64 t] 46) = w1 at h5 HB ⊢
      obtain ⟨y0, y1, y2⟩ := h5
      go_wp2_with (go_at_call 54; (with_reducible refine (c1 _).mono ?_); rintro e w2 ⟨rfl, rfl⟩)
      go_ret
      exact ⟨rfl, HB.out⟩
    have d3 : decide (0 ≤ f) = true := decide_eq_true q3
    by_cases q4 : f < t
    case neg =>
      have d4 : decide (f < t) = false := decide_eq_false q4
      obtain rfl : r = false := by rw [hr, d4]; simp
      clear hr
      go_enter Tryz.func34, Tryz.ntmps34
      go_upto_region 1 with fail
      generalize w.alloc (.cells #[.int .i64 (-1), .int .i64 f, .int .i64 t] 46) = w1 at h5 HB ⊢
      obtain ⟨y0, y1, y2⟩ := h5
      go_wp2_with (go_at_call 54; (with_reducible refine (c1 _).mono ?_); rintro e w2 ⟨rfl, rfl⟩)
      go_ret
      exact ⟨rfl, HB.out⟩
    have d4 : decide (f < t) = true := decide_eq_true q4
    by_cases q5 : t ≤ 65536
    case neg =>
      have d5 : decide (t ≤ 65536) = false := decide_eq_false q5
      obtain rfl : r = false := by rw [hr, d5]; simp
      clear hr
      go_enter Tryz.func34, Tryz.ntmps34
      go_upto_region 1 with fail
      generalize w.alloc (.cells #[.int .i64 (-1), .int .i64 f, .int .i64 t] 46) = w1 at h5 HB ⊢
      obtain ⟨y0, y1, y2⟩ := h5
      go_wp2_with (go_at_call 54; (with_reducible refine (c1 _).mono ?_); rintro e w2 ⟨rfl, rfl⟩)
      go_ret
      exact ⟨rfl, HB.out⟩
    have d5 : decide (t ≤ 65536) = true := decide_eq_true q5
    obtain rfl : r = true := by rw [hr, d3, d4, d5]; rfl
    clear hr
    go_enter Tryz.func34, Tryz.ntmps34
    go_upto_region 1 with fail
    generalize w.alloc (.cells #[.int .i64 (-1), .int .i64 f, .int .i64 t] 46) = w1 at h5 HB ⊢
    obtain ⟨y0, y1, y2⟩ := h5
    go_wp2_with (go_at_call 54; (with_reducible refine (c1 _).mono ?_); rintro e w2 ⟨rfl, rfl⟩)
    go_ret
    exact ⟨rfl, HB.out⟩
  have n0 : (c != -1) = true := by rw [bne_iff_ne]; exact e0
  have n1 : (c == -1) = false := by rw [beq_eq_false_iff_ne]; exact e0
  cases b1
  · have hb := HN.out
    have hx : ¬ (-1 ≤ c ∧ c ≤ 2147483648) := by
      intro hc
      have h1 : decide (0 ≤ c) = true := decide_eq_true (by omega)
      have h2 : decide (c ≤ 2147483648) = true := decide_eq_true hc.2
      rw [h1, h2] at hb; cases hb
    obtain rfl : r = false := by
      rw [hr]
      by_cases hc : -1 ≤ c
      · have : decide (c ≤ 2147483648) = false := decide_eq_false (fun h => hx ⟨hc, h⟩)
        rw [this]; simp
      · rw [decide_eq_false hc]; simp
    clear hb hx
    clear hr
    go_enter Tryz.func34, Tryz.ntmps34
    go_upto_region 1 with fail
    generalize w.alloc (.cells #[.int .i64 c, .int .i64 f, .int .i64 t] 46) = w1 at h5 HB ⊢
    obtain ⟨y0, y1, y2⟩ := h5
    go_wp2_with (go_at_call 54; (with_reducible refine (c1 _).mono ?_); rintro e w2 ⟨rfl, rfl⟩)
    go_ret
    exact ⟨rfl, HB.out⟩
  have hb := HN.out
  have hc : 0 ≤ c ∧ c ≤ 2147483648 := by
    have := hb.symm
    rw [Bool.and_eq_true, decide_eq_true_eq, decide_eq_true_eq] at this; exact this
  have d1 : decide (-1 ≤ c) = true := decide_eq_true (by omega)
  have d2 : decide (c ≤ 2147483648) = true := decide_eq_true hc.2
  clear hb hc
  by_cases q3 : 0 ≤ f
  case neg =>
    have d3 : decide (0 ≤ f) = false := decide_eq_false q3
    obtain rfl : r = false := by rw [hr, d3]; simp
    clear hr
    go_enter Tryz.func34, Tryz.ntmps34
    go_upto_region 1 with fail
    generalize w.alloc (.cells #[.int .i64 c, .int .i64 f, .int .i64 t] 46) = w1 at h5 HB ⊢
    obtain ⟨y0, y1, y2⟩ := h5
    go_wp2_with (go_at_call 54; (with_reducible refine (c1 _).mono ?_); rintro e w2 ⟨rfl, rfl⟩)
    go_ret
    exact ⟨rfl, HB.out⟩
  have d3 : decide (0 ≤ f) = true := decide_eq_true q3
  by_cases q4 : f < t
  case neg =>
    have d4 : decide (f < t) = false := decide_eq_false q4
    obtain rfl : r = false := by rw [hr, d4]; simp
    clear hr
    go_enter Tryz.func34, Tryz.ntmps34
    go_upto_region 1 with fail
    generalize w.alloc (.cells #[.int .i64 c, .int .i64 f, .int .i64 t] 46) = w1 at h5 HB ⊢
    obtain ⟨y0, y1, y2⟩ := h5
    go_wp2_with (go_at_call 54; (with_reducible refine (c1 _).mono ?_); rintro e w2 ⟨rfl, rfl⟩)
    go_ret
    exact ⟨rfl, HB.out⟩
  have d4 : decide (f < t) = true := decide_eq_true q4
  by_cases q5 : t ≤ 65536
  case neg =>
    have d5 : decide (t ≤ 65536) = false := decide_eq_false q5
    obtain rfl : r = false := by rw [hr, d5]; simp
    clear hr
    go_enter Tryz.func34, Tryz.ntmps34
    go_upto_region 1 with fail
    generalize w.alloc (.cells #[.int .i64 c, .int .i64 f, .int .i64 t] 46) = w1 at h5 HB ⊢
    obtain ⟨y0, y1, y2⟩ := h5
    go_wp2_with (go_at_call 54; (with_reducible refine (c1 _).mono ?_); rintro e w2 ⟨rfl, rfl⟩)
    go_ret
    exact ⟨rfl, HB.out⟩
  have d5 : decide (t ≤ 65536) = true := decide_eq_true q5
  obtain rfl : r = true := by rw [hr, d1, d2, d3, d4, d5]; rfl
  clear hr
  go_enter Tryz.func34, Tryz.ntmps34
  go_upto_region 1 with fail
  generalize w.alloc (.cells #[.int .i64 c, .int .i64 f, .int .i64 t] 46) = w1 at h5 HB ⊢
  obtain ⟨y0, y1, y2⟩ := h5
  go_wp2_with (go_at_call 54; (with_reducible refine (c1 _).mono ?_); rintro e w2 ⟨rfl, rfl⟩)
  go_ret
  exact ⟨rfl, HB.out⟩
end Go.Proofs.YtfmpbohiahjafaaGreatDoor
