/- Scripts: the program's Get. -/
import Derived.Test.YtfmpbohiahjafaaDoorScrS
import Derived.Maps.OwnIn
namespace Go.Proofs.YtfmpbohiahjafaaDoor
open Go.RowKit Go.Lib Go.Shelf Go.Sort
attribute [local go_sem] Oper.semAt_some

theorem four_boxes (w : World) : ∃ W, W = (((w.alloc (.cells #[.int .i64 0, .int .i64 0, .int .i64 0, .int .i64 0, .int .i64 0] 35)).alloc (.cells #[.slice none 0 0] 36)).alloc (.cells #[.int .i64 0] 3)).alloc (.cells #[.int .i64 0] 26) ∧ GDone W w.heap.size (w.heap.size + 1) (w.heap.size + 1 + 1) (w.heap.size + 1 + 1 + 1) SU.zero (.slice none 0 0) 0 0 ∧ Below w.heap.size w W ∧ W.heap.size = w.heap.size + 1 + 1 + 1 + 1 := by
  refine ⟨_, rfl, ⟨?_, ?_, ?_, ?_⟩, ?_, by simp⟩
  · refine (Below.heap_alloc _ _ _ (by simp; omega)).trans ((Below.heap_alloc _ _ _ (by simp; omega)).trans ((Below.heap_alloc _ _ _ (by simp)).trans ?_))
    exact heap_alloc_new w _
  · have h := ((Boxed.new (w.alloc (.cells #[.int .i64 0, .int .i64 0, .int .i64 0, .int .i64 0, .int .i64 0] 35)) 36 (.slice none 0 0)).alloc (.cells #[.int .i64 0] 3)).alloc (.cells #[.int .i64 0] 26)
    rw [World.size_alloc] at h
    exact h
  · have h := (Boxed.new ((w.alloc (.cells #[.int .i64 0, .int .i64 0, .int .i64 0, .int .i64 0, .int .i64 0] 35)).alloc (.cells #[.slice none 0 0] 36)) 3 (.int .i64 0)).alloc (.cells #[.int .i64 0] 26)
    rw [World.size_alloc, World.size_alloc] at h
    exact h
  · have h := Boxed.new (((w.alloc (.cells #[.int .i64 0, .int .i64 0, .int .i64 0, .int .i64 0, .int .i64 0] 35)).alloc (.cells #[.slice none 0 0] 36)).alloc (.cells #[.int .i64 0] 3)) 26 (.int .i64 0)
    rw [World.size_alloc, World.size_alloc, World.size_alloc] at h
    exact h
  · exact ((((Below.refl _ _).alloc (Nat.le_refl _) _).alloc (by simp) _).alloc (by simp; omega) _).alloc (by simp; omega) _
theorem setupC_tup {l : List UInt8} (hl : l.length ≤ 100000000) {w : World} (hD : ScW w) : Calls Tryd.prog 31 #[.string ⟨l.toArray⟩] w fun e w' => e = .returned (.tuple #[.agg ((psS l).getD SU.zero).enc.toArray, .bool (psS l).isSome]) ∧ Below w.heap.size w w' := by
  refine (toSetup_any hl hD).mono ?_
  rintro e w' ⟨⟨c, h, rfl⟩ | ⟨h, rfl⟩, hb⟩ <;> rw [h] <;> exact ⟨rfl, hb⟩
theorem parseD_tup {l : List UInt8} (hl : l.length ≤ 100000000) {w : World} (hD : ScW w) : Calls Tryd.prog 9 #[.string ⟨l.toArray⟩] w fun e w' => e = .returned (.tuple #[.agg ((psD l).getD DD.zero).enc.toArray, .int .i64 (if (psD l).isSome then 0 else 6)]) ∧ Below w.heap.size w w' := by
  refine (parse_any hl hD).mono ?_
  rintro e w' ⟨⟨c, h, rfl⟩ | ⟨h, rfl⟩, hb⟩ <;> rw [h] <;> exact ⟨rfl, hb⟩
theorem keeps_all (W : World) (b2 b3 b4 b5 : Nat) (c : SU) (v : Value) (a e : Int) : KeepsOthers W (putAll W b2 b3 b4 b5 c v a e) := by
  unfold putAll
  exact (((((((KeepsOthers.setCell _ _ _).trans (KeepsOthers.setCell _ _ _)).trans (KeepsOthers.setCell _ _ _)).trans (KeepsOthers.setCell _ _ _)).trans (KeepsOthers.setCell _ _ _)).trans (KeepsOthers.setCell _ _ _)).trans (KeepsOthers.setCell _ _ _)).trans (KeepsOthers.setCell _ _ _)
theorem keeps_below {A C : World} (h : Below A.heap.size A C) : KeepsOthers A C := KeepsOthers.of_grownBy (belowG h) (fun j o e _ => by cases e)
theorem keeps_row {A C : World} {B e s n : Nat} {v : Value} {xs : List Value} (h : A.ownsRow B e s v n xs) (hg : A.grownBy C v.ownBlock) : KeepsOthers A C := KeepsOthers.of_grownBy hg (fun j o e ho => by
  rcases h.2 with ⟨rfl, _⟩ | ⟨g, cap, cur, rfl, _, hh, _⟩
  · cases e
  · have : g = j := by injection e
    subst this
    rw [hh] at ho; injection ho with ho; rw [← ho]; rfl)
theorem own_all {A : World} {B e s n b2 b3 b4 b5 : Nat} {v u : Value} {xs : List Value} {c : SU} {a z : Int} (h : A.ownsRow B e s v n xs) (h2 : b2 < B) (h3 : b3 < B) (h4 : b4 < B) (h5 : b5 < B) : (putAll A b2 b3 b4 b5 c u a z).ownsRow B e s v n xs := by
  unfold putAll
  exact own_set (own_set (own_set (own_set (own_set (own_set (own_set (own_set h h2) h2) h2) h2) h2) h3) h4) h5
theorem GDone.drew {A : World} {b2 b3 b4 b5 : Nat} {c : SU} {v : Value} {a e : Int} (h : GDone A b2 b3 b4 b5 c v a e) : GDone A.drew b2 b3 b4 b5 c v a e := h
theorem row_drew {A : World} {B e s n : Nat} {v : Value} {xs : List Value} (h : A.ownsRow B e s v n xs) : A.drew.ownsRow B e s v n xs := h
theorem heap_drew {A : World} {D : Nat} {o : Obj} (h : A.heap[D]? = some o) : A.drew.heap[D]? = some o := h
theorem GW.fin {w A : World} {B b2 b3 b4 b5 b9 b11 bT D : Nat} {c : SU} {L : List DD} {v t : Value} (h : GW w A B b2 b3 b4 b5 b9 b11 bT c L v t) (hD : B ≤ D) (hK : A.heap[D]? = some (.deferred (some []))) :
    GDone (putAll A b2 b3 b4 b5 c v 0 0).drew b2 b3 b4 b5 c v 0 0 ∧ Below w.heap.size w (putAll A b2 b3 b4 b5 c v 0 0).drew ∧ (putAll A b2 b3 b4 b5 c v 0 0).drew.ownsRow B 24 5 v L.length (L.flatMap DD.enc) ∧ (putAll A b2 b3 b4 b5 c v 0 0).drew.heap[D]? = some (.deferred (some [])) ∧ w.heap.size ≤ D := by
  obtain ⟨o1, o2, o3, o4, o5, o6, o7, o8⟩ := h.ord
  have k5 : b5 < B := by omega
  have h1 := gdone_put (v := v) (at' := 0) (e := 0) h.gd ⟨o2, o3, o4⟩ c
  have h2 := (below_all (c := c) (v := v) (a := 0) (e := 0) h.bel ⟨o1, o2, o3, o4⟩).drew
  have h3 := own_all (u := v) (c := c) (a := 0) (z := 0) h.row (show b2 < B by omega) (show b3 < B by omega) (show b4 < B by omega) k5
  have h4 := (heap_all (c := c) (v := v) (a := 0) (e := 0) (show b5 < D by omega) ⟨o2, o3, o4⟩).trans hK
  exact ⟨h1.drew, h2, row_drew h3, heap_drew h4, by omega⟩
theorem GW.y11 {w A : World} {B b2 b3 b4 b5 b9 b11 bT : Nat} {c : SU} {L : List DD} {v t : Value} (h : GW w A B b2 b3 b4 b5 b9 b11 bT c L v t) (u0 u1 u2 u3 u4 : Value) : (((((A.setCell ⟨b2, 0, none⟩ u0).setCell ⟨b2, 1, none⟩ u1).setCell ⟨b2, 2, none⟩ u2).setCell ⟨b2, 3, none⟩ u3).setCell ⟨b2, 4, none⟩ u4).cell? ⟨b11, 0, none⟩ = some v := by
  have o := h.ord
  have hne : b11 ≠ b2 := by omega
  exact (boxed_set_other (boxed_set_other (boxed_set_other (boxed_set_other (boxed_set_other h.r11 hne) hne) hne) hne) hne).cell
theorem cell_kept' {A C : World} {B e s n b t : Nat} {v x : Value} {xs : List Value} (hb : Boxed A b t x) (hg : A.grownBy C v.ownBlock) (h : A.ownsRow B e s v n xs) (o : b < b + 1 ∧ b < B) : C.cell? ⟨b, 0, none⟩ = some x ∧ C.frozen? ⟨b, 0, none⟩ = false := by
  have hB : Boxed C b t x := (hg.block b hb.lt (fun e => by have := (World.ownsRow.lt h b e.symm).1; omega)).trans hb
  exact ⟨hB.cell, hB.frozen⟩
theorem deedInf : ∃ i, Tryd.prog.info? 24 = some i ∧ i.zero = some (.agg #[.int .u8 0, .int .i64 0, .int .i64 0, .int .i64 0, .string ⟨#[]⟩]) ∧ i.size = 5 ∧ i.bytes = 48 := by
  have e : (Tryd.prog.info? 24).map (fun i => (i.zero, i.size, i.bytes)) = some (some (.agg #[.int .u8 0, .int .i64 0, .int .i64 0, .int .i64 0, .string ⟨#[]⟩]), 5, 48) := by kernel_rfl
  obtain ⟨i, hi, hz⟩ := Option.map_eq_some_iff.1 e
  simp only [Prod.mk.injEq] at hz
  exact ⟨i, hi, hz.1, hz.2.1, hz.2.2⟩
/-- What Get answers. -/
def GAns (w' : World) (e : Ending) (R : SU × List DD × Int × Int) : Prop := ∃ v, e = .returned (.tuple #[.agg R.1.enc.toArray, v, .int .i64 R.2.2.1, .int .i64 R.2.2.2]) ∧ DdS w' v R.2.1
set_option maxHeartbeats 32000000 in
set_option maxRecDepth 100000 in
theorem get_any {T : List UInt8} (hT : T.length ≤ 100000000) {w : World} (hD : ScW w) :
    Calls Tryd.prog 13 #[.string ⟨T.toArray⟩] w fun e w' => GAns w' e (getS T) ∧ Below w.heap.size w w' := by
  obtain ⟨w4, hw4, hg4, hb4, hsz4⟩ := four_boxes w
  have HW4 := Lib.hid hw4
  have HG4 := Lib.hid hg4
  have HB4 := Lib.hid hb4
  have HS4 := Lib.hid hsz4
  have HD4 := Lib.hid (hD.below hb4)
  have HT := Lib.hid hT
  have hCut := cutS_any (s := T) (by omega) HD4.out
  have HORD : Hid (w.heap.size ≤ w.heap.size ∧ w.heap.size < w.heap.size + 1 ∧ w.heap.size + 1 < w.heap.size + 1 + 1 ∧ w.heap.size + 1 + 1 < w.heap.size + 1 + 1 + 1) := Lib.hid (by omega)
  by_cases hm : (10 : UInt8) ∈ T
  case neg =>
    rw [cut_miss hm] at hCut
    dsimp only at hCut
    have HR := Lib.hid (getS_none hm)
    have HSU : Hid (∀ V, Below w4.heap.size w4 V → _) := Lib.hid (fun V hb => setupC_tup (l := T) (by omega) (HD4.out.below hb))
    obtain ⟨X, hX⟩ : ∃ X, X = (psS T).getD SU.zero := ⟨_, rfl⟩
    obtain ⟨q, hq⟩ : ∃ q, q = (psS T).isSome := ⟨_, rfl⟩
    rw [← hX, ← hq] at HSU
    obtain ⟨s0, s1, s2, s3, s4⟩ := X
    unfold SU.enc at HSU
    (try dsimp only at HSU)
    clear hw4 hg4 hb4 hsz4 hD hT hm hX hq
    go_enter Tryd.func13, Tryd.ntmps13
    go_upto_region 1 with fail
    rw [← HW4.out]
    go_upto_region 3 with (first
      | (go_at_call 30; (with_reducible refine hCut.mono ?_); rintro e w5 ⟨rfl, hb5⟩; have hSu := HSU.out w5 hb5; have HB5 := Lib.hid hb5; clear hb5)
      | (go_at_call 31; (with_reducible refine hSu.mono ?_); rintro e w6 ⟨rfl, hb6⟩; have HB6 := Lib.hid hb6; clear hb6))
    have HB7 : Hid (Below w4.heap.size w4 (w6.alloc (.cells #[.int .i64 s0, .int .i64 s1, .int .i64 s2, .int .i64 s3, .int .i64 s4] 35))) := Lib.hid ((HB5.out.trans (HB6.out.mono HB5.out.size)).alloc (HB5.out.trans (HB6.out.mono HB5.out.size)).size _)
    generalize w6.alloc (.cells #[.int .i64 s0, .int .i64 s1, .int .i64 s2, .int .i64 s3, .int .i64 s4] 35) = w7 at HB7 ⊢
    have HG7 : Hid (GDone w7 w.heap.size (w.heap.size + 1) (w.heap.size + 1 + 1) (w.heap.size + 1 + 1 + 1) SU.zero (.slice none 0 0) 0 0) := Lib.hid ⟨(HB7.out.block _ (Array.getElem?_eq_some_iff.1 HG4.out.1).1).trans HG4.out.1, (HB7.out.block _ HG4.out.2.1.lt).trans HG4.out.2.1, (HB7.out.block _ HG4.out.2.2.1.lt).trans HG4.out.2.2.1, (HB7.out.block _ HG4.out.2.2.2.lt).trans HG4.out.2.2.2⟩
    obtain ⟨⟨x0, x1, x2, x3, x4⟩, xf⟩ := su_cells HG7.out.1
    have xf0 := xf 0; have xf1 := xf 1; have xf2 := xf 2; have xf3 := xf 3; have xf4 := xf 4
    have y3 := HG7.out.2.1.cell; have yf3 := HG7.out.2.1.frozen
    have y4 := HG7.out.2.2.1.cell; have yf4 := HG7.out.2.2.1.frozen
    have y5 := HG7.out.2.2.2.cell; have yf5 := HG7.out.2.2.2.frozen
    unfold SU.zero at x0 x1 x2 x3 x4
    dsimp only at x0 x1 x2 x3 x4
    clear xf HSU
    go_wp2
    have hp := gdone_put (v := .slice none 0 0) (at' := 1) (e := 6) HG7.out HORD.out.2 SU.zero
    have hbe := below_all (c := SU.zero) (v := .slice none 0 0) (a := 1) (e := 6) (HB4.out.trans (HB7.out.mono HB4.out.size)) HORD.out
    unfold putAll SU.zero at hp hbe
    dsimp only at hp hbe
    obtain ⟨⟨z0, z1, z2, z3, z4⟩, -⟩ := su_cells hp.1
    have z5 := hp.2.1.cell
    have z6 := hp.2.2.1.cell
    have z7 := hp.2.2.2.cell
    dsimp only at z0 z1 z2 z3 z4
    refine bodyPost_ret (v := .tuple #[.agg #[.int .i64 0, .int .i64 0, .int .i64 0, .int .i64 0, .int .i64 0], .slice none 0 0, .int .i64 1, .int .i64 6]) (by simp [results, Tryd.results13, go_sem, z0, z1, z2, z3, z4, z5, z6, z7]) rfl ?_
    refine ⟨?_, hbe⟩
    rw [HR.out]
    exact ⟨_, rfl, StS.nil _⟩
  obtain ⟨one, rest, hsp, hno⟩ := split_10 hm
  have hco := cut_hit (rest := rest) hno
  rw [← hsp] at hco
  rw [hco] at hCut
  dsimp only at hCut
  have HLN : Hid (one.length ≤ 100000000 ∧ rest.length ≤ 100000000) := Lib.hid (by have h := congrArg List.length hsp; simp at h; omega)
  have HSU : Hid (∀ V, Below w4.heap.size w4 V → _) := Lib.hid (fun V hb => setupC_tup (l := one) HLN.out.1 (HD4.out.below hb))
  cases hps : psS one with
  | none =>
    have HR := Lib.hid (hsp ▸ getS_bad (rest := rest) hno hps)
    rw [hps] at HSU
    change Hid (∀ V, Below w4.heap.size w4 V → Calls Tryd.prog 31 #[.string ⟨one.toArray⟩] V (fun e w' => e = .returned (.tuple #[.agg #[.int .i64 0, .int .i64 0, .int .i64 0, .int .i64 0, .int .i64 0], .bool false]) ∧ Below V.heap.size V w')) at HSU
    clear hw4 hg4 hb4 hsz4 hD hT hm hsp hno hco hps
    go_enter Tryd.func13, Tryd.ntmps13
    go_upto_region 1 with fail
    rw [← HW4.out]
    go_upto_region 3 with (first
      | (go_at_call 30; (with_reducible refine hCut.mono ?_); rintro e w5 ⟨rfl, hb5⟩; have hSu := HSU.out w5 hb5; have HB5 := Lib.hid hb5; clear hb5)
      | (go_at_call 31; (with_reducible refine hSu.mono ?_); rintro e w6 ⟨rfl, hb6⟩; have HB6 := Lib.hid hb6; clear hb6))
    have HB7 : Hid (Below w4.heap.size w4 (w6.alloc (.cells #[.int .i64 0, .int .i64 0, .int .i64 0, .int .i64 0, .int .i64 0] 35))) := Lib.hid ((HB5.out.trans (HB6.out.mono HB5.out.size)).alloc (HB5.out.trans (HB6.out.mono HB5.out.size)).size _)
    generalize w6.alloc (.cells #[.int .i64 0, .int .i64 0, .int .i64 0, .int .i64 0, .int .i64 0] 35) = w7 at HB7 ⊢
    have HG7 : Hid (GDone w7 w.heap.size (w.heap.size + 1) (w.heap.size + 1 + 1) (w.heap.size + 1 + 1 + 1) SU.zero (.slice none 0 0) 0 0) := Lib.hid ⟨(HB7.out.block _ (Array.getElem?_eq_some_iff.1 HG4.out.1).1).trans HG4.out.1, (HB7.out.block _ HG4.out.2.1.lt).trans HG4.out.2.1, (HB7.out.block _ HG4.out.2.2.1.lt).trans HG4.out.2.2.1, (HB7.out.block _ HG4.out.2.2.2.lt).trans HG4.out.2.2.2⟩
    obtain ⟨⟨x0, x1, x2, x3, x4⟩, xf⟩ := su_cells HG7.out.1
    have xf0 := xf 0; have xf1 := xf 1; have xf2 := xf 2; have xf3 := xf 3; have xf4 := xf 4
    have y3 := HG7.out.2.1.cell; have yf3 := HG7.out.2.1.frozen
    have y4 := HG7.out.2.2.1.cell; have yf4 := HG7.out.2.2.1.frozen
    have y5 := HG7.out.2.2.2.cell; have yf5 := HG7.out.2.2.2.frozen
    unfold SU.zero at x0 x1 x2 x3 x4
    dsimp only at x0 x1 x2 x3 x4
    clear xf HSU
    go_wp2
    have hp := gdone_put (v := .slice none 0 0) (at' := 1) (e := 6) HG7.out HORD.out.2 SU.zero
    have hbe := below_all (c := SU.zero) (v := .slice none 0 0) (a := 1) (e := 6) (HB4.out.trans (HB7.out.mono HB4.out.size)) HORD.out
    unfold putAll SU.zero at hp hbe
    dsimp only at hp hbe
    obtain ⟨⟨z0, z1, z2, z3, z4⟩, -⟩ := su_cells hp.1
    have z5 := hp.2.1.cell
    have z6 := hp.2.2.1.cell
    have z7 := hp.2.2.2.cell
    dsimp only at z0 z1 z2 z3 z4
    refine bodyPost_ret (v := .tuple #[.agg #[.int .i64 0, .int .i64 0, .int .i64 0, .int .i64 0, .int .i64 0], .slice none 0 0, .int .i64 1, .int .i64 6]) (by simp [results, Tryd.results13, go_sem, z0, z1, z2, z3, z4, z5, z6, z7]) rfl ?_
    refine ⟨?_, hbe⟩
    rw [HR.out]
    exact ⟨_, rfl, StS.nil _⟩
  | some c =>
    have HR := Lib.hid (hsp ▸ getS_in (rest := rest) hno hps)
    rw [hps] at HSU
    change Hid (∀ V, Below w4.heap.size w4 V → Calls Tryd.prog 31 #[.string ⟨one.toArray⟩] V (fun e w' => e = .returned (.tuple #[.agg #[.int .i64 c.s, .int .i64 c.k, .int .i64 c.m, .int .i64 c.c, .int .i64 c.l], .bool true]) ∧ Below V.heap.size V w')) at HSU
    have hLin := fun (W : World) j => (callsIn_wide (n := j)).2 (linesF_any rest W)
    have hCut2 := fun j => (callsIn_wide (n := j)).2 hCut
    have hSU2 := fun (V : World) hb j => (callsIn_wide (n := j)).2 (HSU.out V hb)
    have HSU2 := Lib.hid hSU2
    obtain ⟨P, hP⟩ : ∃ P, P = spl 10 rest := ⟨_, rfl⟩
    have hP0 : 0 < P.length := by
      rw [hP]
      cases h : spl 10 rest with
      | nil => exact absurd h (spl_ne _ _)
      | cons a r => simp
    have HPS : Hid (∀ k, k < P.length → (P.getD k []).length ≤ 100000000) := Lib.hid (fun k hk => by
      have h1 := spl_short (c := 10) (l := rest) (x := P.getD k []) (by rw [← hP, List.getD, List.getElem?_eq_getElem hk]; exact List.getElem_mem hk)
      have h2 := HLN.out.2
      omega)
    have htl := lines_tells (T := rest) (n := 8 - 1) (by omega) HLN.out.2
    rw [← hP] at HR htl
    have HP0 := Lib.hid hP0
    have HTL : Hid (∀ b w, TellsL Fence.wide (8 - 1) Tryd.prog 49 #[.pointer (some ⟨b, 0, none⟩)] (encsL P) (nLn P) b (Bs rest) ScW w) := Lib.hid htl
    clear hw4 hg4 hb4 hsz4 hT hm hsp hno hco hps hCut HSU hSU2 hP hP0 htl
    have HDw := Lib.hid hD
    clear hD
    refine (callsIn_wide (n := 8)).1 ?_
    have hf0 : Fence.wide.fn 13 := trivial
    have hf1 : Fence.wide.fn 30 := trivial
    have hf2 : Fence.wide.fn 31 := trivial
    have hf3 : Fence.wide.fn 32 := trivial
    have hf4 : Fence.wide.fn 9 := trivial
    refine callsIn_of_wp_marks Tryd.func13 rfl hf0 ?_ rfl
    simp only [Tryd.ntmps13, List.size_toArray, List.length_cons, List.length_nil, Nat.reduceAdd, Nat.reduceSub, Array.replicate_succ, Array.replicate_zero, List.push_toArray, List.append_toArray, List.nil_append, List.cons_append]
    gi_upto_region 1 with fail
    rw [← HW4.out]
    gi_upto_region 5 with (first
      | (gi_at_call 30; refine (hCut2 _).mono ?_; rintro e w5 ⟨rfl, hb5⟩; have hSu := HSU2.out w5 hb5; have HB5 := Lib.hid hb5; clear hb5)
      | (gi_at_call 31; refine (hSu _).mono ?_; rintro e w6 ⟨rfl, hb6⟩; have HB6 := Lib.hid hb6; clear hb6))
    have HB6' : Hid (Below w4.heap.size w4 w6) := Lib.hid (HB5.out.trans (HB6.out.mono HB5.out.size))
    have h7 : (w6.alloc (.cells #[.int .i64 c.s, .int .i64 c.k, .int .i64 c.m, .int .i64 c.c, .int .i64 c.l] 35)).heap[w6.heap.size]? = some (suO c) ∧ Below w4.heap.size w4 (w6.alloc (.cells #[.int .i64 c.s, .int .i64 c.k, .int .i64 c.m, .int .i64 c.c, .int .i64 c.l] 35)) ∧ (w6.alloc (.cells #[.int .i64 c.s, .int .i64 c.k, .int .i64 c.m, .int .i64 c.c, .int .i64 c.l] 35)).heap.size = w6.heap.size + 1 := ⟨heap_alloc_new w6 _, HB6'.out.alloc HB6'.out.size _, by simp⟩
    have H7 := Lib.hid h7
    clear h7
    generalize w6.alloc (.cells #[.int .i64 c.s, .int .i64 c.k, .int .i64 c.m, .int .i64 c.c, .int .i64 c.l] 35) = w7 at H7 ⊢
    gi_upto_region 6 with fail
    have h8 : Boxed (w7.alloc (.cells #[.slice none 0 0] 36)) w7.heap.size 36 (.slice none 0 0) ∧ Below w7.heap.size w7 (w7.alloc (.cells #[.slice none 0 0] 36)) ∧ (w7.alloc (.cells #[.slice none 0 0] 36)).heap.size = w7.heap.size + 1 := ⟨Boxed.new w7 _ _, below_new w7 _, by simp⟩
    have H8 := Lib.hid h8
    clear h8
    generalize w7.alloc (.cells #[.slice none 0 0] 36) = w8 at H8 ⊢
    gi_wp2_with (gi_at_call 32; refine (hLin _ _).mono ?_; rintro e W9 ⟨rfl, hW9⟩; have HW9 := Lib.hid hW9; clear hW9)
    have hGW : GW w W9 W9.heap.size w.heap.size (w.heap.size + 1) (w.heap.size + 1 + 1) (w.heap.size + 1 + 1 + 1) w6.heap.size w7.heap.size w8.heap.size c [] (.slice none 0 0) (Bs rest) := by
      have hb9 : Below w8.heap.size w8 W9 := by rw [HW9.out]; exact below_new w8 _
      have hz9 : W9.heap.size = w8.heap.size + 1 := by rw [HW9.out]; simp
      have hrT : Boxed W9 w8.heap.size 9 (Bs rest) := by rw [HW9.out]; exact Boxed.new w8 _ _
      have z6 := HB6'.out.size
      have z7 := H7.out.2.2
      have z8 := H8.out.2.2
      have z4 := HS4.out
      have hb79 : Below w7.heap.size w7 W9 := H8.out.2.1.trans (hb9.mono H8.out.2.1.size)
      have hb49 : Below w4.heap.size w4 W9 := H7.out.2.1.trans (hb79.mono H7.out.2.1.size)
      have k : ∀ {b : Nat} {x : Obj}, w4.heap[b]? = some x → W9.heap[b]? = some x := fun {b x} hx => (hb49.block b (Array.getElem?_eq_some_iff.1 hx).1).trans hx
      refine ⟨k HG4.out.1, k HG4.out.2.1, k HG4.out.2.2.1, k HG4.out.2.2.2, (hb79.block _ (Array.getElem?_eq_some_iff.1 H7.out.1).1).trans H7.out.1, (hb9.block _ H8.out.1.lt).trans H8.out.1, hrT, World.ownsRow_nil _ _ _ _, HB4.out.trans (hb49.mono HB4.out.size), Nat.le_refl _, by omega⟩
    have HGW := Lib.hid hGW
    generalize w.heap.size + 1 + 1 + 1 = b5 at *
    generalize w.heap.size + 1 + 1 = b4 at *
    generalize w.heap.size + 1 = b3 at *
    obtain ⟨b2, hb2e⟩ : ∃ b2, b2 = w.heap.size := ⟨_, rfl⟩
    generalize w6.heap.size = b9 at *
    generalize w7.heap.size = b11 at *
    generalize w8.heap.size = bT at *
    clear hGW HG4 HB4 HS4 HW4 HB5 HB6 HB6' H7 H8 HW9 hLin hCut2 HSU2 hSu hb2e HD4
    refine wpIn_range_il rfl (by omega) (gf := 49) (lb := #[.pointer (some ⟨bT, 0, none⟩)]) rfl trivial (enters_of Tryd.func49 (by kernel_rfl) rfl) (encs := encsL P) (fun _ => rfl)
      (HTL.out bT W9) HGW.out.ord.2.2.2.2.2.2.2
      (fun t k A => ∃ v acc, GW w A W9.heap.size w.heap.size b3 b4 b5 b9 b11 bT c acc v t ∧ acc.length = k ∧ k < P.length ∧ acc.length ≤ 4096 ∧ gp P [] = gp (P.drop k) acc)
      (fun k A => ∃ (at' e : Int), GDone A w.heap.size b3 b4 b5 SU.zero (.slice none 0 0) at' e ∧ gp P [] = ([], at', e) ∧ e ≠ 0 ∧ Below w.heap.size w A)
      (fun t k A C row ⟨v, acc, hs, hr0⟩ hg hr => ⟨v, acc, hs.own (by have := hs.ord; omega) hg hr, hr0⟩)
      (fun k A C row ⟨at', e, hs, h1, h2, h3⟩ hg hr => ⟨at', e, hs.own hg hr, h1, h2, h3.grown hg h3.size (fun g e' => Nat.le_trans (by have := HGW.out.ord; omega) (hr g e').1)⟩)
      (fun t k A ⟨v, acc, hs, _⟩ => ⟨hs.rT.cell, hs.rT.frozen, HDw.out.below hs.bel⟩)
      (fun t t' k A ⟨v, acc, hs, hr0⟩ => ⟨v, acc, hs.setT t', hr0⟩)
      ⟨_, [], HGW.out, rfl, HP0.out, by simp, rfl⟩ ?a1 ?assign ?body ?done ?stop
    case assign =>
      intro l k W K hK
      unfold encsL
      gi_wp2
      exact hK
    case body =>
      rintro l k t W ⟨v, acc, hs, hlen, hkP, ha4, hgp⟩ hk
      have HS := Lib.hid hs
      have HGP := Lib.hid hgp
      have HKP := Lib.hid hkP
      have HLE := Lib.hid hlen
      have HA4 := Lib.hid ha4
      obtain ⟨A1, cap, hvv, hq1, hq2⟩ := ownS_form hs.row
      subst hvv
      have y11 := hs.r11.cell
      have yf11 := hs.r11.frozen
      obtain ⟨p, hp⟩ : ∃ p, p = lineK P k := ⟨_, rfl⟩
      obtain ⟨wh, hwh⟩ : ∃ wh, wh = wholeK P k := ⟨_, rfl⟩
      have HPW := Lib.hid (And.intro hp hwh)
      have hPa := fun j => CallsIn.inRound l ((callsIn_wide (n := j)).2 (parseD_tup (l := p) (by rw [hp]; exact HPS.out k hkP) (HDw.out.below hs.bel)))
      rw [← hp, ← hwh]
      have hw2 : wrap64 ((acc.length : Int) + 2) = (acc.length : Int) + 2 := by unfold wrap64; omega
      have HBAD := Lib.hid (fun h => gp_bad (acc := acc) hk h)
      change Hid (wholeK P k = false ∨ psD (lineK P k) = none → _) at HBAD
      rw [← hp, ← hwh] at HBAD
      clear hs hgp hkP hlen hq1 hq2 hp hwh
      have HNN : Hid (wh = false ∨ psD p = none → gp P [] = ([], (acc.length : Int) + 2, 6)) := Lib.hid (fun h => by
        rw [HGP.out, HBAD.out h]
        push_cast
        rfl)
      cases hpd : psD p with
      | none =>
        have hPb : ∀ j, CallsIn (Fence.wide.inRound l) j Tryd.prog 9 #[.string ⟨p.toArray⟩] W fun e w' => e = .returned (.tuple #[.agg #[.int .u8 0, .int .i64 0, .int .i64 0, .int .i64 0, .string ⟨#[]⟩], .int .i64 6]) ∧ Below W.heap.size W w' := fun j => by have h := hPa j; rw [hpd] at h; exact h
        have HN := Lib.hid (HNN.out (.inr hpd))
        clear hPa hpd HNN HBAD
        cases wh
        all_goals
          gi_upto_region 11 with (gi_at_call 9; refine (hPb _).mono ?_; rintro e W2 ⟨rfl, hb2⟩; have HS2 := Lib.hid (HS.out.below hb2); have HB2 := Lib.hid hb2; clear hb2)
          have HS3 := Lib.hid (HS2.out.below (below_new W2 (.cells #[.int .u8 0, .int .i64 0, .int .i64 0, .int .i64 0, .string ⟨#[]⟩] 24)))
          have HKK : Hid (KeepsOthers W (W2.alloc (.cells #[.int .u8 0, .int .i64 0, .int .i64 0, .int .i64 0, .string ⟨#[]⟩] 24))) := Lib.hid ((keeps_below HB2.out).trans (KeepsOthers.alloc _ _))
          have y11' := HS3.out.r11.cell
          generalize W2.alloc (.cells #[.int .u8 0, .int .i64 0, .int .i64 0, .int .i64 0, .string ⟨#[]⟩] 24) = W3 at HS3 HKK y11'  ⊢
          obtain ⟨⟨x0, x1, x2, x3, x4⟩, xf⟩ := su_cells HS3.out.z2
          have xf0 := xf 0; have xf1 := xf 1; have xf2 := xf 2; have xf3 := xf 3; have xf4 := xf 4
          unfold SU.zero at x0 x1 x2 x3 x4
          dsimp only at x0 x1 x2 x3 x4
          have HO := Lib.hid HS3.out.ord
          obtain ⟨⟨m3, n3⟩, ⟨m4, n4⟩, m5, n5⟩ := gsteps HS3.out.gd ⟨HO.out.2.1, HO.out.2.2.1, HO.out.2.2.2.1⟩ (.int .i64 0) (.int .i64 0) (.int .i64 0) (.int .i64 0) (.int .i64 0) (.slice none 0 0) (.int .i64 ((acc.length : Int) + 2))
          clear xf
          gi_wp2
          have hgd := gdone_put (v := .slice none 0 0) (at' := ((acc.length : Int) + 2)) (e := 6) HS3.out.gd ⟨HO.out.2.1, HO.out.2.2.1, HO.out.2.2.2.1⟩ SU.zero
          have hbe := below_all (c := SU.zero) (v := .slice none 0 0) (a := ((acc.length : Int) + 2)) (e := 6) HS3.out.bel ⟨HO.out.1, HO.out.2.1, HO.out.2.2.1, HO.out.2.2.2.1⟩
          have hko := keeps_all W3 w.heap.size b3 b4 b5 SU.zero (.slice none 0 0) ((acc.length : Int) + 2) 6
          unfold putAll SU.zero at hgd hbe hko
          dsimp only at hgd hbe hko
          exact ⟨(HKK.out.trans hko).from _, _, _, hgd, HN.out, by decide, hbe⟩
      | some d =>
        obtain ⟨dk, da, db, dn, dt⟩ := d
        have hPb : ∀ j, CallsIn (Fence.wide.inRound l) j Tryd.prog 9 #[.string ⟨p.toArray⟩] W fun e w' => e = .returned (.tuple #[.agg #[.int .u8 dk, .int .i64 da, .int .i64 db, .int .i64 dn, Bs dt], .int .i64 0]) ∧ Below W.heap.size W w' := fun j => by have h := hPa j; rw [hpd] at h; exact h
        cases hwc : wh with
        | false =>
          have HN := Lib.hid (HNN.out (.inl hwc))
          clear hPa hpd HNN HBAD
          subst hwc
          gi_upto_region 11 with (gi_at_call 9; refine (hPb _).mono ?_; rintro e W2 ⟨rfl, hb2⟩; have HS2 := Lib.hid (HS.out.below hb2); have HB2 := Lib.hid hb2; clear hb2)
          have HS3 := Lib.hid (HS2.out.below (below_new W2 (.cells #[.int .u8 dk, .int .i64 da, .int .i64 db, .int .i64 dn, Bs dt] 24)))
          have HKK : Hid (KeepsOthers W (W2.alloc (.cells #[.int .u8 dk, .int .i64 da, .int .i64 db, .int .i64 dn, Bs dt] 24))) := Lib.hid ((keeps_below HB2.out).trans (KeepsOthers.alloc _ _))
          have y11' := HS3.out.r11.cell
          generalize W2.alloc (.cells #[.int .u8 dk, .int .i64 da, .int .i64 db, .int .i64 dn, Bs dt] 24) = W3 at HS3 HKK y11'  ⊢
          obtain ⟨⟨x0, x1, x2, x3, x4⟩, xf⟩ := su_cells HS3.out.z2
          have xf0 := xf 0; have xf1 := xf 1; have xf2 := xf 2; have xf3 := xf 3; have xf4 := xf 4
          unfold SU.zero at x0 x1 x2 x3 x4
          dsimp only at x0 x1 x2 x3 x4
          have HO := Lib.hid HS3.out.ord
          obtain ⟨⟨m3, n3⟩, ⟨m4, n4⟩, m5, n5⟩ := gsteps HS3.out.gd ⟨HO.out.2.1, HO.out.2.2.1, HO.out.2.2.2.1⟩ (.int .i64 0) (.int .i64 0) (.int .i64 0) (.int .i64 0) (.int .i64 0) (.slice none 0 0) (.int .i64 ((acc.length : Int) + 2))
          clear xf
          gi_wp2
          have hgd := gdone_put (v := .slice none 0 0) (at' := ((acc.length : Int) + 2)) (e := 6) HS3.out.gd ⟨HO.out.2.1, HO.out.2.2.1, HO.out.2.2.2.1⟩ SU.zero
          have hbe := below_all (c := SU.zero) (v := .slice none 0 0) (a := ((acc.length : Int) + 2)) (e := 6) HS3.out.bel ⟨HO.out.1, HO.out.2.1, HO.out.2.2.1, HO.out.2.2.2.1⟩
          have hko := keeps_all W3 w.heap.size b3 b4 b5 SU.zero (.slice none 0 0) ((acc.length : Int) + 2) 6
          unfold putAll SU.zero at hgd hbe hko
          dsimp only at hgd hbe hko
          exact ⟨(HKK.out.trans hko).from _, _, _, hgd, HN.out, by decide, hbe⟩
        | true =>
          have hk1 : k + 1 < P.length := by have h := HPW.out.2; rw [hwc] at h; exact of_decide_eq_true h.symm
          have hpd2 : psD (P.getD k []) = some ⟨dk, da, db, dn, dt⟩ := by have h := HPW.out.1; rw [h] at hpd; exact hpd
          by_cases hl : acc.length = 4096
          · have HN : Hid (gp P [] = ([], ((acc.length : Int) + 2), 7)) := Lib.hid (by rw [HGP.out, gp_long hk1 hpd2 hl]; push_cast; rfl)
            have e1 : ((acc.length : Int) == 4096) = true := by rw [beq_iff_eq]; omega
            clear hPa hpd HNN HBAD hpd2 hk1 hl
            subst hwc
            gi_upto_region 11 with (gi_at_call 9; refine (hPb _).mono ?_; rintro e W2 ⟨rfl, hb2⟩; have HS2 := Lib.hid (HS.out.below hb2); have HB2 := Lib.hid hb2; clear hb2)
            have HS3 := Lib.hid (HS2.out.below (below_new W2 (.cells #[.int .u8 dk, .int .i64 da, .int .i64 db, .int .i64 dn, Bs dt] 24)))
            have HKK : Hid (KeepsOthers W (W2.alloc (.cells #[.int .u8 dk, .int .i64 da, .int .i64 db, .int .i64 dn, Bs dt] 24))) := Lib.hid ((keeps_below HB2.out).trans (KeepsOthers.alloc _ _))
            have y11' := HS3.out.r11.cell
            generalize W2.alloc (.cells #[.int .u8 dk, .int .i64 da, .int .i64 db, .int .i64 dn, Bs dt] 24) = W3 at HS3 HKK y11'  ⊢
            obtain ⟨⟨x0, x1, x2, x3, x4⟩, xf⟩ := su_cells HS3.out.z2
            have xf0 := xf 0; have xf1 := xf 1; have xf2 := xf 2; have xf3 := xf 3; have xf4 := xf 4
            unfold SU.zero at x0 x1 x2 x3 x4
            dsimp only at x0 x1 x2 x3 x4
            have HO := Lib.hid HS3.out.ord
            obtain ⟨⟨m3, n3⟩, ⟨m4, n4⟩, m5, n5⟩ := gsteps HS3.out.gd ⟨HO.out.2.1, HO.out.2.2.1, HO.out.2.2.2.1⟩ (.int .i64 0) (.int .i64 0) (.int .i64 0) (.int .i64 0) (.int .i64 0) (.slice none 0 0) (.int .i64 ((acc.length : Int) + 2))
            clear xf
            gi_wp2
            have hgd := gdone_put (v := .slice none 0 0) (at' := ((acc.length : Int) + 2)) (e := 7) HS3.out.gd ⟨HO.out.2.1, HO.out.2.2.1, HO.out.2.2.2.1⟩ SU.zero
            have hbe := below_all (c := SU.zero) (v := .slice none 0 0) (a := ((acc.length : Int) + 2)) (e := 7) HS3.out.bel ⟨HO.out.1, HO.out.2.1, HO.out.2.2.1, HO.out.2.2.2.1⟩
            have hko := keeps_all W3 w.heap.size b3 b4 b5 SU.zero (.slice none 0 0) ((acc.length : Int) + 2) 7
            unfold putAll SU.zero at hgd hbe hko
            dsimp only at hgd hbe hko
            exact ⟨(HKK.out.trans hko).from _, _, _, hgd, HN.out, by decide, hbe⟩
          · have HN : Hid (gp P [] = gp (P.drop (k + 1)) (acc ++ [⟨dk, da, db, dn, dt⟩])) := Lib.hid (by rw [HGP.out, gp_ok hk1 hpd2 hl])
            have e1 : ((acc.length : Int) == 4096) = false := by rw [beq_eq_false_iff_ne]; omega
            have HK1 := Lib.hid hk1
            have HLT : Hid (acc.length < 4096) := Lib.hid (by have := HA4.out; omega)
            clear hPa hpd HNN HBAD hpd2 hk1 hl
            subst hwc
            gi_upto_region 15 with (gi_at_call 9; refine (hPb _).mono ?_; rintro e W2 ⟨rfl, hb2⟩; have HS2 := Lib.hid (HS.out.below hb2); have HB2 := Lib.hid hb2; have y11 := HS2.out.r11.cell; have y11b := (HS2.out.below (below_new W2 (.cells #[.int .u8 dk, .int .i64 da, .int .i64 db, .int .i64 dn, Bs dt] 24))).r11.cell; clear hb2)
            have HS3 := Lib.hid (HS2.out.below (below_new W2 (.cells #[.int .u8 dk, .int .i64 da, .int .i64 db, .int .i64 dn, Bs dt] 24)))
            have HKK : Hid (KeepsOthers W (W2.alloc (.cells #[.int .u8 dk, .int .i64 da, .int .i64 db, .int .i64 dn, Bs dt] 24))) := Lib.hid ((keeps_below HB2.out).trans (KeepsOthers.alloc _ _))
            obtain ⟨x0, x1, x2, x3, x4⟩ := new5 W2 (.int .u8 dk) (.int .i64 da) (.int .i64 db) (.int .i64 dn) (Bs dt) 24
            clear y11
            have y11 := HS3.out.r11.cell
            generalize W2.alloc (.cells #[.int .u8 dk, .int .i64 da, .int .i64 db, .int .i64 dn, Bs dt] 24) = W3 at HS3 HKK y11 y11b x0 x1 x2 x3 x4 ⊢
            have HS4 := Lib.hid (HS3.out.below (below_new W3 (.cells #[.int .u8 dk, .int .i64 da, .int .i64 db, .int .i64 dn, Bs dt] 24)))
            have HK4 : Hid (KeepsOthers W (W3.alloc (.cells #[.int .u8 dk, .int .i64 da, .int .i64 db, .int .i64 dn, Bs dt] 24))) := Lib.hid (HKK.out.trans (KeepsOthers.alloc _ _))
            obtain ⟨i0, hi0, hz0, hz1, hz2⟩ := deedInf
            have HXO : Hid (∀ u ∈ ([.int .u8 dk, .int .i64 da, .int .i64 db, .int .i64 dn, Bs dt] : List Value), u.oneCell' = true) := Lib.hid (DD.enc_one ⟨dk, da, db, dn, dt⟩)
            have HNV : Hid (∀ j q, ([.int .u8 dk, .int .i64 da, .int .i64 db, .int .i64 dn, Bs dt] : List Value)[j]? = some q → (W3.alloc (.cells #[.int .u8 dk, .int .i64 da, .int .i64 db, .int .i64 dn, Bs dt] 24)).cell? ((⟨W3.heap.size, 0, none⟩ : Addr).add j) = some q) := Lib.hid (new_cells W3 _ _)
            have HNB : Hid (acc.length + 1 ≤ maxLen ∧ (acc.length + 1) * 48 ≤ 140737488355328) := Lib.hid (by have := HLT.out; unfold maxLen; omega)
            gi_wp2_with (gi_at_builtin; refine wpListIn_append_own_at _ rfl _ _ 36 rfl W9.heap.size 24 i0 _ 5 48 Tryd.underlying36 hi0 hz0 hz1 hz2 rfl (by decide) _ _ _ rfl HS4.out.row ⟨W3.heap.size, 0, none⟩ 1 1 [.int .u8 dk, .int .i64 da, .int .i64 db, .int .i64 dn, Bs dt] rfl rfl HNV.out HXO.out HNB.out.1 HNB.out.2 HS4.out.sz ?_; intro v' w8 ho8 hg8 _ hat8; obtain ⟨g8, c8, rfl⟩ := ownsRow_succ ho8; have HAP := Lib.hid (HS4.out.app (d := ⟨dk, da, db, dn, dt⟩) ho8 hg8); have HKR := Lib.hid (HK4.out.trans (keeps_row HS4.out.row hg8)); have q11 := cell_kept' (HS4.out.r11) hg8 HS4.out.row ⟨Nat.lt_succ_self _, by have := HS4.out.ord; omega⟩; obtain ⟨q11, qf11⟩ := q11; clear ho8 hg8 hat8)
            refine ⟨(HKR.out.trans (KeepsOthers.setCell _ _ _)).from _, _, _, HAP.out, by rw [List.length_append, List.length_singleton, HLE.out], HK1.out, by rw [List.length_append, List.length_singleton]; exact HLT.out, HN.out⟩
    case done =>
      rintro D t W hDs ⟨v, acc, hs, hlen, hkP, ha4, hgp⟩ hK
      have HS := Lib.hid hs
      have HRR : Hid (getS T = (c, acc, 0, 0)) := Lib.hid (by rw [HR.out, hgp, gp_done hkP]; exact if_pos rfl)
      have HK := Lib.hid hK
      have HDL := Lib.hid hDs
      obtain ⟨A1, cap, hvv, -, -⟩ := ownS_form hs.row
      have HVV := Lib.hid hvv
      obtain ⟨⟨p0, p1, p2, p3, p4⟩, -⟩ := su_cells hs.s9
      obtain ⟨⟨x0, x1, x2, x3, x4⟩, xf⟩ := su_cells hs.z2
      have xf0 := xf 0; have xf1 := xf 1; have xf2 := xf 2; have xf3 := xf 3; have xf4 := xf 4
      unfold SU.zero at x0 x1 x2 x3 x4
      dsimp only at x0 x1 x2 x3 x4
      have y11 := hs.r11.cell
      have HO := Lib.hid hs.ord
      have y11s := hs.y11 (.int .i64 c.s) (.int .i64 c.k) (.int .i64 c.m) (.int .i64 c.c) (.int .i64 c.l)
      obtain ⟨⟨m3, n3⟩, ⟨m4, n4⟩, m5, n5⟩ := gsteps hs.gd ⟨HO.out.2.1, HO.out.2.2.1, HO.out.2.2.2.1⟩ (.int .i64 c.s) (.int .i64 c.k) (.int .i64 c.m) (.int .i64 c.c) (.int .i64 c.l) v (.int .i64 0)
      have HFIN := Lib.hid (hs.fin hDs hK)
      subst hvv
      clear xf hs hlen hkP hgp hK hDs HVV ha4
      gi_upto_region 16 with fail
      gi_region_with fail
      all_goals
        gi_wp2
        have hf := HFIN.out
        unfold putAll at hf
        generalize ((((((((W.setCell ⟨w.heap.size, 0, none⟩ (.int .i64 c.s)).setCell ⟨w.heap.size, 1, none⟩ (.int .i64 c.k)).setCell ⟨w.heap.size, 2, none⟩ (.int .i64 c.m)).setCell ⟨w.heap.size, 3, none⟩ (.int .i64 c.c)).setCell ⟨w.heap.size, 4, none⟩ (.int .i64 c.l)).setCell ⟨b3, 0, none⟩ (.slice A1 acc.length cap)).setCell ⟨b4, 0, none⟩ (.int .i64 0)).setCell ⟨b5, 0, none⟩ (.int .i64 0)).drew = W6 at hf ⊢
        obtain ⟨hgd, hbe, hro, hdd, hwD⟩ := hf
        have hg := grownBy_putObj' W6 D (.deferred none)
        have hr : ∀ r, some D = some r → w.heap.size ≤ r ∧ ∃ o : Obj, W6.heap[r]? = some o ∧ o.isCells = false := fun r e => by injection e with e; subst e; exact ⟨hwD, _, hdd, rfl⟩
        have hg2 := hgd.own hg hr
        obtain ⟨⟨z0, z1, z2, z3, z4⟩, -⟩ := su_cells hg2.1
        have z5 := hg2.2.1.cell
        have z6 := hg2.2.2.1.cell
        have z7 := hg2.2.2.2.cell
        refine ⟨by simp, .inl ⟨_, _, rfl, run_takeDeferred hdd, ?_⟩⟩
        refine ⟨.tuple #[.agg #[.int .i64 c.s, .int .i64 c.k, .int .i64 c.m, .int .i64 c.c, .int .i64 c.l], .slice A1 acc.length cap, .int .i64 0, .int .i64 0], ?_, ?_, hbe.grown hg hbe.size (fun g e => (hr g e).1)⟩
        · simp [results, Tryd.f13, go_sem, z0, z1, z2, z3, z4, z5, z6, z7]
        · rw [HRR.out]
          exact ⟨_, rfl, StS.of_own DD.enc_len (own_row hro hg hr)⟩
    case stop =>
      rintro D k W hDs hk ⟨at', e, hgd, hgp, he, hb⟩ hK
      have HRR : Hid (getS T = (SU.zero, [], at', e)) := Lib.hid (by rw [HR.out, hgp]; exact if_neg he)
      have hg := grownBy_putObj' W D (.deferred none)
      have hwD : w.heap.size ≤ D := by have := HGW.out.ord; omega
      have hr : ∀ r, some D = some r → w.heap.size ≤ r ∧ ∃ o : Obj, W.heap[r]? = some o ∧ o.isCells = false := fun r e => by injection e with e; subst e; exact ⟨hwD, _, hK, rfl⟩
      have hg2 := hgd.own hg hr
      obtain ⟨⟨z0, z1, z2, z3, z4⟩, -⟩ := su_cells hg2.1
      have z5 := hg2.2.1.cell
      have z6 := hg2.2.2.1.cell
      have z7 := hg2.2.2.2.cell
      have HKD := Lib.hid hK
      have HBE := Lib.hid (hb.grown hg hb.size (fun g e => (hr g e).1))
      unfold SU.zero at z0 z1 z2 z3 z4
      dsimp only at z0 z1 z2 z3 z4
      clear hgd hgp hb hK hg hr hDs hg2
      gi_wp2
      refine ⟨by simp, .inl ⟨_, _, rfl, run_takeDeferred HKD.out, ?_⟩⟩
      refine ⟨.tuple #[.agg #[.int .i64 0, .int .i64 0, .int .i64 0, .int .i64 0, .int .i64 0], .slice none 0 0, .int .i64 at', .int .i64 e], ?_, ?_, HBE.out⟩
      · simp [results, Tryd.f13, go_sem, z0, z1, z2, z3, z4, z5, z6, z7]
      · rw [HRR.out]
        exact ⟨_, rfl, StS.nil _⟩
end Go.Proofs.YtfmpbohiahjafaaDoor
