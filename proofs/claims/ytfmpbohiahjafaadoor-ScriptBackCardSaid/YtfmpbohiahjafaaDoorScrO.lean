/- Scripts: the program's text of a script. -/
import Derived.Test.YtfmpbohiahjafaaDoorScrK
import Derived.Test.YtfmpbohiahjafaaDoorBld
namespace Go.Proofs.YtfmpbohiahjafaaDoor
open Go.RowKit Go.Lib Go.Shelf Go.Sort
attribute [local go_sem] Oper.semAt_some

/-! ### what is written behind so many lines -/
def pT (c : SU) (L : List DD) (k : Nat) : List UInt8 := if k = 0 then [] else suT c ++ [10] ++ dsT (L.take (k - 1))
def pOk (c : SU) (L : List DD) (k : Nat) : Prop := ∀ i, i < k → (lnK c L i).isSome = true
theorem lnS_suT {c : SU} (h : (lnS c).isSome = true) : (lnS c).getD [] = suT c := by
  obtain ⟨l, hl⟩ := Option.isSome_iff_exists.1 h
  rw [hl]; exact (lnS_is hl).2
theorem lnD_lnT {d : DD} (h : (lnD d).isSome = true) : (lnD d).getD [] = lnT d := by
  obtain ⟨l, hl⟩ := Option.isSome_iff_exists.1 h
  rw [hl]; exact (lnD_is hl).2.symm
theorem pT_succ {c : SU} {L : List DD} {k : Nat} (hk : k < L.length + 1) (h : (lnK c L k).isSome = true) : pT c L (k + 1) = pT c L k ++ ((lnK c L k).getD [] ++ [10]) := by
  unfold pT
  rw [if_neg (by omega), Nat.add_sub_cancel]
  by_cases h0 : k = 0
  · subst h0
    have h : (lnS c).isSome = true := h
    rw [if_pos rfl, show (lnK c L 0).getD [] = suT c from lnS_suT h]
    simp [dsT]
  · rw [if_neg h0]
    have e : lnK c L k = lnD (L.getD (k - 1) DD.zero) := by unfold lnK; rw [if_neg h0]
    rw [e] at h ⊢
    rw [lnD_lnT h]
    obtain ⟨j, rfl⟩ : ∃ j, k = j + 1 := ⟨k - 1, by omega⟩
    rw [Nat.add_sub_cancel, List.take_succ_eq_append_getElem (by omega), List.getD, List.getElem?_eq_getElem (by omega)]
    unfold dsT
    rw [List.flatMap_append, List.flatMap_singleton]
    simp
theorem pOk_all {c : SU} {L : List DD} (h : pOk c L (L.length + 1)) (hl : L.length ≤ 4096) : putS c L = (pT c L (L.length + 1), 0) := by
  have hok : putOk c L = true := by
    unfold putOk
    rw [Bool.and_eq_true, List.all_eq_true]
    refine ⟨h 0 (by omega), fun d hd => ?_⟩
    obtain ⟨i, hi, rfl⟩ := List.mem_iff_getElem.1 hd
    have := h (i + 1) (by omega)
    unfold lnK at this
    rw [if_neg (by omega), Nat.add_sub_cancel, List.getD, List.getElem?_eq_getElem hi] at this
    exact this
  unfold putS
  rw [if_neg (by omega), if_pos hok]
  unfold pT putT
  rw [if_neg (by omega), Nat.add_sub_cancel, List.take_length]
theorem pOk_not {c : SU} {L : List DD} {k : Nat} (hk : k < L.length + 1) (h : lnK c L k = none) (hl : L.length ≤ 4096) : putS c L = ([], 2) := by
  have hok : ¬ putOk c L = true := by
    unfold putOk
    rw [Bool.and_eq_true, List.all_eq_true]
    rintro ⟨h1, h2⟩
    unfold lnK at h
    split at h
    · rw [h] at h1; cases h1
    · have := h2 (L.getD (k - 1) DD.zero) (by rw [List.getD, List.getElem?_eq_getElem (by omega)]; exact List.getElem_mem _)
      rw [h] at this; cases this
  unfold putS
  rw [if_neg (by omega), if_neg hok]
theorem lnK_len {c : SU} {L : List DD} (hc : SUok c) (hL : ∀ d ∈ L, DDok d) (k : Nat) (hk : k < L.length + 1) : ((lnK c L k).getD []).length ≤ 100000 := by
  unfold lnK
  split
  · by_cases h : (lnS c).isSome = true
    · rw [lnS_suT h]; have := suT_len hc; omega
    · rw [Option.not_isSome_iff_eq_none.1 h]; simp
  · have hd : L.getD (k - 1) DD.zero ∈ L := by rw [List.getD, List.getElem?_eq_getElem (by omega)]; exact List.getElem_mem _
    generalize L.getD (k - 1) DD.zero = d at hd
    by_cases h : (lnD d).isSome = true
    · obtain ⟨l, hl⟩ := Option.isSome_iff_exists.1 h
      have h2 := psD_is (lnD_is hl).1
      rw [lnD_lnT h]
      obtain ⟨⟨k, h3, _, h4⟩, h5, _⟩ := h2
      exact lnT_len (hL d hd) (by omega) h5
    · rw [Option.not_isSome_iff_eq_none.1 h]; simp
theorem pT_len {c : SU} {L : List DD} (hc : SUok c) (hL : ∀ d ∈ L, DDok d) : ∀ k, k ≤ L.length + 1 → pOk c L k → (pT c L k).length ≤ k * 100001 := by
  intro k
  induction k with
  | zero => intro _ _; simp [pT]
  | succ k ih =>
    intro hk h
    have h1 := ih (by omega) (fun i hi => h i (by omega))
    have h2 := lnK_len hc hL k (by omega)
    rw [pT_succ (by omega) (h k (by omega)), List.length_append, List.length_append, List.length_singleton, Nat.succ_mul]
    omega
/-! ### the world of the loop -/
theorem own_blk {A C : World} {row : Option Nat} {B : Nat} (hg : A.grownBy C row) (hr : ∀ r, row = some r → B ≤ r ∧ ∃ o : Obj, A.heap[r]? = some o ∧ o.isCells = false) {k : Nat} {o : Obj} (h : A.heap[k]? = some o) (hc : o.isCells = true) : C.heap[k]? = some o := by
  refine (hg.block k (Array.getElem?_eq_some_iff.1 h).1 (fun e => ?_)).trans h
  obtain ⟨_, o2, h2, h3⟩ := hr k e.symm
  rw [h] at h2
  injection h2 with h2
  rw [← h2, hc] at h3; cases h3
theorem IsBld.own {A C : World} {row : Option Nat} {B B2 b : Nat} {l : List UInt8} (h : IsBld B b l A) (hg : A.grownBy C row) (hr : ∀ r, row = some r → B2 ≤ r ∧ ∃ o : Obj, A.heap[r]? = some o ∧ o.isCells = false) : IsBld B b l C := by
  have h1 : ∀ p, Lib.BuilderAt 64 5 B b p (U8s l) A → Lib.BuilderAt 64 5 B b p (U8s l) C := by
    rintro p ⟨hB, v, hbk, hown, hne⟩
    refine ⟨hB, v, own_blk hg hr hbk rfl, ?_, hne⟩
    refine ⟨hown.1, ?_⟩
    rcases hown.2 with hn | ⟨g, cap, cur, hv, hgB, hh, r⟩
    · exact .inl hn
    · exact .inr ⟨g, cap, cur, hv, hgB, own_blk hg hr hh rfl, r⟩
  exact h.imp (h1 _) (h1 _)
/-- The world in the loop of Put: its boxes, what is written. -/
structure PW (w A : World) (b4 b5 bB bS bD : Nat) (c : SU) (v : Value) (l : List UInt8) : Prop where
  bld : IsBld bB bB l A
  r4 : Boxed A b4 9 (.string ⟨#[]⟩)
  r5 : Boxed A b5 26 (.int .i64 0)
  sS : A.heap[bS]? = some (.cells #[.int .i64 c.s, .int .i64 c.k, .int .i64 c.m, .int .i64 c.c, .int .i64 c.l] 35 (0, 0))
  sD : Boxed A bD 36 v
  bel : Below w.heap.size w A
  o4 : w.heap.size ≤ b4 ∧ b4 < bB
  o5 : w.heap.size ≤ b5 ∧ b5 < bB ∧ b4 ≠ b5
  oS : bB < bS ∧ bB < bD
theorem PW.below {w A C : World} {b4 b5 bB bS bD : Nat} {c : SU} {v : Value} {l : List UInt8} (h : PW w A b4 b5 bB bS bD c v l) (hb : Below A.heap.size A C) : PW w C b4 b5 bB bS bD c v l :=
  ⟨h.bld.below hb, (hb.block _ h.r4.lt).trans h.r4, (hb.block _ h.r5.lt).trans h.r5, (hb.block _ (Array.getElem?_eq_some_iff.1 h.sS).1).trans h.sS, (hb.block _ h.sD.lt).trans h.sD, h.bel.trans (hb.mono h.bel.size), h.o4, h.o5, h.oS⟩
theorem PW.own {w A C : World} {row : Option Nat} {B b4 b5 bB bS bD : Nat} {c : SU} {v : Value} {l : List UInt8} (h : PW w A b4 b5 bB bS bD c v l) (hB : w.heap.size ≤ B) (hg : A.grownBy C row) (hr : ∀ r, row = some r → B ≤ r ∧ ∃ o : Obj, A.heap[r]? = some o ∧ o.isCells = false) : PW w C b4 b5 bB bS bD c v l :=
  ⟨h.bld.own hg hr, own_blk hg hr h.r4 rfl, own_blk hg hr h.r5 rfl, own_blk hg hr h.sS rfl, own_blk hg hr h.sD rfl, h.bel.grown hg h.bel.size (fun g e => Nat.le_trans hB (hr g e).1), h.o4, h.o5, h.oS⟩
theorem PW.rdp {w A : World} {b4 b5 bB bS bD : Nat} {c : SU} {v : Value} {l : List UInt8} {L : List DD} (h : PW w A b4 b5 bB bS bD c v l) (hv : DdS w v L) (hD : ScW w) (k : Nat) : RDP c L bS bD v k A := by
  refine ⟨⟨?_, ?_, ?_, ?_, ?_⟩, h.sD.cell, hv.below h.bel (Nat.le_refl _), hD.below h.bel⟩ <;> simp [World.cell?, h.sS]
theorem PW.write {w A C : World} {b4 b5 bB bS bD : Nat} {c : SU} {v : Value} {l m : List UInt8} (h : PW w A b4 b5 bB bS bD c v l) (hb : BldAt bB bB m C) (hB : Below bB A C) (hk : Lib.OthersKept 5 (some bB) A C) : PW w C b4 b5 bB bS bD c v m :=
  ⟨.inr hb, (hB.block _ h.o4.2).trans h.r4, (hB.block _ h.o5.2.1).trans h.r5, hk bS _ h.sS (by intro e; injection e with e; have := h.oS.1; omega) (by intro cs fz e; injection e with _ e; cases e), hk bD _ h.sD (by intro e; injection e with e; have := h.oS.2; omega) (by intro cs fz e; injection e with _ e; cases e), h.bel.trans (hB.mono (by have := h.o4; omega)), h.o4, h.o5, h.oS⟩
end Go.Proofs.YtfmpbohiahjafaaDoor
