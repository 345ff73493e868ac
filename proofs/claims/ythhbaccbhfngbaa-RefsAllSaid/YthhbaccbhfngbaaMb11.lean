/- Charts: tables with where their entries lie, one behind the other in a row that a call owns; those of holes alone dropped: slices.DeleteFunc, prune. Charts: tables of holes alone dropped: slices.DeleteFunc, prune. Charts: maps in memory of their own, that may be written: clone. A range over a closure that tells N things, the k-th one known beforehand; its body may return: a law by the number of the round. -/
import Derived.Test.YthhbaccbhfngbaaMb10
import Derived.Test.YthhbaccbhfngbaaMb00
import Derived.RangeFuncNested
import Derived.RangeFuncBound
import Derived.RangeFuncCalls
import Derived.RangeFuncLeaves
import Derived.Shelf.Abstract
import Derived.Shelf.RegionOpen
import Derived.OwnWalkIn
import Derived.TacticsInMore
import Derived.LoopNIn
import Derived.LoopIn
namespace Go.Proofs.Ythhbaccbhfngbaa
open Go.RowKit

abbrev PT := TB × Value
def PT.zero : PT := (TB.zero, .slice none 0 0)
def pC (P : List PT) : List Value := P.flatMap fun p => [.int .i64 p.1.at', p.2]
theorem pC_len (P : List PT) : (pC P).length = P.length * 2 := by
  unfold pC
  induction P with
  | nil => rfl
  | cons p r ih => rw [List.flatMap_cons, List.length_append, ih, List.length_cons, List.length_cons, List.length_cons, List.length_nil]; omega
theorem pC_at : ∀ (P : List PT) (j : Nat), j < P.length → (pC P)[j * 2]? = some (.int .i64 (P.getD j PT.zero).1.at') ∧ (pC P)[j * 2 + 1]? = some (P.getD j PT.zero).2
  | p :: r, 0, _ => ⟨rfl, rfl⟩
  | p :: r, j + 1, h => by
    have := pC_at r j (by simpa using h)
    rw [show (j + 1) * 2 = j * 2 + 1 + 1 by omega]
    exact this
theorem pC_app (P Q : List PT) : pC (P ++ Q) = pC P ++ pC Q := by unfold pC; rw [List.flatMap_append]
theorem pC_set : ∀ (P : List PT) (j : Nat) (t : TB) (u : Value), j < P.length → ((pC P).set (j * 2) (.int .i64 t.at')).set (j * 2 + 1) u = pC (P.set j (t, u))
  | p :: r, 0, t, u, _ => rfl
  | p :: r, j + 1, t, u, h => by
    have := pC_set r j t u (by simpa using h)
    rw [show (j + 1) * 2 = j * 2 + 1 + 1 by omega]
    show .int .i64 p.1.at' :: p.2 :: ((pC r).set (j * 2) _).set (j * 2 + 1) u = .int .i64 p.1.at' :: p.2 :: pC (r.set j (t, u))
    rw [this]
theorem pC_take : ∀ (P : List PT) (i : Nat), (pC P).take (i * 2) = pC (P.take i)
  | _, 0 => by simp [pC]
  | [], i + 1 => by simp [pC]
  | p :: r, i + 1 => by
    rw [show (i + 1) * 2 = i * 2 + 1 + 1 by omega]
    show .int .i64 p.1.at' :: p.2 :: (pC r).take (i * 2) = .int .i64 p.1.at' :: p.2 :: pC (r.take i)
    rw [pC_take r i]
theorem pC_tc : ∀ (T : List TB) (us : List Value), tCells T us = pC (T.zip us)
  | [], _ => by simp [tCells, pC]
  | _ :: _, [] => by simp [tCells, pC]
  | t :: T, u :: us => by
    show .int .i64 t.at' :: u :: tCells T us = .int .i64 t.at' :: u :: pC (T.zip us)
    rw [pC_tc T us]
/-- Tables in a row of a call's own, each one's entries in a block apart. -/
structure PO (W : World) (B U : Nat) (v : Value) (P : List PT) : Prop where
  own : W.ownsRow B 55 2 v P.length (pC P)
  each : ∀ p ∈ P, OneO W B p.2 p.1.l v.ownBlock
  up : ∀ g, v.ownBlock = some g → g < U
  ups : ∀ p ∈ P, ∀ g, p.2.ownBlock = some g → g < U
theorem OneO.ap {S : Nat → Prop} {W W' : World} {B : Nat} {u : Value} {l : List EN} {ob : Option Nat} (k : OneO W B u l ob) (a : Ap S W W') (hS : ∀ q, S q → q < B ∨ some q = ob ∨ some q ≠ u.ownBlock) : OneO W' B u l ob := by
  obtain ⟨h1, g, n, c, rfl, hB, hg, hne⟩ := k
  refine ⟨h1.ap a (fun e => ?_), g, n, c, rfl, hB, Nat.lt_of_lt_of_le hg a.size, hne⟩
  rcases hS g e with h | h | h
  · omega
  · exact hne h
  · exact h rfl
theorem PO.ap {S : Nat → Prop} {W W' : World} {B U : Nat} {v : Value} {P : List PT} (k : PO W B U v P) (a : Ap S W W') (hS : ∀ q, S q → q < B ∨ U ≤ q) : PO W' B U v P := by
  refine ⟨⟨k.own.1, ?_⟩, fun p hp => (k.each p hp).ap a (fun q h => ?_), k.up, k.ups⟩
  · rcases k.own.2 with h0 | ⟨g, cap, cur, rfl, hg, hh, r⟩
    · exact .inl h0
    · refine .inr ⟨g, cap, cur, rfl, hg, (a.block g (Array.getElem?_eq_some_iff.1 hh).1 (fun e => ?_)).trans hh, r⟩
      have h1 := hS g e
      have h2 := k.up g rfl
      omega
  · rcases hS q h with h1 | h1
    · exact .inl h1
    · exact .inr (.inr (fun e => by have := k.ups p hp q e.symm; omega))
theorem PO.below {W W' : World} {B U : Nat} {v : Value} {P : List PT} (k : PO W B U v P) (hb : Below W.heap.size W W') : PO W' B U v P := k.ap (S := fun _ => False) (Ap.of_below hb) (fun _ h => h.elim)
theorem getD_memP {P : List PT} {j : Nat} (hj : j < P.length) : P.getD j PT.zero ∈ P := by
  rw [List.getD, List.getElem?_eq_getElem hj]; exact List.getElem_mem _
theorem getD_fst {P : List PT} {j : Nat} (hj : j < P.length) : (P.map Prod.fst).getD j TB.zero = (P.getD j PT.zero).1 := by
  rw [List.getD, List.getElem?_map, List.getD, List.getElem?_eq_getElem hj]; rfl
theorem PO.tabs {W : World} {B U : Nat} {v : Value} {P : List PT} (k : PO W B U v P) : TabsS W v (P.map Prod.fst) := by
  have hl : (P.map Prod.fst).length = P.length := List.length_map ..
  unfold TabsS
  rw [hl]
  rcases k.own.2 with ⟨rfl, h0⟩ | ⟨g, cap, cur, rfl, hb, hh, hn, hm, hs, ht⟩
  · have : P = [] := List.eq_nil_of_length_eq_zero h0
    subst this
    exact ⟨none, 0, rfl, Nat.le_refl _, Nat.zero_le _, .inl rfl⟩
  · refine ⟨_, cap, rfl, hn, hm, .inr ⟨g, 0, rfl, (Array.getElem?_eq_some_iff.1 hh).1, fun j hj => ?_⟩⟩
    obtain ⟨a1, a2⟩ := pC_at P j hj
    rw [getD_fst hj, Nat.zero_add]
    exact ⟨_, (World.ownsRow.cellAt k.own _ (by omega)).trans a1, (World.ownsRow.cellAt k.own _ (by omega)).trans a2, (k.each _ (getD_memP hj)).1⟩
/-! ### prune's closure, and IndexFunc with it -/
def dropB (p : PT) : Bool := !p.1.l.any fullB
theorem PO.cell {W : World} {B U g cap : Nat} {P : List PT} (k : PO W B U (.slice (some ⟨g, 0, none⟩) P.length cap) P) {j : Nat} (hj : j < P.length) : W.cell? ⟨g, j * 2, none⟩ = some (.int .i64 (P.getD j PT.zero).1.at') ∧ W.cell? ⟨g, j * 2 + 1, none⟩ = some (P.getD j PT.zero).2 := by
  obtain ⟨a1, a2⟩ := pC_at P j hj
  exact ⟨(World.ownsRow.cellAt k.own _ (by omega)).trans a1, (World.ownsRow.cellAt k.own _ (by omega)).trans a2⟩
end Go.Proofs.Ythhbaccbhfngbaa
namespace Go.Proofs.Ythhbaccbhfngbaa
open Go.RowKit

def keepB (p : PT) : Bool := p.1.l.any fullB
theorem keep_drop (p : PT) : keepB p = !dropB p := by unfold keepB dropB; simp
theorem take_snocP {L : List PT} {k : Nat} (hk : k < L.length) : L.take (k + 1) = L.take k ++ [L.getD k PT.zero] := by
  rw [List.take_succ_eq_append_getElem hk, List.getD, List.getElem?_eq_getElem hk]; rfl
theorem filter_one (p : PT) : [p].filter keepB = if keepB p = true then [p] else [] := by
  by_cases h : keepB p = true
  · rw [if_pos h, List.filter_cons_of_pos h]; rfl
  · rw [if_neg h, List.filter_cons_of_neg h]; rfl
/-- Under way: what was kept of the first j, and all from j on. -/
structure DI (P X : List PT) (i j : Nat) : Prop where
  len : X.length = P.length
  fst : X.take i = (P.take j).filter keepB
  snd : X.drop j = P.drop j
  ij : i < j
  jn : j ≤ P.length
theorem filter_full {P : List PT} (h : ∀ k, k < P.length → dropB (P.getD k PT.zero) = false) : P.filter keepB = P := by
  rw [List.filter_eq_self]
  intro p hp
  rw [keep_drop, all_false dropB PT.zero P h p hp]; rfl
theorem DI.start {P : List PT} {k : Nat} (hk : k < P.length) (h0 : ∀ i, i < k → dropB (P.getD i PT.zero) = false) (h1 : dropB (P.getD k PT.zero) = true) : DI P P k (k + 1) := by
  refine ⟨rfl, ?_, rfl, by omega, by omega⟩
  rw [take_snocP hk, List.filter_append, filter_one, keep_drop, h1]
  have : (P.take k).filter keepB = P.take k := filter_full (fun i hi => by
    rw [List.length_take] at hi
    rw [List.getD, List.getElem?_take, if_pos (by omega)]
    exact h0 i (by omega))
  rw [this]; simp
theorem DI.at {P X : List PT} {i j : Nat} (k : DI P X i j) : X.getD j PT.zero = P.getD j PT.zero := by
  have h1 : (X.drop j)[0]? = (P.drop j)[0]? := by rw [k.snd]
  rw [List.getElem?_drop, List.getElem?_drop, Nat.add_zero] at h1
  rw [List.getD, List.getD, h1]
theorem DI.skip {P X : List PT} {i j : Nat} (k : DI P X i j) (hj : j < P.length) (hd : dropB (P.getD j PT.zero) = true) : DI P X i (j + 1) := by
  refine ⟨k.len, ?_, ?_, by have := k.ij; omega, by omega⟩
  · rw [take_snocP hj, List.filter_append, filter_one, keep_drop, hd, k.fst]; simp
  · have h := congrArg (List.drop 1) k.snd
    rw [List.drop_drop, List.drop_drop] at h; exact h
theorem DI.keep {P X : List PT} {i j : Nat} (k : DI P X i j) (hj : j < P.length) (hd : dropB (P.getD j PT.zero) = false) : DI P (X.set i (P.getD j PT.zero)) (i + 1) (j + 1) := by
  have hij := k.ij
  have hl := k.len
  refine ⟨by rw [List.length_set]; exact hl, ?_, ?_, by omega, by omega⟩
  · rw [take_snocP hj, List.filter_append, filter_one, keep_drop, hd, ← k.fst]
    have e := take_snocP (L := X.set i (P.getD j PT.zero)) (k := i) (by rw [List.length_set]; omega)
    rw [e, List.take_set_of_le (Nat.le_refl _)]
    congr 1
    rw [List.getD, List.getElem?_set_self (by omega)]; rfl
  · rw [List.drop_set_of_lt (by omega)]
    have h := congrArg (List.drop 1) k.snd
    rw [List.drop_drop, List.drop_drop] at h; exact h
theorem DI.done {P X : List PT} {i : Nat} (k : DI P X i P.length) : X.take i = P.filter keepB := by
  have := k.fst
  rwa [List.take_of_length_le (Nat.le_refl _)] at this
theorem idx_cases (P : List PT) : (idxI dropB P 0 = -1 ∧ P.filter keepB = P) ∨ ∃ k, k < P.length ∧ idxI dropB P 0 = (k : Int) ∧ DI P P k (k + 1) := by
  by_cases h : P.findIdx dropB < P.length
  · right
    refine ⟨P.findIdx dropB, h, ?_, ?_⟩
    · have h1 : ∀ k, k < P.findIdx dropB → dropB (P.getD k PT.zero) = false := fun k hk => by
        rw [List.getD, List.getElem?_eq_getElem (by omega)]; exact List.not_of_lt_findIdx hk
      have h2 : dropB (P.getD (P.findIdx dropB) PT.zero) = true := by
        rw [List.getD, List.getElem?_eq_getElem h]; exact List.findIdx_getElem (w := h)
      rw [idxI_at dropB PT.zero P 0 _ h h1 h2]; simp
    · exact DI.start h (fun k hk => by rw [List.getD, List.getElem?_eq_getElem (by omega)]; exact List.not_of_lt_findIdx hk) (by rw [List.getD, List.getElem?_eq_getElem h]; exact List.findIdx_getElem (w := h))
  · left
    have h1 : ∀ k, k < P.length → dropB (P.getD k PT.zero) = false := fun k hk => by
      rw [List.getD, List.getElem?_eq_getElem hk]; exact List.not_of_lt_findIdx (by omega)
    exact ⟨idxI_none dropB P 0 (all_false dropB PT.zero P h1), filter_full h1⟩
/-! ### clear, of elements of two cells -/
theorem run_clear_two {P : Program} (w : World) (t e ty : TypeId) (z a b' : Value) (ht : P.underlying t = some (.slice e)) (hv : ∀ w, (zeroValue e).run P w = .ok z w) (hz : z.cells = #[a, b']) (h1 : a.oneCell' = true) (h2 : b'.oneCell' = true) (b o n c : Nat) (hn : 0 < n)
    (hc : ∀ j, j < n * 2 → (w.cell? ⟨b, o + j, none⟩).isSome = true) (hf : ∀ j, j < n * 2 → w.frozen? ⟨b, o + j, none⟩ = false) :
    ∃ zs : List Value, zs.length = n * 2 ∧ (Builtin.clear_ #[t] ty #[.slice (some ⟨b, o, none⟩) n c]).run P w = .ok (.tuple #[]) (w.setCells b o zs) := by
  refine ⟨(Builtin.zeroCells z.cells n).toList, by rw [hz]; simp [Builtin.zeroCells], ?_⟩
  have hl : (Builtin.zeroCells z.cells n).toList.length = n * 2 := by rw [hz]; simp [Builtin.zeroCells]
  have hone : ∀ v ∈ (Builtin.zeroCells z.cells n).toList, v.oneCell' = true := by
    intro v hv'
    rw [hz] at hv'
    unfold Builtin.zeroCells at hv'
    simp only [Array.toList_map, List.mem_map] at hv'
    obtain ⟨i, _, rfl⟩ := hv'
    have : i % #[a, b'].size = 0 ∨ i % #[a, b'].size = 1 := by show i % 2 = 0 ∨ i % 2 = 1; omega
    rcases this with e0 | e0
    · rw [e0]; exact h1
    · rw [e0]; exact h2
  have hst := run_storeCells_cells (P := P) b o _ 0 w (by rw [hl]; simpa using hc) (by rw [hl]; simpa using hf) hone
  simp only [Nat.add_zero] at hst
  obtain ⟨m, rfl⟩ : ∃ m, n = m + 1 := ⟨n - 1, by omega⟩
  simp [Builtin.clear_, run_underlying ht, hv, hst]
theorem tabZero (w : World) : (zeroValue 55).run Try.prog w = .ok (.agg #[.int .i64 0, .slice none 0 0]) w := Try.zeroValue55 w
end Go.Proofs.Ythhbaccbhfngbaa
namespace Go.Proofs.Ythhbaccbhfngbaa
open Go.RowKit

/-- One table's entries, in a block of their own. -/
def RowO (W : World) (B E : Nat) (ob : Option Nat) (p : PT) : Prop := ∃ g c, p.2 = .slice (some ⟨g, 0, none⟩) E c ∧ RowE W g p.1.l ∧ p.1.l.length = E ∧ E ≤ c ∧ c ≤ maxLen ∧ B ≤ g ∧ some g ≠ ob
theorem RowO.one {W : World} {B E : Nat} {ob : Option Nat} {p : PT} (h : RowO W B E ob p) : OneO W B p.2 p.1.l ob := by
  obtain ⟨g, c, h1, h2, h3, h4, h5, h6, h7⟩ := h
  rw [h1]
  refine ⟨?_, g, E, c, rfl, h6, h2.1, h7⟩
  have := h2.ents c (by omega) h5
  rwa [h3] at this
theorem RowO.ap {S : Nat → Prop} {W W' : World} {B E : Nat} {ob : Option Nat} {p : PT} (h : RowO W B E ob p) (a : Ap S W W') (hS : ∀ q, S q → q < B ∨ some q = ob ∨ some q ≠ p.2.ownBlock) : RowO W' B E ob p := by
  obtain ⟨g, c, h1, h2, h3, h4, h5, h6, h7⟩ := h
  refine ⟨g, c, h1, h2.ap a (fun e => ?_), h3, h4, h5, h6, h7⟩
  rcases hS g e with h | h | h
  · omega
  · exact h7 h
  · rw [h1] at h; exact h rfl
structure PW (W : World) (B U E : Nat) (v : Value) (P : List PT) : Prop where
  own : W.ownsRow B 55 2 v P.length (pC P)
  row : ∀ p ∈ P, RowO W B E v.ownBlock p
  nd : P.Pairwise (fun p q => p.2.ownBlock ≠ q.2.ownBlock)
  up : ∀ g, v.ownBlock = some g → g < U
  ups : ∀ p ∈ P, ∀ g, p.2.ownBlock = some g → g < U
theorem PW.po {W : World} {B U E : Nat} {v : Value} {P : List PT} (k : PW W B U E v P) : PO W B U v P := ⟨k.own, fun p hp => (k.row p hp).one, k.up, k.ups⟩
theorem PW.ap {S : Nat → Prop} {W W' : World} {B U E : Nat} {v : Value} {P : List PT} (k : PW W B U E v P) (a : Ap S W W') (hS : ∀ q, S q → q < B ∨ U ≤ q) : PW W' B U E v P := by
  refine ⟨(k.po.ap a hS).own, fun p hp => (k.row p hp).ap a (fun q h => ?_), k.nd, k.up, k.ups⟩
  rcases hS q h with h1 | h1
  · exact .inl h1
  · exact .inr (.inr (fun e => by have := k.ups p hp q e.symm; omega))
theorem PW.below {W W' : World} {B U E : Nat} {v : Value} {P : List PT} (k : PW W B U E v P) (hb : Below W.heap.size W W') : PW W' B U E v P := k.ap (S := fun _ => False) (Ap.of_below hb) (fun _ h => h.elim)
theorem PW.upto {W : World} {B U U' E : Nat} {v : Value} {P : List PT} (k : PW W B U E v P) (h : U ≤ U') : PW W B U' E v P :=
  ⟨k.own, k.row, k.nd, fun g hg => Nat.lt_of_lt_of_le (k.up g hg) h, fun p hp g hg => Nat.lt_of_lt_of_le (k.ups p hp g hg) h⟩
theorem pC_same : ∀ (P : List PT) (j : Nat) (t : TB), t.at' = (P.getD j PT.zero).1.at' → pC (P.set j (t, (P.getD j PT.zero).2)) = pC P
  | [], _, _, _ => rfl
  | p :: r, 0, t, h => by
    show .int .i64 t.at' :: p.2 :: pC r = .int .i64 p.1.at' :: p.2 :: pC r
    rw [show t.at' = p.1.at' from h]
  | p :: r, j + 1, t, h => by
    show .int .i64 p.1.at' :: p.2 :: pC (r.set j (t, (r.getD j PT.zero).2)) = .int .i64 p.1.at' :: p.2 :: pC r
    rw [pC_same r j t h]
/-- An entry is set. -/
theorem PW.put {W : World} {B U E : Nat} {v : Value} {P : List PT} (k : PW W B U E v P) {j r : Nat} (hj : j < P.length) (hr : r < E) (x : EN) {g c : Nat} (hg : (P.getD j PT.zero).2 = .slice (some ⟨g, 0, none⟩) E c) :
    PW (putN W g (r * 4) x) B U E v (P.set j (⟨(P.getD j PT.zero).1.at', (P.getD j PT.zero).1.l.set r x⟩, (P.getD j PT.zero).2)) := by
  have hap := ap_putN W g (r * 4) x
  have hm := getD_memP hj
  obtain ⟨g', c', h1, h2, h3, h4, h5, h6, h7⟩ := k.row _ hm
  rw [hg] at h1
  injection h1 with e1 _ e3
  injection e1 with e1
  injection e1 with e1 _ _
  subst e1 e3
  have hmem : ∀ p, p ∈ P.set j (⟨(P.getD j PT.zero).1.at', (P.getD j PT.zero).1.l.set r x⟩, (P.getD j PT.zero).2) → p = (⟨(P.getD j PT.zero).1.at', (P.getD j PT.zero).1.l.set r x⟩, (P.getD j PT.zero).2) ∨ (p ∈ P ∧ some g ≠ p.2.ownBlock) := fun p hp => by
    obtain ⟨i, hi, rfl⟩ := List.mem_iff_getElem.1 hp
    rw [List.length_set] at hi
    by_cases e : i = j
    · subst e; left; rw [List.getElem_set_self]
    · right
      rw [List.getElem_set_ne (by omega)]
      refine ⟨List.getElem_mem _, fun eq => ?_⟩
      have e2 : (P.getD j PT.zero).2.ownBlock = some g := by rw [hg]; rfl
      have e3 : P.getD j PT.zero = P[j] := by rw [List.getD, List.getElem?_eq_getElem hj]; rfl
      rw [e3] at e2
      have hp := List.pairwise_iff_getElem.1 k.nd
      rcases Nat.lt_or_gt_of_ne e with h | h
      · exact hp i j hi hj h (by rw [e2]; exact eq.symm)
      · exact hp j i hj hi h (by rw [e2]; exact eq)
  refine ⟨⟨?_, ?_⟩, fun p hp => ?_, ?_, k.up, fun p hp q hq => ?_⟩
  · rw [pC_len, List.length_set]
  · rw [List.length_set, pC_same P j ⟨(P.getD j PT.zero).1.at', (P.getD j PT.zero).1.l.set r x⟩ rfl]
    rcases k.own.2 with h0 | ⟨gv, cap, cur, rfl, hgv, hh, rr⟩
    · exact .inl h0
    · exact .inr ⟨gv, cap, cur, rfl, hgv, (hap.block gv (Array.getElem?_eq_some_iff.1 hh).1 (fun e => h7 (by rw [← e]; rfl))).trans hh, rr⟩
  · rcases hmem p hp with rfl | ⟨hp', hne⟩
    · exact ⟨g, c, hg, h2.put r (by rw [h3]; exact hr) x, by rw [List.length_set]; exact h3, h4, h5, h6, h7⟩
    · exact (k.row p hp').ap hap (fun q e => .inr (.inr (by rw [e]; exact hne)))
  · have : (P.set j (⟨(P.getD j PT.zero).1.at', (P.getD j PT.zero).1.l.set r x⟩, (P.getD j PT.zero).2)).map (fun p => p.2.ownBlock) = P.map (fun p => p.2.ownBlock) := by
      rw [List.map_set]
      apply List.ext_getElem?
      intro i
      rw [List.getElem?_set]
      by_cases e : j = i
      · subst e
        rw [if_pos rfl, List.length_map, if_pos hj, List.getElem?_map, List.getD, List.getElem?_eq_getElem hj]; rfl
      · rw [if_neg e]
    have h8 : (P.map (fun p : PT => p.2.ownBlock)).Pairwise (fun a b => a ≠ b) := List.pairwise_map.2 k.nd
    rw [← this] at h8
    exact List.pairwise_map.1 h8
  · rcases hmem p hp with rfl | ⟨hp', _⟩
    · exact k.ups _ hm q hq
    · exact k.ups p hp' q hq
/-! ### where tables lie, told as a list -/
theorem tabs_us {w : World} {v : Value} {T : List TB} (h : TabsS w v T) : ∃ A cap us, v = .slice A T.length cap ∧ T.length ≤ cap ∧ cap ≤ maxLen ∧ us.length = T.length ∧ (A = none → T.length = 0) ∧
    (∀ j u, (tCells T us)[j]? = some u → ∀ ad, A = some ad → w.cell? (ad.add j) = some u) ∧ (∀ ad, A = some ad → T.length ≠ 0 → ad.block < w.heap.size) ∧ (∀ u ∈ us, u.oneCell' = true) ∧ ∀ j, j < T.length → EntsS w (us.getD j (.slice none 0 0)) (T.getD j TB.zero).l := by
  obtain ⟨A, cap, hv, h1, h2, h3⟩ := h
  rcases h3 with rfl | ⟨b, off, rfl, hlt, hc⟩
  · exact ⟨A, cap, [], hv, h1, h2, rfl, fun _ => rfl, fun j u hu => by simp [tCells] at hu, fun _ _ h => absurd rfl h, fun u hu => by simp at hu, fun j hj => absurd hj (by simp)⟩
  · obtain ⟨us, hus⟩ : ∃ us : List Value, us = (List.range T.length).map (fun j => (w.cell? ⟨b, off + j * 2 + 1, none⟩).getD (.slice none 0 0)) := ⟨_, rfl⟩
    have hl : us.length = T.length := by rw [hus]; simp
    have hat : ∀ j, j < T.length → us[j]? = w.cell? ⟨b, off + j * 2 + 1, none⟩ := fun j hj => by
      obtain ⟨u, _, h2, _⟩ := hc j hj
      rw [hus, List.getElem?_map, List.getElem?_range hj, h2]; simp [h2]
    refine ⟨some ⟨b, off, none⟩, cap, us, hv, h1, h2, hl, fun h => by (cases h), fun j u hu ad had => ?_, fun ad had _ => ?_, fun u hu => ?_, fun j hj => ?_⟩
    · injection had with had
      subst had
      exact tabs_cells hl (fun j hj => by
        obtain ⟨u, e1, _, _⟩ := hc j hj
        exact ⟨e1, (hat j hj).symm⟩) j u hu
    · injection had with had
      subst had
      exact hlt
    · obtain ⟨j, hj, rfl⟩ := List.mem_iff_getElem.1 hu
      rw [hl] at hj
      obtain ⟨x, _, e2, e3⟩ := hc j hj
      have h9 := hat j hj
      rw [e2, List.getElem?_eq_getElem (by omega)] at h9
      injection h9 with h9
      rw [h9]
      obtain ⟨A', c', e4, _⟩ := e3
      rw [e4]; rfl
    · obtain ⟨x, _, e2, e3⟩ := hc j hj
      rw [List.getD, hat j hj, e2]; exact e3
end Go.Proofs.Ythhbaccbhfngbaa
namespace Go.Proofs.Ythhbaccbhfngbaa
open Go.RowKit Go.Shelf

section
variable {F : Fence} {n : Nat} {P : Program}
/-- The closure tells N things, in order, as long as the rounds keep what it reads, and none says 'no more'. -/
def TellsI (F : Fence) (n : Nat) (P : Program) (gf : Nat) (lb : Array Value) (encs : Nat → Array Value) (N : Nat) (RD : Nat → World → Prop) (w : World) : Prop :=
  ∀ (l : Nat) (J Jx : Nat → World → Prop) (W : World), Below w.heap.size w W → (∀ k A C, J k A → Below A.heap.size A C → J k C) → (∀ k A, J k A → RD k A) →
    (∀ k A, J k A → k < N → YieldAt F (n - 1) P l (encs k) A fun e C => (e = .returned (.bool true) ∧ J (k + 1) C) ∨ (e = .returned (.bool false) ∧ Jx k C)) → J 0 W →
    CallsIn F n P gf (#[.func (.yield l) #[] #[]] ++ lb) W fun e C => (∃ v, e = .returned v) ∧ (J N C ∨ ∃ k, k < N ∧ Jx k C)
/-- How a round may be left. -/
def stayI (B : Nat) (I Ix : Nat → World → Prop) (k : Nat) (W : World) : Exit → Act → World → Prop
  | .normal, _, W' => KeepsFrom B W W' ∧ I (k + 1) W'
  | .ret, _, W' => KeepsFrom B W W' ∧ Ix k W'
  | _, _, _ => False
theorem belowG {X Y : World} (a : Below X.heap.size X Y) : X.grownBy Y none := ⟨a.os, a.tape, a.output, a.size, fun k hk _ => a.block k hk⟩
theorem wpIn_range_ix {g : Operand} {ps : Array Tmp} {assign body : Code} {Q : Exit → Act → World → Prop} {a : Act} {w : World} (hro : F.round = none) (h1 : 1 ≤ n)
    {gf : Nat} {lb : Array Value} (hg : a.eval g = .func (.func gf) #[] lb) (hFg : F.fn gf) (eg : ∀ args w, (callFunc gf args).run P w = .ok (.enter gf args) w)
    {encs : Nat → Array Value} (hps : ∀ k, (encs k).size = ps.size) {N : Nat} {RD : Nat → World → Prop} (hseq : TellsI F (n - 1) P gf lb encs N RD w)
    (I Ix : Nat → World → Prop) (hI : OwnFrom w.heap.size I) (hIx : OwnFrom w.heap.size Ix) (hRD : ∀ k A, I k A → RD k A) (h0 : I 0 w) (a₁ : Nat → Act)
    (hassign : ∀ (l k : Nat) (W : World) (K : Act → World → Prop), K (a₁ k) W →
      assign.wpIn (F.inRound l) (n - 1 - 1) P (Exit.then K (fun _ _ _ => False)) { tmps := (ps.zip (encs k)).foldl (fun t (p, v) => t.setIfInBounds p v) a.tmps, defers := [] } W)
    (hbody : ∀ (l k : Nat) (W : World), I k W → k < N → body.wpIn (F.inRound l) (n - 1 - 1) P (stayI w.heap.size I Ix k W) (a₁ k) W)
    (hdone : ∀ (D : Nat) (W : World), w.heap.size ≤ D → I N W → W.heap[D]? = some (.deferred (some [])) → Q .normal { a with defers := { target := .collected D, args := #[] } :: a.defers } W)
    (hstop : ∀ (D k : Nat) (W : World), w.heap.size ≤ D → k < N → Ix k W → W.heap[D]? = some (.deferred (some [])) → Code.ret.wpIn F n P Q { a with defers := { target := .collected D, args := #[] } :: a.defers } W) :
    (Code.rangeFunc g ps assign body).wpIn F n P Q a w := by
  refine wpIn_rangeFunc fun fn hfn => ?_
  rw [hro]
  obtain ⟨rc, hrc⟩ : ∃ rc : LoopState → Option Code → Loop, rc = fun st pe => { state := st, pending := pe, fn, tmps := a.tmps, params := ps, assign, body, defers := w.heap.size } := ⟨_, rfl⟩
  obtain ⟨V, hV⟩ : ∃ V, V = (w.alloc (.deferred (some []))).alloc (.loop (rc .ready none)) := ⟨_, rfl⟩
  have hbV : Below w.heap.size w V := by rw [hV]; exact ((Below.refl _ _).alloc (Nat.le_refl _) _).alloc (by simp) _
  have hlV : V.heap[w.heap.size + 1]? = some (.loop (rc .ready none)) := by
    have h := World.alloc_heap_new (w.alloc (.deferred (some []))) (.loop (rc .ready none))
    rw [World.size_alloc] at h
    rw [hV]; exact h
  have hdV : V.heap[w.heap.size]? = some (.deferred (some [])) := by
    rw [hV]; exact (Below.heap_alloc _ _ _ (by simp)).trans (World.alloc_heap_new w _)
  have hIV : I 0 V := hI 0 w V none h0 (belowG hbV) (fun r e => by cases e)
  refine ⟨w.heap.size + 1, [{ target := .collected w.heap.size, args := #[] }], V, { target := .fn (.func gf) lb, args := #[.func (.yield (w.heap.size + 1)) #[] #[]] }, V, gf,
    #[.func (.yield (w.heap.size + 1)) #[] #[]] ++ lb, V, ?_, ?_, ?_, ?_, fun _ => h1, ?_⟩
  · rw [hV, hrc]; exact run_enterLoop_outer _ _ _ _ _
  · simp only [resolve, hg]
    simp [go_sem]
  · intro f' hf'; simp [Target.leads] at hf'; subst hf'; exact hFg
  · simp [invoke, go_sem, eg]
  · refine (hseq (w.heap.size + 1) (fun k W => I k W ∧ W.heap[w.heap.size + 1]? = some (.loop (rc .ready none)) ∧ W.heap[w.heap.size]? = some (.deferred (some [])))
      (fun k W => Ix k W ∧ W.heap[w.heap.size + 1]? = some (.loop (rc .done (some .ret))) ∧ W.heap[w.heap.size]? = some (.deferred (some []))) V hbV
      (fun k A C hA hb => ⟨hI k A C none hA.1 (belowG hb) (fun r e => by cases e), (hb.block _ (Array.getElem?_eq_some_iff.1 hA.2.1).1).trans hA.2.1, (hb.block _ (Array.getElem?_eq_some_iff.1 hA.2.2).1).trans hA.2.2⟩)
      (fun k A hA => hRD k A hA.1) ?_ ⟨hIV, hlV, hdV⟩).mono ?_
    · rintro k A ⟨hi, hl, hd⟩ hkN
      have hlt : w.heap.size + 1 < A.heap.size := (Array.getElem?_eq_some_iff.1 hl).1
      have hy := run_yield (P := P) (args := encs k) hl (by rw [hrc]; exact hps k)
      rw [hrc] at hy
      have hp := run_beginRound (P := P) hl (by rw [hrc])
      refine ⟨fn, _, assign, body, hy, roundIn_of_wpIn hfn (hassign _ k A _ ⟨_, hp, ?_⟩)⟩
      have hl2 : (A.putObj (w.heap.size + 1) (.loop { rc .ready none with state := .busy })).heap[w.heap.size + 1]? = some (.loop { rc .ready none with state := .busy }) := World.putObj_heap_same hlt
      have hd2 : (A.putObj (w.heap.size + 1) (.loop { rc .ready none with state := .busy })).heap[w.heap.size]? = some (.deferred (some [])) := (World.putObj_heap_other (by omega)).trans hd
      refine wpIn_mono (hbody _ k _ (hI.putObj _ hi (by omega) hl rfl) hkN) ?_
      have fin : ∀ (jump : Option Code) (W3 : World), KeepsFrom w.heap.size (A.putObj (w.heap.size + 1) (.loop { rc .ready none with state := .busy })) W3 →
          (Instr.endRound (w.heap.size + 1) jump).run P W3 = .ok (.bool jump.isNone) (W3.putObj (w.heap.size + 1) (.loop (rc (if jump.isNone then .ready else .done) jump))) ∧
          W3.heap[w.heap.size + 1]? = some (.loop { rc .ready none with state := .busy }) ∧
          (W3.putObj (w.heap.size + 1) (.loop (rc (if jump.isNone then .ready else .done) jump))).heap[w.heap.size + 1]? = some (.loop (rc (if jump.isNone then .ready else .done) jump)) ∧
          (W3.putObj (w.heap.size + 1) (.loop (rc (if jump.isNone then .ready else .done) jump))).heap[w.heap.size]? = some (.deferred (some [])) := fun jump W3 hk3 => by
        have hl3 := hk3.same _ _ (by omega) hl2 rfl
        have := run_endRound (P := P) jump hl3
        rw [hrc] at this ⊢
        exact ⟨this, by rw [hrc] at hl3; exact hl3, World.putObj_heap_same (Array.getElem?_eq_some_iff.1 hl3).1, (World.putObj_heap_other (by omega)).trans (hk3.same _ _ (Nat.le_refl _) hd2 rfl)⟩
      intro e a3 A3 hp3
      cases e with
      | normal =>
        obtain ⟨hk3, hi3⟩ := hp3
        obtain ⟨hr, hl3, hl4, hk4⟩ := fin none A3 hk3
        exact ⟨_, _, hr, .inl ⟨rfl, hI.putObj _ hi3 (by omega) hl3 rfl, hl4, hk4⟩⟩
      | ret =>
        obtain ⟨hk3, hi3⟩ := hp3
        obtain ⟨hr, hl3, hl4, hk4⟩ := fin (some .ret) A3 hk3
        exact ⟨_, _, hr, .inr ⟨rfl, hIx.putObj _ hi3 (by omega) hl3 rfl, hl4, hk4⟩⟩
      | exit id => exact hp3.elim
      | goto t => exact hp3.elim
      | panic ch => exact hp3.elim
      | outgrown => exact hp3.elim
    · rintro e C ⟨⟨v, rfl⟩, (⟨hi, hl, hd⟩ | ⟨k, hk, hi, hl, hd⟩)⟩
      · exact ⟨none, _, by have := run_endLoop (P := P) hl (by rw [hrc]; simp); rw [hrc] at this; exact this, hdone _ _ (Nat.le_refl _) (hI.putObj _ hi (by omega) hl rfl) ((World.putObj_heap_other (by omega)).trans hd)⟩
      · exact ⟨some .ret, _, by have := run_endLoop (P := P) hl (by rw [hrc]; simp); rw [hrc] at this; exact this, hstop _ k _ (Nat.le_refl _) hk (hIx.putObj _ hi (by omega) hl rfl) ((World.putObj_heap_other (by omega)).trans hd)⟩
end
end Go.Proofs.Ythhbaccbhfngbaa
