/- Charts: clone: a map in memory of its own, table by table. Charts: slices.Insert of one table into a row that a call owns. Charts: slices.Insert of one table between others: with room, and without. Charts: a table of holes put between the others. Charts: tables that lie in memory that was made since. Charts: what stands beside a map that is changed; Set where it changes nothing. Charts: Set where it changes. -/
import Derived.Test.YthhbaccbhfngbaaMb11
import Derived.Deep.DeepCutAuto
import Derived.Shelf.Spec.SlicesInsert
import Derived.Lib.AppendZerosOnto
import Derived.Lib.Overlaps
namespace Go.Proofs.Ythhbaccbhfngbaa
open Go.RowKit

/-- clone under way: the first j tables have entries of their own. -/
structure CI (w W : World) (b3 E : Nat) (b : Int) (v : Value) (T : List TB) (us : List Value) (D : List PT) (j : Nat) : Prop where
  bl : Below w.heap.size w W
  r : B2 W (w.heap.size + 1) (.int .i64 0) (.slice none 0 0)
  x : B2 W b3 (.int .i64 b) v
  dl : D.length = j
  df : D.map Prod.fst = T.take j
  own : W.ownsRow (w.heap.size + 2) 55 2 v T.length (pC (D ++ (T.zip us).drop j))
  row : ∀ p ∈ D, RowO W (w.heap.size + 2) E v.ownBlock p
  nd : D.Pairwise (fun p q => p.2.ownBlock ≠ q.2.ownBlock)
  ups : ∀ p ∈ D, ∀ g, p.2.ownBlock = some g → g < W.heap.size ∧ g ≠ b3
  hb3 : w.heap.size + 2 ≤ b3
  hbv : v.ownBlock ≠ some b3
theorem CI.below {w W W' : World} {b3 E j : Nat} {b : Int} {v : Value} {T : List TB} {us : List Value} {D : List PT} (k : CI w W b3 E b v T us D j) (h : Below W.heap.size W W') : CI w W' b3 E b v T us D j :=
  ⟨k.bl.trans (h.mono k.bl.size), k.r.below h, k.x.below h, k.dl, k.df, own_keepE k.own h, fun p hp => (k.row p hp).ap (S := fun _ => False) (Ap.of_below h) (fun _ h => h.elim), k.nd, fun p hp g hg => ⟨Nat.lt_of_lt_of_le (k.ups p hp g hg).1 h.size, (k.ups p hp g hg).2⟩, k.hb3, k.hbv⟩
/-- The next table has a clone. -/
theorem CI.next {w W : World} {b3 E j gv cap gn c : Nat} {b : Int} {T : List TB} {us : List Value} {D : List PT} (k : CI w W b3 E b (.slice (some ⟨gv, 0, none⟩) T.length cap) T us D j) (hl : us.length = T.length) (hj : j < T.length)
    (hlen : (T.getD j TB.zero).l.length = E) (h1 : RowE W gn (T.getD j TB.zero).l) (h2 : E ≤ c) (h3 : c ≤ maxLen) (h4 : w.heap.size + 2 ≤ gn) (h5 : gn ≠ gv) (h6 : gn ≠ b3) (h7 : ∀ p ∈ D, p.2.ownBlock ≠ some gn) :
    CI w (W.setCell ⟨gv, j * 2 + 1, none⟩ (.slice (some ⟨gn, 0, none⟩) E c)) b3 E b (.slice (some ⟨gv, 0, none⟩) T.length cap) T us (D ++ [(T.getD j TB.zero, .slice (some ⟨gn, 0, none⟩) E c)]) (j + 1) := by
  have hap := ap_put W gv (j * 2 + 1) (.slice (some ⟨gn, 0, none⟩) E c)
  have hgv : w.heap.size + 2 ≤ gv := (World.ownsRow.lt k.own gv rfl).1
  have hgb : gv ≠ b3 := fun e => k.hbv (by rw [e]; rfl)
  have hz : (T.zip us).length = T.length := by rw [List.length_zip, hl]; omega
  have hzj : (T.zip us).drop j = (T.getD j TB.zero, us.getD j (.slice none 0 0)) :: (T.zip us).drop (j + 1) := by
    rw [List.drop_eq_getElem_cons (by omega), List.getElem_zip, List.getD, List.getElem?_eq_getElem hj, List.getD, List.getElem?_eq_getElem (by omega)]; rfl
  refine ⟨k.bl.trans (hap.below k.bl.size (fun q e => by omega)), k.r.ap hap (by omega), k.x.ap hap (by omega), by rw [List.length_append, k.dl]; rfl, ?_, ?_, fun p hp => ?_, ?_, fun p hp g hg => ?_, k.hb3, k.hbv⟩
  · rw [List.map_append, k.df, take_snocT hj]; rfl
  · have h := (World.ownsRow.stored k.own (j * 2 + 1) (.slice (some ⟨gn, 0, none⟩) E c)).1
    have e : (pC (D ++ (T.zip us).drop j)).set (j * 2 + 1) (.slice (some ⟨gn, 0, none⟩) E c) = pC ((D ++ [(T.getD j TB.zero, .slice (some ⟨gn, 0, none⟩) E c)]) ++ (T.zip us).drop (j + 1)) := by
      have hD : (pC D).length = j * 2 := by rw [pC_len, k.dl]
      rw [hzj, pC_app, List.set_append_right _ _ (by omega), hD, List.append_assoc, pC_app]
      congr 1
      rw [show j * 2 + 1 - j * 2 = 1 by omega]
      rfl
    rw [← e]; exact h
  · rcases List.mem_append.1 hp with hp | hp
    · exact (k.row p hp).ap hap (fun q e => .inr (.inl (by rw [e]; rfl)))
    · rw [List.mem_singleton.1 hp]
      exact ⟨gn, c, rfl, h1.ap hap h5, hlen, h2, h3, h4, fun e => h5 (by injection e)⟩
  · rw [List.pairwise_append]
    refine ⟨k.nd, List.pairwise_singleton _ _, fun p hp q hq => ?_⟩
    rw [List.mem_singleton.1 hq]
    exact h7 p hp
  · rcases List.mem_append.1 hp with hp | hp
    · exact ⟨Nat.lt_of_lt_of_le (k.ups p hp g hg).1 hap.size, (k.ups p hp g hg).2⟩
    · rw [List.mem_singleton.1 hp] at hg
      have e : gn = g := by injection hg
      subst e
      exact ⟨Nat.lt_of_lt_of_le h1.1 hap.size, h6⟩
theorem CI.start {w W : World} {b3 E : Nat} {b : Int} {v : Value} {T : List TB} {us : List Value} (h1 : Below w.heap.size w W) (h2 : B2 W (w.heap.size + 1) (.int .i64 0) (.slice none 0 0)) (h3 : B2 W b3 (.int .i64 b) v) (h4 : W.ownsRow (w.heap.size + 2) 55 2 v T.length (tCells T us)) (h5 : w.heap.size + 2 ≤ b3) (h6 : v.ownBlock ≠ some b3) : CI w W b3 E b v T us [] 0 :=
  ⟨h1, h2, h3, rfl, rfl, by rw [pC_tc] at h4; exact h4, fun p hp => by (cases hp), List.Pairwise.nil, fun p hp => by (cases hp), h5, h6⟩
theorem CI.done {w W : World} {b3 E : Nat} {b : Int} {v : Value} {T : List TB} {us : List Value} {D : List PT} (k : CI w W b3 E b v T us D T.length) (hl : us.length = T.length) : PW W (w.heap.size + 2) W.heap.size E v D ∧ D.map Prod.fst = T := by
  have hz : (T.zip us).drop T.length = [] := List.drop_of_length_le (by rw [List.length_zip, hl]; omega)
  have ho := k.own
  rw [hz, List.append_nil] at ho
  refine ⟨⟨by rw [k.dl]; exact ho, k.row, k.nd, fun g hg => (World.ownsRow.lt ho g hg).2, fun p hp g hg => (k.ups p hp g hg).1⟩, ?_⟩
  rw [k.df, List.take_of_length_le (Nat.le_refl _)]
theorem CI.at {w W : World} {b3 E j gv cap : Nat} {b : Int} {T : List TB} {us : List Value} {D : List PT} (k : CI w W b3 E b (.slice (some ⟨gv, 0, none⟩) T.length cap) T us D j) (hl : us.length = T.length) (hj : j < T.length) :
    W.cell? ⟨gv, j * 2, none⟩ = some (.int .i64 (T.getD j TB.zero).at') ∧ W.cell? ⟨gv, j * 2 + 1, none⟩ = some (us.getD j (.slice none 0 0)) := by
  have hz : (T.zip us).length = T.length := by rw [List.length_zip, hl]; omega
  have hL : j < (D ++ (T.zip us).drop j).length := by rw [List.length_append, List.length_drop, k.dl]; omega
  have e : (D ++ (T.zip us).drop j).getD j PT.zero = (T.getD j TB.zero, us.getD j (.slice none 0 0)) := by
    rw [List.getD, List.getElem?_append_right (by rw [k.dl]; exact Nat.le_refl _), k.dl, Nat.sub_self, List.getElem?_drop, Nat.add_zero, List.getElem?_eq_getElem (by omega), List.getElem_zip, List.getD, List.getElem?_eq_getElem hj, List.getD, List.getElem?_eq_getElem (by omega)]; rfl
  obtain ⟨a1, a2⟩ := pC_at _ j hL
  rw [e] at a1 a2
  exact ⟨(World.ownsRow.cellAt k.own _ (by omega)).trans a1, (World.ownsRow.cellAt k.own _ (by omega)).trans a2⟩
theorem CI.more {w wr W : World} {b3 E j gv cap gn c B4 : Nat} {b : Int} {T : List TB} {us : List Value} {D : List PT} {l : List EN} (k0 : CI w wr b3 E b (.slice (some ⟨gv, 0, none⟩) T.length cap) T us D j) (k : CI w W b3 E b (.slice (some ⟨gv, 0, none⟩) T.length cap) T us D j) (hl : us.length = T.length) (hj : j < T.length)
    (hE : 1 ≤ E) (hlen : l.length = E) (hd : l = (T.getD j TB.zero).l) (ho : W.ownsRow B4 50 4 (.slice (some ⟨gn, 0, none⟩) E c) E (eCells l)) (hB : wr.heap.size ≤ B4) :
    CI w (W.setCell ⟨gv, j * 2 + 1, none⟩ (.slice (some ⟨gn, 0, none⟩) E c)) b3 E b (.slice (some ⟨gv, 0, none⟩) T.length cap) T us (D ++ [(T.getD j TB.zero, .slice (some ⟨gn, 0, none⟩) E c)]) (j + 1) := by
  subst hd
  obtain ⟨g', c', _, hv, _, _, h1, h2, _⟩ := own_split ho (by omega)
  injection hv with e1 _ e3
  injection e1 with e1
  injection e1 with e1 _ _
  subst e1 e3
  have hg := (World.ownsRow.lt ho gn rfl).1
  have hgv := (World.ownsRow.lt k0.own gv rfl).2
  have hgb := k0.x.lt
  have hrow : RowE W gn (T.getD j TB.zero).l := RowE.of_own (n := E) (c := c) (base := B4) (by rw [hlen]; exact ho) hlen.symm
  exact CI.next k hl hj hlen hrow h1 h2 (by have := k.hb3; omega) (by omega) (by omega) (fun p hp e => by have := (k0.ups p hp gn e).1; omega)
/-- The map's box is made behind the clone of its list. -/
theorem CI.late {w w1 w2 : World} {E : Nat} {b : Int} {A2 : Option Addr} {n2 cap2 : Nat} {T : List TB} {us : List Value} (HB0 : Below w.heap.size w w1) (HSZ : w1.heap.size = w.heap.size + 2) (HR1 : B2 w1 (w.heap.size + 1) (.int .i64 0) (.slice none 0 0))
    (HO2 : w2.ownsRow w1.heap.size 55 2 (.slice A2 n2 cap2) T.length (tCells T us)) (HB2 : Below w1.drew.heap.size w1.drew w2) : CI w (w2.alloc (.cells #[.int .i64 b, .slice A2 n2 cap2] 44)) w2.heap.size E b (.slice A2 n2 cap2) T us [] 0 := by
  have hd : Below w1.heap.size w1 w2 := ((Below.refl _ w1).drew).trans HB2
  have hsz := hd.size
  have hbw := below1 w2 (.cells #[.int .i64 b, .slice A2 n2 cap2] 44)
  have hbl : Below w.heap.size w w2 := HB0.trans (hd.mono HB0.size)
  exact CI.start (hbl.trans (hbw.mono hbl.size)) ((HR1.below hd).below hbw) (B2.new w2 _ _ _) (own_keepE (own_mono HO2 (Nat.le_of_eq HSZ.symm)) hbw) (by omega) (fun e => by have := (World.ownsRow.lt HO2 _ e).2; omega)
/-- The map's box is made ahead of it. -/
theorem CI.early {w w1 w2 : World} {E : Nat} {b : Int} {A2 : Option Addr} {n2 cap2 : Nat} {T : List TB} {us : List Value} (HB0 : Below w.heap.size w w1) (HSZ : w1.heap.size = w.heap.size + 2) (HR1 : B2 w1 (w.heap.size + 1) (.int .i64 0) (.slice none 0 0))
    (HX2 : B2 w2 w1.heap.size (.int .i64 0) (.slice none 0 0)) (HO2 : w2.ownsRow (w1.heap.size + 1) 55 2 (.slice A2 n2 cap2) T.length (tCells T us))
    (HB2 : Below (w1.alloc (.cells #[.int .i64 0, .slice none 0 0] 44)).drew.heap.size (w1.alloc (.cells #[.int .i64 0, .slice none 0 0] 44)).drew w2) :
    CI w ((w2.setCell ⟨w1.heap.size, 0, none⟩ (.int .i64 b)).setCell ⟨w1.heap.size, 1, none⟩ (.slice A2 n2 cap2)) w1.heap.size E b (.slice A2 n2 cap2) T us [] 0 := by
  have hap : Ap (fun q => q = w1.heap.size) w2 ((w2.setCell ⟨w1.heap.size, 0, none⟩ (.int .i64 b)).setCell ⟨w1.heap.size, 1, none⟩ (.slice A2 n2 cap2)) := (ap_put w2 w1.heap.size 0 (.int .i64 b)).trans (ap_put _ w1.heap.size 1 (.slice A2 n2 cap2))
  have h1 := below1 w1 (.cells #[.int .i64 0, .slice none 0 0] 44)
  have hd : Below w1.heap.size w1 w2 := (h1.drew).trans (HB2.mono h1.size)
  have hbl : Below w.heap.size w w2 := HB0.trans (hd.mono HB0.size)
  refine CI.start (hbl.trans (hap.below hbl.size (fun q e => by omega))) ((HR1.below hd).ap hap (by omega)) ⟨Nat.lt_of_lt_of_le HX2.lt hap.size, (cell_putne _ _ _ _ _ (by omega)).trans (cell_put HX2.c0 _), cell_put ((cell_putne _ _ _ _ _ (by omega)).trans HX2.c1) _, (World.frozen?_setCell _ _ _ _).trans ((World.frozen?_setCell _ _ _ _).trans HX2.f0), (World.frozen?_setCell _ _ _ _).trans ((World.frozen?_setCell _ _ _ _).trans HX2.f1)⟩ (own_ap (own_mono HO2 (by omega)) hap (fun g hg e => by have := (World.ownsRow.lt HO2 g hg).1; omega)) (by omega) (fun e => by have := (World.ownsRow.lt HO2 _ e).1; omega)
end Go.Proofs.Ythhbaccbhfngbaa
namespace Go.Proofs.Ythhbaccbhfngbaa
open Go.RowKit

theorem run_copy_sz {P : Program} (w : World) (dT sT ty elem : TypeId) (size b o dLen dCap : Nat) (a : Addr) (sLen sCap : Nat) (cs : List Value)
    (hu : P.underlying dT = some (.slice elem)) (hs : (P.info? elem).map (·.size) = some size) (hn : cs.length = Nat.min sLen dLen * size)
    (hsrc : ∀ j v, cs[j]? = some v → w.cell? (a.add j) = some v) (hc : ∀ j, j < cs.length → (w.cell? ⟨b, o + j, none⟩).isSome = true) (hf : ∀ j, j < cs.length → w.frozen? ⟨b, o + j, none⟩ = false) (h1 : ∀ v ∈ cs, v.oneCell' = true) :
    (Builtin.copy_ #[dT, sT] ty #[.slice (some ⟨b, o, none⟩) dLen dCap, .slice (some a) sLen sCap]).run P w = .ok (goInt (Nat.min sLen dLen)) (w.setCells b o cs) := by
  have hl := run_loadCells_list (P := P) w a cs hsrc
  have hst := run_storeCells_cells (P := P) b o cs 0 w (by simpa using hc) (by simpa using hf) h1
  cases hq : P.info? elem with
  | none => simp [hq] at hs
  | some i =>
    have hi : i.size = size := by simpa [hq] using hs
    rw [hn] at hl
    simp [Builtin.copy_, run_underlying hu, Builtin.lenOf, Builtin.firstCells, sizeOf, typeInfo, hq, hi, hl, hst]
theorem tabSize2 : (Try.prog.info? 55).map (·.size) = some 2 := by
  obtain ⟨i, hi, _, hz, _⟩ := tabInfo'
  rw [hi]; simp [hz]
/-- One table put between, in cells. -/
def insC (xs : List Value) (i : Nat) (a u : Value) : List Value := xs.take (i * 2) ++ [a, u] ++ xs.drop (i * 2)
theorem insC_len {xs : List Value} {n i : Nat} (h : xs.length = n * 2) (hi : i ≤ n) (a u : Value) : (insC xs i a u).length = (n + 1) * 2 := by
  unfold insC; rw [List.length_append, List.length_append, List.length_take, List.length_drop, List.length_cons, List.length_cons, List.length_nil]; omega
theorem insC_at {xs : List Value} {n i : Nat} (h : xs.length = n * 2) (hi : i ≤ n) (a u : Value) (q : Nat) : (insC xs i a u)[q]? = if q < i * 2 then xs[q]? else if q < (i + 1) * 2 then [a, u][q - i * 2]? else xs[q - 2]? := by
  unfold insC
  have hl : (xs.take (i * 2)).length = i * 2 := by rw [List.length_take]; omega
  rw [List.append_assoc]
  by_cases h1 : q < i * 2
  · rw [if_pos h1, List.getElem?_append_left (by omega), List.getElem?_take, if_pos h1]
  · rw [if_neg h1, List.getElem?_append_right (by omega), hl]
    by_cases h2 : q < (i + 1) * 2
    · rw [if_pos h2, List.getElem?_append_left (by simp; omega)]
    · rw [if_neg h2, List.getElem?_append_right (by simp; omega), List.getElem?_drop]
      congr 1
      simp only [List.length_cons, List.length_nil]; omega
/-- What is stored, cell by cell. -/
theorem ins_read {W : World} {g n i : Nat} {xs : List Value} {a u : Value} (hx : xs.length = n * 2) (hi : i ≤ n) (hold : ∀ q, q < i * 2 → W.cell? ⟨g, q, none⟩ = xs[q]?) (hsome : ∀ q, q < (n + 1) * 2 → (W.cell? ⟨g, q, none⟩).isSome = true) :
    (∀ q, q < (n + 1) * 2 → ((W.setCells g ((i + 1) * 2) (xs.drop (i * 2))).setCells g (i * 2) [a, u]).cell? ⟨g, q, none⟩ = (insC xs i a u)[q]?) ∧
    (∀ q, q < (n + 1) * 2 → ((W.setCells g (i * 2) [a, u]).setCells g ((i + 1) * 2) (xs.drop (i * 2))).cell? ⟨g, q, none⟩ = (insC xs i a u)[q]?) := by
  have hdl : (xs.drop (i * 2)).length = (n - i) * 2 := by rw [List.length_drop]; omega
  have hs1 : ∀ q, q < (n + 1) * 2 → ((W.setCells g ((i + 1) * 2) (xs.drop (i * 2))).cell? ⟨g, q, none⟩).isSome = true := fun q hq => isSome_setCells g _ _ _ (fun j hj => hsome _ (by omega)) q (hsome q hq)
  have hs2 : ∀ q, q < (n + 1) * 2 → ((W.setCells g (i * 2) [a, u]).cell? ⟨g, q, none⟩).isSome = true := fun q hq => isSome_setCells g _ _ _ (fun j hj => hsome _ (by simp at hj; omega)) q (hsome q hq)
  constructor
  · intro q hq
    rw [insC_at hx hi]
    by_cases h1 : q < i * 2
    · rw [if_pos h1, World.cell?_setCells_out _ _ _ _ _ (fun _ _ => .inl h1), World.cell?_setCells_out _ _ _ _ _ (fun _ _ => .inl (by show q < _; omega)), hold q h1]
    · rw [if_neg h1]
      by_cases h2 : q < (i + 1) * 2
      · rw [if_pos h2]
        have := World.cell?_setCells_in g [a, u] (i * 2) (W.setCells g ((i + 1) * 2) (xs.drop (i * 2))) (fun j hj => hs1 _ (by simp at hj; omega)) (q - i * 2) (by simp; omega)
        rw [show i * 2 + (q - i * 2) = q by omega] at this
        rw [this, List.getElem?_eq_getElem (by simp; omega)]
      · rw [if_neg h2, World.cell?_setCells_out _ _ _ _ _ (fun _ _ => .inr (by show _ ≤ q; simp; omega))]
        have := World.cell?_setCells_in g (xs.drop (i * 2)) ((i + 1) * 2) W (fun j hj => hsome _ (by omega)) (q - (i + 1) * 2) (by omega)
        rw [show (i + 1) * 2 + (q - (i + 1) * 2) = q by omega] at this
        rw [this, ← List.getElem?_eq_getElem, List.getElem?_drop]
        congr 1; omega
  · intro q hq
    rw [insC_at hx hi]
    by_cases h1 : q < i * 2
    · rw [if_pos h1, World.cell?_setCells_out _ _ _ _ _ (fun _ _ => .inl (by show q < _; omega)), World.cell?_setCells_out _ _ _ _ _ (fun _ _ => .inl h1), hold q h1]
    · rw [if_neg h1]
      by_cases h2 : q < (i + 1) * 2
      · rw [if_pos h2, World.cell?_setCells_out _ _ _ _ _ (fun _ _ => .inl h2)]
        have := World.cell?_setCells_in g [a, u] (i * 2) W (fun j hj => hsome _ (by simp at hj; omega)) (q - i * 2) (by simp; omega)
        rw [show i * 2 + (q - i * 2) = q by omega] at this
        rw [this, List.getElem?_eq_getElem (by simp; omega)]
      · rw [if_neg h2]
        have := World.cell?_setCells_in g (xs.drop (i * 2)) ((i + 1) * 2) (W.setCells g (i * 2) [a, u]) (fun j hj => hs2 _ (by omega)) (q - (i + 1) * 2) (by omega)
        rw [show (i + 1) * 2 + (q - (i + 1) * 2) = q by omega] at this
        rw [this, ← List.getElem?_eq_getElem, List.getElem?_drop]
        congr 1; omega
/-- What a call of Insert leaves. -/
def InsQ (w : World) (B : Nat) (v : Value) (n i : Nat) (xs : List Value) (a u : Value) (e : Ending) (w' : World) : Prop :=
  ∃ v', e = .returned v' ∧ w'.ownsRow B 55 2 v' (n + 1) (insC xs i a u) ∧ Ap (fun q => some q = v.ownBlock) w w' ∧ (v'.ownBlock = v.ownBlock ∨ ∃ q, v'.ownBlock = some q ∧ w.heap.size ≤ q)
end Go.Proofs.Ythhbaccbhfngbaa
namespace Go.Proofs.Ythhbaccbhfngbaa
open Go.RowKit

theorem wrA {i : Nat} (h : i ≤ 65536) : IntKind.i64.wrap ((i : Int) + 1) = (i : Int) + 1 := by rw [IntKind.wrap_i64]; omega
theorem wrB {i : Nat} (h : i ≤ 65536) : wrap64 ((i : Int) + 1) = (i : Int) + 1 := by unfold wrap64; omega
theorem wrC {n i : Nat} (h : n ≤ 65536) (hi : i ≤ n) : wrap64 ((n : Int) + 1 - (i : Int)) = (n : Int) + 1 - (i : Int) := by unfold wrap64; omega
end Go.Proofs.Ythhbaccbhfngbaa
namespace Go.Proofs.Ythhbaccbhfngbaa
open Go.RowKit

theorem pC_drop : ∀ (P : List PT) (i : Nat), (pC P).drop (i * 2) = pC (P.drop i)
  | _, 0 => by simp [pC]
  | [], i + 1 => by simp [pC]
  | p :: r, i + 1 => by
    rw [show (i + 1) * 2 = i * 2 + 1 + 1 by omega]
    show (pC r).drop (i * 2) = pC (r.drop i)
    rw [pC_drop r i]
theorem pC_ins (P : List PT) (i : Nat) (t : TB) (u : Value) : insC (pC P) i (.int .i64 t.at') u = pC (P.take i ++ (t, u) :: P.drop i) := by
  unfold insC
  rw [pC_take, pC_drop, pC_app, List.append_assoc]; rfl
def newP (k : Int) (gn E : Nat) : PT := (⟨k, List.replicate E EN.zero⟩, .slice (some ⟨gn, 0, none⟩) E E)
theorem PW.ins {w w' : World} {B U E i gn : Nat} {k : Int} {v v' : Value} {P : List PT} (hp : PW w B U E v P) (hi : i ≤ P.length) (hU : U ≤ w.heap.size) (hE : E ≤ 8192) (hrow : RowE w gn (List.replicate E EN.zero)) (hgn : U ≤ gn) (hgB : B ≤ gn)
    (ho : w'.ownsRow B 55 2 v' (P.length + 1) (insC (pC P) i (.int .i64 k) (.slice (some ⟨gn, 0, none⟩) E E))) (ha : Ap (fun q => some q = v.ownBlock) w w') (hob : v'.ownBlock = v.ownBlock ∨ ∃ q, v'.ownBlock = some q ∧ w.heap.size ≤ q) :
    PW w' B w'.heap.size E v' (P.take i ++ newP k gn E :: P.drop i) := by
  have hmem : ∀ p, p ∈ P.take i ++ newP k gn E :: P.drop i → p = newP k gn E ∨ p ∈ P := fun p h => by
    rcases List.mem_append.1 h with h | h
    · exact .inr ((List.take_sublist ..).subset h)
    · rcases List.mem_cons.1 h with h | h
      · exact .inl h
      · exact .inr ((List.drop_sublist ..).subset h)
  have hne : ∀ g, g < w.heap.size → some g ≠ v.ownBlock → some g ≠ v'.ownBlock := fun g hg h e => by
    rcases hob with h1 | ⟨q, h1, h2⟩
    · exact h (e.trans h1)
    · rw [h1] at e; injection e with e; omega
  refine ⟨?_, fun p h => ?_, ?_, fun g hg => (World.ownsRow.lt ho g hg).2, fun p h g hg => ?_⟩
  · have e := pC_ins P i (newP k gn E).1 (newP k gn E).2
    have hl : (P.take i ++ newP k gn E :: P.drop i).length = P.length + 1 := by rw [List.length_append, List.length_cons, List.length_take, List.length_drop]; omega
    rw [hl]
    have e2 : pC (P.take i ++ newP k gn E :: P.drop i) = insC (pC P) i (.int .i64 k) (.slice (some ⟨gn, 0, none⟩) E E) := e.symm
    rw [e2]; exact ho
  · rcases hmem p h with rfl | h
    · have h0 : some gn ≠ v.ownBlock := fun e => by have := hp.up gn e.symm; omega
      exact ⟨gn, E, rfl, hrow.ap ha (fun e => h0 e), List.length_replicate, Nat.le_refl _, by unfold maxLen; omega, hgB, hne gn hrow.1 h0⟩
    · have h1 := (hp.row p h).ap ha (fun q e => .inr (.inl e))
      obtain ⟨g, c, e1, e2, e3, e4, e5, e6, e7⟩ := h1
      have hg := hp.ups p h g (by rw [e1]; rfl)
      exact ⟨g, c, e1, e2, e3, e4, e5, e6, hne g (by omega) e7⟩
  · have hperm : (P.take i ++ newP k gn E :: P.drop i).Perm (newP k gn E :: P) := by
      have := List.perm_middle (a := newP k gn E) (l₁ := P.take i) (l₂ := P.drop i)
      rwa [List.take_append_drop] at this
    refine (List.Perm.pairwise_iff (R := fun p q : PT => p.2.ownBlock ≠ q.2.ownBlock) (fun h e => h e.symm) hperm).2 ?_
    rw [List.pairwise_cons]
    refine ⟨fun q hq e => ?_, hp.nd⟩
    have := hp.ups q hq gn e.symm
    omega
  · rcases hmem p h with rfl | h
    · have e : gn = g := by injection hg
      subst e
      exact Nat.lt_of_lt_of_le hrow.1 ha.size
    · exact Nat.lt_of_lt_of_le (hp.ups p h g hg) (Nat.le_trans hU ha.size)
theorem pC_one (P : List PT) (h : ∀ p ∈ P, p.2.oneCell' = true) : ∀ x ∈ pC P, x.oneCell' = true := by
  intro x hx
  unfold pC at hx
  obtain ⟨p, hp, h2⟩ := List.mem_flatMap.1 hx
  simp only [List.mem_cons, List.not_mem_nil, or_false] at h2
  rcases h2 with rfl | rfl
  · rfl
  · exact h p hp
end Go.Proofs.Ythhbaccbhfngbaa
namespace Go.Proofs.Ythhbaccbhfngbaa
open Go.RowKit

/-- A slice that reads as these tables, whatever is written below B. -/
def TabsF (B : Nat) (w : World) (v : Value) (T : List TB) : Prop := ∀ W', Ap (fun q => q < B) w W' → TabsS W' v T
theorem TabsF.tabs {B : Nat} {w : World} {v : Value} {T : List TB} (k : TabsF B w v T) : TabsS w v T := k w (Ap.refl w)
theorem TabsF.none (B : Nat) (w : World) : TabsF B w (.slice none 0 0) [] := fun _ _ => ⟨Option.none, 0, rfl, Nat.le_refl _, Nat.zero_le _, .inl rfl⟩
theorem TabsF.below {B : Nat} {w w' : World} {v : Value} {T : List TB} (k : TabsF B w v T) (hb : Below w.heap.size w w') : TabsF B w' v T := fun W' a => k W' ((Ap.of_below hb).trans a)
theorem PO.tabsF {W : World} {B B' U : Nat} {v : Value} {P : List PT} (k : PO W B U v P) (hB : B' ≤ B) : TabsF B' W v (P.map Prod.fst) := fun _ a => (k.ap a (fun _ h => .inl (Nat.lt_of_lt_of_le h hB))).tabs
end Go.Proofs.Ythhbaccbhfngbaa
namespace Go.Proofs.Ythhbaccbhfngbaa
open Go.RowKit

theorem PW.apn {S : Nat → Prop} {W W' : World} {B U E : Nat} {v : Value} {P : List PT} (k : PW W B U E v P) (a : Ap S W W') (hS : ∀ q, S q → some q ≠ v.ownBlock ∧ ∀ p ∈ P, some q ≠ p.2.ownBlock) : PW W' B U E v P :=
  ⟨own_ap k.own a (fun g hg h => (hS g h).1 hg.symm), fun p hp => (k.row p hp).ap a (fun q h => .inr (.inr ((hS q h).2 p hp))), k.nd, k.up, k.ups⟩
theorem COk.lens {E BN : Nat} {T : List TB} (h : COk E BN T) : ∀ j, j < T.length → (T.getD j TB.zero).l.length = E := fun j hj => by
  obtain ⟨k, _, _, hk⟩ := h.each j hj
  have := tblB_len hk
  omega
/-- The boxes, the map under way, and where it lies. -/
structure ST (w W : World) (BN : Int) (v : Value) (x : EN) (b11 : Nat) (v11 : Value) (Bp U E : Nat) (P : List PT) : Prop where
  sb : SB w W BN v x
  nx : B2 W b11 (.int .i64 BN) v11
  pw : PW W Bp U E v11 P
  hb : w.heap.size + 2 < Bp
  hbb : w.heap.size + 2 < b11
  hBb : Bp ≤ W.heap.size
  hU : U ≤ W.heap.size
  n1 : v11.ownBlock ≠ some b11
  n2 : ∀ p ∈ P, p.2.ownBlock ≠ some b11
theorem ST.below {w W W' : World} {BN : Int} {v : Value} {x : EN} {b11 : Nat} {v11 : Value} {Bp U E : Nat} {P : List PT} (k : ST w W BN v x b11 v11 Bp U E P) (h : Below W.heap.size W W') : ST w W' BN v x b11 v11 Bp U E P :=
  ⟨k.sb.below h, k.nx.below h, k.pw.below h, k.hb, k.hbb, Nat.le_trans k.hBb h.size, Nat.le_trans k.hU h.size, k.n1, k.n2⟩
/-- Behind clone. -/
theorem ST.start {w W W2 : World} {BN : Int} {v v11 : Value} {x : EN} {E : Nat} {P : List PT} (h1 : SB w W BN v x) (h2 : PW W2 (W.heap.size + 2) W2.heap.size E v11 P) (h3 : Below W.heap.size W W2) (h4 : W.heap.size + 2 ≤ W2.heap.size) :
    ST w (W2.alloc (.cells #[.int .i64 BN, v11] 44)) BN v x W2.heap.size v11 (W.heap.size + 2) W2.heap.size E P := by
  have hbw := below1 W2 (.cells #[.int .i64 BN, v11] 44)
  have hr := h1.r.lt
  have hs := h3.size
  exact ⟨(h1.below h3).below hbw, B2.new W2 _ _ _, h2.below hbw, by omega, by omega, by rw [World.size_alloc]; omega, by simp, fun e => by have := h2.up _ e; omega, fun p hp e => by have := h2.ups p hp _ e; omega⟩
theorem SB.tabs2 {w W : World} {BN : Int} {v : Value} {x : EN} {b11 : Nat} {v11 : Value} {Bp U E : Nat} {P : List PT} (k : ST w W BN v x b11 v11 Bp U E P) (u0 u1 : Value) : TabsF w.heap.size ((W.setCell ⟨w.heap.size + 2, 0, none⟩ u0).setCell ⟨w.heap.size + 2, 1, none⟩ u1) v11 (P.map Prod.fst) := by
  have hap : Ap (fun q => q = w.heap.size + 2) W ((W.setCell ⟨w.heap.size + 2, 0, none⟩ u0).setCell ⟨w.heap.size + 2, 1, none⟩ u1) := (ap_put W (w.heap.size + 2) 0 _).trans (ap_put _ (w.heap.size + 2) 1 _)
  have h := k.pw.ap hap (fun q e => .inl (by have := k.hb; omega))
  exact h.po.tabsF (by have := k.hb; omega)
end Go.Proofs.Ythhbaccbhfngbaa
namespace Go.Proofs.Ythhbaccbhfngbaa
open Go.RowKit

theorem SB.ap {S : Nat → Prop} {w W W' : World} {B : Int} {v : Value} {x : EN} (k : SB w W B v x) (a : Ap S W W') (hS : ∀ q, S q → w.heap.size + 2 < q) : SB w W' B v x :=
  ⟨k.bl.trans (a.below k.bl.size (fun q e => by have := hS q e; omega)), k.c.ap a (fun e => by have := hS _ e; omega), Bx.ap k.e a (fun e => by have := hS _ e; omega), k.r.ap a (fun e => by have := hS _ e; omega)⟩
theorem PO.apn {S : Nat → Prop} {W W' : World} {B U : Nat} {v : Value} {P : List PT} (k : PO W B U v P) (a : Ap S W W') (hS : ∀ q, S q → some q ≠ v.ownBlock ∧ ∀ p ∈ P, some q ≠ p.2.ownBlock) : PO W' B U v P :=
  ⟨own_ap k.own a (fun g hg h => (hS g h).1 hg.symm), fun p hp => (k.each p hp).ap a (fun q h => .inr (.inr ((hS q h).2 p hp))), k.up, k.ups⟩
theorem PW.ob {W : World} {B U E : Nat} {v : Value} {P : List PT} (k : PW W B U E v P) : ∀ q, some q = v.ownBlock → B ≤ q := fun q h => (World.ownsRow.lt k.own q h.symm).1
theorem map_filterP (P : List PT) : (P.filter keepB).map Prod.fst = pruneT (P.map Prod.fst) := by
  unfold pruneT keepB
  rw [List.filter_map]; rfl
theorem map_ins (P : List PT) (i : Nat) (k : Int) (gn E : Nat) : (P.take i ++ newP k gn E :: P.drop i).map Prod.fst = (P.map Prod.fst).take i ++ ⟨k, List.replicate E EN.zero⟩ :: (P.map Prod.fst).drop i := by
  rw [List.map_append, List.map_cons, List.map_take, List.map_drop]; rfl
/-- An entry of the map under way is set. -/
theorem ST.put {w W : World} {BN : Int} {v v3 : Value} {x : EN} {b11 Bp U E i r g c : Nat} {P : List PT} (h : ST w W BN v x b11 v3 Bp U E P) (hi : i < P.length) (hr : r < E) (hg : (P.getD i PT.zero).2 = .slice (some ⟨g, 0, none⟩) E c) (s : EN) :
    ST w (putN W g (r * 4) s) BN v x b11 v3 Bp U E (P.set i (⟨(P.getD i PT.zero).1.at', (P.getD i PT.zero).1.l.set r s⟩, (P.getD i PT.zero).2)) := by
  have hap := ap_putN W g (r * 4) s
  have hm := getD_memP hi
  have hn := h.n2 _ hm
  have hn0 := h.n2 _ hm
  obtain ⟨g', c', e1, _, _, _, _, e6, _⟩ := h.pw.row _ hm
  rw [hg] at e1 hn
  injection e1 with e1 _ _
  injection e1 with e1
  injection e1 with e1 _ _
  subst e1
  have hgb : g ≠ b11 := fun e => hn (by rw [e]; rfl)
  refine ⟨h.sb.ap hap (fun q e => by have := h.hb; omega), h.nx.ap hap (fun e => hgb e.symm), h.pw.put hi hr s hg, h.hb, h.hbb, Nat.le_trans h.hBb hap.size, Nat.le_trans h.hU hap.size, h.n1, fun p hp => ?_⟩
  rcases List.mem_or_eq_of_mem_set hp with hp | rfl
  · exact h.n2 p hp
  · exact hn0
theorem map_put {P : List PT} {i r : Nat} {s : EN} (hi : i < P.length) : (P.set i (⟨(P.getD i PT.zero).1.at', (P.getD i PT.zero).1.l.set r s⟩, (P.getD i PT.zero).2)).map Prod.fst = putT (P.map Prod.fst) i r s := by
  unfold putT
  rw [List.map_set, getD_fst hi]
theorem there_lt {T : List TB} {q : Nat} (hR : Rises T) (h : isThere T (q : Int) = true) : before T (q : Int) < T.length ∧ (T.getD (before T (q : Int)) TB.zero).at' = (q : Int) := by
  obtain ⟨i, hi, ha⟩ := there_iff.1 h
  rw [before_at hi ha hR]
  exact ⟨hi, ha⟩
/-- The result, stored. -/
theorem ST.ends {w W W' : World} {BN : Int} {v v3 v4 : Value} {x : EN} {b11 Bp U E : Nat} {P : List PT} (h : ST w W BN v x b11 v3 Bp U E P) (ha : Ap (fun q => some q = v3.ownBlock) W W') (hp : PO W' Bp U v4 (P.filter keepB)) : SB w W' BN v x ∧
    TabsF w.heap.size ((W'.setCell ⟨w.heap.size + 2, 0, none⟩ (.int .i64 BN)).setCell ⟨w.heap.size + 2, 1, none⟩ v4) v4 (pruneT (P.map Prod.fst)) := by
  have h1 := h.sb.ap ha (fun q e => by have := h.pw.ob q e; have := h.hb; omega)
  have hap : Ap (fun q => q = w.heap.size + 2) W' ((W'.setCell ⟨w.heap.size + 2, 0, none⟩ (.int .i64 BN)).setCell ⟨w.heap.size + 2, 1, none⟩ v4) := (ap_put W' (w.heap.size + 2) 0 _).trans (ap_put _ (w.heap.size + 2) 1 _)
  have h2 := hp.ap hap (fun q e => .inl (by have := h.hb; omega))
  refine ⟨h1, ?_⟩
  rw [← map_filterP]
  exact h2.tabsF (by have := h.hb; omega)
end Go.Proofs.Ythhbaccbhfngbaa
