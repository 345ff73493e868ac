/- Charts: Resize, any. Charts: append(l, make(..)...) of entries; the document's own Resize. Charts: the document's own Resize. Charts: what told tells is the blocks that are no holes, rising, with their entries. Slices that read as numbers, wherever they lie; whether two are one. A region that draws its order, in a round of a range over a function: its operations are carried out as anywhere. -/
import Derived.Test.YthhbaccbhfngbaaChvO
import Derived.Test.YthhbaccbhfngbaaMb09
import Derived.Lib.AppendZerosOnto
import Derived.Test.YthhbaccbhfngbaaMb14
import Derived.Test.YthhbaccbhfngbaaMb12
import Derived.RegionTactic
import Derived.Laws.NewBlocks
import Derived.Laws.AppendOwn
import Derived.Laws.AppendOwnNone
import Derived.OwnWalk
import Derived.Maps.AppendAt
import Derived.Lib.SliceRun
import Derived.Test.YthhbaccbhfngbaaMb00
import Derived.RangeFuncNested
import Derived.RangeFuncCalls
import Derived.RegionIn
import Derived.Stop.RegionWithIn
namespace Go.Proofs.Ythhbaccbhfngbaa
open Go.RowKit

def resC (e : Int) (c : CH) (nb : Int) : CH := if okB e c = true then (if mayB nb = true then ⟨nb, ofM e.toNat (resL nb.toNat (flatM e.toNat c.blocks.toNat c.tabs))⟩ else c) else CH.zero
def resE (e : Int) (c : CH) (nb : Int) : Int := if okB e c = true then (if mayB nb = true then 0 else 1) else 2
theorem RB.ends {w W : World} {BN nb : Int} {v : Value} (k : RB w W BN v nb) (u0 u1 : Value) : Below w.heap.size w ((W.setCell ⟨w.heap.size + 2, 0, none⟩ u0).setCell ⟨w.heap.size + 2, 1, none⟩ u1) ∧ ((W.setCell ⟨w.heap.size + 2, 0, none⟩ u0).setCell ⟨w.heap.size + 2, 1, none⟩ u1).cell? ⟨w.heap.size + 2, 0, none⟩ = some u0 ∧ ((W.setCell ⟨w.heap.size + 2, 0, none⟩ u0).setCell ⟨w.heap.size + 2, 1, none⟩ u1).cell? ⟨w.heap.size + 2, 1, none⟩ = some u1 := by
  refine ⟨(k.bl.setCell (p := ⟨_, 0, none⟩) (by show _ ≤ w.heap.size + 2; omega) _).setCell (p := ⟨_, 1, none⟩) (by show _ ≤ w.heap.size + 2; omega) _, ?_, ?_⟩
  · exact (cell_putne _ _ _ _ _ (by omega)).trans (cell_put k.r.c0 _)
  · exact cell_put ((cell_putne _ _ _ _ _ (by omega)).trans k.r.c1) _
end Go.Proofs.Ythhbaccbhfngbaa
namespace Go.Proofs.Ythhbaccbhfngbaa
open Go.RowKit

theorem zeroCells_at (k j : Nat) (hj : j < k * 4) : (Builtin.zeroCells zeroC k)[j]? = some (zeroC[j % 4]!) := by
  unfold Builtin.zeroCells
  rw [Array.getElem?_map, Array.getElem?_range, if_pos (by show j < k * 4; exact hj)]; rfl
theorem zeroC_at {q : Nat} (h : q < 4) : EN.zero.cells[q]? = some (zeroC[q]!) := by
  match q, h with
  | 0, _ => rfl
  | 1, _ => rfl
  | 2, _ => rfl
  | 3, _ => rfl
theorem made_at (F : List EN) (k r : Nat) {i q : Nat} (hi : i < F.length + k) (hq : q < 4) : ((eCells F).toArray ++ Builtin.zeroCells zeroC k ++ Builtin.zeroCells zeroC r)[i * 4 + q]? = ((F ++ List.replicate k EN.zero).getD i EN.zero).cells[q]? := by
  have hs : ((eCells F).toArray ++ Builtin.zeroCells zeroC k).size = (F.length + k) * 4 := by
    rw [Array.size_append, List.size_toArray, eCells_len, size_zeroCells]; show F.length * 4 + k * 4 = _; omega
  rw [Array.getElem?_append_left (by rw [hs]; omega)]
  by_cases h : i < F.length
  · rw [Array.getElem?_append_left (by rw [List.size_toArray, eCells_len]; omega), List.getElem?_toArray, eCells_at F i h q hq]
    congr 2
    rw [List.getD, List.getD, List.getElem?_append_left h]
  · rw [Array.getElem?_append_right (by rw [List.size_toArray, eCells_len]; omega), List.size_toArray, eCells_len, zeroCells_at _ _ (by omega), show (i * 4 + q - F.length * 4) % 4 = q by omega, ← zeroC_at hq]
    congr 2
    rw [List.getD, List.getElem?_append_right (by omega), List.getElem?_replicate, if_pos (by omega)]; rfl
theorem ent_of_cells {W : World} {g i : Nat} {x : EN} (h : ∀ q, q < 4 → W.cell? ⟨g, i * 4 + q, none⟩ = x.cells[q]?) : EntAt W g (i * 4) x := ⟨h 0 (by omega), h 1 (by omega), h 2 (by omega), h 3 (by omega)⟩
theorem row_cells {W : World} {g : Nat} {F : List EN} (h : RowE W g F) : ∀ j u, (eCells F)[j]? = some u → W.cell? ((⟨g, 0, none⟩ : Addr).add j) = some u := by
  intro j u hu
  have hj : j < F.length * 4 := by have := (List.getElem?_eq_some_iff.1 hu).1; rwa [eCells_len] at this
  have e : ((⟨g, 0, none⟩ : Addr).add j) = ⟨g, j, none⟩ := by unfold Addr.add; split <;> simp_all
  obtain ⟨i, q, hq, rfl⟩ : ∃ i q, q < 4 ∧ j = i * 4 + q := ⟨j / 4, j % 4, Nat.mod_lt _ (by omega), by omega⟩
  rw [eCells_at _ i (by omega) q hq] at hu
  have := h.2.1 i (by omega)
  rw [e, ← hu]
  match q, hq with
  | 0, _ => exact this.c0
  | 1, _ => exact this.c1
  | 2, _ => exact this.c2
  | 3, _ => exact this.c3
/-- append(l, make([]Entry, k)...), where l is full. -/
theorem app_made (W : World) (g n k : Nat) (F : List EN) (hF : RowE W g F) (hn : F.length = n) (hb : n ≤ 65536) (hk : k ≤ 65536) (ty : TypeId) :
    ∃ g' c' W', (Builtin.append_ #[45, 3] ty #[.slice (some ⟨g, 0, none⟩) n n, .int .i64 (k : Int)]).run Try.prog W = .ok (.slice (some ⟨g', 0, none⟩) (n + k) c') W' ∧ n + k ≤ c' ∧ c' ≤ maxLen ∧ Below W.heap.size W W' ∧ g' < W'.heap.size ∧ ∀ i, i < n + k → EntAt W' g' (i * 4) ((F ++ List.replicate k EN.zero).getD i EN.zero) := by
  subst hn
  obtain ⟨iE, hi, hz0, hz1, hz2⟩ := entInfo'
  by_cases h0 : k = 0
  · subst h0
    refine ⟨g, F.length, W, ?_, Nat.le_refl _, by unfold maxLen; omega, Below.refl _ _, hF.1, fun i hi => ?_⟩
    · simp [Builtin.append_, run_underlying Try.underlying45, run_underlying Try.underlying3, sizeOf, typeInfo, hi, asInt, asIntOf, IntKind.wrap_i64, storeCells]
    · rw [List.replicate_zero, List.append_nil]; exact hF.2.1 i hi
  · have hold : (Builtin.firstCells iE.size F.length (.slice (some ⟨g, 0, none⟩) F.length F.length)).run Try.prog W.drew = .ok (eCells F).toArray W.drew := by
      rw [hz1]
      exact run_firstCells_some W.drew 4 F.length ⟨g, 0, none⟩ F.length F.length (eCells F) (eCells_len F) (fun j v hj => row_cells hF j v hj)
    have h := Lib.run_append_grow_zeros W 45 3 ty 50 iE _ .i64 .i64 Try.underlying45 Try.underlying3 hi hz0 (some ⟨g, 0, none⟩) F.length F.length (eCells F) hold k (by omega) (by rw [hz1]; omega) (by omega) (by omega) (by rw [hz2]; omega) (by rw [hz2]; exact growslice_fits (by omega) (by omega))
    have hG1 := grownCap_ge W (F.length + k) F.length 50
    have hG2 := grownCap_le_maxLen W (F.length + k) F.length 50 (by unfold maxLen; omega)
    generalize grownCap W (F.length + k) F.length 50 = G at h hG1 hG2
    refine ⟨_, _, _, h, hG1, hG2, (Below.refl W.heap.size W).drew.alloc (Nat.le_refl _) _, by simp, fun i hi => ent_of_cells fun q hq => ?_⟩
    exact (cell_of_row _ W.heap.size _ _ 50 (0, 0) (heap_alloc_new W.drew _)).trans (made_at F k _ hi hq)
theorem step_append_run {P : Program} {ops : Array Oper} {o : Oper} {a : Act} {K : Act → World → Prop} {Q : Exit → Act → World → Prop} {E : Prop} (w : World) (hgd : o.guard = none) (s x : Operand) (t tn : TypeId)
    (ho : o.op = .call { callee := .builtin .append, args := #[s, x], argTypes := #[t, tn] }) (vs vx : Value) (hs : a.eval s = vs) (hx : a.eval x = vx)
    (v' : Value) (w' : World) (hr : (Builtin.append_ #[t, tn] o.type #[vs, vx]).run P w = .ok v' w') (h : K (a.put o.dst v') w') : if Region.wanted o (yielded ops a.tmps) = true then Oper.wp P o a w K Q else E := by
  have hw : Region.wanted o (yielded ops a.tmps) = true := by simp [Region.wanted, hgd]
  rw [if_pos hw]
  exact Lib.wp_append_run w s x t tn ho vs vx hs hx v' w' hr h
end Go.Proofs.Ythhbaccbhfngbaa
namespace Go.Proofs.Ythhbaccbhfngbaa
open Go.RowKit

/-- A chart's box, and a result's place. -/
structure DB (w W : World) (B : Int) (v : Value) : Prop where
  bl : Below w.heap.size w W
  c : B2 W w.heap.size (.int .i64 B) v
  r : B2 W (w.heap.size + 1) (.int .i64 0) (.slice none 0 0)
theorem DB.below {w W W' : World} {B : Int} {v : Value} (k : DB w W B v) (hb : Below W.heap.size W W') : DB w W' B v := ⟨k.bl.trans (hb.mono k.bl.size), k.c.below hb, k.r.below hb⟩
theorem DB.new (w : World) (B : Int) (v : Value) : DB w ((w.alloc (.cells #[.int .i64 B, v] 44)).alloc (.cells #[.int .i64 0, .slice none 0 0] 44)) B v := by
  have h2 := B2.new (w.alloc (.cells #[.int .i64 B, v] 44)) (.int .i64 0) (.slice none 0 0) 44
  rw [World.size_alloc] at h2
  exact ⟨(below1 _ _).alloc (by simp) _, (B2.new w _ _ _).below (below1 _ _), h2⟩
theorem DB.ends {w W : World} {B : Int} {v : Value} (k : DB w W B v) (u0 u1 : Value) : Below w.heap.size w ((W.setCell ⟨w.heap.size + 1, 0, none⟩ u0).setCell ⟨w.heap.size + 1, 1, none⟩ u1) ∧ ((W.setCell ⟨w.heap.size + 1, 0, none⟩ u0).setCell ⟨w.heap.size + 1, 1, none⟩ u1).cell? ⟨w.heap.size + 1, 0, none⟩ = some u0 ∧ ((W.setCell ⟨w.heap.size + 1, 0, none⟩ u0).setCell ⟨w.heap.size + 1, 1, none⟩ u1).cell? ⟨w.heap.size + 1, 1, none⟩ = some u1 := by
  refine ⟨(k.bl.setCell (p := ⟨_, 0, none⟩) (by show _ ≤ w.heap.size + 1; omega) _).setCell (p := ⟨_, 1, none⟩) (by show _ ≤ w.heap.size + 1; omega) _, ?_, ?_⟩
  · exact (cell_putne _ _ _ _ _ (by omega)).trans (cell_put k.r.c0 _)
  · exact cell_put ((cell_putne _ _ _ _ _ (by omega)).trans k.r.c1) _
end Go.Proofs.Ythhbaccbhfngbaa
namespace Go.Proofs.Ythhbaccbhfngbaa
open Go.RowKit

def blkN (E : Nat) (T : List TB) (p : Nat) : Nat := (T.getD (p / E) TB.zero).at'.toNat * E + p % E
section
variable {E BN : Nat} {T : List TB}
theorem blkN_int (h : COk E BN T) {p : Nat} (hp : p < T.length * E) : blkF E T p = (blkN E T p : Int) := by
  have hj : p / E < T.length := (Nat.div_lt_iff_lt_mul h.e1).2 hp
  obtain ⟨k, hk, _⟩ := h.each _ hj
  unfold blkF blkN
  rw [hk, Int.toNat_natCast, Int.natCast_add, Int.natCast_mul]
theorem blkN_look (h : COk E BN T) {p : Nat} (hp : p < T.length * E) : lookM E T (blkN E T p) = entF E T p := by
  have hj : p / E < T.length := (Nat.div_lt_iff_lt_mul h.e1).2 hp
  have hi := Nat.mod_lt p h.e1
  obtain ⟨k, hk, _⟩ := h.each _ hj
  have e : blkN E T p = k * E + p % E := by unfold blkN; rw [hk, Int.toNat_natCast]
  rw [e]
  have h1 := (divmod_eq (k := k) hi).1
  have h2 := (divmod_eq (k := k) hi).2
  rw [look_mem (rises_pair h.rise) (getD_memT hj) (by rw [h1]; exact hk), h2]
  rfl
theorem blkN_lt (h : COk E BN T) {p : Nat} (hp : p < T.length * E) (hf : fullB (entF E T p) = true) : blkN E T p < BN := by
  have hj : p / E < T.length := (Nat.div_lt_iff_lt_mul h.e1).2 hp
  have hi := Nat.mod_lt p h.e1
  obtain ⟨k, hk, _, hc⟩ := h.half.each _ (getD_memT hj)
  have e : blkN E T p = k * E + p % E := by unfold blkN; rw [hk, Int.toNat_natCast]
  rw [e]
  rcases Nat.lt_or_ge (k * E + p % E) BN with h1 | h1
  · exact h1
  · have := (hc _ hi).2 h1
    unfold entF at hf
    rw [this] at hf
    exact absurd hf (by decide)
theorem blkN_rise (h : COk E BN T) {p q : Nat} (hq : q < T.length * E) (hpq : p < q) : blkN E T p < blkN E T q := by
  have hjq : q / E < T.length := (Nat.div_lt_iff_lt_mul h.e1).2 hq
  have hle : p / E ≤ q / E := Nat.div_le_div_right (Nat.le_of_lt hpq)
  have hp' := Nat.div_add_mod p E
  have hq' := Nat.div_add_mod q E
  have hi := Nat.mod_lt p h.e1
  rcases Nat.lt_or_ge (p / E) (q / E) with hlt | hge
  · obtain ⟨k1, hk1, _⟩ := h.each (p / E) (by omega)
    obtain ⟨k2, hk2, _⟩ := h.each _ hjq
    have hr := h.rise _ _ hlt hjq
    unfold blkN
    rw [hk1, hk2] at hr ⊢
    rw [Int.toNat_natCast, Int.toNat_natCast]
    have : (k1 + 1) * E ≤ k2 * E := Nat.mul_le_mul_right _ (by omega)
    rw [Nat.add_mul] at this
    omega
  · have e : p / E = q / E := by omega
    unfold blkN
    rw [e] at hp' ⊢
    omega
theorem sorted_eq : ∀ (A B : List Nat), A.Pairwise (· < ·) → B.Pairwise (· < ·) → (∀ x, x ∈ A ↔ x ∈ B) → A = B
  | [], [], _, _, _ => rfl
  | [], b :: B, _, _, h => absurd ((h b).2 (List.mem_cons_self ..)) (by simp)
  | a :: A, [], _, _, h => absurd ((h a).1 (List.mem_cons_self ..)) (by simp)
  | a :: A, b :: B, hA, hB, h => by
    rw [List.pairwise_cons] at hA hB
    have hab : a = b := by
      have h1 := (h a).1 (List.mem_cons_self ..)
      have h2 := (h b).2 (List.mem_cons_self ..)
      rcases List.mem_cons.1 h1 with h1 | h1
      · exact h1
      · rcases List.mem_cons.1 h2 with h2 | h2
        · exact h2.symm
        · have := hB.1 a h1; have := hA.1 b h2; omega
    subst hab
    congr 1
    refine sorted_eq A B hA.2 hB.2 (fun x => ?_)
    constructor
    · intro hx
      rcases List.mem_cons.1 ((h x).1 (List.mem_cons_of_mem _ hx)) with e | e
      · have := hA.1 x hx; omega
      · exact e
    · intro hx
      rcases List.mem_cons.1 ((h x).2 (List.mem_cons_of_mem _ hx)) with e | e
      · have := hB.1 x hx; omega
      · exact e
/-- The blocks that are told. -/
theorem told_list (h : COk E BN T) : (fr true (fullQ E T)).map (blkN E T) = (List.range BN).filter (fun b => fullB (lookM E T b)) := by
  have hm : ∀ p, p ∈ fr true (fullQ E T) ↔ p < T.length * E ∧ fullB (entF E T p) = true := fun p => by
    unfold fr
    rw [frI_mem, fullQ_len]
    constructor
    · rintro ⟨a, b⟩; exact ⟨a, (fullQ_at E T a).symm.trans b⟩
    · rintro ⟨a, b⟩; exact ⟨a, (fullQ_at E T a).trans b⟩
  refine sorted_eq _ _ ?_ ((List.pairwise_lt_range).filter _) (fun b => ?_)
  · rw [List.pairwise_map]
    refine List.Pairwise.imp_of_mem (fun {p q} hp hq hpq => ?_) (frI_pw true (fullQ E T) (fullQ E T).length)
    exact blkN_rise h ((hm q).1 hq).1 hpq
  · rw [List.mem_map, List.mem_filter, List.mem_range]
    constructor
    · rintro ⟨p, hp, rfl⟩
      obtain ⟨h1, h2⟩ := (hm p).1 hp
      exact ⟨blkN_lt h h1 h2, by rw [blkN_look h h1]; exact h2⟩
    · rintro ⟨h1, h2⟩
      by_cases hx : ∃ t ∈ T, t.at' = ((b / E : Nat) : Int)
      · obtain ⟨t, ht, ha⟩ := hx
        obtain ⟨j, hj, rfl⟩ := mem_getD ht
        have hi := Nat.mod_lt b h.e1
        have hp := pos_lt hj hi
        have e1 : blkN E T (j * E + b % E) = b := by
          unfold blkN
          rw [(divmod_eq hi).1, (divmod_eq hi).2, ha, Int.toNat_natCast, Nat.mul_comm]
          exact Nat.div_add_mod b E
        refine ⟨j * E + b % E, (hm _).2 ⟨hp, ?_⟩, e1⟩
        rw [← blkN_look h hp, e1]; exact h2
      · rw [look_out (fun t ht e => hx ⟨t, ht, e⟩)] at h2
        exact absurd h2 (by decide)
/-- The entries that are told. -/
theorem told_ents (h : COk E BN T) : (fr true (fullQ E T)).map (entF E T) = ((List.range BN).filter (fun b => fullB (lookM E T b))).map (lookM E T) := by
  rw [← told_list h, List.map_map]
  refine List.map_congr_left fun p hp => ?_
  have hp' : p ∈ frI true (fullQ E T) (fullQ E T).length := hp
  obtain ⟨a, _⟩ := frI_mem.1 hp'
  rw [fullQ_len] at a
  exact (blkN_look h a).symm
/-- How many entries are was, and no holes. -/
theorem told_count (h : COk E BN T) (was : EN) : ((fr true (fullQ E T)).map (entF E T)).countP (swapQ was) = (flatM E BN T).countP (swapQ was) := by
  rw [told_ents h]
  unfold flatM
  rw [List.countP_map, List.countP_map, List.countP_filter]
  refine List.countP_congr fun b _ => ?_
  simp only [Function.comp, Bool.and_eq_true]
  constructor
  · rintro ⟨a, _⟩; exact a
  · intro a
    refine ⟨a, ?_⟩
    unfold swapQ at a
    exact (of_decide_eq_true a).2
end
end Go.Proofs.Ythhbaccbhfngbaa
namespace Go.Proofs.Ythhbaccbhfngbaa
open Go.RowKit

def idxOf : Value → Nat | .int _ q => q.toNat | _ => 0
/-- A slice that reads as these numbers, wherever it lies. -/
def IdxS (w : World) (v : Value) (L : List Int) : Prop :=
  ∃ A cap, v = .slice A L.length cap ∧ L.length ≤ cap ∧ cap ≤ maxLen ∧ (L = [] ∨ ∃ b off, A = some ⟨b, off, none⟩ ∧ b < w.heap.size ∧ ∀ j, j < L.length → w.cell? ⟨b, off + j, none⟩ = some (.int .i64 (L.getD j 0)))
theorem IdxS.below {B : Nat} {w w' : World} {v : Value} {L : List Int} (k : IdxS w v L) (hb : Below B w w') (hB : w.heap.size ≤ B) : IdxS w' v L := by
  obtain ⟨A, cap, hv, h1, h2, h3⟩ := k
  refine ⟨A, cap, hv, h1, h2, ?_⟩
  rcases h3 with h3 | ⟨b, off, hA, hlt, hc⟩
  · exact .inl h3
  · exact .inr ⟨b, off, hA, Nat.lt_of_lt_of_le hlt hb.size, fun j hj => (hb.cell (p := ⟨b, off + j, none⟩) (by show b < B; omega)).trans (hc j hj)⟩
theorem idxS_of {w : World} {base n : Nat} {v : Value} {L : List Int} {t : TypeId} (h : w.ownsRow base t 1 v n (L.map (Value.int .i64))) : IdxS w v L := by
  obtain ⟨hl, h⟩ := h
  rw [List.length_map, Nat.mul_one] at hl
  subst hl
  rcases h with ⟨rfl, h0⟩ | ⟨g, cap, cur, rfl, hg, hh, hn, hm, hs, ht⟩
  · exact ⟨none, 0, by rw [h0], by omega, by unfold maxLen; omega, .inl (List.eq_nil_of_length_eq_zero h0)⟩
  · refine ⟨_, cap, rfl, hn, hm, .inr ⟨g, 0, rfl, (Array.getElem?_eq_some_iff.1 hh).1, fun j hj => ?_⟩⟩
    rw [Nat.mul_one] at ht
    rw [Nat.zero_add, cell_of_row w g j cur t (0, 0) hh]
    have h1 : (L.map (Value.int .i64))[j]? = some (.int .i64 (L.getD j 0)) := by rw [List.getElem?_map, List.getD, List.getElem?_eq_getElem hj]; rfl
    rw [← ht, List.getElem?_take, if_pos hj] at h1
    rw [← h1]; simp
set_option maxHeartbeats 1000000 in
theorem idxSame_any {w : World} {u v : Value} {K L : List Int} (hu : IdxS w u K) (hv : IdxS w v L) :
    Calls Try.prog 13 #[u, v] w fun e w' => e = .returned (.bool (decide (K = L))) ∧ Below w.heap.size w w' := by
  obtain ⟨A, c1, rfl, k1, k2, k3⟩ := hu
  obtain ⟨B, c2, rfl, l1, l2, l3⟩ := hv
  by_cases hl : K.length = L.length
  case neg =>
    have e1 : ((K.length : Int) != (L.length : Int)) = true := by rw [bne_iff_ne]; omega
    have e2 : ((K.length : Int) == (L.length : Int)) = false := by rw [beq_eq_false_iff_ne]; omega
    have hd : decide (K = L) = false := decide_eq_false (fun e => hl (by rw [e]))
    rw [hd]
    clear k3 l3 hl hd
    go_enter Try.func13, Try.ntmps13
    go_wp2
    go_ret
    exact ⟨rfl, Below.refl _ _⟩
  case pos =>
  obtain ⟨r, hr⟩ : ∃ r, r = decide (K = L) := ⟨_, rfl⟩
  rw [← hr]
  have HRR := Lib.hid hr
  clear hr
  obtain ⟨m, hm⟩ : ∃ m, m = K.length := ⟨_, rfl⟩
  have HM := Lib.hid hm
  have HML : Hid (m = L.length) := Lib.hid (hm.trans hl)
  have HK := Lib.hid k3
  have HL := Lib.hid l3
  rw [← HML.out] at l1 ⊢
  rw [← hm] at k1 ⊢
  clear k3 l3 hl hm
  have e1 : ((m : Int) != (m : Int)) = false := by simp
  go_enter Try.func13, Try.ntmps13
  go_wp2_with fail
  go_loopw [13] (fun ix wr => ∃ j : Nat, j ≤ m ∧ ix = .int .i64 (j : Int) ∧ (∀ q, q < j → K.getD q 0 = L.getD q 0) ∧ (∀ p, wr.cell? p = w.cell? p) ∧ Below w.heap.size w wr) (fun ix _ => m - idxOf ix)
  case atStart => exact ⟨0, Nat.zero_le _, rfl, (fun q hq => by omega), (fun _ => rfl), Below.refl _ _⟩
  case round =>
    obtain ⟨j, hj, rfl, hq, hc, hb⟩ := hrel
    have HQ := Lib.hid hq
    have HC := Lib.hid hc
    have HB := Lib.hid hb
    clear hq hc hb
    by_cases hlt : j < m
    · obtain ⟨b, o, rfl, _, hk⟩ := HK.out.resolve_left (by intro e; have := HM.out; rw [e] at this; simp at this; omega)
      obtain ⟨b', o', rfl, _, hl⟩ := HL.out.resolve_left (by intro e; have := HML.out; rw [e] at this; simp at this; omega)
      have ck : wr.cell? ⟨b, o + j, none⟩ = some (.int .i64 (K.getD j 0)) := (HC.out _).trans (hk j (by rw [← HM.out]; exact hlt))
      have cl : wr.cell? ⟨b', o' + j, none⟩ = some (.int .i64 (L.getD j 0)) := (HC.out _).trans (hl j (by rw [← HML.out]; exact hlt))
      have HE : Hid (∀ x y, K.getD j 0 = x → L.getD j 0 = y → (x = y → ∀ q, q < j + 1 → K.getD q 0 = L.getD q 0) ∧ (x ≠ y → decide (K = L) = false)) := Lib.hid (fun x y hx hy => ⟨fun e q hq => by
        by_cases g : q = j
        · rw [g, hx, hy, e]
        · exact HQ.out q (by omega), fun ne => decide_eq_false (fun e => ne (by rw [← hx, ← hy, e]))⟩)
      generalize hx : K.getD j 0 = x at ck
      generalize hy : L.getD j 0 = y at cl
      obtain ⟨E1, E2⟩ := HE.out x y hx hy
      have HE1 := Lib.hid E1
      have HE2 := Lib.hid E2
      clear E1 E2 HE hk hl hx hy
      have hi0 : (0 : Int) ≤ (j : Int) := by omega
      have hi1 : (j : Int) < (m : Int) := by omega
      have hw1 : wrap64 ((j : Int) + 1) = (j : Int) + 1 := by unfold wrap64; unfold maxLen at *; omega
      have hw2 : IntKind.i64.wrap ((j : Int) + 1) = (j : Int) + 1 := by rw [IntKind.wrap_i64]; unfold maxLen at *; omega
      by_cases hxy : x = y
      · have HQ2 := Lib.hid (HE1.out hxy)
        subst hxy
        have hb : (x != x) = false := by simp
        clear HE1 HE2 HQ
        go_wp2_with fail
        go_region
        all_goals go_wp2
        all_goals go_roundw
        case rel => exact ⟨j + 1, by omega, by go_num, HQ2.out, HC.out, HB.out.drew⟩
        case measure => simp [idxOf]; omega
      · have hr := HRR.out.trans (HE2.out hxy)
        have hb : (x == y) = false := by rw [beq_eq_false_iff_ne]; exact hxy
        have hb2 : (x != y) = true := by rw [bne_iff_ne]; exact hxy
        clear HE1 HE2 HQ HRR hxy
        subst hr
        go_wp2_with fail
        go_region
        all_goals go_wp2
        all_goals go_ret
        all_goals exact ⟨rfl, HB.out.drew⟩
    · obtain rfl : j = m := by omega
      have hd : decide (K = L) = true := decide_eq_true (List.ext_getElem (HM.out.symm.trans HML.out) (fun q h1 h2 => by
        have := HQ.out q (by rw [HM.out]; exact h1)
        rw [List.getD, List.getD, List.getElem?_eq_getElem h1, List.getElem?_eq_getElem h2] at this; exact this))
      have hr := HRR.out.trans hd
      clear hd HK HL HM HML HQ HRR
      subst hr
      go_wp2
      go_ret
      exact ⟨rfl, HB.out⟩
theorem infoIn : (Try.prog.info? 3).map (fun i => (i.zero, i.size, i.bytes)) = some (some (.int .i64 0), 1, 8) := by kernel_rfl
theorem one_cell (W : World) (x : Int) (t : TypeId) : ∀ j u, ([.int .i64 x] : List Value)[j]? = some u → (W.alloc (.cells #[.int .i64 x] t)).cell? ((⟨W.heap.size, 0, none⟩ : Addr).add j) = some u := by
  intro j u hj
  have e : ((⟨W.heap.size, 0, none⟩ : Addr).add j) = ⟨W.heap.size, j, none⟩ := by unfold Addr.add; split <;> simp_all
  rw [e, cell_of_row _ _ _ #[.int .i64 x] t (0, 0) (heap_alloc_new W _)]
  simpa using hj
end Go.Proofs.Ythhbaccbhfngbaa
namespace Go.Proofs.Ythhbaccbhfngbaa
open Go.RowKit

def noDefer (o : Oper) : Bool := match o.op with
  | .defer _ => false
  | _ => true
theorem noDefer_ne {o : Oper} (h : noDefer o = true) : ∀ c, o.op ≠ .defer c := by
  intro c e
  unfold noDefer at h
  rw [e] at h
  cases h
section
variable {F : Fence} {n : Nat} {P : Program} {md : Region.Mode} {ops : Array Oper} {Q : Exit → Act → World → Prop}
theorem uponIn_round {l : Nat} (o : Oper) (a : Act) (K : Act → World → Prop) (r : Result Next) (h : o.uponIn F n P a K Q r) : o.uponIn (F.inRound l) n P a K Q r := by
  cases r with
  | ok x w' => cases x <;> exact h
  | halt x w' => cases x <;> exact h
theorem wpOpIn_round {l : Nat} (hd : ops.toList.all noDefer = true) {i : Nat} {K K' : Act → World → Prop} (hK : ∀ a w, K a w → K' a w) {a : Act} {w : World} (h : wpOpIn F n P ops Q i K a w) : wpOpIn (F.inRound l) n P ops Q i K' a w := by
  have h := wpOpIn_mono hK h
  unfold wpOpIn at h ⊢
  cases hi : ops[i]? with
  | none => rw [hi] at h; exact h
  | some o =>
    rw [hi] at h
    have hn := noDefer_ne (List.all_eq_true.1 hd o (by rw [Array.getElem?_eq_some_iff] at hi; obtain ⟨hl, rfl⟩ := hi; exact Array.getElem_mem_toList hl))
    simp only at h ⊢
    split
    · rename_i hw
      rw [if_pos hw] at h
      unfold Oper.wpIn at h ⊢
      refine ⟨h.1, ?_⟩
      have h2 := h.2
      rw [Fence.inRound_round, Oper.semAt_eq _ _ _ hn]
      rw [Oper.semAt_eq _ _ _ hn] at h2
      exact uponIn_round o a K' _ h2
    · rename_i hw
      rw [if_neg hw] at h
      exact h
theorem wpAnyIn_round {l : Nat} (hd : ops.toList.all noDefer = true) : ∀ (fuel : Nat) (listed : Array Bool) (a : Act) (w : World), wpAnyIn F n P md ops Q fuel listed a w → wpAnyIn (F.inRound l) n P md ops Q fuel listed a w
  | 0, _, _, _, h => h
  | fuel + 1, listed, _, _, h => ⟨h.1, fun i hi => wpOpIn_round hd (fun a w => wpAnyIn_round hd fuel (listed.setIfInBounds i true) a w) (h.2 i hi)⟩
end
end Go.Proofs.Ythhbaccbhfngbaa
