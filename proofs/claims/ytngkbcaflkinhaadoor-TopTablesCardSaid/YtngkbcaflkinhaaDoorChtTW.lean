/- Charts: the entry of each block, by search; the document's own flat. Charts: the contract of the document's own flat. Charts: the map of entries, block by block; tables that a call owns. Charts: the contract of the document's own of. -/
import Derived.Test.YtngkbcaflkinhaaDoorChtS
import Derived.Test.YtngkbcaflkinhaaDoorEntSV
namespace Go.Proofs.YtngkbcaflkinhaaDoor
open Go.RowKit

def lookM (E : Nat) (T : List TB) (b : Nat) : EN := match T.find? (fun t => decide (t.at' = ((b / E : Nat) : Int))) with
  | some t => t.l.getD (b % E) EN.zero
  | none => EN.zero
theorem find_rise {T : List TB} {a : Int} {i : Nat} (hi : i < T.length) (ha : (T.getD i TB.zero).at' = a) (hR : Rises T) : T.find? (fun t => decide (t.at' = a)) = some (T.getD i TB.zero) := by
  have hg : T.getD i TB.zero = T[i] := by rw [List.getD, List.getElem?_eq_getElem hi]; rfl
  rw [hg]
  refine List.find?_eq_some_iff_getElem.2 ⟨by rw [hg] at ha; simp [ha], i, hi, rfl, fun j hj => ?_⟩
  have := hR j i hj hi
  rw [ha, List.getD, List.getElem?_eq_getElem (by omega)] at this
  have h2 : T[j].at' < a := this
  have : ¬ T[j].at' = a := by omega
  simp [this]
theorem before_at {T : List TB} {a : Int} {i : Nat} (hi : i < T.length) (ha : (T.getD i TB.zero).at' = a) (hR : Rises T) : before T a = i :=
  countP_cut _ TB.zero T i (by omega) (fun k hk => decide_eq_true (by have := hR k i hk hi; omega)) (fun k h1 h2 => decide_eq_false (by
    by_cases e : k = i
    · subst e; omega
    · have := hR i k (by omega) h2; omega))
theorem there_iff {T : List TB} {a : Int} : isThere T a = true ↔ ∃ i, i < T.length ∧ (T.getD i TB.zero).at' = a := by
  unfold isThere
  rw [List.any_eq_true]
  constructor
  · rintro ⟨t, ht, e⟩
    obtain ⟨k, hk, rfl⟩ := List.mem_iff_getElem.1 ht
    exact ⟨k, hk, by rw [List.getD, List.getElem?_eq_getElem hk]; simpa using e⟩
  · rintro ⟨i, hi, e⟩
    exact ⟨T[i], List.getElem_mem _, by rw [List.getD, List.getElem?_eq_getElem hi] at e; simpa using e⟩
theorem getM_look {T : List TB} (hR : Rises T) (E b : Nat) : getM E T b = lookM E T b := by
  unfold getM lookM
  by_cases h : isThere T ((b / E : Nat) : Int) = true
  · obtain ⟨i, hi, ha⟩ := there_iff.1 h
    rw [if_pos h, before_at hi ha hR, find_rise hi ha hR]
  · rw [if_neg h]
    have : T.find? (fun t => decide (t.at' = ((b / E : Nat) : Int))) = none := by
      rw [List.find?_eq_none]
      intro x hx hc
      exact h (List.any_eq_true.2 ⟨x, hx, hc⟩)
    rw [this]
theorem take_snocT {L : List TB} {k : Nat} (hk : k < L.length) : L.take (k + 1) = L.take k ++ [L.getD k TB.zero] := by
  rw [List.take_succ_eq_append_getElem hk, List.getD, List.getElem?_eq_getElem hk]; rfl
theorem look_step {T : List TB} (hR : Rises T) (E b j : Nat) (hj : j < T.length) : lookM E (T.take (j + 1)) b = if (T.getD j TB.zero).at' = ((b / E : Nat) : Int) then (T.getD j TB.zero).l.getD (b % E) EN.zero else lookM E (T.take j) b := by
  unfold lookM
  rw [take_snocT hj, List.find?_append]
  by_cases h : (T.getD j TB.zero).at' = ((b / E : Nat) : Int)
  · rw [if_pos h]
    have h0 : (T.take j).find? (fun t => decide (t.at' = ((b / E : Nat) : Int))) = none := by
      rw [List.find?_eq_none]
      intro x hx hc
      obtain ⟨k, hk, rfl⟩ := List.mem_iff_getElem.1 hx
      rw [List.length_take] at hk
      have := hR k j (by omega) hj
      rw [h, List.getD, List.getElem?_eq_getElem (by omega)] at this
      rw [List.getElem_take] at hc
      have h2 : T[k].at' < ((b / E : Nat) : Int) := this
      simp only [decide_eq_true_eq] at hc
      omega
    rw [h0, Option.none_or, List.find?_cons_of_pos (by simp only [decide_eq_true_eq]; exact h)]
  · rw [if_neg h, List.find?_cons_of_neg (by simp only [decide_eq_true_eq]; exact h), List.find?_nil, Option.or_none]
def flatM (E BN : Nat) (T : List TB) : List EN := (List.range BN).map (lookM E T)
theorem flatM_len (E BN : Nat) (T : List TB) : (flatM E BN T).length = BN := by unfold flatM; simp
theorem flatM_at (E BN : Nat) (T : List TB) {b : Nat} (h : b < BN) : (flatM E BN T).getD b EN.zero = lookM E T b := by
  unfold flatM; rw [List.getD, List.getElem?_map, List.getElem?_range h]; rfl
/-- Under way: the entries of the tables ahead of j, and of table j those ahead of i. -/
def HalfL (E BN : Nat) (T : List TB) (j i : Nat) (L : List EN) : Prop :=
  L.length = BN ∧ ∀ b, b < BN → L.getD b EN.zero = if (T.getD j TB.zero).at' = ((b / E : Nat) : Int) ∧ b % E < i then (T.getD j TB.zero).l.getD (b % E) EN.zero else lookM E (T.take j) b
theorem half_zero {E BN : Nat} {T : List TB} {j : Nat} {L : List EN} (h : L.length = BN ∧ ∀ b, b < BN → L.getD b EN.zero = lookM E (T.take j) b) : HalfL E BN T j 0 L :=
  ⟨h.1, fun b hb => by rw [if_neg (fun k => Nat.not_lt_zero _ k.2)]; exact h.2 b hb⟩
theorem half_end {E BN : Nat} {T : List TB} {j : Nat} {L : List EN} (hR : Rises T) (hj : j < T.length) (hE : 1 ≤ E) (h : HalfL E BN T j E L) : L.length = BN ∧ ∀ b, b < BN → L.getD b EN.zero = lookM E (T.take (j + 1)) b := by
  refine ⟨h.1, fun b hb => ?_⟩
  rw [h.2 b hb, look_step hR E b j hj]
  have := Nat.mod_lt b hE
  by_cases hc : (T.getD j TB.zero).at' = ((b / E : Nat) : Int)
  · rw [if_pos ⟨hc, this⟩, if_pos hc]
  · rw [if_neg (fun k => hc k.1), if_neg hc]
theorem half_skip {E BN : Nat} {T : List TB} {j i k : Nat} {L : List EN} (hk : (T.getD j TB.zero).at' = (k : Int)) (hge : BN ≤ k * E + i) (h : HalfL E BN T j i L) : HalfL E BN T j (i + 1) L := by
  refine ⟨h.1, fun b hb => ?_⟩
  rw [h.2 b hb]
  have hd := Nat.div_add_mod b E
  by_cases hc : (T.getD j TB.zero).at' = ((b / E : Nat) : Int) ∧ b % E < i
  · rw [if_pos hc, if_pos ⟨hc.1, by omega⟩]
  · rw [if_neg hc, if_neg]
    rintro ⟨h1, h2⟩
    have hq : b / E = k := by rw [hk] at h1; omega
    have : b % E = i := by
      by_cases hlt : b % E < i
      · exact absurd ⟨h1, hlt⟩ hc
      · omega
    rw [hq, this, Nat.mul_comm] at hd
    omega
theorem half_put {E BN : Nat} {T : List TB} {j i k : Nat} {L : List EN} (hE : 1 ≤ E) (hi : i < E) (hk : (T.getD j TB.zero).at' = (k : Int)) (hlt : k * E + i < BN) (h : HalfL E BN T j i L) : HalfL E BN T j (i + 1) (L.set (k * E + i) ((T.getD j TB.zero).l.getD i EN.zero)) := by
  refine ⟨by rw [List.length_set]; exact h.1, fun b hb => ?_⟩
  have hd := Nat.div_add_mod b E
  rw [getD_setE _ _ _ _ (by rw [h.1]; exact hlt)]
  by_cases he : b = k * E + i
  · have h1 : b / E = k := by rw [he, Nat.mul_comm, Nat.mul_add_div (by omega), Nat.div_eq_of_lt hi, Nat.add_zero]
    have h2 : b % E = i := by rw [he, Nat.mul_comm, Nat.mul_add_mod, Nat.mod_eq_of_lt hi]
    rw [if_pos he, if_pos ⟨by rw [hk, h1], by omega⟩, h2]
  · rw [if_neg he, h.2 b hb]
    by_cases hc : (T.getD j TB.zero).at' = ((b / E : Nat) : Int) ∧ b % E < i
    · rw [if_pos hc, if_pos ⟨hc.1, by omega⟩]
    · rw [if_neg hc, if_neg]
      rintro ⟨h1, h2⟩
      have hq : b / E = k := by rw [hk] at h1; omega
      have : b % E = i := by
        by_cases hlt : b % E < i
        · exact absurd ⟨h1, hlt⟩ hc
        · omega
      rw [hq, this, Nat.mul_comm] at hd
      omega
theorem flat_of {E BN : Nat} {T : List TB} {L : List EN} (h : L.length = BN ∧ ∀ b, b < BN → L.getD b EN.zero = lookM E (T.take T.length) b) : L = flatM E BN T := by
  refine same_all (by rw [h.1, flatM_len]) (fun i hi => ?_)
  rw [h.1] at hi
  rw [h.2 i hi, flatM_at _ _ _ hi, List.take_of_length_le (Nat.le_refl _)]
end Go.Proofs.YtngkbcaflkinhaaDoor
namespace Go.Proofs.YtngkbcaflkinhaaDoor
open Go.RowKit

/-- flat under way: the chart's box, and the row. -/
structure FL (w W : World) (B : Int) (v : Value) (L : List EN) : Prop where
  bl : Below w.heap.size w W
  x : B2 W w.heap.size (.int .i64 B) v
  row : RowE W (w.heap.size + 1) L
theorem FL.below {w W W' : World} {B : Int} {v : Value} {L : List EN} (k : FL w W B v L) (hb : Below W.heap.size W W') : FL w W' B v L := ⟨k.bl.trans (hb.mono k.bl.size), k.x.below hb, k.row.below hb⟩
theorem FL.new (w : World) (BN : Nat) (v : Value) : FL w ((w.alloc (.cells #[.int .i64 (BN : Int), v] 27)).alloc (.cells (madeCells zeroC (BN * 4)) 38)) (BN : Int) v (List.replicate BN EN.zero) := by
  refine ⟨(below1 _ _).alloc (by simp) _, (B2.new w _ _ _).below (below1 _ _), ?_⟩
  have h := RowE.made (w.alloc (.cells #[.int .i64 (BN : Int), v] 27)) BN 38
  rw [World.size_alloc] at h
  exact h
theorem FL.put {w W : World} {B : Int} {v : Value} {L : List EN} (k : FL w W B v L) (i : Nat) (hi : i < L.length) (p : EN) : FL w (putN W (w.heap.size + 1) (i * 4) p) B v (L.set i p) := by
  have hap := ap_putN W (w.heap.size + 1) (i * 4) p
  refine ⟨?_, k.x.ap hap (by omega), k.row.put i hi p⟩
  exact k.bl.trans (hap.below k.bl.size (fun k e => by omega))
end Go.Proofs.YtngkbcaflkinhaaDoor
namespace Go.Proofs.YtngkbcaflkinhaaDoor
open Go.RowKit

/-- The part k of entries, filled up with holes. -/
def partL (E : Nat) (l : List EN) (k : Nat) : List EN := (List.range E).map fun i => l.getD (k * E + i) EN.zero
theorem partL_len (E : Nat) (l : List EN) (k : Nat) : (partL E l k).length = E := by unfold partL; simp
theorem partL_at (E : Nat) (l : List EN) (k : Nat) {i : Nat} (h : i < E) : (partL E l k).getD i EN.zero = l.getD (k * E + i) EN.zero := by
  unfold partL; rw [List.getD, List.getElem?_map, List.getElem?_range h]; rfl
def oneT (E : Nat) (l : List EN) (k : Nat) : List TB := if (partL E l k).any fullB = true then [⟨(k : Int), partL E l k⟩] else []
/-- The map of the first k parts. -/
def ofK (E : Nat) (l : List EN) (k : Nat) : List TB := (List.range k).flatMap (oneT E l)
theorem ofK_succ (E : Nat) (l : List EN) (k : Nat) : ofK E l (k + 1) = ofK E l k ++ oneT E l k := by unfold ofK; rw [List.range_succ, List.flatMap_append, List.flatMap_singleton]
theorem ofK_len (E : Nat) (l : List EN) : ∀ k, (ofK E l k).length ≤ k
  | 0 => Nat.le_refl _
  | k + 1 => by
    rw [ofK_succ, List.length_append]
    have := ofK_len E l k
    have : (oneT E l k).length ≤ 1 := by unfold oneT; split <;> simp
    omega
def nParts (E n : Nat) : Nat := (n + E - 1) / E
def ofM (E : Nat) (l : List EN) : List TB := ofK E l (nParts E l.length)
theorem nParts_iff {E n k : Nat} (hE : 1 ≤ E) : k < nParts E n ↔ k * E < n := by
  unfold nParts
  rw [show (k < (n + E - 1) / E) ↔ k + 1 ≤ (n + E - 1) / E from Iff.rfl, Nat.le_div_iff_mul_le (by omega), Nat.add_mul]
  omega
/-- What stands behind a cut, and holes. -/
theorem part_fill {E k c : Nat} {l : List EN} (hc : ((l.drop (k * E)).take E).length + c = E) : (l.drop (k * E)).take E ++ List.replicate c EN.zero = partL E l k := by
  refine same_all (by rw [List.length_append, List.length_replicate, partL_len]; exact hc) (fun i hi => ?_)
  rw [List.length_append, List.length_replicate] at hi
  rw [partL_at E l k (by omega)]
  rw [List.length_take, List.length_drop] at hc hi
  rw [List.getD, List.getD, List.getElem?_append]
  rw [List.length_take, List.length_drop]
  by_cases h : i < min E (l.length - k * E)
  · rw [if_pos h, List.getElem?_take, if_pos (by omega), List.getElem?_drop]
  · rw [if_neg h, List.getElem?_replicate, if_pos (by omega), List.getElem?_eq_none (by omega)]; rfl
/-! ### tables that a call owns -/
def tCells : List TB → List Value → List Value
  | t :: T, u :: us => .int .i64 t.at' :: u :: tCells T us
  | _, _ => []
theorem tCells_len : ∀ (T : List TB) (us : List Value), us.length = T.length → (tCells T us).length = T.length * 2
  | [], [], _ => rfl
  | t :: T, u :: us, h => by
    show (tCells T us).length + 1 + 1 = _
    rw [tCells_len T us (by simpa using h), List.length_cons]; omega
theorem tCells_snoc : ∀ (T : List TB) (us : List Value) (t : TB) (u : Value), us.length = T.length → tCells (T ++ [t]) (us ++ [u]) = tCells T us ++ [.int .i64 t.at', u]
  | [], [], _, _, _ => rfl
  | t' :: T, u' :: us, t, u, h => by
    show .int .i64 t'.at' :: u' :: tCells (T ++ [t]) (us ++ [u]) = _
    rw [tCells_snoc T us t u (by simpa using h)]; rfl
theorem tCells_at : ∀ (T : List TB) (us : List Value), us.length = T.length → ∀ j, j < T.length → (tCells T us)[j * 2]? = some (.int .i64 (T.getD j TB.zero).at') ∧ (tCells T us)[j * 2 + 1]? = us[j]?
  | t :: T, u :: us, _, 0, _ => ⟨rfl, rfl⟩
  | t :: T, u :: us, h, j + 1, hj => by
    have := tCells_at T us (by simpa using h) j (by simpa using hj)
    rw [show (j + 1) * 2 = j * 2 + 1 + 1 by omega]
    exact this
/-- A table's entries in a block apart. -/
def OneO (W : World) (B : Nat) (u : Value) (l : List EN) (ob : Option Nat) : Prop := EntsS W u l ∧ ∃ g n c, u = .slice (some ⟨g, 0, none⟩) n c ∧ B ≤ g ∧ g < W.heap.size ∧ some g ≠ ob
theorem EntsS.ap {S : Nat → Prop} {w w' : World} {g n c : Nat} {l : List EN} (k : EntsS w (.slice (some ⟨g, 0, none⟩) n c) l) (a : Ap S w w') (hn : ¬ S g) : EntsS w' (.slice (some ⟨g, 0, none⟩) n c) l := by
  obtain ⟨A, cap, hv, h1, h2, h3⟩ := k
  refine ⟨A, cap, hv, h1, h2, ?_⟩
  rcases h3 with h3 | ⟨b, off, hA, hlt, hc⟩
  · exact .inl h3
  · injection hv with e1 _ _
    rw [hA] at e1
    injection e1 with e1
    injection e1 with e1 e2 _
    subst e1
    refine .inr ⟨g, off, hA, Nat.lt_of_lt_of_le hlt a.size, fun j hj => ?_⟩
    have := hc j hj
    exact ⟨(a.cell hlt hn _).trans this.c0, (a.cell hlt hn _).trans this.c1, (a.cell hlt hn _).trans this.c2, (a.cell hlt hn _).trans this.c3⟩
structure TOwn (W : World) (B : Nat) (v : Value) (T : List TB) (us : List Value) : Prop where
  len : us.length = T.length
  own : W.ownsRow B 42 2 v T.length (tCells T us)
  each : ∀ j u, us[j]? = some u → OneO W B u (T.getD j TB.zero).l v.ownBlock
theorem TOwn.nil (W : World) (B : Nat) : TOwn W B (.slice none 0 0) [] [] := ⟨rfl, World.ownsRow_nil _ _ _ _, fun j u h => by simp at h⟩
theorem TOwn.below {W W' : World} {B : Nat} {v : Value} {T : List TB} {us : List Value} (k : TOwn W B v T us) (hb : Below W.heap.size W W') : TOwn W' B v T us := by
  refine ⟨k.len, own_keepE k.own hb, fun j u hu => ?_⟩
  obtain ⟨h1, g, n, c, rfl, hB, hg, hne⟩ := k.each j u hu
  exact ⟨h1.below hb (Nat.le_refl _), g, n, c, rfl, hB, Nat.lt_of_lt_of_le hg hb.size, hne⟩
theorem TOwn.ap {S : Nat → Prop} {W W' : World} {B : Nat} {v : Value} {T : List TB} {us : List Value} (k : TOwn W B v T us) (a : Ap S W W') (hS : ∀ q, S q → q < B) : TOwn W' B v T us := by
  refine ⟨k.len, ?_, fun j u hu => ?_⟩
  · refine ⟨k.own.1, ?_⟩
    rcases k.own.2 with h0 | ⟨g, cap, cur, hv, hg, hh, r⟩
    · exact .inl h0
    · exact .inr ⟨g, cap, cur, hv, hg, (a.block g (Array.getElem?_eq_some_iff.1 hh).1 (fun e => by have := hS g e; omega)).trans hh, r⟩
  · obtain ⟨h1, g, n, c, rfl, hB, hg, hne⟩ := k.each j u hu
    exact ⟨h1.ap a (fun e => by have := hS g e; omega), g, n, c, rfl, hB, Nat.lt_of_lt_of_le hg a.size, hne⟩
/-- One more table. -/
theorem TOwn.snoc {W W' : World} {B : Nat} {v v' u : Value} {T : List TB} {us : List Value} {t : TB} (k : TOwn W B v T us) (ho : OneO W B u t.l v.ownBlock) (hown : W'.ownsRow B 42 2 v' (T.length + 1) (tCells T us ++ [.int .i64 t.at', u])) (hg : W.grownBy W' v.ownBlock) (hob : v'.ownBlock = v.ownBlock ∨ v'.ownBlock = some W.heap.size) : TOwn W' B v' (T ++ [t]) (us ++ [u]) := by
  have hap : Ap (fun b => some b = v.ownBlock) W W' := Ap.grown (Ap.refl W) hg (fun q hq => .inl hq.symm)
  have one : ∀ u l, OneO W B u l v.ownBlock → OneO W' B u l v'.ownBlock := by
    rintro u l ⟨h1, g, n, c, rfl, hB, hlt, hne⟩
    refine ⟨h1.ap hap (fun e => hne e), g, n, c, rfl, hB, Nat.lt_of_lt_of_le hlt hap.size, ?_⟩
    rcases hob with h | h
    · rw [h]; exact hne
    · rw [h]; intro e; injection e with e; omega
  refine ⟨by rw [List.length_append, List.length_append, k.len]; rfl, by rw [tCells_snoc _ _ _ _ k.len, List.length_append]; exact hown, fun j x hx => ?_⟩
  by_cases hj : j < us.length
  · rw [List.getElem?_append_left hj] at hx
    have e : (T ++ [t]).getD j TB.zero = T.getD j TB.zero := by rw [List.getD, List.getElem?_append_left (by rw [← k.len]; exact hj)]; rfl
    rw [e]
    exact one _ _ (k.each j x hx)
  · have hj2 : j = us.length := by have := (List.getElem?_eq_some_iff.1 hx).1; simp at this; omega
    subst hj2
    rw [List.getElem?_append_right (Nat.le_refl _), Nat.sub_self] at hx
    injection hx with hx
    subst hx
    have e : (T ++ [t]).getD us.length TB.zero = t := by rw [List.getD, k.len, List.getElem?_append_right (Nat.le_refl _), Nat.sub_self]; rfl
    rw [e]
    exact one _ _ ho
theorem TOwn.tabs {W : World} {B : Nat} {v : Value} {T : List TB} {us : List Value} (k : TOwn W B v T us) : TabsS W v T := by
  rcases k.own.2 with ⟨rfl, h0⟩ | ⟨g, cap, cur, rfl, hb, hh, hn, hm, hs, ht⟩
  · have : T = [] := List.eq_nil_of_length_eq_zero h0
    subst this
    exact ⟨none, 0, rfl, Nat.le_refl _, Nat.zero_le _, .inl rfl⟩
  · refine ⟨_, cap, rfl, hn, hm, .inr ⟨g, 0, rfl, (Array.getElem?_eq_some_iff.1 hh).1, fun j hj => ?_⟩⟩
    have hc : ∀ q, q < T.length * 2 → W.cell? ⟨g, q, none⟩ = (tCells T us)[q]? := by
      intro q hq
      rw [cell_of_row W g q cur _ (0, 0) hh]
      have h1 : (cur.toList.take (T.length * 2))[q]? = (tCells T us)[q]? := by rw [ht]
      rw [List.getElem?_take, if_pos hq, Array.getElem?_toList] at h1
      exact h1
    obtain ⟨a1, a2⟩ := tCells_at T us k.len j hj
    have hu : us[j]? = some (us[j]'(by rw [k.len]; exact hj)) := List.getElem?_eq_getElem (by rw [k.len]; exact hj)
    rw [Nat.zero_add]
    exact ⟨_, (hc _ (by omega)).trans a1, ((hc _ (by omega)).trans a2).trans hu, (k.each j _ hu).1⟩
end Go.Proofs.YtngkbcaflkinhaaDoor
namespace Go.Proofs.YtngkbcaflkinhaaDoor
open Go.RowKit

/-- of under way. -/
structure OS (w W : World) (N : Nat) (tv : Value) (T : List TB) (us : List Value) : Prop where
  bl : Below w.heap.size w W
  r : B2 W w.heap.size (.int .i64 0) (.slice none 0 0)
  x : B2 W (w.heap.size + 1) (.int .i64 (N : Int)) tv
  own : TOwn W (w.heap.size + 2) tv T us
theorem OS.below {w W W' : World} {N : Nat} {tv : Value} {T : List TB} {us : List Value} (k : OS w W N tv T us) (hb : Below W.heap.size W W') : OS w W' N tv T us :=
  ⟨k.bl.trans (hb.mono k.bl.size), k.r.below hb, k.x.below hb, k.own.below hb⟩
theorem OS.new (w : World) (N : Nat) : OS w ((w.alloc (.cells #[.int .i64 0, .slice none 0 0] 27)).alloc (.cells #[.int .i64 (N : Int), .slice none 0 0] 27)) N (.slice none 0 0) [] [] := by
  refine ⟨(below1 _ _).alloc (by simp) _, (B2.new w _ _ _).below (below1 _ _), ?_, TOwn.nil _ _⟩
  have h := B2.new (w.alloc (.cells #[.int .i64 0, .slice none 0 0] 27)) (.int .i64 (N : Int)) (.slice none 0 0) 27
  rw [World.size_alloc] at h
  exact h
theorem ownE_empty (W : World) : (W.alloc (.cells #[] 38)).ownsRow W.heap.size 38 4 (.slice (some ⟨W.heap.size, 0, none⟩) 0 0) 0 [] :=
  ⟨rfl, .inr ⟨W.heap.size, 0, #[], rfl, Nat.le_refl _, heap_alloc_new W _, Nat.le_refl _, Nat.zero_le _, rfl, rfl⟩⟩
theorem cut_cells {w : World} {b off M m : Nat} {l : List EN} (hc : ∀ j, j < l.length → EntAt w b (off + j * 4) (l.getD j EN.zero)) (hm : M + m ≤ l.length) : ∀ j u, (eCells ((l.drop M).take m))[j]? = some u → w.cell? ((⟨b, off + M * 4, none⟩ : Addr).add j) = some u := by
  intro j u hu
  have hl : ((l.drop M).take m).length = m := by rw [List.length_take, List.length_drop]; omega
  have hj : j < m * 4 := by have := (List.getElem?_eq_some_iff.1 hu).1; rw [eCells_len, hl] at this; exact this
  have e : ((⟨b, off + M * 4, none⟩ : Addr).add j) = ⟨b, off + M * 4 + j, none⟩ := by unfold Addr.add; split <;> simp_all
  obtain ⟨i, q, hq, rfl⟩ : ∃ i q, q < 4 ∧ j = i * 4 + q := ⟨j / 4, j % 4, Nat.mod_lt _ (by omega), by omega⟩
  rw [eCells_at _ i (by rw [hl]; omega) q hq] at hu
  have hg : ((l.drop M).take m).getD i EN.zero = l.getD (M + i) EN.zero := by rw [List.getD, List.getElem?_take, if_pos (by omega), List.getElem?_drop]; rfl
  rw [hg] at hu
  have := hc (M + i) (by omega)
  rw [e, show off + M * 4 + (i * 4 + q) = off + (M + i) * 4 + q by omega, ← hu]
  match q, hq with
  | 0, _ => exact this.c0
  | 1, _ => exact this.c1
  | 2, _ => exact this.c2
  | 3, _ => exact this.c3
theorem eCells_one (l : List EN) : ∀ u ∈ eCells l, u.oneCell' = true := by
  intro u hu
  unfold eCells at hu
  obtain ⟨p, _, h⟩ := List.mem_flatMap.1 hu
  exact ent_one p u h
theorem own_form {w : World} {base e s n : Nat} {v : Value} {xs : List Value} (h : w.ownsRow base e s v n xs) : ∃ ao cp, v = .slice ao n cp ∧ (n ≠ 0 → ∃ g, ao = some ⟨g, 0, none⟩ ∧ base ≤ g ∧ g < w.heap.size) := by
  rcases h.2 with ⟨rfl, rfl⟩ | ⟨g, cap, cur, rfl, hb, hh, _⟩
  · exact ⟨none, 0, rfl, fun h => absurd rfl h⟩
  · exact ⟨_, _, rfl, fun _ => ⟨g, rfl, hb, (Array.getElem?_eq_some_iff.1 hh).1⟩⟩
theorem tabInfo' : ∃ i, Tryd.prog.info? 42 = some i ∧ i.zero = some (.agg #[.int .i64 0, .slice none 0 0]) ∧ i.size = 2 ∧ i.bytes = 32 := by
  have h : (Tryd.prog.info? 42).map (fun i => (i.zero, i.size, i.bytes)) = some (some (.agg #[.int .i64 0, .slice none 0 0]), 2, 32) := by kernel_rfl
  obtain ⟨i, hi, hz⟩ := Option.map_eq_some_iff.1 h
  simp only [Prod.mk.injEq] at hz
  exact ⟨i, hi, hz.1, hz.2.1, hz.2.2⟩
theorem new_cells2 (W : World) (a b : Value) (t : TypeId) : ∀ j u, ([a, b] : List Value)[j]? = some u → (W.alloc (.cells #[a, b] t)).cell? ((⟨W.heap.size, 0, none⟩ : Addr).add j) = some u := by
  intro j u h
  have hj : j < 2 := by have := (List.getElem?_eq_some_iff.1 h).1; simpa using this
  have e : ((⟨W.heap.size, 0, none⟩ : Addr).add j) = ⟨W.heap.size, j, none⟩ := by unfold Addr.add; split <;> simp_all
  rw [e, cell_of_row _ _ _ _ t (0, 0) (heap_alloc_new W _), ← h]
  simp
theorem B2.put1 {W : World} {b : Nat} {v0 v1 : Value} (k : B2 W b v0 v1) (u : Value) : B2 (W.setCell ⟨b, 1, none⟩ u) b v0 u :=
  ⟨by rw [World.size_setCell]; exact k.lt, (cell_putne _ _ _ _ _ (by omega)).trans k.c0, cell_put k.c1 u, (World.frozen?_setCell _ _ _ _).trans k.f0, (World.frozen?_setCell _ _ _ _).trans k.f1⟩
theorem OS.x2 {w W W2 : World} {N : Nat} {tv : Value} {T : List TB} {us : List Value} (k : OS w W N tv T us) (hg : W.grownBy W2 tv.ownBlock) : B2 W2 (w.heap.size + 1) (.int .i64 (N : Int)) tv := by
  have hap : Ap (fun b => w.heap.size + 2 ≤ b) W W2 := Ap.grown (Ap.refl W) hg (fun q hq => .inl (World.ownsRow.lt k.own.own q hq).1)
  exact k.x.ap hap (by omega)
/-- The table is laid behind the others. -/
theorem OS.snoc {w W W2 : World} {N : Nat} {tv tv' u : Value} {T : List TB} {us : List Value} {t : TB} (k : OS w W N tv T us) (ho : OneO W (w.heap.size + 2) u t.l tv.ownBlock) (hown : W2.ownsRow (w.heap.size + 2) 42 2 tv' (T.length + 1) (tCells T us ++ [.int .i64 t.at', u])) (hg : W.grownBy W2 tv.ownBlock) (hob : tv'.ownBlock = tv.ownBlock ∨ tv'.ownBlock = some W.heap.size) :
    OS w (W2.setCell ⟨w.heap.size + 1, 1, none⟩ tv') N tv' (T ++ [t]) (us ++ [u]) := by
  have hob2 : ∀ q, tv.ownBlock = some q → w.heap.size + 2 ≤ q := fun q hq => by
    have hlt := World.ownsRow.lt k.own.own q hq
    exact hlt.1
  have hap : Ap (fun b => w.heap.size + 2 ≤ b) W W2 := Ap.grown (Ap.refl W) hg (fun q hq => .inl (hob2 q hq))
  have hap2 := ap_put W2 (w.heap.size + 1) 1 tv'
  refine ⟨?_, (k.r.ap hap (by omega)).ap hap2 (by omega), (k.x.ap hap (by omega)).put1 tv', (TOwn.snoc k.own ho hown hg hob).ap hap2 (fun q e => by omega)⟩
  exact (k.bl.trans (hap.below k.bl.size (fun q hq => by omega))).trans (hap2.below (Nat.le_trans k.bl.size hap.size) (fun q e => by omega))
end Go.Proofs.YtngkbcaflkinhaaDoor
