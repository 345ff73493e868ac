/- Charts: what the program makes of a map: tables set, put between, cut, turned, and those of holes alone dropped; that it is the map of the entries that the document has. Charts: rows of tables and of entries that a call owns and may write; the contracts of slices.Clone on them. Charts: tables with where their entries lie, one behind the other in a row that a call owns; those of holes alone dropped: slices.DeleteFunc, prune. Charts: tables that lie in memory that was made since. -/
import Derived.Test.YtngkbcaflkinhaaDoorChuB
import Derived.Laws.OwnMore
import Derived.Laws.IdiomCopy
import Derived.Lib.SliceRun
namespace Go.Proofs.YtngkbcaflkinhaaDoor
open Go.RowKit

def pruneT (T : List TB) : List TB := T.filter (fun t => t.l.any fullB)
/-- A map that is right but for tables of holes alone. -/
structure CHalf (E BN : Nat) (T : List TB) : Prop where
  e1 : 1 ≤ E
  e2 : E ≤ 8192
  b2 : BN ≤ 65536
  rise : T.Pairwise (fun a b => a.at' < b.at')
  each : ∀ t ∈ T, ∃ k : Nat, t.at' = (k : Int) ∧ t.l.length = E ∧ ∀ i, i < E → EOk (t.l.getD i EN.zero) ∧ (BN ≤ k * E + i → t.l.getD i EN.zero = EN.zero)
theorem pair_rises {T : List TB} (h : T.Pairwise (fun a b => a.at' < b.at')) : Rises T := by
  rw [List.pairwise_iff_getElem] at h
  intro i j hij hj
  have := h i j (by omega) hj hij
  rw [List.getD, List.getElem?_eq_getElem (by omega), List.getD, List.getElem?_eq_getElem hj]
  exact this
theorem COk.half {E BN : Nat} {T : List TB} (h : COk E BN T) : CHalf E BN T :=
  ⟨h.e1, h.e2, h.b2, rises_pair h.rise, fun t ht => by obtain ⟨k, h1, _, h3, _, h5⟩ := h.tab ht; exact ⟨k, h1, h3, h5⟩⟩
theorem getD_memT {T : List TB} {j : Nat} (hj : j < T.length) : T.getD j TB.zero ∈ T := by
  rw [List.getD, List.getElem?_eq_getElem hj]; exact List.getElem_mem _
theorem full_at {l : List EN} (h : l.any fullB = true) : ∃ i, i < l.length ∧ fullB (l.getD i EN.zero) = true := by
  obtain ⟨x, hx, hf⟩ := List.any_eq_true.1 h
  obtain ⟨i, hi, rfl⟩ := List.mem_iff_getElem.1 hx
  exact ⟨i, hi, by rw [List.getD, List.getElem?_eq_getElem hi]; exact hf⟩
theorem prune_ok {E BN : Nat} {T : List TB} (h : CHalf E BN T) : COk E BN (pruneT T) := by
  refine ⟨h.e1, h.e2, h.b2, pair_rises (h.rise.filter _), fun j hj => ?_⟩
  have hm := getD_memT hj
  generalize (pruneT T).getD j TB.zero = t at hm ⊢
  obtain ⟨ht, hf⟩ := List.mem_filter.1 hm
  obtain ⟨k, hk, hl, hc⟩ := h.each t ht
  obtain ⟨i, hi, hfi⟩ := full_at hf
  rw [hl] at hi
  have hlt : k * E + i < BN := by
    by_cases hb : k * E + i < BN
    · exact hb
    · rw [(hc i hi).2 (by omega)] at hfi; exact absurd hfi (by decide)
  refine ⟨k, hk, by omega, ?_⟩
  rw [← Int.natCast_mul, show (BN : Int) - ((k * E : Nat) : Int) = ((BN - k * E : Nat) : Int) by omega]
  refine (tbl_ref E (BN - k * E) _ hl).2 ⟨hf, fun i hi => ⟨(hc i (by omega)).1, fun hb => ?_⟩⟩
  rw [(hc i (by omega)).2 (by omega)]; rfl
/-! ### what a block's entry is, by the tables -/
theorem look_mem {E b : Nat} {T : List TB} {t : TB} (hp : T.Pairwise (fun a b => a.at' < b.at')) (ht : t ∈ T) (ha : t.at' = ((b / E : Nat) : Int)) : lookM E T b = t.l.getD (b % E) EN.zero := by
  obtain ⟨i, hi, rfl⟩ := mem_getD ht
  unfold lookM
  rw [find_rise hi ha (pair_rises hp)]
theorem look_out {E b : Nat} {T : List TB} (h : ∀ t ∈ T, t.at' ≠ ((b / E : Nat) : Int)) : lookM E T b = EN.zero := by
  unfold lookM
  have : T.find? (fun t => decide (t.at' = ((b / E : Nat) : Int))) = none := by
    rw [List.find?_eq_none]
    intro x hx hc
    exact h x hx (by simpa using hc)
  rw [this]
theorem getD_full {l : List EN} (h : l.any fullB = false) (i : Nat) : fullB (l.getD i EN.zero) = false := by
  by_cases hi : i < l.length
  · rw [List.getD, List.getElem?_eq_getElem hi]
    have := List.any_eq_false.1 h _ (List.getElem_mem hi)
    simpa using this
  · rw [List.getD, List.getElem?_eq_none (by omega)]; rfl
theorem look_prune {E BN : Nat} {T : List TB} (h : CHalf E BN T) (b : Nat) : lookM E (pruneT T) b = lookM E T b := by
  by_cases hx : ∃ t ∈ T, t.at' = ((b / E : Nat) : Int)
  · obtain ⟨t, ht, ha⟩ := hx
    rw [look_mem h.rise ht ha]
    cases hf : t.l.any fullB with
    | true => exact look_mem (h.rise.filter _) (List.mem_filter.2 ⟨ht, hf⟩) ha
    | false =>
      obtain ⟨k, hk, hl, hc⟩ := h.each t ht
      have h1 := eok_hole (hc (b % E) (Nat.mod_lt _ h.e1)).1 (getD_full hf _)
      rw [h1]
      refine look_out (fun s hs hsa => ?_)
      obtain ⟨hs1, hs2⟩ := List.mem_filter.1 hs
      obtain ⟨i, hi, rfl⟩ := mem_getD ht
      obtain ⟨j, hj, rfl⟩ := mem_getD hs1
      have hR := pair_rises h.rise
      rcases Nat.lt_trichotomy i j with hij | hij | hij
      · have := hR i j hij hj; omega
      · subst hij; rw [hf] at hs2; exact absurd hs2 (by decide)
      · have := hR j i hij hi; omega
  · have hx' : ∀ t ∈ T, t.at' ≠ ((b / E : Nat) : Int) := fun t ht e => hx ⟨t, ht, e⟩
    rw [look_out hx']
    exact look_out (fun t ht => hx' t (List.mem_filter.1 ht).1)
theorem flat_prune {E BN : Nat} {T : List TB} (h : CHalf E BN T) : flatM E BN (pruneT T) = flatM E BN T := by
  unfold flatM
  exact List.map_congr_left fun b _ => look_prune h b
/-- What is pruned is the map of its entries. -/
theorem prune_of {E BN : Nat} {T : List TB} (h : CHalf E BN T) : pruneT T = ofM E (flatM E BN T) := by
  rw [← flat_prune h]
  exact (canon (prune_ok h)).symm
/-! ### a table put between -/
theorem cut_before : ∀ (T : List TB) (k : Int), T.Pairwise (fun a b => a.at' < b.at') → (∀ t ∈ T.take (before T k), t.at' < k) ∧ (∀ t ∈ T.drop (before T k), k ≤ t.at') ∧ before T k ≤ T.length
  | [], _, _ => ⟨fun t h => (by simp at h), fun t h => (by simp at h), Nat.le_refl _⟩
  | t :: r, k, h => by
    rw [List.pairwise_cons] at h
    obtain ⟨h1, h2⟩ := h
    obtain ⟨a, b, c⟩ := cut_before r k h2
    unfold before at a b c ⊢
    rw [List.countP_cons]
    by_cases ht : t.at' < k
    · rw [if_pos (by simpa using ht)]
      refine ⟨fun s hs => ?_, fun s hs => ?_, by simp; omega⟩
      · rw [List.take_succ_cons] at hs
        rcases List.mem_cons.1 hs with rfl | hs
        · exact ht
        · exact a s hs
      · rw [List.drop_succ_cons] at hs; exact b s hs
    · have h0 : r.countP (fun t => decide (t.at' < k)) = 0 := by
        rw [List.countP_eq_zero]
        intro s hs
        have := h1 s hs
        simp; omega
      rw [if_neg (by simpa using ht), h0]
      refine ⟨fun s hs => (by simp at hs), fun s hs => ?_, Nat.zero_le _⟩
      rcases List.mem_cons.1 (by simpa using hs) with rfl | hs
      · omega
      · have := h1 s hs; omega
def insT (E : Nat) (T : List TB) (k : Nat) : List TB := T.take (before T (k : Int)) ++ ⟨(k : Int), List.replicate E EN.zero⟩ :: T.drop (before T (k : Int))
theorem zero_ok : EOk EN.zero := .inl ⟨rfl, rfl, rfl, rfl⟩
theorem rep_getD (E i : Nat) : (List.replicate E EN.zero).getD i EN.zero = EN.zero := by
  rw [List.getD, List.getElem?_replicate]; split <;> rfl
theorem ins_pair {E k : Nat} {T : List TB} (h : T.Pairwise (fun a b => a.at' < b.at')) (hn : isThere T (k : Int) = false) : (insT E T k).Pairwise (fun a b => a.at' < b.at') := by
  obtain ⟨a, b, _⟩ := cut_before T (k : Int) h
  have hne : ∀ t ∈ T, t.at' ≠ (k : Int) := fun t ht e => by
    unfold isThere at hn
    have := List.any_eq_false.1 hn t ht
    simp at this; exact this e
  unfold insT
  rw [List.pairwise_append, List.pairwise_cons]
  refine ⟨h.sublist (List.take_sublist ..), ⟨fun t ht => ?_, h.sublist (List.drop_sublist ..)⟩, fun s hs t ht => ?_⟩
  · have h1 := b t ht; have h2 := hne t ((List.drop_sublist ..).subset ht); show (k : Int) < t.at'; omega
  · have h1 := a s hs
    rcases List.mem_cons.1 ht with rfl | ht
    · exact h1
    · have := b t ht; omega
theorem ins_mem {E k : Nat} {T : List TB} {t : TB} : t ∈ insT E T k ↔ t ∈ T ∨ t = ⟨(k : Int), List.replicate E EN.zero⟩ := by
  have e : T = T.take (before T (k : Int)) ++ T.drop (before T (k : Int)) := (List.take_append_drop ..).symm
  unfold insT
  rw [List.mem_append, List.mem_cons]
  constructor
  · rintro (h | h | h)
    · exact .inl ((List.take_sublist ..).subset h)
    · exact .inr h
    · exact .inl ((List.drop_sublist ..).subset h)
  · rintro (h | h)
    · rw [e] at h
      rcases List.mem_append.1 h with h | h
      · exact .inl h
      · exact .inr (.inr h)
    · exact .inr (.inl h)
theorem ins_half {E BN k : Nat} {T : List TB} (h : CHalf E BN T) (hn : isThere T (k : Int) = false) : CHalf E BN (insT E T k) := by
  refine ⟨h.e1, h.e2, h.b2, ins_pair h.rise hn, fun t ht => ?_⟩
  rcases ins_mem.1 ht with ht | rfl
  · exact h.each t ht
  · exact ⟨k, rfl, List.length_replicate, fun i _ => by rw [rep_getD]; exact ⟨zero_ok, fun _ => rfl⟩⟩
theorem ins_look {E k : Nat} {T : List TB} (h : T.Pairwise (fun a b => a.at' < b.at')) (hn : isThere T (k : Int) = false) (b : Nat) : lookM E (insT E T k) b = lookM E T b := by
  have hne : ∀ t ∈ T, t.at' ≠ (k : Int) := fun t ht e => by
    unfold isThere at hn
    have := List.any_eq_false.1 hn t ht
    simp at this; exact this e
  by_cases hx : ∃ t ∈ T, t.at' = ((b / E : Nat) : Int)
  · obtain ⟨t, ht, ha⟩ := hx
    rw [look_mem h ht ha, look_mem (ins_pair h hn) (ins_mem.2 (.inl ht)) ha]
  · rw [look_out (fun t ht e => hx ⟨t, ht, e⟩)]
    by_cases hk : (k : Int) = ((b / E : Nat) : Int)
    · rw [look_mem (ins_pair h hn) (ins_mem.2 (.inr rfl)) hk]; exact rep_getD _ _
    · refine look_out (fun t ht e => ?_)
      rcases ins_mem.1 ht with ht | rfl
      · exact hx ⟨t, ht, e⟩
      · exact hk e
theorem ins_at {E k : Nat} {T : List TB} (hi : before T (k : Int) ≤ T.length) : before T (k : Int) < (insT E T k).length ∧ (insT E T k).getD (before T (k : Int)) TB.zero = ⟨(k : Int), List.replicate E EN.zero⟩ := by
  have hl : (T.take (before T (k : Int))).length = before T (k : Int) := by rw [List.length_take]; omega
  unfold insT
  refine ⟨by rw [List.length_append, hl, List.length_cons]; omega, ?_⟩
  rw [List.getD, List.getElem?_append_right (by omega), hl, Nat.sub_self]; rfl
/-! ### an entry set -/
def putT (T : List TB) (i r : Nat) (x : EN) : List TB := T.set i ⟨(T.getD i TB.zero).at', (T.getD i TB.zero).l.set r x⟩
theorem put_mem {T : List TB} {i r : Nat} {x : EN} {t : TB} (h : t ∈ putT T i r x) : t ∈ T ∨ t = ⟨(T.getD i TB.zero).at', (T.getD i TB.zero).l.set r x⟩ := List.mem_or_eq_of_mem_set h
theorem put_getD (T : List TB) (i r j : Nat) (x : EN) (hi : i < T.length) : (putT T i r x).getD j TB.zero = if j = i then ⟨(T.getD i TB.zero).at', (T.getD i TB.zero).l.set r x⟩ else T.getD j TB.zero := by
  unfold putT
  rw [List.getD, List.getElem?_set]
  by_cases h : i = j
  · subst h; rw [if_pos rfl, if_pos hi, if_pos rfl]; rfl
  · rw [if_neg h, if_neg (fun e => h e.symm)]; rfl
theorem put_pair {T : List TB} (h : T.Pairwise (fun a b => a.at' < b.at')) {i : Nat} (hi : i < T.length) (r : Nat) (x : EN) : (putT T i r x).Pairwise (fun a b => a.at' < b.at') := by
  refine rises_pair (fun a b hab hb => ?_)
  have hb' : b < T.length := by unfold putT at hb; rw [List.length_set] at hb; exact hb
  have := pair_rises h a b hab hb'
  rw [put_getD _ _ _ _ _ hi, put_getD _ _ _ _ _ hi]
  by_cases e1 : a = i
  · subst e1; rw [if_pos rfl]
    by_cases e2 : b = a
    · omega
    · rw [if_neg e2]; exact this
  · rw [if_neg e1]
    by_cases e2 : b = i
    · subst e2; rw [if_pos rfl]; exact this
    · rw [if_neg e2]; exact this
theorem put_half {E BN k i r : Nat} {T : List TB} {x : EN} (h : CHalf E BN T) (hi : i < T.length) (hk : (T.getD i TB.zero).at' = (k : Int)) (hb : k * E + r < BN) (hr : r < E) (hx : EOk x) : CHalf E BN (putT T i r x) := by
  refine ⟨h.e1, h.e2, h.b2, put_pair h.rise hi r x, fun t ht => ?_⟩
  rcases put_mem ht with ht | rfl
  · exact h.each t ht
  · obtain ⟨k', h1, h2, h3⟩ := h.each _ (getD_memT hi)
    have : k' = k := by omega
    subst this
    refine ⟨k', h1, by rw [List.length_set]; exact h2, fun j hj => ?_⟩
    dsimp only
    rw [getD_setE _ _ _ _ (by rw [h2]; exact hr)]
    by_cases e : j = r
    · rw [if_pos e]; exact ⟨hx, fun hc => by omega⟩
    · rw [if_neg e]; exact h3 j hj
theorem divmod_ne {E k r b : Nat} (hb : b ≠ k * E + r) (hd : b / E = k) : b % E ≠ r := by
  intro e
  have := Nat.div_add_mod b E
  rw [hd, e, Nat.mul_comm] at this
  exact hb this.symm
theorem divmod_eq {E k r : Nat} (hr : r < E) : (k * E + r) / E = k ∧ (k * E + r) % E = r := by
  constructor
  · rw [Nat.mul_comm, Nat.mul_add_div (by omega), Nat.div_eq_of_lt hr, Nat.add_zero]
  · rw [Nat.mul_comm, Nat.mul_add_mod, Nat.mod_eq_of_lt hr]
theorem put_look {E BN k i r : Nat} {T : List TB} {x : EN} (h : CHalf E BN T) (hi : i < T.length) (hk : (T.getD i TB.zero).at' = (k : Int)) (hr : r < E) (b : Nat) : lookM E (putT T i r x) b = if b = k * E + r then x else lookM E T b := by
  have hp := put_pair h.rise hi r x
  obtain ⟨_, _, hl, _⟩ := h.each _ (getD_memT hi)
  have hmem : (⟨(T.getD i TB.zero).at', (T.getD i TB.zero).l.set r x⟩ : TB) ∈ putT T i r x := by
    have h1 := getD_memT (T := putT T i r x) (j := i) (by unfold putT; rw [List.length_set]; exact hi)
    rw [put_getD _ _ _ _ _ hi, if_pos rfl] at h1; exact h1
  by_cases e : b / E = k
  · have ha : (T.getD i TB.zero).at' = ((b / E : Nat) : Int) := by rw [hk, e]
    rw [look_mem hp hmem ha, look_mem h.rise (getD_memT hi) ha]
    dsimp only
    rw [getD_setE _ _ _ _ (by rw [hl]; exact hr)]
    by_cases eb : b = k * E + r
    · rw [if_pos eb, if_pos (by rw [eb]; exact (divmod_eq hr).2)]
    · rw [if_neg eb, if_neg (divmod_ne eb e)]
  · rw [if_neg (fun eb => e (by rw [eb]; exact (divmod_eq hr).1))]
    by_cases hx : ∃ t ∈ T, t.at' = ((b / E : Nat) : Int)
    · obtain ⟨t, ht, ha⟩ := hx
      obtain ⟨j, hj, rfl⟩ := mem_getD ht
      have hji : j ≠ i := fun e2 => by subst e2; omega
      have h1 := getD_memT (T := putT T i r x) (j := j) (by unfold putT; rw [List.length_set]; exact hj)
      rw [put_getD _ _ _ _ _ hi, if_neg hji] at h1
      rw [look_mem h.rise ht ha, look_mem hp h1 ha]
    · rw [look_out (fun t ht e2 => hx ⟨t, ht, e2⟩)]
      refine look_out (fun t ht e2 => ?_)
      rcases put_mem ht with ht | rfl
      · exact hx ⟨t, ht, e2⟩
      · dsimp only at e2; omega
/-- What Set makes. -/
def setP (E : Nat) (T : List TB) (b : Nat) (x : EN) : List TB :=
  pruneT (putT (if isThere T ((b / E : Nat) : Int) = true then T else insT E T (b / E)) (before T ((b / E : Nat) : Int)) (b % E) x)
theorem setP_eq {E BN b : Nat} {T : List TB} {x : EN} (h : COk E BN T) (hb : b < BN) (hx : EOk x) : setP E T b x = ofM E ((flatM E BN T).set b x) := by
  have hh := h.half
  obtain ⟨T1, hT1⟩ : ∃ T1, T1 = if isThere T ((b / E : Nat) : Int) = true then T else insT E T (b / E) := ⟨_, rfl⟩
  have hm := Nat.mod_lt b h.e1
  have hd : b / E * E + b % E = b := by rw [Nat.mul_comm]; exact Nat.div_add_mod b E
  have key : CHalf E BN T1 ∧ before T ((b / E : Nat) : Int) < T1.length ∧ (T1.getD (before T ((b / E : Nat) : Int)) TB.zero).at' = ((b / E : Nat) : Int) ∧ ∀ c, lookM E T1 c = lookM E T c := by
    rw [hT1]
    by_cases ht : isThere T ((b / E : Nat) : Int) = true
    · rw [if_pos ht]
      obtain ⟨i, hi, ha⟩ := there_iff.1 ht
      rw [before_at hi ha h.rise]
      exact ⟨hh, hi, ha, fun _ => rfl⟩
    · rw [if_neg ht]
      have ht' : isThere T ((b / E : Nat) : Int) = false := by simpa using ht
      obtain ⟨_, _, hle⟩ := cut_before T ((b / E : Nat) : Int) hh.rise
      obtain ⟨h1, h2⟩ := ins_at (E := E) (T := T) (k := b / E) hle
      exact ⟨ins_half hh ht', h1, by rw [h2], ins_look hh.rise ht'⟩
  obtain ⟨h1, h2, h3, h4⟩ := key
  unfold setP
  rw [← hT1, prune_of (put_half h1 h2 h3 (by rw [hd]; exact hb) hm hx)]
  congr 1
  refine same_all (by rw [List.length_set, flatM_len, flatM_len]) (fun c hc => ?_)
  rw [flatM_len] at hc
  rw [flatM_at _ _ _ hc, put_look h1 h2 h3 hm c, hd, h4 c, getD_setE _ _ _ _ (by rw [flatM_len]; exact hb), flatM_at _ _ _ hc]
/-! ### all entries turned -/
def mapT (f : TB → Nat → EN → EN) (T : List TB) : List TB := T.map fun t => ⟨t.at', t.l.mapIdx (f t)⟩
theorem mapIdx_getD {f : Nat → EN → EN} (l : List EN) {i : Nat} (hi : i < l.length) : (l.mapIdx f).getD i EN.zero = f i (l.getD i EN.zero) := by
  rw [List.getD, List.getElem?_mapIdx, List.getD, List.getElem?_eq_getElem hi]; rfl
theorem map_pair {f : TB → Nat → EN → EN} {T : List TB} (h : T.Pairwise (fun a b => a.at' < b.at')) : (mapT f T).Pairwise (fun a b => a.at' < b.at') := by
  unfold mapT
  rw [List.pairwise_map]; exact h
theorem map_look {E BN b : Nat} {f : TB → Nat → EN → EN} {T : List TB} (h : CHalf E BN T) (g : EN → EN) (hf : ∀ t ∈ T, ∀ x, t.at' = ((b / E : Nat) : Int) → f t (b % E) x = g x) (hg : g EN.zero = EN.zero) : lookM E (mapT f T) b = g (lookM E T b) := by
  have hp := map_pair (f := f) h.rise
  have hm := Nat.mod_lt b h.e1
  by_cases hx : ∃ t ∈ T, t.at' = ((b / E : Nat) : Int)
  · obtain ⟨t, ht, ha⟩ := hx
    obtain ⟨_, _, hl, _⟩ := h.each t ht
    rw [look_mem h.rise ht ha, look_mem hp (List.mem_map.2 ⟨t, ht, rfl⟩) ha, mapIdx_getD _ (by rw [hl]; exact hm), hf t ht _ ha]
  · rw [look_out (fun t ht e => hx ⟨t, ht, e⟩), hg]
    refine look_out (fun t ht e => ?_)
    obtain ⟨s, hs, rfl⟩ := List.mem_map.1 ht
    exact hx ⟨s, hs, e⟩
/-- Swap. -/
def swapT (was is : EN) (T : List TB) : List TB := mapT (fun _ _ => swap1 was is) T
theorem swap1_zero (was is : EN) : swap1 was is EN.zero = EN.zero := by unfold swap1; rw [if_neg (fun h => absurd h.2 (by decide))]
theorem swapT_half {E BN : Nat} {T : List TB} {was is : EN} (h : CHalf E BN T) (hi : EOk is) : CHalf E BN (swapT was is T) := by
  refine ⟨h.e1, h.e2, h.b2, map_pair h.rise, fun t ht => ?_⟩
  obtain ⟨s, hs, rfl⟩ := List.mem_map.1 ht
  obtain ⟨k, h1, h2, h3⟩ := h.each s hs
  refine ⟨k, h1, by rw [List.length_mapIdx]; exact h2, fun i hi' => ?_⟩
  dsimp only
  rw [mapIdx_getD _ (by rw [h2]; exact hi')]
  obtain ⟨h4, h5⟩ := h3 i hi'
  refine ⟨?_, fun hb => by rw [h5 hb, swap1_zero]⟩
  unfold swap1; split
  · exact hi
  · exact h4
theorem swapP_eq {E BN : Nat} {T : List TB} {was is : EN} (h : COk E BN T) (hi : EOk is) : pruneT (swapT was is T) = ofM E (swapL was is (flatM E BN T)) := by
  rw [prune_of (swapT_half h.half hi)]
  congr 1
  refine same_all (by unfold swapL; rw [List.length_map, flatM_len, flatM_len]) (fun c hc => ?_)
  rw [flatM_len] at hc
  rw [flatM_at _ _ _ hc]
  unfold swapT
  rw [map_look h.half (swap1 was is) (fun _ _ _ _ => rfl) (swap1_zero _ _)]
  unfold swapL
  rw [List.getD, List.getElem?_map]
  have := flatM_at E BN T hc
  rw [List.getD, List.getElem?_eq_getElem (by rw [flatM_len]; exact hc)] at this
  rw [List.getElem?_eq_getElem (by rw [flatM_len]; exact hc)]
  show _ = swap1 was is _
  rw [← this]; rfl
/-- Resize. -/
def cutF (E BN' : Nat) (t : TB) (i : Nat) (x : EN) : EN := if BN' ≤ t.at'.toNat * E + i then EN.zero else x
def cutT (E BN' : Nat) (T : List TB) : List TB := mapT (cutF E BN') T
def resL (BN' : Nat) (L : List EN) : List EN := (L ++ List.replicate (BN' - L.length) EN.zero).take BN'
theorem resL_len (BN' : Nat) (L : List EN) : (resL BN' L).length = BN' := by unfold resL; rw [List.length_take, List.length_append, List.length_replicate]; omega
theorem resL_at (BN' : Nat) (L : List EN) {i : Nat} (hi : i < BN') : (resL BN' L).getD i EN.zero = L.getD i EN.zero := by
  unfold resL
  rw [List.getD, List.getElem?_take, if_pos hi, List.getElem?_append]
  by_cases h : i < L.length
  · rw [if_pos h]; rfl
  · rw [if_neg h, List.getElem?_replicate, if_pos (by omega), List.getD, List.getElem?_eq_none (by omega)]; rfl
theorem cutT_half {E BN BN' : Nat} {T : List TB} (h : CHalf E BN T) (hb : BN' ≤ 65536) : CHalf E BN' (cutT E BN' T) := by
  refine ⟨h.e1, h.e2, hb, map_pair h.rise, fun t ht => ?_⟩
  obtain ⟨s, hs, rfl⟩ := List.mem_map.1 ht
  obtain ⟨k, h1, h2, h3⟩ := h.each s hs
  refine ⟨k, h1, by rw [List.length_mapIdx]; exact h2, fun i hi' => ?_⟩
  dsimp only
  rw [mapIdx_getD _ (by rw [h2]; exact hi')]
  have e : s.at'.toNat = k := by omega
  unfold cutF
  rw [e]
  by_cases hc : BN' ≤ k * E + i
  · rw [if_pos hc]; exact ⟨zero_ok, fun _ => rfl⟩
  · rw [if_neg hc]; exact ⟨(h3 i hi').1, fun h => absurd h hc⟩
theorem cutP_eq {E BN BN' : Nat} {T : List TB} (h : COk E BN T) (hb : BN' ≤ 65536) : pruneT (cutT E BN' T) = ofM E (resL BN' (flatM E BN T)) := by
  rw [prune_of (cutT_half h.half hb)]
  congr 1
  refine same_all (by rw [resL_len, flatM_len]) (fun c hc => ?_)
  rw [flatM_len] at hc
  rw [flatM_at _ _ _ hc, resL_at _ _ hc, flat_getD]
  unfold cutT
  rw [map_look h.half id (fun t _ x ha => ?_) rfl]
  · by_cases hcb : c < BN
    · rw [if_pos hcb]; rfl
    · rw [if_neg hcb]
      show lookM E T c = _
      by_cases hx : ∃ t ∈ T, t.at' = ((c / E : Nat) : Int)
      · obtain ⟨t, ht, ha⟩ := hx
        obtain ⟨k, h1, h2, h3⟩ := h.half.each t ht
        rw [look_mem (rises_pair h.rise) ht ha]
        have hk : k = c / E := by omega
        refine (h3 _ (Nat.mod_lt _ h.e1)).2 ?_
        have h9 : c / E * E + c % E = c := by rw [Nat.mul_comm]; exact Nat.div_add_mod c E
        rw [hk, h9]; omega
      · exact look_out (fun t ht e => hx ⟨t, ht, e⟩)
  · show cutF E BN' t (c % E) x = x
    unfold cutF
    rw [if_neg]
    have h9 : c / E * E + c % E = c := by rw [Nat.mul_comm]; exact Nat.div_add_mod c E
    have e : t.at'.toNat = c / E := by rw [ha]; exact Int.toNat_natCast _
    rw [e, h9]; omega
end Go.Proofs.YtngkbcaflkinhaaDoor
namespace Go.Proofs.YtngkbcaflkinhaaDoor
open Go.RowKit

/-! ### rows, cell by cell -/
theorem own_build {W : World} {base g n cap size : Nat} {e : TypeId} {cur : Array Value} {xs : List Value} (hb : base ≤ g) (hh : W.heap[g]? = some (.cells cur e (0, 0))) (hs : cur.size = cap * size) (hn : n ≤ cap) (hm : cap ≤ maxLen) (hx : xs.length = n * size)
    (hc : ∀ j, j < n * size → W.cell? ⟨g, j, none⟩ = xs[j]?) : W.ownsRow base e size (.slice (some ⟨g, 0, none⟩) n cap) n xs := by
  refine ⟨hx, .inr ⟨g, cap, cur, rfl, hb, hh, hn, hm, hs, ?_⟩⟩
  have hle : n * size ≤ cap * size := Nat.mul_le_mul_right _ hn
  apply List.ext_getElem?
  intro j
  rw [List.getElem?_take]
  by_cases hj : j < n * size
  · rw [if_pos hj, ← hc j hj, cell_of_row W g j cur e (0, 0) hh]; simp
  · rw [if_neg hj, List.getElem?_eq_none (by omega)]
theorem cells_kind {g : Nat} {e : TypeId} (b : Nat) : ∀ (vs : List Value) (o : Nat) (W : World) (cur : Array Value), W.heap[g]? = some (.cells cur e (0, 0)) → ∃ cur', (W.setCells b o vs).heap[g]? = some (.cells cur' e (0, 0)) ∧ cur'.size = cur.size
  | [], _, _, cur, h => ⟨cur, h, rfl⟩
  | v :: r, o, W, cur, h => by
    rw [World.setCells]
    by_cases hb : g = b
    · subst hb
      obtain ⟨cur', h1, h2⟩ := cells_kind g r (o + 1) (W.setCell ⟨g, o, none⟩ v) (cur.setIfInBounds o v) (heap_setCell_same W g o cur e v h)
      exact ⟨cur', h1, by rw [h2]; simp⟩
    · obtain ⟨cur', h1, h2⟩ := cells_kind b r (o + 1) (W.setCell ⟨b, o, none⟩ v) cur ((heap_setCell_other W ⟨b, o, none⟩ g v hb).trans h)
      exact ⟨cur', h1, h2⟩
theorem own_split {W : World} {base n size : Nat} {e : TypeId} {v : Value} {xs : List Value} (h : W.ownsRow base e size v n xs) (hn : 0 < n) : ∃ g cap cur, v = .slice (some ⟨g, 0, none⟩) n cap ∧ base ≤ g ∧ W.heap[g]? = some (.cells cur e (0, 0)) ∧ n ≤ cap ∧ cap ≤ maxLen ∧ cur.size = cap * size := by
  rcases h.2 with ⟨_, h0⟩ | ⟨g, cap, cur, hv, hb, hh, h1, h2, h3, _⟩
  · omega
  · exact ⟨g, cap, cur, hv, hb, hh, h1, h2, h3⟩
theorem own_mono {W : World} {base base' n size : Nat} {e : TypeId} {v : Value} {xs : List Value} (h : W.ownsRow base e size v n xs) (hb : base' ≤ base) : W.ownsRow base' e size v n xs := by
  refine ⟨h.1, ?_⟩
  rcases h.2 with h0 | ⟨g, cap, cur, hv, hg, r⟩
  · exact .inl h0
  · exact .inr ⟨g, cap, cur, hv, Nat.le_trans hb hg, r⟩
theorem own_ap {S : Nat → Prop} {W W' : World} {base n size : Nat} {e : TypeId} {v : Value} {xs : List Value} (h : W.ownsRow base e size v n xs) (a : Ap S W W') (hS : ∀ g, v.ownBlock = some g → ¬ S g) : W'.ownsRow base e size v n xs := by
  refine ⟨h.1, ?_⟩
  rcases h.2 with h0 | ⟨g, cap, cur, rfl, hg, hh, r⟩
  · exact .inl h0
  · exact .inr ⟨g, cap, cur, rfl, hg, (a.block g (Array.getElem?_eq_some_iff.1 hh).1 (hS g rfl)).trans hh, r⟩
theorem RowE.of_own {W : World} {base g n c : Nat} {L : List EN} (h : W.ownsRow base 38 4 (.slice (some ⟨g, 0, none⟩) n c) L.length (eCells L)) (hn : n = L.length) : RowE W g L := by
  subst hn
  have hg : g < W.heap.size := (World.ownsRow.lt h g rfl).2
  refine ⟨hg, fun i hi => ?_, fun o _ => World.ownsRow.frozenAt h o⟩
  have hc : ∀ q, q < 4 → W.cell? ⟨g, i * 4 + q, none⟩ = (L.getD i EN.zero).cells[q]? := fun q hq => by
    rw [World.ownsRow.cellAt h _ (by omega), eCells_at L i hi q hq]
  exact ⟨hc 0 (by omega), hc 1 (by omega), hc 2 (by omega), hc 3 (by omega)⟩
/-! ### slices.Clone -/
theorem ents_cells {w : World} {b off : Nat} {l : List EN} (hc : ∀ j, j < l.length → EntAt w b (off + j * 4) (l.getD j EN.zero)) : ∀ j u, (eCells l)[j]? = some u → w.cell? ((⟨b, off, none⟩ : Addr).add j) = some u := by
  have h := cut_cells (M := 0) (m := l.length) hc (by omega)
  rw [List.drop_zero, List.take_of_length_le (Nat.le_refl _), Nat.zero_mul, Nat.add_zero] at h
  exact h
set_option maxRecDepth 100000 in
set_option maxHeartbeats 2000000 in
theorem cloneE_any (L : List EN) (v : Value) (w : World) (hv : EntsS w v L) (hL : L.length ≤ 65536) :
    Calls Tryd.prog 34 #[v] w fun e w' => ∃ v', e = .returned v' ∧ w'.ownsRow w.heap.size 38 4 v' L.length (eCells L) ∧ Below w.heap.size w w' := by
  obtain ⟨A, cap, rfl, hc1, hc2, hc3⟩ := hv
  obtain ⟨i0, hi, hz0, hz1, hz2⟩ := entInfo'
  have HLL := Lib.hid hL
  have q0 : ∀ (w : World) (a : Option Addr) (n c n' c' : Nat), (binOp .eql 40 (.slice a n c) (.slice none n' c')).run Tryd.prog w = .ok (.bool a.isNone) w := fun w a n c n' c' => Lib.run_eql_slice_nil w _ _ a n c n' c' Tryd.underlying40
  cases A with
  | none =>
    have h0 : L = [] := by
      rcases hc3 with h | ⟨b, off, h, _⟩
      · exact h
      · cases h
    subst h0
    clear hc3 hL
    go_enter Tryd.func34, Tryd.ntmps34
    go_wp2
    go_ret
    exact ⟨_, rfl, World.ownsRow_nil _ _ _ _, Below.refl _ _⟩
  | some ad =>
    have HC : Hid (∀ j u, (eCells L)[j]? = some u → (w.alloc (.cells #[] 38)).cell? (ad.add j) = some u) := Lib.hid (by
      rcases hc3 with rfl | ⟨b, off, h, hlt, hc⟩
      · intro j u h; simp [eCells] at h
      · injection h with h
        subst h
        exact ents_cells (fun j hj => (hc j hj).below (below1 w _) hlt))
    have HA := Lib.hid (ownE_empty w)
    clear hc3 hL
    go_enter Tryd.func34, Tryd.ntmps34
    go_wp2_with (at_builtin; (with_reducible refine wpList_append_own_at _ ?g0 (.tmp 5) (.tmp 6) 40 ?g1 w.heap.size 38 i0 (.agg #[.int .u8 0, .int .i64 0, .int .i64 0, .int .i64 0]) 4 32 Tryd.underlying40 hi hz0 hz1 hz2 ?g2 (by decide) (.slice (some ⟨w.heap.size, 0, none⟩) 0 0) 0 [] ?g3 HA.out ad L.length cap (eCells L) ?g4 ?g5 ?c1 ?c2 ?c3 ?c4 ?c5 ?_); (case g0 => rfl); (case g1 => rfl); (case g2 => rfl); (case g3 => rfl); (case g4 => rfl); (case g5 => exact eCells_len L); (case c1 => exact HC.out); (case c2 => exact eCells_one _); (case c3 => have := HLL.out; unfold maxLen; omega); (case c4 => have := HLL.out; omega); (case c5 => simp); (intro v' w3 hown3 hgrow _ _))
    rw [Nat.zero_add, List.nil_append] at hown3
    have hB := (below1 w (.cells #[] 38)).grown hgrow (by simp) (fun g hg => by injection hg with hg; exact Nat.le_of_eq hg)
    obtain ⟨ao, cp, rfl, _⟩ := own_form hown3
    go_wp2
    go_ret
    exact ⟨_, rfl, hown3, hB⟩
theorem tabs_cells {w : World} {b off : Nat} {T : List TB} {us : List Value} (hl : us.length = T.length) (hc : ∀ j, j < T.length → w.cell? ⟨b, off + j * 2, none⟩ = some (.int .i64 (T.getD j TB.zero).at') ∧ w.cell? ⟨b, off + j * 2 + 1, none⟩ = us[j]?) : ∀ j u, (tCells T us)[j]? = some u → w.cell? ((⟨b, off, none⟩ : Addr).add j) = some u := by
  intro j u hu
  have hj : j < T.length * 2 := by have := (List.getElem?_eq_some_iff.1 hu).1; rw [tCells_len _ _ hl] at this; exact this
  have e : ((⟨b, off, none⟩ : Addr).add j) = ⟨b, off + j, none⟩ := by unfold Addr.add; split <;> simp_all
  obtain ⟨i, q, hq, rfl⟩ : ∃ i q, q < 2 ∧ j = i * 2 + q := ⟨j / 2, j % 2, Nat.mod_lt _ (by omega), by omega⟩
  obtain ⟨a1, a2⟩ := tCells_at T us hl i (by omega)
  obtain ⟨c1, c2⟩ := hc i (by omega)
  rw [e]
  match q, hq with
  | 0, _ => rw [Nat.add_zero] at hu ⊢; rw [a1] at hu; rw [← hu]; exact c1
  | 1, _ => rw [a2] at hu; rw [← Nat.add_assoc, ← hu]; exact c2
theorem tCells_one : ∀ (T : List TB) (us : List Value), (∀ u ∈ us, u.oneCell' = true) → ∀ u ∈ tCells T us, u.oneCell' = true
  | [], _, _, u, hu => by unfold tCells at hu; cases hu
  | _ :: _, [], _, u, hu => by unfold tCells at hu; cases hu
  | t :: T, x :: us, h, u, hu => by
    rw [tCells] at hu
    rcases List.mem_cons.1 hu with rfl | hu
    · rfl
    rcases List.mem_cons.1 hu with rfl | hu
    · exact h _ (List.mem_cons_self ..)
    · exact tCells_one T us (fun y hy => h y (List.mem_cons_of_mem _ hy)) u hu
theorem ownT_empty (W : World) : (W.alloc (.cells #[] 42)).ownsRow W.heap.size 42 2 (.slice (some ⟨W.heap.size, 0, none⟩) 0 0) 0 [] :=
  ⟨rfl, .inr ⟨W.heap.size, 0, #[], rfl, Nat.le_refl _, heap_alloc_new W _, Nat.le_refl _, Nat.zero_le _, rfl, rfl⟩⟩
set_option maxRecDepth 100000 in
set_option maxHeartbeats 2000000 in
theorem cloneT_any (T : List TB) (us : List Value) (A : Option Addr) (cap : Nat) (w : World) (hT : T.length ≤ 65536) (hn : A = none → T.length = 0) (hl : us.length = T.length)
    (hc : ∀ j u, (tCells T us)[j]? = some u → ∀ ad, A = some ad → w.cell? (ad.add j) = some u) (hlt : ∀ ad, A = some ad → T.length ≠ 0 → ad.block < w.heap.size) (h1 : ∀ u ∈ us, u.oneCell' = true) :
    Calls Tryd.prog 33 #[.slice A T.length cap] w fun e w' => ∃ v', e = .returned v' ∧ w'.ownsRow w.heap.size 42 2 v' T.length (tCells T us) ∧ Below w.heap.size w w' := by
  obtain ⟨i0, hi, hz0, hz1, hz2⟩ := tabInfo'
  have HLL := Lib.hid hT
  have q0 : ∀ (w : World) (a : Option Addr) (n c n' c' : Nat), (binOp .eql 25 (.slice a n c) (.slice none n' c')).run Tryd.prog w = .ok (.bool a.isNone) w := fun w a n c n' c' => Lib.run_eql_slice_nil w _ _ a n c n' c' Tryd.underlying25
  have HTL := Lib.hid (tCells_len T us hl)
  have HT1 := Lib.hid (tCells_one T us h1)
  cases A with
  | none =>
    have h0 : T = [] := List.eq_nil_of_length_eq_zero (hn rfl)
    subst h0
    have h2 : us = [] := List.eq_nil_of_length_eq_zero hl
    subst h2
    clear hc hT hn hlt hl h1
    go_enter Tryd.func33, Tryd.ntmps33
    go_wp2
    go_ret
    exact ⟨_, rfl, World.ownsRow_nil _ _ _ _, Below.refl _ _⟩
  | some ad =>
    have HC : Hid (∀ j u, (tCells T us)[j]? = some u → (w.alloc (.cells #[] 42)).cell? (ad.add j) = some u) := Lib.hid (by
      intro j u h
      exact Lib.cell?_alloc_some _ (hc j u h ad rfl))
    have HA := Lib.hid (ownT_empty w)
    clear hc hT hn hlt hl h1
    generalize tCells T us = xs at HC HTL HT1 ⊢
    go_enter Tryd.func33, Tryd.ntmps33
    go_wp2_with (at_builtin; (with_reducible refine wpList_append_own_at _ ?g0 (.tmp 5) (.tmp 6) 25 ?g1 w.heap.size 42 i0 (.agg #[.int .i64 0, .slice none 0 0]) 2 32 Tryd.underlying25 hi hz0 hz1 hz2 ?g2 (by decide) (.slice (some ⟨w.heap.size, 0, none⟩) 0 0) 0 [] ?g3 HA.out ad T.length cap xs ?g4 ?g5 ?c1 ?c2 ?c3 ?c4 ?c5 ?_); (case g0 => rfl); (case g1 => rfl); (case g2 => rfl); (case g3 => rfl); (case g4 => rfl); (case g5 => exact HTL.out); (case c1 => exact HC.out); (case c2 => exact HT1.out); (case c3 => have := HLL.out; unfold maxLen; omega); (case c4 => have := HLL.out; omega); (case c5 => simp); (intro v' w3 hown3 hgrow _ _))
    rw [Nat.zero_add, List.nil_append] at hown3
    have hB := (below1 w (.cells #[] 42)).grown hgrow (by simp) (fun g hg => by injection hg with hg; exact Nat.le_of_eq hg)
    obtain ⟨ao, cp, rfl, _⟩ := own_form hown3
    go_wp2
    go_ret
    exact ⟨_, rfl, hown3, hB⟩
end Go.Proofs.YtngkbcaflkinhaaDoor
namespace Go.Proofs.YtngkbcaflkinhaaDoor
open Go.RowKit

abbrev PT := TB × Value
def PT.zero : PT := (TB.zero, .slice none 0 0)
def pC (P : List PT) : List Value := P.flatMap fun p => [.int .i64 p.1.at', p.2]
theorem pC_len (P : List PT) : (pC P).length = P.length * 2 := by
  unfold pC
  induction P with
  | nil => rfl
  | cons p r ih => rw [List.flatMap_cons, List.length_append, ih, List.length_cons, List.length_cons, List.length_cons, List.length_nil]; omega
theorem pC_at : ∀ (P : List PT) (j : Nat), j < P.length → (pC P)[j * 2]? = some (.int .i64 (P.getD j PT.zero).1.at') ∧ (pC P)[j * 2 + 1]? = some (P.getD j PT.zero).2
  | p :: r, 0, _ => ⟨rfl, rfl⟩
  | p :: r, j + 1, h => by
    have := pC_at r j (by simpa using h)
    rw [show (j + 1) * 2 = j * 2 + 1 + 1 by omega]
    exact this
theorem pC_app (P Q : List PT) : pC (P ++ Q) = pC P ++ pC Q := by unfold pC; rw [List.flatMap_append]
theorem pC_set : ∀ (P : List PT) (j : Nat) (t : TB) (u : Value), j < P.length → ((pC P).set (j * 2) (.int .i64 t.at')).set (j * 2 + 1) u = pC (P.set j (t, u))
  | p :: r, 0, t, u, _ => rfl
  | p :: r, j + 1, t, u, h => by
    have := pC_set r j t u (by simpa using h)
    rw [show (j + 1) * 2 = j * 2 + 1 + 1 by omega]
    show .int .i64 p.1.at' :: p.2 :: ((pC r).set (j * 2) _).set (j * 2 + 1) u = .int .i64 p.1.at' :: p.2 :: pC (r.set j (t, u))
    rw [this]
theorem pC_take : ∀ (P : List PT) (i : Nat), (pC P).take (i * 2) = pC (P.take i)
  | _, 0 => by simp [pC]
  | [], i + 1 => by simp [pC]
  | p :: r, i + 1 => by
    rw [show (i + 1) * 2 = i * 2 + 1 + 1 by omega]
    show .int .i64 p.1.at' :: p.2 :: (pC r).take (i * 2) = .int .i64 p.1.at' :: p.2 :: pC (r.take i)
    rw [pC_take r i]
theorem pC_tc : ∀ (T : List TB) (us : List Value), tCells T us = pC (T.zip us)
  | [], _ => by simp [tCells, pC]
  | _ :: _, [] => by simp [tCells, pC]
  | t :: T, u :: us => by
    show .int .i64 t.at' :: u :: tCells T us = .int .i64 t.at' :: u :: pC (T.zip us)
    rw [pC_tc T us]
/-- Tables in a row of a call's own, each one's entries in a block apart. -/
structure PO (W : World) (B U : Nat) (v : Value) (P : List PT) : Prop where
  own : W.ownsRow B 42 2 v P.length (pC P)
  each : ∀ p ∈ P, OneO W B p.2 p.1.l v.ownBlock
  up : ∀ g, v.ownBlock = some g → g < U
  ups : ∀ p ∈ P, ∀ g, p.2.ownBlock = some g → g < U
theorem OneO.ap {S : Nat → Prop} {W W' : World} {B : Nat} {u : Value} {l : List EN} {ob : Option Nat} (k : OneO W B u l ob) (a : Ap S W W') (hS : ∀ q, S q → q < B ∨ some q = ob ∨ some q ≠ u.ownBlock) : OneO W' B u l ob := by
  obtain ⟨h1, g, n, c, rfl, hB, hg, hne⟩ := k
  refine ⟨h1.ap a (fun e => ?_), g, n, c, rfl, hB, Nat.lt_of_lt_of_le hg a.size, hne⟩
  rcases hS g e with h | h | h
  · omega
  · exact hne h
  · exact h rfl
theorem PO.ap {S : Nat → Prop} {W W' : World} {B U : Nat} {v : Value} {P : List PT} (k : PO W B U v P) (a : Ap S W W') (hS : ∀ q, S q → q < B ∨ U ≤ q) : PO W' B U v P := by
  refine ⟨⟨k.own.1, ?_⟩, fun p hp => (k.each p hp).ap a (fun q h => ?_), k.up, k.ups⟩
  · rcases k.own.2 with h0 | ⟨g, cap, cur, rfl, hg, hh, r⟩
    · exact .inl h0
    · refine .inr ⟨g, cap, cur, rfl, hg, (a.block g (Array.getElem?_eq_some_iff.1 hh).1 (fun e => ?_)).trans hh, r⟩
      have h1 := hS g e
      have h2 := k.up g rfl
      omega
  · rcases hS q h with h1 | h1
    · exact .inl h1
    · exact .inr (.inr (fun e => by have := k.ups p hp q e.symm; omega))
theorem PO.below {W W' : World} {B U : Nat} {v : Value} {P : List PT} (k : PO W B U v P) (hb : Below W.heap.size W W') : PO W' B U v P := k.ap (S := fun _ => False) (Ap.of_below hb) (fun _ h => h.elim)
theorem getD_memP {P : List PT} {j : Nat} (hj : j < P.length) : P.getD j PT.zero ∈ P := by
  rw [List.getD, List.getElem?_eq_getElem hj]; exact List.getElem_mem _
theorem getD_fst {P : List PT} {j : Nat} (hj : j < P.length) : (P.map Prod.fst).getD j TB.zero = (P.getD j PT.zero).1 := by
  rw [List.getD, List.getElem?_map, List.getD, List.getElem?_eq_getElem hj]; rfl
theorem PO.tabs {W : World} {B U : Nat} {v : Value} {P : List PT} (k : PO W B U v P) : TabsS W v (P.map Prod.fst) := by
  have hl : (P.map Prod.fst).length = P.length := List.length_map ..
  unfold TabsS
  rw [hl]
  rcases k.own.2 with ⟨rfl, h0⟩ | ⟨g, cap, cur, rfl, hb, hh, hn, hm, hs, ht⟩
  · have : P = [] := List.eq_nil_of_length_eq_zero h0
    subst this
    exact ⟨none, 0, rfl, Nat.le_refl _, Nat.zero_le _, .inl rfl⟩
  · refine ⟨_, cap, rfl, hn, hm, .inr ⟨g, 0, rfl, (Array.getElem?_eq_some_iff.1 hh).1, fun j hj => ?_⟩⟩
    obtain ⟨a1, a2⟩ := pC_at P j hj
    rw [getD_fst hj, Nat.zero_add]
    exact ⟨_, (World.ownsRow.cellAt k.own _ (by omega)).trans a1, (World.ownsRow.cellAt k.own _ (by omega)).trans a2, (k.each _ (getD_memP hj)).1⟩
/-! ### prune's closure, and IndexFunc with it -/
def dropB (p : PT) : Bool := !p.1.l.any fullB
theorem prune1_any (a : Int) (l : List EN) (u : Value) (w : World) (hu : EntsS w u l) : Calls Tryd.prog 42 #[.agg #[.int .i64 a, u]] w fun e w' => e = .returned (.bool (!l.any fullB)) ∧ Below w.heap.size w w' := by
  have hC := fun W h => contFull_any l u W h
  generalize l.any fullB = bb at hC ⊢
  have HB0 := Lib.hid (below1 w (.cells #[.int .i64 a, u] 42))
  have HX0 := Lib.hid (B2.new w (.int .i64 a) u 42)
  have HU := Lib.hid (hu.below HB0.out (Nat.le_refl _))
  clear hu
  go_enter Tryd.func42, Tryd.ntmps42
  go_upto_region 1 with fail
  generalize w.alloc (.cells #[.int .i64 a, u] 42) = w0 at HB0 HX0 HU ⊢
  obtain ⟨_, y0, y1, _, _⟩ := HX0.out
  go_wp2_with (go_at_call 31; with_reducible refine (hC _ HU.out).mono ?_; rintro e w2 ⟨rfl, hb2⟩; have HB2 := Lib.hid (HB0.out.trans (hb2.mono HB0.out.size)); clear hb2)
  go_ret
  exact ⟨rfl, HB2.out⟩
theorem PO.cell {W : World} {B U g cap : Nat} {P : List PT} (k : PO W B U (.slice (some ⟨g, 0, none⟩) P.length cap) P) {j : Nat} (hj : j < P.length) : W.cell? ⟨g, j * 2, none⟩ = some (.int .i64 (P.getD j PT.zero).1.at') ∧ W.cell? ⟨g, j * 2 + 1, none⟩ = some (P.getD j PT.zero).2 := by
  obtain ⟨a1, a2⟩ := pC_at P j hj
  exact ⟨(World.ownsRow.cellAt k.own _ (by omega)).trans a1, (World.ownsRow.cellAt k.own _ (by omega)).trans a2⟩
set_option maxRecDepth 100000 in
set_option maxHeartbeats 2000000 in
theorem idxDrop_any (P : List PT) (v : Value) (B U : Nat) (w : World) (hv : PO w B U v P) :
    Calls Tryd.prog 53 #[v, .func (.func 42) #[] #[]] w fun e w' => e = .returned (.int .i64 (idxI dropB P 0)) ∧ Below w.heap.size w w' := by
  have hP := prune1_any
  have HV := Lib.hid hv
  obtain ⟨A, cap, rfl, hA⟩ := own_form hv.own
  have HA := Lib.hid hA
  have hcap : P.length ≤ cap ∧ cap ≤ maxLen := by
    rcases hv.own.2 with ⟨h, h0⟩ | ⟨g, cap', cur, h, _, _, h1, h2, _⟩
    · injection h with _ e1 e2; exact ⟨by omega, by rw [e2]; exact Nat.zero_le _⟩
    · injection h with _ e1 e2; subst e2; exact ⟨h1, h2⟩
  obtain ⟨hc1, hc2⟩ := hcap
  clear hv hA
  go_enter Tryd.func53, Tryd.ntmps53
  go_wp2
  go_loopw [8] (fun ix wr => ∃ (j : Nat), j ≤ P.length ∧ ix = .int .i64 (j : Int) ∧ (∀ k, k < j → dropB (P.getD k PT.zero) = false) ∧ Below w.heap.size w wr) (fun ix _ => P.length - (intOf ix).toNat)
  case atStart => exact ⟨0, Nat.zero_le _, rfl, (fun i h => absurd h (by omega)), Below.refl _ _⟩
  case round =>
    obtain ⟨j, hj, rfl, hp, hB⟩ := hrel
    have HB := Lib.hid hB
    have HP := Lib.hid hp
    clear hB hp
    by_cases hlt : j < P.length
    · obtain ⟨g, rfl, _, hg⟩ := HA.out (by omega)
      have HVr := HV.out.below HB.out
      obtain ⟨q0, q1⟩ := HVr.cell hlt
      have HE := Lib.hid (HVr.each _ (getD_memP hlt)).1
      have hw1 := wrap_succ hlt hc1 hc2
      have HNX : Hid (dropB (P.getD j PT.zero) = false → ∀ k, k < j + 1 → dropB (P.getD k PT.zero) = false) := Lib.hid (fun h k hk => by
        by_cases e : k = j
        · rw [e]; exact h
        · exact HP.out k (by omega))
      have HAT : Hid (dropB (P.getD j PT.zero) = true → idxI dropB P 0 = (j : Int)) := Lib.hid (fun h => by
        rw [idxI_at dropB PT.zero P 0 j hlt HP.out h]; congr 1; omega)
      unfold dropB at HNX HAT
      clear HVr hg
      generalize P.getD j PT.zero = p at q0 q1 HE HNX HAT
      obtain ⟨⟨a, l⟩, u⟩ := p
      dsimp only at q0 q1 HE HNX HAT
      have hPj := hP a l u
      clear hP
      generalize (!l.any fullB) = bb at hPj HNX HAT
      cases bb
      · have HN := Lib.hid (HNX.out rfl)
        clear HNX HAT
        go_wp2_with (go_at_call 42; (with_reducible refine (hPj _ HE.out).mono ?_); rintro e w2 ⟨rfl, hb2⟩; have HB2 := Lib.hid (HB.out.trans (hb2.mono HB.out.size)); clear hb2)
        rw [hw1]
        clear hw1
        go_roundw
        case rel => exact ⟨j + 1, by omega, by go_num, HN.out, HB2.out⟩
        case measure => simp [intOf]; omega
      · have HAA := Lib.hid (HAT.out rfl)
        clear HNX HAT
        go_wp2_with (go_at_call 42; (with_reducible refine (hPj _ HE.out).mono ?_); rintro e w2 ⟨rfl, hb2⟩; have HB2 := Lib.hid (HB.out.trans (hb2.mono HB.out.size)); clear hb2)
        go_ret
        exact ⟨by have h9 := HAA.out; unfold dropB; rw [h9]; rfl, HB2.out⟩
    · obtain rfl : j = P.length := by omega
      have HF : Hid (idxI dropB P 0 = -1) := Lib.hid (idxI_none dropB P 0 (all_false dropB PT.zero P HP.out))
      go_wp2
      go_ret
      exact ⟨by rw [HF.out]; rfl, HB.out⟩
end Go.Proofs.YtngkbcaflkinhaaDoor
namespace Go.Proofs.YtngkbcaflkinhaaDoor
open Go.RowKit

/-- A slice that reads as these tables, whatever is written below B. -/
def TabsF (B : Nat) (w : World) (v : Value) (T : List TB) : Prop := ∀ W', Ap (fun q => q < B) w W' → TabsS W' v T
theorem TabsF.tabs {B : Nat} {w : World} {v : Value} {T : List TB} (k : TabsF B w v T) : TabsS w v T := k w (Ap.refl w)
theorem TabsF.none (B : Nat) (w : World) : TabsF B w (.slice none 0 0) [] := fun _ _ => ⟨Option.none, 0, rfl, Nat.le_refl _, Nat.zero_le _, .inl rfl⟩
theorem TabsF.below {B : Nat} {w w' : World} {v : Value} {T : List TB} (k : TabsF B w v T) (hb : Below w.heap.size w w') : TabsF B w' v T := fun W' a => k W' ((Ap.of_below hb).trans a)
theorem PO.tabsF {W : World} {B B' U : Nat} {v : Value} {P : List PT} (k : PO W B U v P) (hB : B' ≤ B) : TabsF B' W v (P.map Prod.fst) := fun _ a => (k.ap a (fun _ h => .inl (Nat.lt_of_lt_of_le h hB))).tabs
end Go.Proofs.YtngkbcaflkinhaaDoor
