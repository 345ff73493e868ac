/- Charts: what the program makes of a map: tables set, put between, cut, turned, and those of holes alone dropped; that it is the map of the entries that the document has. Charts: rows of tables and of entries that a call owns and may write; the contracts of slices.Clone on them. -/
import Derived.Test.YthhbaccbhfngbaaMb09
import Derived.Laws.OwnMore
import Derived.Laws.IdiomCopy
import Derived.Lib.SliceRun
namespace Go.Proofs.Ythhbaccbhfngbaa
open Go.RowKit

def pruneT (T : List TB) : List TB := T.filter (fun t => t.l.any fullB)
/-- A map that is right but for tables of holes alone. -/
structure CHalf (E BN : Nat) (T : List TB) : Prop where
  e1 : 1 ≤ E
  e2 : E ≤ 8192
  b2 : BN ≤ 65536
  rise : T.Pairwise (fun a b => a.at' < b.at')
  each : ∀ t ∈ T, ∃ k : Nat, t.at' = (k : Int) ∧ t.l.length = E ∧ ∀ i, i < E → EOk (t.l.getD i EN.zero) ∧ (BN ≤ k * E + i → t.l.getD i EN.zero = EN.zero)
theorem pair_rises {T : List TB} (h : T.Pairwise (fun a b => a.at' < b.at')) : Rises T := by
  rw [List.pairwise_iff_getElem] at h
  intro i j hij hj
  have := h i j (by omega) hj hij
  rw [List.getD, List.getElem?_eq_getElem (by omega), List.getD, List.getElem?_eq_getElem hj]
  exact this
theorem COk.half {E BN : Nat} {T : List TB} (h : COk E BN T) : CHalf E BN T :=
  ⟨h.e1, h.e2, h.b2, rises_pair h.rise, fun t ht => by obtain ⟨k, h1, _, h3, _, h5⟩ := h.tab ht; exact ⟨k, h1, h3, h5⟩⟩
theorem getD_memT {T : List TB} {j : Nat} (hj : j < T.length) : T.getD j TB.zero ∈ T := by
  rw [List.getD, List.getElem?_eq_getElem hj]; exact List.getElem_mem _
theorem full_at {l : List EN} (h : l.any fullB = true) : ∃ i, i < l.length ∧ fullB (l.getD i EN.zero) = true := by
  obtain ⟨x, hx, hf⟩ := List.any_eq_true.1 h
  obtain ⟨i, hi, rfl⟩ := List.mem_iff_getElem.1 hx
  exact ⟨i, hi, by rw [List.getD, List.getElem?_eq_getElem hi]; exact hf⟩
theorem prune_ok {E BN : Nat} {T : List TB} (h : CHalf E BN T) : COk E BN (pruneT T) := by
  refine ⟨h.e1, h.e2, h.b2, pair_rises (h.rise.filter _), fun j hj => ?_⟩
  have hm := getD_memT hj
  generalize (pruneT T).getD j TB.zero = t at hm ⊢
  obtain ⟨ht, hf⟩ := List.mem_filter.1 hm
  obtain ⟨k, hk, hl, hc⟩ := h.each t ht
  obtain ⟨i, hi, hfi⟩ := full_at hf
  rw [hl] at hi
  have hlt : k * E + i < BN := by
    by_cases hb : k * E + i < BN
    · exact hb
    · rw [(hc i hi).2 (by omega)] at hfi; exact absurd hfi (by decide)
  refine ⟨k, hk, by omega, ?_⟩
  rw [← Int.natCast_mul, show (BN : Int) - ((k * E : Nat) : Int) = ((BN - k * E : Nat) : Int) by omega]
  refine (tbl_ref E (BN - k * E) _ hl).2 ⟨hf, fun i hi => ⟨(hc i (by omega)).1, fun hb => ?_⟩⟩
  rw [(hc i (by omega)).2 (by omega)]; rfl
/-! ### what a block's entry is, by the tables -/
theorem look_mem {E b : Nat} {T : List TB} {t : TB} (hp : T.Pairwise (fun a b => a.at' < b.at')) (ht : t ∈ T) (ha : t.at' = ((b / E : Nat) : Int)) : lookM E T b = t.l.getD (b % E) EN.zero := by
  obtain ⟨i, hi, rfl⟩ := mem_getD ht
  unfold lookM
  rw [find_rise hi ha (pair_rises hp)]
theorem look_out {E b : Nat} {T : List TB} (h : ∀ t ∈ T, t.at' ≠ ((b / E : Nat) : Int)) : lookM E T b = EN.zero := by
  unfold lookM
  have : T.find? (fun t => decide (t.at' = ((b / E : Nat) : Int))) = none := by
    rw [List.find?_eq_none]
    intro x hx hc
    exact h x hx (by simpa using hc)
  rw [this]
theorem getD_full {l : List EN} (h : l.any fullB = false) (i : Nat) : fullB (l.getD i EN.zero) = false := by
  by_cases hi : i < l.length
  · rw [List.getD, List.getElem?_eq_getElem hi]
    have := List.any_eq_false.1 h _ (List.getElem_mem hi)
    simpa using this
  · rw [List.getD, List.getElem?_eq_none (by omega)]; rfl
theorem look_prune {E BN : Nat} {T : List TB} (h : CHalf E BN T) (b : Nat) : lookM E (pruneT T) b = lookM E T b := by
  by_cases hx : ∃ t ∈ T, t.at' = ((b / E : Nat) : Int)
  · obtain ⟨t, ht, ha⟩ := hx
    rw [look_mem h.rise ht ha]
    cases hf : t.l.any fullB with
    | true => exact look_mem (h.rise.filter _) (List.mem_filter.2 ⟨ht, hf⟩) ha
    | false =>
      obtain ⟨k, hk, hl, hc⟩ := h.each t ht
      have h1 := eok_hole (hc (b % E) (Nat.mod_lt _ h.e1)).1 (getD_full hf _)
      rw [h1]
      refine look_out (fun s hs hsa => ?_)
      obtain ⟨hs1, hs2⟩ := List.mem_filter.1 hs
      obtain ⟨i, hi, rfl⟩ := mem_getD ht
      obtain ⟨j, hj, rfl⟩ := mem_getD hs1
      have hR := pair_rises h.rise
      rcases Nat.lt_trichotomy i j with hij | hij | hij
      · have := hR i j hij hj; omega
      · subst hij; rw [hf] at hs2; exact absurd hs2 (by decide)
      · have := hR j i hij hi; omega
  · have hx' : ∀ t ∈ T, t.at' ≠ ((b / E : Nat) : Int) := fun t ht e => hx ⟨t, ht, e⟩
    rw [look_out hx']
    exact look_out (fun t ht => hx' t (List.mem_filter.1 ht).1)
theorem flat_prune {E BN : Nat} {T : List TB} (h : CHalf E BN T) : flatM E BN (pruneT T) = flatM E BN T := by
  unfold flatM
  exact List.map_congr_left fun b _ => look_prune h b
/-- What is pruned is the map of its entries. -/
theorem prune_of {E BN : Nat} {T : List TB} (h : CHalf E BN T) : pruneT T = ofM E (flatM E BN T) := by
  rw [← flat_prune h]
  exact (canon (prune_ok h)).symm
/-! ### a table put between -/
theorem cut_before : ∀ (T : List TB) (k : Int), T.Pairwise (fun a b => a.at' < b.at') → (∀ t ∈ T.take (before T k), t.at' < k) ∧ (∀ t ∈ T.drop (before T k), k ≤ t.at') ∧ before T k ≤ T.length
  | [], _, _ => ⟨fun t h => (by simp at h), fun t h => (by simp at h), Nat.le_refl _⟩
  | t :: r, k, h => by
    rw [List.pairwise_cons] at h
    obtain ⟨h1, h2⟩ := h
    obtain ⟨a, b, c⟩ := cut_before r k h2
    unfold before at a b c ⊢
    rw [List.countP_cons]
    by_cases ht : t.at' < k
    · rw [if_pos (by simpa using ht)]
      refine ⟨fun s hs => ?_, fun s hs => ?_, by simp; omega⟩
      · rw [List.take_succ_cons] at hs
        rcases List.mem_cons.1 hs with rfl | hs
        · exact ht
        · exact a s hs
      · rw [List.drop_succ_cons] at hs; exact b s hs
    · have h0 : r.countP (fun t => decide (t.at' < k)) = 0 := by
        rw [List.countP_eq_zero]
        intro s hs
        have := h1 s hs
        simp; omega
      rw [if_neg (by simpa using ht), h0]
      refine ⟨fun s hs => (by simp at hs), fun s hs => ?_, Nat.zero_le _⟩
      rcases List.mem_cons.1 (by simpa using hs) with rfl | hs
      · omega
      · have := h1 s hs; omega
def insT (E : Nat) (T : List TB) (k : Nat) : List TB := T.take (before T (k : Int)) ++ ⟨(k : Int), List.replicate E EN.zero⟩ :: T.drop (before T (k : Int))
theorem zero_ok : EOk EN.zero := .inl ⟨rfl, rfl, rfl, rfl⟩
theorem rep_getD (E i : Nat) : (List.replicate E EN.zero).getD i EN.zero = EN.zero := by
  rw [List.getD, List.getElem?_replicate]; split <;> rfl
theorem ins_pair {E k : Nat} {T : List TB} (h : T.Pairwise (fun a b => a.at' < b.at')) (hn : isThere T (k : Int) = false) : (insT E T k).Pairwise (fun a b => a.at' < b.at') := by
  obtain ⟨a, b, _⟩ := cut_before T (k : Int) h
  have hne : ∀ t ∈ T, t.at' ≠ (k : Int) := fun t ht e => by
    unfold isThere at hn
    have := List.any_eq_false.1 hn t ht
    simp at this; exact this e
  unfold insT
  rw [List.pairwise_append, List.pairwise_cons]
  refine ⟨h.sublist (List.take_sublist ..), ⟨fun t ht => ?_, h.sublist (List.drop_sublist ..)⟩, fun s hs t ht => ?_⟩
  · have h1 := b t ht; have h2 := hne t ((List.drop_sublist ..).subset ht); show (k : Int) < t.at'; omega
  · have h1 := a s hs
    rcases List.mem_cons.1 ht with rfl | ht
    · exact h1
    · have := b t ht; omega
theorem ins_mem {E k : Nat} {T : List TB} {t : TB} : t ∈ insT E T k ↔ t ∈ T ∨ t = ⟨(k : Int), List.replicate E EN.zero⟩ := by
  have e : T = T.take (before T (k : Int)) ++ T.drop (before T (k : Int)) := (List.take_append_drop ..).symm
  unfold insT
  rw [List.mem_append, List.mem_cons]
  constructor
  · rintro (h | h | h)
    · exact .inl ((List.take_sublist ..).subset h)
    · exact .inr h
    · exact .inl ((List.drop_sublist ..).subset h)
  · rintro (h | h)
    · rw [e] at h
      rcases List.mem_append.1 h with h | h
      · exact .inl h
      · exact .inr (.inr h)
    · exact .inr (.inl h)
theorem ins_half {E BN k : Nat} {T : List TB} (h : CHalf E BN T) (hn : isThere T (k : Int) = false) : CHalf E BN (insT E T k) := by
  refine ⟨h.e1, h.e2, h.b2, ins_pair h.rise hn, fun t ht => ?_⟩
  rcases ins_mem.1 ht with ht | rfl
  · exact h.each t ht
  · exact ⟨k, rfl, List.length_replicate, fun i _ => by rw [rep_getD]; exact ⟨zero_ok, fun _ => rfl⟩⟩
theorem ins_look {E k : Nat} {T : List TB} (h : T.Pairwise (fun a b => a.at' < b.at')) (hn : isThere T (k : Int) = false) (b : Nat) : lookM E (insT E T k) b = lookM E T b := by
  have hne : ∀ t ∈ T, t.at' ≠ (k : Int) := fun t ht e => by
    unfold isThere at hn
    have := List.any_eq_false.1 hn t ht
    simp at this; exact this e
  by_cases hx : ∃ t ∈ T, t.at' = ((b / E : Nat) : Int)
  · obtain ⟨t, ht, ha⟩ := hx
    rw [look_mem h ht ha, look_mem (ins_pair h hn) (ins_mem.2 (.inl ht)) ha]
  · rw [look_out (fun t ht e => hx ⟨t, ht, e⟩)]
    by_cases hk : (k : Int) = ((b / E : Nat) : Int)
    · rw [look_mem (ins_pair h hn) (ins_mem.2 (.inr rfl)) hk]; exact rep_getD _ _
    · refine look_out (fun t ht e => ?_)
      rcases ins_mem.1 ht with ht | rfl
      · exact hx ⟨t, ht, e⟩
      · exact hk e
theorem ins_at {E k : Nat} {T : List TB} (hi : before T (k : Int) ≤ T.length) : before T (k : Int) < (insT E T k).length ∧ (insT E T k).getD (before T (k : Int)) TB.zero = ⟨(k : Int), List.replicate E EN.zero⟩ := by
  have hl : (T.take (before T (k : Int))).length = before T (k : Int) := by rw [List.length_take]; omega
  unfold insT
  refine ⟨by rw [List.length_append, hl, List.length_cons]; omega, ?_⟩
  rw [List.getD, List.getElem?_append_right (by omega), hl, Nat.sub_self]; rfl
/-! ### an entry set -/
def putT (T : List TB) (i r : Nat) (x : EN) : List TB := T.set i ⟨(T.getD i TB.zero).at', (T.getD i TB.zero).l.set r x⟩
theorem put_mem {T : List TB} {i r : Nat} {x : EN} {t : TB} (h : t ∈ putT T i r x) : t ∈ T ∨ t = ⟨(T.getD i TB.zero).at', (T.getD i TB.zero).l.set r x⟩ := List.mem_or_eq_of_mem_set h
theorem put_getD (T : List TB) (i r j : Nat) (x : EN) (hi : i < T.length) : (putT T i r x).getD j TB.zero = if j = i then ⟨(T.getD i TB.zero).at', (T.getD i TB.zero).l.set r x⟩ else T.getD j TB.zero := by
  unfold putT
  rw [List.getD, List.getElem?_set]
  by_cases h : i = j
  · subst h; rw [if_pos rfl, if_pos hi, if_pos rfl]; rfl
  · rw [if_neg h, if_neg (fun e => h e.symm)]; rfl
theorem put_pair {T : List TB} (h : T.Pairwise (fun a b => a.at' < b.at')) {i : Nat} (hi : i < T.length) (r : Nat) (x : EN) : (putT T i r x).Pairwise (fun a b => a.at' < b.at') := by
  refine rises_pair (fun a b hab hb => ?_)
  have hb' : b < T.length := by unfold putT at hb; rw [List.length_set] at hb; exact hb
  have := pair_rises h a b hab hb'
  rw [put_getD _ _ _ _ _ hi, put_getD _ _ _ _ _ hi]
  by_cases e1 : a = i
  · subst e1; rw [if_pos rfl]
    by_cases e2 : b = a
    · omega
    · rw [if_neg e2]; exact this
  · rw [if_neg e1]
    by_cases e2 : b = i
    · subst e2; rw [if_pos rfl]; exact this
    · rw [if_neg e2]; exact this
theorem put_half {E BN k i r : Nat} {T : List TB} {x : EN} (h : CHalf E BN T) (hi : i < T.length) (hk : (T.getD i TB.zero).at' = (k : Int)) (hb : k * E + r < BN) (hr : r < E) (hx : EOk x) : CHalf E BN (putT T i r x) := by
  refine ⟨h.e1, h.e2, h.b2, put_pair h.rise hi r x, fun t ht => ?_⟩
  rcases put_mem ht with ht | rfl
  · exact h.each t ht
  · obtain ⟨k', h1, h2, h3⟩ := h.each _ (getD_memT hi)
    have : k' = k := by omega
    subst this
    refine ⟨k', h1, by rw [List.length_set]; exact h2, fun j hj => ?_⟩
    dsimp only
    rw [getD_setE _ _ _ _ (by rw [h2]; exact hr)]
    by_cases e : j = r
    · rw [if_pos e]; exact ⟨hx, fun hc => by omega⟩
    · rw [if_neg e]; exact h3 j hj
theorem divmod_ne {E k r b : Nat} (hb : b ≠ k * E + r) (hd : b / E = k) : b % E ≠ r := by
  intro e
  have := Nat.div_add_mod b E
  rw [hd, e, Nat.mul_comm] at this
  exact hb this.symm
theorem divmod_eq {E k r : Nat} (hr : r < E) : (k * E + r) / E = k ∧ (k * E + r) % E = r := by
  constructor
  · rw [Nat.mul_comm, Nat.mul_add_div (by omega), Nat.div_eq_of_lt hr, Nat.add_zero]
  · rw [Nat.mul_comm, Nat.mul_add_mod, Nat.mod_eq_of_lt hr]
theorem put_look {E BN k i r : Nat} {T : List TB} {x : EN} (h : CHalf E BN T) (hi : i < T.length) (hk : (T.getD i TB.zero).at' = (k : Int)) (hr : r < E) (b : Nat) : lookM E (putT T i r x) b = if b = k * E + r then x else lookM E T b := by
  have hp := put_pair h.rise hi r x
  obtain ⟨_, _, hl, _⟩ := h.each _ (getD_memT hi)
  have hmem : (⟨(T.getD i TB.zero).at', (T.getD i TB.zero).l.set r x⟩ : TB) ∈ putT T i r x := by
    have h1 := getD_memT (T := putT T i r x) (j := i) (by unfold putT; rw [List.length_set]; exact hi)
    rw [put_getD _ _ _ _ _ hi, if_pos rfl] at h1; exact h1
  by_cases e : b / E = k
  · have ha : (T.getD i TB.zero).at' = ((b / E : Nat) : Int) := by rw [hk, e]
    rw [look_mem hp hmem ha, look_mem h.rise (getD_memT hi) ha]
    dsimp only
    rw [getD_setE _ _ _ _ (by rw [hl]; exact hr)]
    by_cases eb : b = k * E + r
    · rw [if_pos eb, if_pos (by rw [eb]; exact (divmod_eq hr).2)]
    · rw [if_neg eb, if_neg (divmod_ne eb e)]
  · rw [if_neg (fun eb => e (by rw [eb]; exact (divmod_eq hr).1))]
    by_cases hx : ∃ t ∈ T, t.at' = ((b / E : Nat) : Int)
    · obtain ⟨t, ht, ha⟩ := hx
      obtain ⟨j, hj, rfl⟩ := mem_getD ht
      have hji : j ≠ i := fun e2 => by subst e2; omega
      have h1 := getD_memT (T := putT T i r x) (j := j) (by unfold putT; rw [List.length_set]; exact hj)
      rw [put_getD _ _ _ _ _ hi, if_neg hji] at h1
      rw [look_mem h.rise ht ha, look_mem hp h1 ha]
    · rw [look_out (fun t ht e2 => hx ⟨t, ht, e2⟩)]
      refine look_out (fun t ht e2 => ?_)
      rcases put_mem ht with ht | rfl
      · exact hx ⟨t, ht, e2⟩
      · dsimp only at e2; omega
/-- What Set makes. -/
def setP (E : Nat) (T : List TB) (b : Nat) (x : EN) : List TB :=
  pruneT (putT (if isThere T ((b / E : Nat) : Int) = true then T else insT E T (b / E)) (before T ((b / E : Nat) : Int)) (b % E) x)
theorem setP_eq {E BN b : Nat} {T : List TB} {x : EN} (h : COk E BN T) (hb : b < BN) (hx : EOk x) : setP E T b x = ofM E ((flatM E BN T).set b x) := by
  have hh := h.half
  obtain ⟨T1, hT1⟩ : ∃ T1, T1 = if isThere T ((b / E : Nat) : Int) = true then T else insT E T (b / E) := ⟨_, rfl⟩
  have hm := Nat.mod_lt b h.e1
  have hd : b / E * E + b % E = b := by rw [Nat.mul_comm]; exact Nat.div_add_mod b E
  have key : CHalf E BN T1 ∧ before T ((b / E : Nat) : Int) < T1.length ∧ (T1.getD (before T ((b / E : Nat) : Int)) TB.zero).at' = ((b / E : Nat) : Int) ∧ ∀ c, lookM E T1 c = lookM E T c := by
    rw [hT1]
    by_cases ht : isThere T ((b / E : Nat) : Int) = true
    · rw [if_pos ht]
      obtain ⟨i, hi, ha⟩ := there_iff.1 ht
      rw [before_at hi ha h.rise]
      exact ⟨hh, hi, ha, fun _ => rfl⟩
    · rw [if_neg ht]
      have ht' : isThere T ((b / E : Nat) : Int) = false := by simpa using ht
      obtain ⟨_, _, hle⟩ := cut_before T ((b / E : Nat) : Int) hh.rise
      obtain ⟨h1, h2⟩ := ins_at (E := E) (T := T) (k := b / E) hle
      exact ⟨ins_half hh ht', h1, by rw [h2], ins_look hh.rise ht'⟩
  obtain ⟨h1, h2, h3, h4⟩ := key
  unfold setP
  rw [← hT1, prune_of (put_half h1 h2 h3 (by rw [hd]; exact hb) hm hx)]
  congr 1
  refine same_all (by rw [List.length_set, flatM_len, flatM_len]) (fun c hc => ?_)
  rw [flatM_len] at hc
  rw [flatM_at _ _ _ hc, put_look h1 h2 h3 hm c, hd, h4 c, getD_setE _ _ _ _ (by rw [flatM_len]; exact hb), flatM_at _ _ _ hc]
/-! ### all entries turned -/
def mapT (f : TB → Nat → EN → EN) (T : List TB) : List TB := T.map fun t => ⟨t.at', t.l.mapIdx (f t)⟩
theorem mapIdx_getD {f : Nat → EN → EN} (l : List EN) {i : Nat} (hi : i < l.length) : (l.mapIdx f).getD i EN.zero = f i (l.getD i EN.zero) := by
  rw [List.getD, List.getElem?_mapIdx, List.getD, List.getElem?_eq_getElem hi]; rfl
theorem map_pair {f : TB → Nat → EN → EN} {T : List TB} (h : T.Pairwise (fun a b => a.at' < b.at')) : (mapT f T).Pairwise (fun a b => a.at' < b.at') := by
  unfold mapT
  rw [List.pairwise_map]; exact h
theorem map_look {E BN b : Nat} {f : TB → Nat → EN → EN} {T : List TB} (h : CHalf E BN T) (g : EN → EN) (hf : ∀ t ∈ T, ∀ x, t.at' = ((b / E : Nat) : Int) → f t (b % E) x = g x) (hg : g EN.zero = EN.zero) : lookM E (mapT f T) b = g (lookM E T b) := by
  have hp := map_pair (f := f) h.rise
  have hm := Nat.mod_lt b h.e1
  by_cases hx : ∃ t ∈ T, t.at' = ((b / E : Nat) : Int)
  · obtain ⟨t, ht, ha⟩ := hx
    obtain ⟨_, _, hl, _⟩ := h.each t ht
    rw [look_mem h.rise ht ha, look_mem hp (List.mem_map.2 ⟨t, ht, rfl⟩) ha, mapIdx_getD _ (by rw [hl]; exact hm), hf t ht _ ha]
  · rw [look_out (fun t ht e => hx ⟨t, ht, e⟩), hg]
    refine look_out (fun t ht e => ?_)
    obtain ⟨s, hs, rfl⟩ := List.mem_map.1 ht
    exact hx ⟨s, hs, e⟩
/-- Swap. -/
def swapT (was is : EN) (T : List TB) : List TB := mapT (fun _ _ => swap1 was is) T
theorem swap1_zero (was is : EN) : swap1 was is EN.zero = EN.zero := by unfold swap1; rw [if_neg (fun h => absurd h.2 (by decide))]
theorem swapT_half {E BN : Nat} {T : List TB} {was is : EN} (h : CHalf E BN T) (hi : EOk is) : CHalf E BN (swapT was is T) := by
  refine ⟨h.e1, h.e2, h.b2, map_pair h.rise, fun t ht => ?_⟩
  obtain ⟨s, hs, rfl⟩ := List.mem_map.1 ht
  obtain ⟨k, h1, h2, h3⟩ := h.each s hs
  refine ⟨k, h1, by rw [List.length_mapIdx]; exact h2, fun i hi' => ?_⟩
  dsimp only
  rw [mapIdx_getD _ (by rw [h2]; exact hi')]
  obtain ⟨h4, h5⟩ := h3 i hi'
  refine ⟨?_, fun hb => by rw [h5 hb, swap1_zero]⟩
  unfold swap1; split
  · exact hi
  · exact h4
theorem swapP_eq {E BN : Nat} {T : List TB} {was is : EN} (h : COk E BN T) (hi : EOk is) : pruneT (swapT was is T) = ofM E (swapL was is (flatM E BN T)) := by
  rw [prune_of (swapT_half h.half hi)]
  congr 1
  refine same_all (by unfold swapL; rw [List.length_map, flatM_len, flatM_len]) (fun c hc => ?_)
  rw [flatM_len] at hc
  rw [flatM_at _ _ _ hc]
  unfold swapT
  rw [map_look h.half (swap1 was is) (fun _ _ _ _ => rfl) (swap1_zero _ _)]
  unfold swapL
  rw [List.getD, List.getElem?_map]
  have := flatM_at E BN T hc
  rw [List.getD, List.getElem?_eq_getElem (by rw [flatM_len]; exact hc)] at this
  rw [List.getElem?_eq_getElem (by rw [flatM_len]; exact hc)]
  show _ = swap1 was is _
  rw [← this]; rfl
/-- Resize. -/
def cutF (E BN' : Nat) (t : TB) (i : Nat) (x : EN) : EN := if BN' ≤ t.at'.toNat * E + i then EN.zero else x
def cutT (E BN' : Nat) (T : List TB) : List TB := mapT (cutF E BN') T
def resL (BN' : Nat) (L : List EN) : List EN := (L ++ List.replicate (BN' - L.length) EN.zero).take BN'
theorem resL_len (BN' : Nat) (L : List EN) : (resL BN' L).length = BN' := by unfold resL; rw [List.length_take, List.length_append, List.length_replicate]; omega
theorem resL_at (BN' : Nat) (L : List EN) {i : Nat} (hi : i < BN') : (resL BN' L).getD i EN.zero = L.getD i EN.zero := by
  unfold resL
  rw [List.getD, List.getElem?_take, if_pos hi, List.getElem?_append]
  by_cases h : i < L.length
  · rw [if_pos h]; rfl
  · rw [if_neg h, List.getElem?_replicate, if_pos (by omega), List.getD, List.getElem?_eq_none (by omega)]; rfl
theorem cutT_half {E BN BN' : Nat} {T : List TB} (h : CHalf E BN T) (hb : BN' ≤ 65536) : CHalf E BN' (cutT E BN' T) := by
  refine ⟨h.e1, h.e2, hb, map_pair h.rise, fun t ht => ?_⟩
  obtain ⟨s, hs, rfl⟩ := List.mem_map.1 ht
  obtain ⟨k, h1, h2, h3⟩ := h.each s hs
  refine ⟨k, h1, by rw [List.length_mapIdx]; exact h2, fun i hi' => ?_⟩
  dsimp only
  rw [mapIdx_getD _ (by rw [h2]; exact hi')]
  have e : s.at'.toNat = k := by omega
  unfold cutF
  rw [e]
  by_cases hc : BN' ≤ k * E + i
  · rw [if_pos hc]; exact ⟨zero_ok, fun _ => rfl⟩
  · rw [if_neg hc]; exact ⟨(h3 i hi').1, fun h => absurd h hc⟩
theorem cutP_eq {E BN BN' : Nat} {T : List TB} (h : COk E BN T) (hb : BN' ≤ 65536) : pruneT (cutT E BN' T) = ofM E (resL BN' (flatM E BN T)) := by
  rw [prune_of (cutT_half h.half hb)]
  congr 1
  refine same_all (by rw [resL_len, flatM_len]) (fun c hc => ?_)
  rw [flatM_len] at hc
  rw [flatM_at _ _ _ hc, resL_at _ _ hc, flat_getD]
  unfold cutT
  rw [map_look h.half id (fun t _ x ha => ?_) rfl]
  · by_cases hcb : c < BN
    · rw [if_pos hcb]; rfl
    · rw [if_neg hcb]
      show lookM E T c = _
      by_cases hx : ∃ t ∈ T, t.at' = ((c / E : Nat) : Int)
      · obtain ⟨t, ht, ha⟩ := hx
        obtain ⟨k, h1, h2, h3⟩ := h.half.each t ht
        rw [look_mem (rises_pair h.rise) ht ha]
        have hk : k = c / E := by omega
        refine (h3 _ (Nat.mod_lt _ h.e1)).2 ?_
        have h9 : c / E * E + c % E = c := by rw [Nat.mul_comm]; exact Nat.div_add_mod c E
        rw [hk, h9]; omega
      · exact look_out (fun t ht e => hx ⟨t, ht, e⟩)
  · show cutF E BN' t (c % E) x = x
    unfold cutF
    rw [if_neg]
    have h9 : c / E * E + c % E = c := by rw [Nat.mul_comm]; exact Nat.div_add_mod c E
    have e : t.at'.toNat = c / E := by rw [ha]; exact Int.toNat_natCast _
    rw [e, h9]; omega
end Go.Proofs.Ythhbaccbhfngbaa
namespace Go.Proofs.Ythhbaccbhfngbaa
open Go.RowKit

/-! ### rows, cell by cell -/
theorem own_build {W : World} {base g n cap size : Nat} {e : TypeId} {cur : Array Value} {xs : List Value} (hb : base ≤ g) (hh : W.heap[g]? = some (.cells cur e (0, 0))) (hs : cur.size = cap * size) (hn : n ≤ cap) (hm : cap ≤ maxLen) (hx : xs.length = n * size)
    (hc : ∀ j, j < n * size → W.cell? ⟨g, j, none⟩ = xs[j]?) : W.ownsRow base e size (.slice (some ⟨g, 0, none⟩) n cap) n xs := by
  refine ⟨hx, .inr ⟨g, cap, cur, rfl, hb, hh, hn, hm, hs, ?_⟩⟩
  have hle : n * size ≤ cap * size := Nat.mul_le_mul_right _ hn
  apply List.ext_getElem?
  intro j
  rw [List.getElem?_take]
  by_cases hj : j < n * size
  · rw [if_pos hj, ← hc j hj, cell_of_row W g j cur e (0, 0) hh]; simp
  · rw [if_neg hj, List.getElem?_eq_none (by omega)]
theorem cells_kind {g : Nat} {e : TypeId} (b : Nat) : ∀ (vs : List Value) (o : Nat) (W : World) (cur : Array Value), W.heap[g]? = some (.cells cur e (0, 0)) → ∃ cur', (W.setCells b o vs).heap[g]? = some (.cells cur' e (0, 0)) ∧ cur'.size = cur.size
  | [], _, _, cur, h => ⟨cur, h, rfl⟩
  | v :: r, o, W, cur, h => by
    rw [World.setCells]
    by_cases hb : g = b
    · subst hb
      obtain ⟨cur', h1, h2⟩ := cells_kind g r (o + 1) (W.setCell ⟨g, o, none⟩ v) (cur.setIfInBounds o v) (heap_setCell_same W g o cur e v h)
      exact ⟨cur', h1, by rw [h2]; simp⟩
    · obtain ⟨cur', h1, h2⟩ := cells_kind b r (o + 1) (W.setCell ⟨b, o, none⟩ v) cur ((heap_setCell_other W ⟨b, o, none⟩ g v hb).trans h)
      exact ⟨cur', h1, h2⟩
theorem own_split {W : World} {base n size : Nat} {e : TypeId} {v : Value} {xs : List Value} (h : W.ownsRow base e size v n xs) (hn : 0 < n) : ∃ g cap cur, v = .slice (some ⟨g, 0, none⟩) n cap ∧ base ≤ g ∧ W.heap[g]? = some (.cells cur e (0, 0)) ∧ n ≤ cap ∧ cap ≤ maxLen ∧ cur.size = cap * size := by
  rcases h.2 with ⟨_, h0⟩ | ⟨g, cap, cur, hv, hb, hh, h1, h2, h3, _⟩
  · omega
  · exact ⟨g, cap, cur, hv, hb, hh, h1, h2, h3⟩
theorem own_mono {W : World} {base base' n size : Nat} {e : TypeId} {v : Value} {xs : List Value} (h : W.ownsRow base e size v n xs) (hb : base' ≤ base) : W.ownsRow base' e size v n xs := by
  refine ⟨h.1, ?_⟩
  rcases h.2 with h0 | ⟨g, cap, cur, hv, hg, r⟩
  · exact .inl h0
  · exact .inr ⟨g, cap, cur, hv, Nat.le_trans hb hg, r⟩
theorem own_ap {S : Nat → Prop} {W W' : World} {base n size : Nat} {e : TypeId} {v : Value} {xs : List Value} (h : W.ownsRow base e size v n xs) (a : Ap S W W') (hS : ∀ g, v.ownBlock = some g → ¬ S g) : W'.ownsRow base e size v n xs := by
  refine ⟨h.1, ?_⟩
  rcases h.2 with h0 | ⟨g, cap, cur, rfl, hg, hh, r⟩
  · exact .inl h0
  · exact .inr ⟨g, cap, cur, rfl, hg, (a.block g (Array.getElem?_eq_some_iff.1 hh).1 (hS g rfl)).trans hh, r⟩
theorem RowE.of_own {W : World} {base g n c : Nat} {L : List EN} (h : W.ownsRow base 50 4 (.slice (some ⟨g, 0, none⟩) n c) L.length (eCells L)) (hn : n = L.length) : RowE W g L := by
  subst hn
  have hg : g < W.heap.size := (World.ownsRow.lt h g rfl).2
  refine ⟨hg, fun i hi => ?_, fun o _ => World.ownsRow.frozenAt h o⟩
  have hc : ∀ q, q < 4 → W.cell? ⟨g, i * 4 + q, none⟩ = (L.getD i EN.zero).cells[q]? := fun q hq => by
    rw [World.ownsRow.cellAt h _ (by omega), eCells_at L i hi q hq]
  exact ⟨hc 0 (by omega), hc 1 (by omega), hc 2 (by omega), hc 3 (by omega)⟩
/-! ### slices.Clone -/
theorem ents_cells {w : World} {b off : Nat} {l : List EN} (hc : ∀ j, j < l.length → EntAt w b (off + j * 4) (l.getD j EN.zero)) : ∀ j u, (eCells l)[j]? = some u → w.cell? ((⟨b, off, none⟩ : Addr).add j) = some u := by
  have h := cut_cells (M := 0) (m := l.length) hc (by omega)
  rw [List.drop_zero, List.take_of_length_le (Nat.le_refl _), Nat.zero_mul, Nat.add_zero] at h
  exact h
theorem tabs_cells {w : World} {b off : Nat} {T : List TB} {us : List Value} (hl : us.length = T.length) (hc : ∀ j, j < T.length → w.cell? ⟨b, off + j * 2, none⟩ = some (.int .i64 (T.getD j TB.zero).at') ∧ w.cell? ⟨b, off + j * 2 + 1, none⟩ = us[j]?) : ∀ j u, (tCells T us)[j]? = some u → w.cell? ((⟨b, off, none⟩ : Addr).add j) = some u := by
  intro j u hu
  have hj : j < T.length * 2 := by have := (List.getElem?_eq_some_iff.1 hu).1; rw [tCells_len _ _ hl] at this; exact this
  have e : ((⟨b, off, none⟩ : Addr).add j) = ⟨b, off + j, none⟩ := by unfold Addr.add; split <;> simp_all
  obtain ⟨i, q, hq, rfl⟩ : ∃ i q, q < 2 ∧ j = i * 2 + q := ⟨j / 2, j % 2, Nat.mod_lt _ (by omega), by omega⟩
  obtain ⟨a1, a2⟩ := tCells_at T us hl i (by omega)
  obtain ⟨c1, c2⟩ := hc i (by omega)
  rw [e]
  match q, hq with
  | 0, _ => rw [Nat.add_zero] at hu ⊢; rw [a1] at hu; rw [← hu]; exact c1
  | 1, _ => rw [a2] at hu; rw [← Nat.add_assoc, ← hu]; exact c2
theorem tCells_one : ∀ (T : List TB) (us : List Value), (∀ u ∈ us, u.oneCell' = true) → ∀ u ∈ tCells T us, u.oneCell' = true
  | [], _, _, u, hu => by unfold tCells at hu; cases hu
  | _ :: _, [], _, u, hu => by unfold tCells at hu; cases hu
  | t :: T, x :: us, h, u, hu => by
    rw [tCells] at hu
    rcases List.mem_cons.1 hu with rfl | hu
    · rfl
    rcases List.mem_cons.1 hu with rfl | hu
    · exact h _ (List.mem_cons_self ..)
    · exact tCells_one T us (fun y hy => h y (List.mem_cons_of_mem _ hy)) u hu
theorem ownT_empty (W : World) : (W.alloc (.cells #[] 55)).ownsRow W.heap.size 55 2 (.slice (some ⟨W.heap.size, 0, none⟩) 0 0) 0 [] :=
  ⟨rfl, .inr ⟨W.heap.size, 0, #[], rfl, Nat.le_refl _, heap_alloc_new W _, Nat.le_refl _, Nat.zero_le _, rfl, rfl⟩⟩
end Go.Proofs.Ythhbaccbhfngbaa
