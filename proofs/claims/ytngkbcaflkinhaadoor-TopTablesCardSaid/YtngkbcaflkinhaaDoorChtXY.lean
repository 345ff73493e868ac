/- Charts: a right map is the map of its entries, block by block. Charts: the document's own New and Get. -/
import Derived.Test.YtngkbcaflkinhaaDoorChtTW
namespace Go.Proofs.YtngkbcaflkinhaaDoor
open Go.RowKit

theorem rises_pair {T : List TB} (h : Rises T) : T.Pairwise (fun a b => a.at' < b.at') := by
  rw [List.pairwise_iff_getElem]
  intro i j hi hj hij
  have := h i j hij hj
  rw [List.getD, List.getElem?_eq_getElem hi, List.getD, List.getElem?_eq_getElem hj] at this
  exact this
theorem filter_step : ∀ (T : List TB) (n : Int), T.Pairwise (fun a b => a.at' < b.at') → T.filter (fun t => decide (t.at' < n + 1)) = T.filter (fun t => decide (t.at' < n)) ++ (T.find? (fun t => decide (t.at' = n))).toList
  | [], _, _ => rfl
  | t :: r, n, h => by
    rw [List.pairwise_cons] at h
    obtain ⟨h1, h2⟩ := h
    have ih := filter_step r n h2
    have none_of : n ≤ t.at' → r.filter (fun t => decide (t.at' < n + 1)) = [] ∧ r.filter (fun t => decide (t.at' < n)) = [] := fun hn => by
      constructor
      · rw [List.filter_eq_nil_iff]; intro x hx; have := h1 x hx; simp; omega
      · rw [List.filter_eq_nil_iff]; intro x hx; have := h1 x hx; simp; omega
    by_cases a : t.at' < n
    · rw [List.filter_cons_of_pos (by simp; omega), List.filter_cons_of_pos (by simpa using a), List.find?_cons_of_neg (by simp; omega), ih]; rfl
    · by_cases b : t.at' = n
      · obtain ⟨e1, e2⟩ := none_of (by omega)
        rw [List.filter_cons_of_pos (by simp; omega), List.filter_cons_of_neg (by simp; omega), List.find?_cons_of_pos (by simp [b]), e1, e2]; rfl
      · obtain ⟨e1, e2⟩ := none_of (by omega)
        have e3 : r.find? (fun t => decide (t.at' = n)) = none := by
          rw [List.find?_eq_none]; intro x hx; have := h1 x hx; simp; omega
        rw [List.filter_cons_of_neg (by simp; omega), List.filter_cons_of_neg (by simp; omega), List.find?_cons_of_neg (by simpa using b), e1, e2, e3]; rfl
theorem filter_range {T : List TB} (h : T.Pairwise (fun a b => a.at' < b.at')) (h0 : ∀ t ∈ T, 0 ≤ t.at') : ∀ n : Nat, T.filter (fun t => decide (t.at' < (n : Int))) = (List.range n).flatMap fun k : Nat => (T.find? (fun t => decide (t.at' = (k : Int)))).toList
  | 0 => by
    rw [List.filter_eq_nil_iff.2]; rfl
    intro x hx; have := h0 x hx; simp; omega
  | n + 1 => by
    rw [List.range_succ, List.flatMap_append, List.flatMap_singleton, ← filter_range h h0 n, ← filter_step T (n : Int) h]
    rfl
theorem eok_hole {p : EN} (h : EOk p) (hf : fullB p = false) : p = EN.zero := by
  unfold fullB at hf
  have hk : p.kind = 0 := by
    by_cases h : p.kind = 0
    · exact h
    · have : (p.kind != 0) = true := by rw [bne_iff_ne]; exact h
      rw [this] at hf; exact absurd hf (by decide)
  rcases h with ⟨a, b, c, d⟩ | ⟨a, _⟩ | ⟨a, _⟩
  · obtain ⟨k, s, m, f⟩ := p; simp_all [EN.zero]
  · omega
  · omega
theorem mem_getD {T : List TB} {t : TB} (h : t ∈ T) : ∃ j, j < T.length ∧ T.getD j TB.zero = t := by
  obtain ⟨k, hk, rfl⟩ := List.mem_iff_getElem.1 h
  exact ⟨k, hk, by rw [List.getD, List.getElem?_eq_getElem hk]; rfl⟩
/-- What a table of a right map has. -/
theorem COk.tab {E BN : Nat} {T : List TB} (h : COk E BN T) {t : TB} (ht : t ∈ T) : ∃ k : Nat, t.at' = (k : Int) ∧ k * E < BN ∧ t.l.length = E ∧ t.l.any fullB = true ∧ ∀ i, i < E → EOk (t.l.getD i EN.zero) ∧ (BN ≤ k * E + i → t.l.getD i EN.zero = EN.zero) := by
  obtain ⟨j, hj, rfl⟩ := mem_getD ht
  obtain ⟨k, h1, h2, h3⟩ := h.each j hj
  have hl := tblB_len h3
  rw [← Int.natCast_mul, show (BN : Int) - ((k * E : Nat) : Int) = ((BN - k * E : Nat) : Int) by omega] at h3
  have hl' : (T.getD j TB.zero).l.length = E := by omega
  obtain ⟨h4, h5⟩ := (tbl_ref E (BN - k * E) _ hl').1 h3
  refine ⟨k, h1, h2, hl', h4, fun i hi => ⟨(h5 i (by omega)).1, fun hb => ?_⟩⟩
  exact eok_hole (h5 i (by omega)).1 ((h5 i (by omega)).2 (by omega))
theorem look_found {E k i : Nat} {T : List TB} {t : TB} (hi : i < E) (h : T.find? (fun t => decide (t.at' = (k : Int))) = some t) : lookM E T (k * E + i) = t.l.getD i EN.zero := by
  unfold lookM
  rw [show (k * E + i) / E = k by rw [Nat.mul_comm, Nat.mul_add_div (by omega), Nat.div_eq_of_lt hi, Nat.add_zero], show (k * E + i) % E = i by rw [Nat.mul_comm, Nat.mul_add_mod, Nat.mod_eq_of_lt hi], h]
theorem look_none {E k i : Nat} {T : List TB} (hi : i < E) (h : T.find? (fun t => decide (t.at' = (k : Int))) = none) : lookM E T (k * E + i) = EN.zero := by
  unfold lookM
  rw [show (k * E + i) / E = k by rw [Nat.mul_comm, Nat.mul_add_div (by omega), Nat.div_eq_of_lt hi, Nat.add_zero], h]
theorem flat_getD (E BN : Nat) (T : List TB) (b : Nat) : (flatM E BN T).getD b EN.zero = if b < BN then lookM E T b else EN.zero := by
  by_cases h : b < BN
  · rw [if_pos h, flatM_at _ _ _ h]
  · rw [if_neg h, List.getD, List.getElem?_eq_none (by rw [flatM_len]; omega)]; rfl
theorem oneT_find {E BN : Nat} {T : List TB} (h : COk E BN T) (k : Nat) : oneT E (flatM E BN T) k = (T.find? (fun t => decide (t.at' = (k : Int)))).toList := by
  unfold oneT
  cases hf : T.find? (fun t => decide (t.at' = (k : Int))) with
  | none =>
    have : (partL E (flatM E BN T) k).any fullB = false := by
      rw [List.any_eq_false]
      intro x hx
      obtain ⟨i, hi, rfl⟩ := List.mem_iff_getElem.1 hx
      rw [partL_len] at hi
      have e := partL_at E (flatM E BN T) k hi
      rw [List.getD, List.getElem?_eq_getElem (by rw [partL_len]; exact hi), flat_getD, look_none hi hf] at e
      have e2 : (partL E (flatM E BN T) k)[i] = EN.zero := by
        rw [Option.getD_some] at e; rw [e]; split <;> rfl
      rw [e2]; decide
    rw [this, if_neg (by decide)]; rfl
  | some t =>
    have ht : t ∈ T := List.mem_of_find?_eq_some hf
    obtain ⟨k', h1, h2, h3, h4, h5⟩ := h.tab ht
    have hk : t.at' = (k : Int) := by have := List.find?_some hf; simpa using this
    have hkk : k' = k := by omega
    subst hkk
    have e : partL E (flatM E BN T) k' = t.l := by
      refine same_all (by rw [partL_len, h3]) (fun i hi => ?_)
      rw [partL_len] at hi
      rw [partL_at _ _ _ hi, flat_getD, look_found hi hf]
      by_cases hb : k' * E + i < BN
      · rw [if_pos hb]
      · rw [if_neg hb, (h5 i hi).2 (by omega)]
    rw [e, if_pos h4]
    show [_] = [t]
    obtain ⟨a, l⟩ := t
    dsimp only at hk ⊢
    rw [hk]
theorem canon {E BN : Nat} {T : List TB} (h : COk E BN T) : ofM E (flatM E BN T) = T := by
  have hp := rises_pair h.rise
  have h0 : ∀ t ∈ T, 0 ≤ t.at' := fun t ht => by obtain ⟨k, h1, _⟩ := h.tab ht; omega
  unfold ofM ofK
  rw [flatM_len]
  have e1 : (List.range (nParts E BN)).flatMap (oneT E (flatM E BN T)) = (List.range (nParts E BN)).flatMap (fun k : Nat => (T.find? (fun t => decide (t.at' = (k : Int)))).toList) := by
    congr 1; funext k; exact oneT_find h k
  rw [e1, ← filter_range hp h0, List.filter_eq_self]
  intro t ht
  obtain ⟨k, h1, h2, _⟩ := h.tab ht
  have := (nParts_iff h.e1).2 h2
  simp only [decide_eq_true_eq]; omega
end Go.Proofs.YtngkbcaflkinhaaDoor
namespace Go.Proofs.YtngkbcaflkinhaaDoor
open Go.RowKit

end Go.Proofs.YtngkbcaflkinhaaDoor
