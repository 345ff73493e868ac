/- Numbers, rising, each once (no program): what sorting and striking doubles gives, and what laying them in one by one gives, is one. -/
import Derived.Lib.SlicesCompact
namespace Go.Proofs.Ytdcpgjkaimekbaa

/-- Rising, each once. -/
def Ris (l : List Int) : Prop := l.Pairwise (· < ·)
theorem ris_eq : ∀ {a b : List Int}, Ris a → Ris b → (∀ x, x ∈ a ↔ x ∈ b) → a = b
  | [], [], _, _, _ => rfl
  | [], y :: b, _, _, h => absurd ((h y).2 (List.mem_cons_self ..)) (by simp)
  | x :: a, [], _, _, h => absurd ((h x).1 (List.mem_cons_self ..)) (by simp)
  | x :: a, y :: b, ha, hb, h => by
    have ha1 := List.pairwise_cons.1 ha
    have hb1 := List.pairwise_cons.1 hb
    have hxy : x = y := by
      have h1 := (h x).1 (List.mem_cons_self ..)
      have h2 := (h y).2 (List.mem_cons_self ..)
      rcases List.mem_cons.1 h1 with h1 | h1
      · exact h1
      rcases List.mem_cons.1 h2 with h2 | h2
      · exact h2.symm
      have := hb1.1 x h1
      have := ha1.1 y h2
      omega
    subst hxy
    congr 1
    refine ris_eq ha1.2 hb1.2 (fun z => ⟨fun hz => ?_, fun hz => ?_⟩)
    · rcases List.mem_cons.1 ((h z).1 (List.mem_cons_of_mem _ hz)) with e | e
      · have := ha1.1 z hz; omega
      · exact e
    · rcases List.mem_cons.1 ((h z).2 (List.mem_cons_of_mem _ hz)) with e | e
      · have := hb1.1 z hz; omega
      · exact e
/-- Laid in at its place. -/
def posU (l : List Int) (b : Int) : Nat := (l.takeWhile (fun x => decide (x < b))).length
def insU (l : List Int) (b : Int) : List Int := if (l.getD (posU l b) 0 = b ∧ posU l b < l.length) then l else l.take (posU l b) ++ b :: l.drop (posU l b)
def dedU (L : List Int) : List Int := L.foldl insU []
theorem posU_le (l : List Int) (b : Int) : posU l b ≤ l.length := by
  unfold posU
  exact (List.takeWhile_sublist _).length_le
theorem posU_take : ∀ (l : List Int) (b : Int) (i : Nat), i < posU l b → l.getD i 0 < b
  | [], b, i, h => by simp [posU] at h
  | x :: l, b, i, h => by
    unfold posU at h
    by_cases hx : x < b
    · rw [List.takeWhile_cons_of_pos (by simpa using hx), List.length_cons] at h
      cases i with
      | zero => exact hx
      | succ i => exact posU_take l b i (by unfold posU; omega)
    · rw [List.takeWhile_cons_of_neg (by simpa using hx)] at h
      simp at h
theorem posU_stop : ∀ (l : List Int) (b : Int), posU l b < l.length → b ≤ l.getD (posU l b) 0
  | [], b, h => by simp [posU] at h
  | x :: l, b, h => by
    unfold posU at h ⊢
    by_cases hx : x < b
    · rw [List.takeWhile_cons_of_pos (by simpa using hx), List.length_cons] at h ⊢
      exact posU_stop l b (by unfold posU; simpa using h)
    · rw [List.takeWhile_cons_of_neg (by simpa using hx)]
      show b ≤ x
      omega
/-- The search comes to that place. -/
theorem posU_find {l : List Int} {b : Int} {i : Nat} (hi : i ≤ l.length) (h1 : ∀ j, j < i → l.getD j 0 < b) (h2 : i < l.length → b ≤ l.getD i 0) : posU l b = i := by
  rcases Nat.lt_trichotomy (posU l b) i with h | h | h
  · have := h1 _ h
    have := posU_stop l b (by omega)
    omega
  · exact h
  · have := posU_take l b i h
    have := posU_le l b
    have := h2 (by omega)
    omega
theorem insU_ris {l : List Int} (h : Ris l) (b : Int) : Ris (insU l b) ∧ ∀ x, x ∈ insU l b ↔ x ∈ l ∨ x = b := by
  have hp := posU_le l b
  unfold insU
  by_cases hc : l.getD (posU l b) 0 = b ∧ posU l b < l.length
  · rw [if_pos hc]
    refine ⟨h, fun x => ⟨.inl, fun hx => ?_⟩⟩
    rcases hx with hx | hx
    · exact hx
    · rw [hx, ← hc.1, List.getD, List.getElem?_eq_getElem hc.2]; exact List.getElem_mem _
  · rw [if_neg hc]
    have ht : ∀ x ∈ l.take (posU l b), x < b := fun x hx => by
      obtain ⟨i, hi, rfl⟩ := List.mem_iff_getElem.1 hx
      rw [List.length_take] at hi
      have := posU_take l b i (by omega)
      rw [List.getD, List.getElem?_eq_getElem (by omega)] at this
      rw [List.getElem_take]; exact this
    have hd : ∀ x ∈ l.drop (posU l b), b < x := fun x hx => by
      obtain ⟨i, hi, rfl⟩ := List.mem_iff_getElem.1 hx
      rw [List.length_drop] at hi
      rw [List.getElem_drop]
      have h0 := posU_stop l b (by omega)
      have h1 : l.getD (posU l b) 0 ≠ b := fun e => hc ⟨e, by omega⟩
      rw [List.getD, List.getElem?_eq_getElem (by omega)] at h0 h1
      simp only [Option.getD_some] at h0 h1
      cases i with
      | zero => simp only [Nat.add_zero]; omega
      | succ i =>
        have := List.pairwise_iff_getElem.1 h (posU l b) (posU l b + (i + 1)) (by omega) (by omega) (by omega)
        omega
    refine ⟨?_, fun x => ?_⟩
    · refine List.pairwise_append.2 ⟨List.Pairwise.sublist (List.take_sublist _ _) h, List.pairwise_cons.2 ⟨hd, List.Pairwise.sublist (List.drop_sublist _ _) h⟩, fun x hx y hy => ?_⟩
      rcases List.mem_cons.1 hy with e | e
      · rw [e]; exact ht x hx
      · have := ht x hx; have := hd y e; omega
    · rw [List.mem_append, List.mem_cons]
      have : x ∈ l ↔ x ∈ l.take (posU l b) ∨ x ∈ l.drop (posU l b) := by rw [← List.mem_append, List.take_append_drop]
      rw [this]
      constructor
      · rintro (h | h | h)
        · exact .inl (.inl h)
        · exact .inr h
        · exact .inl (.inr h)
      · rintro ((h | h) | h)
        · exact .inl h
        · exact .inr (.inr h)
        · exact .inr (.inl h)
theorem dedU_ris (L : List Int) : Ris (dedU L) ∧ ∀ x, x ∈ dedU L ↔ x ∈ L := by
  have key : ∀ (L l : List Int), Ris l → Ris (L.foldl insU l) ∧ ∀ x, x ∈ L.foldl insU l ↔ x ∈ l ∨ x ∈ L := by
    intro L
    induction L with
    | nil => intro l h; exact ⟨h, fun x => by simp⟩
    | cons b L ih =>
      intro l h
      have h1 := insU_ris h b
      have h2 := ih (insU l b) h1.1
      refine ⟨h2.1, fun x => ?_⟩
      rw [List.foldl_cons, h2.2, h1.2, List.mem_cons, or_assoc]
  have h := key L [] List.Pairwise.nil
  exact ⟨h.1, fun x => by rw [show dedU L = L.foldl insU [] from rfl, h.2]; simp⟩
theorem insU_len (l : List Int) (b : Int) : (insU l b).length ≤ l.length + 1 := by
  unfold insU
  split
  · omega
  · have := posU_le l b
    rw [List.length_append, List.length_cons, List.length_take, List.length_drop]; omega
theorem dedU_len (L : List Int) : (dedU L).length ≤ L.length := by
  have key : ∀ (L l : List Int), (L.foldl insU l).length ≤ l.length + L.length := by
    intro L
    induction L with
    | nil => intro l; simp
    | cons b L ih =>
      intro l
      have := ih (insU l b)
      have := insU_len l b
      rw [List.foldl_cons, List.length_cons]; omega
  have := key L []
  unfold dedU; simpa using this
/-- Sorted, and doubles struck. -/
def srtL (L : List Int) : List Int := L.mergeSort (fun x y => decide (x ≤ y))
theorem srtL_pw (L : List Int) : (srtL L).Pairwise (· ≤ ·) := by
  have h := List.pairwise_mergeSort (le := fun x y : Int => decide (x ≤ y)) (fun a b c h1 h2 => by simp only [decide_eq_true_eq] at h1 h2 ⊢; omega) (fun a b => by simp only [Bool.or_eq_true, decide_eq_true_eq]; omega) L
  exact h.imp (fun h => by simpa using h)
theorem srtL_mem (L : List Int) (x : Int) : x ∈ srtL L ↔ x ∈ L := (List.mergeSort_perm L _).mem_iff
theorem srtL_len (L : List Int) : (srtL L).length = L.length := List.length_mergeSort ..
theorem compact_ris {zs : List Int} (h : zs.Pairwise (· ≤ ·)) : Ris (Go.Lib.compact zs) ∧ ∀ x, x ∈ Go.Lib.compact zs ↔ x ∈ zs := by
  have at' : ∀ i, (hi : i < zs.length) → zs.toArray[i]! = zs[i] := fun i hi => by rw [getElem!_pos _ _ (by simpa using hi)]; simp
  have mono : ∀ i j, i ≤ j → j < zs.length → zs.toArray[i]! ≤ zs.toArray[j]! := fun i j hij hj => by
    rw [at' i (by omega), at' j hj]
    rcases Nat.lt_or_ge i j with h1 | h1
    · exact List.pairwise_iff_getElem.1 h i j (by omega) hj h1
    · obtain rfl : i = j := by omega
      exact Int.le_refl _
  have key : ∀ m, m ≤ zs.length → Ris (Go.Lib.compactUpTo zs.toArray m) ∧ ∀ x, x ∈ Go.Lib.compactUpTo zs.toArray m ↔ ∃ j, j < m ∧ zs.toArray[j]! = x := by
    intro m
    induction m with
    | zero => intro _; exact ⟨List.Pairwise.nil, fun x => by simp [Go.Lib.compactUpTo]⟩
    | succ m ih =>
      intro hm
      obtain ⟨h1, h2⟩ := ih (by omega)
      rw [Go.Lib.compactUpTo_succ]
      by_cases hk : Go.Lib.keeps zs.toArray m = true
      · rw [if_pos hk]
        refine ⟨List.pairwise_append.2 ⟨h1, List.pairwise_singleton _ _, fun x hx y hy => ?_⟩, fun x => ?_⟩
        · rw [List.mem_singleton.1 hy]
          obtain ⟨j, hj, rfl⟩ := (h2 x).1 hx
          unfold Go.Lib.keeps at hk
          simp only [decide_eq_true_eq] at hk
          have a1 := mono j (m - 1) (by omega) (by omega)
          have a2 := mono (m - 1) m (by omega) (by omega)
          rcases hk with hk | hk
          · omega
          · omega
        · rw [List.mem_append, h2, List.mem_singleton]
          constructor
          · rintro (⟨j, hj, e⟩ | e)
            · exact ⟨j, by omega, e⟩
            · exact ⟨m, by omega, e.symm⟩
          · rintro ⟨j, hj, e⟩
            by_cases hjm : j = m
            · right; rw [← e, hjm]
            · exact .inl ⟨j, by omega, e⟩
      · rw [if_neg hk, List.append_nil]
        refine ⟨h1, fun x => (h2 x).trans ⟨fun ⟨j, hj, e⟩ => ⟨j, by omega, e⟩, fun ⟨j, hj, e⟩ => ?_⟩⟩
        by_cases hjm : j = m
        · subst hjm
          unfold Go.Lib.keeps at hk
          simp only [decide_eq_true_eq, not_or, Classical.not_not] at hk
          exact ⟨j - 1, by omega, by rw [← hk.2]; exact e⟩
        · exact ⟨j, by omega, e⟩
  obtain ⟨h1, h2⟩ := key zs.length (Nat.le_refl _)
  refine ⟨h1, fun x => ?_⟩
  unfold Go.Lib.compact
  rw [h2, List.mem_iff_getElem]
  constructor
  · rintro ⟨j, hj, e⟩; exact ⟨j, hj, by rw [← e, at' j hj]⟩
  · rintro ⟨j, hj, e⟩; exact ⟨j, hj, by rw [at' j hj]; exact e⟩
/-- Both are one. -/
theorem ded_eq (L : List Int) : Go.Lib.compact (srtL L) = dedU L := by
  have h1 := compact_ris (srtL_pw L)
  have h2 := dedU_ris L
  exact ris_eq h1.1 h2.1 (fun x => by rw [h1.2, h2.2, srtL_mem])
end Go.Proofs.Ytdcpgjkaimekbaa
