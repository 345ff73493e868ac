/- Laying one thing in, the document's way: append(append(append([]T{}, l[:i]...), x), l[i:]...): all three appends' runs at once. Numbers, rising, each once (no program): what sorting and striking doubles gives, and what laying them in one by one gives, is one. References: the document's Dead and Sparse. References: the document's Sparse, walked. -/
import Derived.Test.YthhbaccbhfngbaaMc00
import Derived.Maps.AppendAt
import Derived.Laws.OwnMore
import Derived.Lib.AppendZeros
import Derived.Lib.SlicesCompact
import Derived.Test.YthhbaccbhfngbaaRefM
import Derived.Deep.DeepCutAuto
namespace Go.Proofs.Ythhbaccbhfngbaa
open Go.RowKit

section
variable {α : Type} {k : Nat} {enc : α → List Value} {z : α}
/-- What may be appended: nil, or what lies there. -/
def SrcS (enc : α → List Value) (w : World) (u : Value) (S : List α) : Prop := ((∃ c, u = .slice none 0 c) ∧ S = []) ∨ ∃ a c, u = .slice (some a) S.length c ∧ ∀ j x, (S.flatMap enc)[j]? = some x → w.cell? (a.add j) = some x
theorem run_append_none_cap {P : Program} {w : World} {base t e n size : Nat} {i : TypeInfo} (ht : P.underlying t = some (.slice e)) (hi : P.info? e = some i) {v : Value} {xs : List Value} (hown : w.ownsRow base e size v n xs) (c : Nat) :
    (Builtin.append_ #[t, t] t #[v, .slice none 0 c]).run P w = .ok v w := by
  rcases hown.2 with ⟨rfl, rfl⟩ | ⟨g, cap, cur, rfl, _, _, hnc, _⟩
  · simp [Builtin.append_, run_underlying ht, sizeOf, typeInfo, hi, Builtin.lenOf, Builtin.firstCells]
  · simp [Builtin.append_, run_underlying ht, sizeOf, typeInfo, hi, Builtin.lenOf, Builtin.firstCells, hnc, storeCells]
theorem app_src {P : Program} {W : World} {base t e : Nat} {i0 : TypeInfo} {zv : Value} {bytes : Nat} (ht : P.underlying t = some (.slice e)) (hi : P.info? e = some i0) (hz0 : i0.zero = some zv) (hz1 : i0.size = k) (hz2 : i0.bytes = bytes) (hzs : zv.cells.size = k) (hk0 : 0 < k) (hk : ∀ x, (enc x).length = k) (h1 : ∀ x, ∀ u ∈ enc x, u.oneCell' = true)
    {v u : Value} {D S : List α} (hv : W.ownsRow base e k v D.length (D.flatMap enc)) (hu : SrcS enc W u S) (hl : D.length + S.length ≤ maxLen) (hb : (D.length + S.length) * bytes ≤ 140737488355328) (hbase : base ≤ W.heap.size) :
    ∃ v1 w1, (Builtin.append_ #[t, t] t #[v, u]).run P W = .ok v1 w1 ∧ w1.ownsRow base e k v1 (D ++ S).length ((D ++ S).flatMap enc) ∧ Below base W w1 ∧ (v1 = .slice none 0 0 ↔ v = .slice none 0 0 ∧ S = []) := by
  rcases hu with ⟨⟨c, rfl⟩, rfl⟩ | ⟨a, c, rfl, hc⟩
  · rw [List.append_nil]
    exact ⟨v, W, run_append_none_cap ht hi hv c, hv, Below.refl _ _, by simp⟩
  · obtain ⟨v', w', hr, h2, h3, h4, _⟩ := run_append_own_at (P := P) (w := W) base t t e i0 zv k bytes ht hi hz0 hz1 hz2 hzs hk0 v D.length _ hv a S.length c (S.flatMap enc) (flatS_len hk S) hc (flat_one h1 S) hl hb hbase
    refine ⟨v', w', hr, by rw [List.length_append, List.flatMap_append]; exact h2, (Below.refl base W).grown h3 hbase (fun g hg => (World.ownsRow.lt hv g hg).1), h4.trans ?_⟩
    rw [List.length_eq_zero_iff]
theorem src_keep {w w' : World} {u : Value} {S : List α} (h : SrcS enc w u S) (hlt : ∀ a c n, u = .slice (some a) n c → a.block < w.heap.size) (hb : Below w.heap.size w w') : SrcS enc w' u S := by
  rcases h with h | ⟨a, c, rfl, hc⟩
  · exact .inl h
  · exact .inr ⟨a, c, rfl, fun j x hx => by
      have h := hc j x hx
      have h2 : (a.add j).block = a.block := by unfold Addr.add; split <;> rfl
      have h3 : (a.add j).block < w.heap.size := by rw [h2]; exact hlt a c _ rfl
      rw [← h]
      exact hb.cell h3⟩
/-- An own row's form. -/
theorem own_src {W : World} {base e : Nat} {v : Value} {l : List α} (hk : ∀ x, (enc x).length = k) (h : W.ownsRow base e k v l.length (l.flatMap enc)) : (v = .slice none 0 0 ∧ l = []) ∨ ∃ g cap, v = .slice (some ⟨g, 0, none⟩) l.length cap ∧ g < W.heap.size ∧ base ≤ g ∧ l.length ≤ cap ∧ cap ≤ maxLen ∧ ∀ j x, (l.flatMap enc)[j]? = some x → W.cell? ⟨g, j, none⟩ = some x := by
  rcases h.2 with ⟨rfl, h0⟩ | ⟨g, cap, cur, rfl, hb, hh, hn, hm, hs, ht⟩
  · exact .inl ⟨rfl, List.eq_nil_of_length_eq_zero h0⟩
  · refine .inr ⟨g, cap, rfl, (Array.getElem?_eq_some_iff.1 hh).1, hb, hn, hm, fun j x hx => ?_⟩
    have hj : j < l.length * k := by rw [← flatS_len hk l]; exact (List.getElem?_eq_some_iff.1 hx).1
    rw [cell_of_row W g j cur _ (0, 0) hh, ← hx, ← ht, List.getElem?_take, if_pos hj, Array.getElem?_toList]
theorem src_take {W : World} {g i c : Nat} {l : List α} (hi : i ≤ l.length) (h : ∀ j x, (l.flatMap enc)[j]? = some x → W.cell? ⟨g, j, none⟩ = some x) : SrcS enc W (.slice (some ⟨g, 0, none⟩) i c) (l.take i) := by
  refine .inr ⟨_, c, by rw [List.length_take, Nat.min_eq_left hi], fun j x hx => ?_⟩
  have e : (⟨g, 0, none⟩ : Addr).add j = ⟨g, j, none⟩ := by unfold Addr.add; split <;> simp_all
  rw [e]
  refine h j x ?_
  have hl : l.flatMap enc = (l.take i).flatMap enc ++ (l.drop i).flatMap enc := by rw [← List.flatMap_append, List.take_append_drop]
  rw [hl, List.getElem?_append_left (List.getElem?_eq_some_iff.1 hx).1]; exact hx
theorem src_drop {W : World} {g i c : Nat} {l : List α} (hk : ∀ x, (enc x).length = k) (hi : i ≤ l.length) (h : ∀ j x, (l.flatMap enc)[j]? = some x → W.cell? ⟨g, j, none⟩ = some x) : SrcS enc W (.slice (some ⟨g, i * k, none⟩) (l.length - i) c) (l.drop i) := by
  refine .inr ⟨_, c, by rw [List.length_drop], fun j x hx => ?_⟩
  have e : (⟨g, i * k, none⟩ : Addr).add j = ⟨g, i * k + j, none⟩ := by unfold Addr.add; split <;> simp_all
  rw [e]
  refine h _ x ?_
  have hl : l.flatMap enc = (l.take i).flatMap enc ++ (l.drop i).flatMap enc := by rw [← List.flatMap_append, List.take_append_drop]
  have ht : ((l.take i).flatMap enc).length = i * k := by rw [flatS_len hk, List.length_take, Nat.min_eq_left hi]
  rw [hl, List.getElem?_append_right (by omega), ht, Nat.add_sub_cancel_left]; exact hx
theorem src_none {W : World} {g o c : Nat} : SrcS enc W (.slice (some ⟨g, o, none⟩) 0 c) [] := .inr ⟨_, c, rfl, fun j x hx => by simp at hx⟩
/-- The three appends. -/
theorem ins_runs {P : Program} {w : World} {t e : Nat} {i0 : TypeInfo} {zv : Value} {bytes : Nat} (ht : P.underlying t = some (.slice e)) (hi : P.info? e = some i0) (hz0 : i0.zero = some zv) (hz1 : i0.size = k) (hz2 : i0.bytes = bytes) (hzs : zv.cells.size = k) (hk0 : 0 < k) (hk : ∀ x, (enc x).length = k) (h1 : ∀ x, ∀ u ∈ enc x, u.oneCell' = true)
    {uL uR : Value} {A B : List α} (x : α) (hL : SrcS enc w uL A) (hL2 : ∀ a c n, uL = .slice (some a) n c → a.block < w.heap.size) (hR : SrcS enc w uR B) (hR2 : ∀ a c n, uR = .slice (some a) n c → a.block < w.heap.size) (hl : A.length + 1 + B.length ≤ maxLen) (hb : (A.length + 1 + B.length) * bytes ≤ 140737488355328) :
    ∃ v1 w2, (Builtin.append_ #[t, t] t #[.slice (some ⟨w.heap.size, 0, none⟩) 0 0, uL]).run P (w.alloc (.cells #[] e)) = .ok v1 w2 ∧
      ∃ v2 w3, (Builtin.append_ #[t, t] t #[v1, .slice (some ⟨w2.heap.size, 0, none⟩) 1 1]).run P (w2.alloc (.cells (enc x).toArray e)) = .ok v2 w3 ∧
        ∃ v3 w4, (Builtin.append_ #[t, t] t #[v2, uR]).run P w3 = .ok v3 w4 ∧ w4.ownsRow w.heap.size e k v3 (A ++ [x] ++ B).length ((A ++ [x] ++ B).flatMap enc) ∧ Below w.heap.size w w4 ∧ v3 ≠ .slice none 0 0 := by
  have b1 : Below w.heap.size w (w.alloc (.cells #[] e)) := below_new w _
  have hE : (w.alloc (.cells #[] e)).ownsRow w.heap.size e k (.slice (some ⟨w.heap.size, 0, none⟩) 0 0) ([] : List α).length (([] : List α).flatMap enc) := ⟨by simp, .inr ⟨w.heap.size, 0, #[], rfl, Nat.le_refl _, heap_alloc_new w _, Nat.le_refl _, Nat.zero_le _, by simp, by simp⟩⟩
  have hbA : A.length * bytes ≤ (A.length + 1 + B.length) * bytes := Nat.mul_le_mul_right _ (by omega)
  have hbX : (A.length + 1) * bytes ≤ (A.length + 1 + B.length) * bytes := Nat.mul_le_mul_right _ (by omega)
  obtain ⟨v1, w2, r1, o1, B1, n1⟩ := app_src ht hi hz0 hz1 hz2 hzs hk0 hk h1 hE (src_keep hL hL2 b1) (by simp; omega) (by simp; omega) (by simp)
  rw [List.nil_append] at o1
  have c1 : Below w.heap.size w w2 := b1.trans B1
  have b2 : Below w2.heap.size w2 (w2.alloc (.cells (enc x).toArray e)) := below_new w2 _
  have hX : SrcS enc (w2.alloc (.cells (enc x).toArray e)) (.slice (some ⟨w2.heap.size, 0, none⟩) 1 1) [x] := .inr ⟨_, 1, rfl, fun j u hu => new_cells w2 (enc x) e j u (by simpa using hu)⟩
  obtain ⟨v2, w3, r2, o2, B2, n2⟩ := app_src ht hi hz0 hz1 hz2 hzs hk0 hk h1 (ownS_keep o1 b2) hX (by simp; omega) (by simp; omega) (Nat.le_trans c1.size b2.size)
  have c2 : Below w.heap.size w w3 := (c1.trans (b2.mono c1.size)).trans B2
  obtain ⟨v3, w4, r3, o3, B3, n3⟩ := app_src ht hi hz0 hz1 hz2 hzs hk0 hk h1 o2 (src_keep hR hR2 c2) (by simp; omega) (by simp; omega) c2.size
  refine ⟨v1, w2, r1, v2, w3, r2, v3, w4, r3, o3, c2.trans B3, fun h => ?_⟩
  have h5 := n2.1 (n3.1 h).1
  simp at h5
end
end Go.Proofs.Ythhbaccbhfngbaa
namespace Go.Proofs.Ythhbaccbhfngbaa

/-- Rising, each once. -/
def Ris (l : List Int) : Prop := l.Pairwise (· < ·)
theorem ris_eq : ∀ {a b : List Int}, Ris a → Ris b → (∀ x, x ∈ a ↔ x ∈ b) → a = b
  | [], [], _, _, _ => rfl
  | [], y :: b, _, _, h => absurd ((h y).2 (List.mem_cons_self ..)) (by simp)
  | x :: a, [], _, _, h => absurd ((h x).1 (List.mem_cons_self ..)) (by simp)
  | x :: a, y :: b, ha, hb, h => by
    have ha1 := List.pairwise_cons.1 ha
    have hb1 := List.pairwise_cons.1 hb
    have hxy : x = y := by
      have h1 := (h x).1 (List.mem_cons_self ..)
      have h2 := (h y).2 (List.mem_cons_self ..)
      rcases List.mem_cons.1 h1 with h1 | h1
      · exact h1
      rcases List.mem_cons.1 h2 with h2 | h2
      · exact h2.symm
      have := hb1.1 x h1
      have := ha1.1 y h2
      omega
    subst hxy
    congr 1
    refine ris_eq ha1.2 hb1.2 (fun z => ⟨fun hz => ?_, fun hz => ?_⟩)
    · rcases List.mem_cons.1 ((h z).1 (List.mem_cons_of_mem _ hz)) with e | e
      · have := ha1.1 z hz; omega
      · exact e
    · rcases List.mem_cons.1 ((h z).2 (List.mem_cons_of_mem _ hz)) with e | e
      · have := hb1.1 z hz; omega
      · exact e
/-- Laid in at its place. -/
def posU (l : List Int) (b : Int) : Nat := (l.takeWhile (fun x => decide (x < b))).length
def insU (l : List Int) (b : Int) : List Int := if (l.getD (posU l b) 0 = b ∧ posU l b < l.length) then l else l.take (posU l b) ++ b :: l.drop (posU l b)
def dedU (L : List Int) : List Int := L.foldl insU []
theorem posU_le (l : List Int) (b : Int) : posU l b ≤ l.length := by
  unfold posU
  exact (List.takeWhile_sublist _).length_le
theorem posU_take : ∀ (l : List Int) (b : Int) (i : Nat), i < posU l b → l.getD i 0 < b
  | [], b, i, h => by simp [posU] at h
  | x :: l, b, i, h => by
    unfold posU at h
    by_cases hx : x < b
    · rw [List.takeWhile_cons_of_pos (by simpa using hx), List.length_cons] at h
      cases i with
      | zero => exact hx
      | succ i => exact posU_take l b i (by unfold posU; omega)
    · rw [List.takeWhile_cons_of_neg (by simpa using hx)] at h
      simp at h
theorem posU_stop : ∀ (l : List Int) (b : Int), posU l b < l.length → b ≤ l.getD (posU l b) 0
  | [], b, h => by simp [posU] at h
  | x :: l, b, h => by
    unfold posU at h ⊢
    by_cases hx : x < b
    · rw [List.takeWhile_cons_of_pos (by simpa using hx), List.length_cons] at h ⊢
      exact posU_stop l b (by unfold posU; simpa using h)
    · rw [List.takeWhile_cons_of_neg (by simpa using hx)]
      show b ≤ x
      omega
/-- The search comes to that place. -/
theorem posU_find {l : List Int} {b : Int} {i : Nat} (hi : i ≤ l.length) (h1 : ∀ j, j < i → l.getD j 0 < b) (h2 : i < l.length → b ≤ l.getD i 0) : posU l b = i := by
  rcases Nat.lt_trichotomy (posU l b) i with h | h | h
  · have := h1 _ h
    have := posU_stop l b (by omega)
    omega
  · exact h
  · have := posU_take l b i h
    have := posU_le l b
    have := h2 (by omega)
    omega
theorem insU_ris {l : List Int} (h : Ris l) (b : Int) : Ris (insU l b) ∧ ∀ x, x ∈ insU l b ↔ x ∈ l ∨ x = b := by
  have hp := posU_le l b
  unfold insU
  by_cases hc : l.getD (posU l b) 0 = b ∧ posU l b < l.length
  · rw [if_pos hc]
    refine ⟨h, fun x => ⟨.inl, fun hx => ?_⟩⟩
    rcases hx with hx | hx
    · exact hx
    · rw [hx, ← hc.1, List.getD, List.getElem?_eq_getElem hc.2]; exact List.getElem_mem _
  · rw [if_neg hc]
    have ht : ∀ x ∈ l.take (posU l b), x < b := fun x hx => by
      obtain ⟨i, hi, rfl⟩ := List.mem_iff_getElem.1 hx
      rw [List.length_take] at hi
      have := posU_take l b i (by omega)
      rw [List.getD, List.getElem?_eq_getElem (by omega)] at this
      rw [List.getElem_take]; exact this
    have hd : ∀ x ∈ l.drop (posU l b), b < x := fun x hx => by
      obtain ⟨i, hi, rfl⟩ := List.mem_iff_getElem.1 hx
      rw [List.length_drop] at hi
      rw [List.getElem_drop]
      have h0 := posU_stop l b (by omega)
      have h1 : l.getD (posU l b) 0 ≠ b := fun e => hc ⟨e, by omega⟩
      rw [List.getD, List.getElem?_eq_getElem (by omega)] at h0 h1
      simp only [Option.getD_some] at h0 h1
      cases i with
      | zero => simp only [Nat.add_zero]; omega
      | succ i =>
        have := List.pairwise_iff_getElem.1 h (posU l b) (posU l b + (i + 1)) (by omega) (by omega) (by omega)
        omega
    refine ⟨?_, fun x => ?_⟩
    · refine List.pairwise_append.2 ⟨List.Pairwise.sublist (List.take_sublist _ _) h, List.pairwise_cons.2 ⟨hd, List.Pairwise.sublist (List.drop_sublist _ _) h⟩, fun x hx y hy => ?_⟩
      rcases List.mem_cons.1 hy with e | e
      · rw [e]; exact ht x hx
      · have := ht x hx; have := hd y e; omega
    · rw [List.mem_append, List.mem_cons]
      have : x ∈ l ↔ x ∈ l.take (posU l b) ∨ x ∈ l.drop (posU l b) := by rw [← List.mem_append, List.take_append_drop]
      rw [this]
      constructor
      · rintro (h | h | h)
        · exact .inl (.inl h)
        · exact .inr h
        · exact .inl (.inr h)
      · rintro ((h | h) | h)
        · exact .inl h
        · exact .inr (.inr h)
        · exact .inr (.inl h)
theorem dedU_ris (L : List Int) : Ris (dedU L) ∧ ∀ x, x ∈ dedU L ↔ x ∈ L := by
  have key : ∀ (L l : List Int), Ris l → Ris (L.foldl insU l) ∧ ∀ x, x ∈ L.foldl insU l ↔ x ∈ l ∨ x ∈ L := by
    intro L
    induction L with
    | nil => intro l h; exact ⟨h, fun x => by simp⟩
    | cons b L ih =>
      intro l h
      have h1 := insU_ris h b
      have h2 := ih (insU l b) h1.1
      refine ⟨h2.1, fun x => ?_⟩
      rw [List.foldl_cons, h2.2, h1.2, List.mem_cons, or_assoc]
  have h := key L [] List.Pairwise.nil
  exact ⟨h.1, fun x => by rw [show dedU L = L.foldl insU [] from rfl, h.2]; simp⟩
theorem insU_len (l : List Int) (b : Int) : (insU l b).length ≤ l.length + 1 := by
  unfold insU
  split
  · omega
  · have := posU_le l b
    rw [List.length_append, List.length_cons, List.length_take, List.length_drop]; omega
theorem dedU_len (L : List Int) : (dedU L).length ≤ L.length := by
  have key : ∀ (L l : List Int), (L.foldl insU l).length ≤ l.length + L.length := by
    intro L
    induction L with
    | nil => intro l; simp
    | cons b L ih =>
      intro l
      have := ih (insU l b)
      have := insU_len l b
      rw [List.foldl_cons, List.length_cons]; omega
  have := key L []
  unfold dedU; simpa using this
/-- Sorted, and doubles struck. -/
def srtL (L : List Int) : List Int := L.mergeSort (fun x y => decide (x ≤ y))
theorem srtL_pw (L : List Int) : (srtL L).Pairwise (· ≤ ·) := by
  have h := List.pairwise_mergeSort (le := fun x y : Int => decide (x ≤ y)) (fun a b c h1 h2 => by simp only [decide_eq_true_eq] at h1 h2 ⊢; omega) (fun a b => by simp only [Bool.or_eq_true, decide_eq_true_eq]; omega) L
  exact h.imp (fun h => by simpa using h)
theorem srtL_mem (L : List Int) (x : Int) : x ∈ srtL L ↔ x ∈ L := (List.mergeSort_perm L _).mem_iff
theorem srtL_len (L : List Int) : (srtL L).length = L.length := List.length_mergeSort ..
theorem compact_ris {zs : List Int} (h : zs.Pairwise (· ≤ ·)) : Ris (Go.Lib.compact zs) ∧ ∀ x, x ∈ Go.Lib.compact zs ↔ x ∈ zs := by
  have at' : ∀ i, (hi : i < zs.length) → zs.toArray[i]! = zs[i] := fun i hi => by rw [getElem!_pos _ _ (by simpa using hi)]; simp
  have mono : ∀ i j, i ≤ j → j < zs.length → zs.toArray[i]! ≤ zs.toArray[j]! := fun i j hij hj => by
    rw [at' i (by omega), at' j hj]
    rcases Nat.lt_or_ge i j with h1 | h1
    · exact List.pairwise_iff_getElem.1 h i j (by omega) hj h1
    · obtain rfl : i = j := by omega
      exact Int.le_refl _
  have key : ∀ m, m ≤ zs.length → Ris (Go.Lib.compactUpTo zs.toArray m) ∧ ∀ x, x ∈ Go.Lib.compactUpTo zs.toArray m ↔ ∃ j, j < m ∧ zs.toArray[j]! = x := by
    intro m
    induction m with
    | zero => intro _; exact ⟨List.Pairwise.nil, fun x => by simp [Go.Lib.compactUpTo]⟩
    | succ m ih =>
      intro hm
      obtain ⟨h1, h2⟩ := ih (by omega)
      rw [Go.Lib.compactUpTo_succ]
      by_cases hk : Go.Lib.keeps zs.toArray m = true
      · rw [if_pos hk]
        refine ⟨List.pairwise_append.2 ⟨h1, List.pairwise_singleton _ _, fun x hx y hy => ?_⟩, fun x => ?_⟩
        · rw [List.mem_singleton.1 hy]
          obtain ⟨j, hj, rfl⟩ := (h2 x).1 hx
          unfold Go.Lib.keeps at hk
          simp only [decide_eq_true_eq] at hk
          have a1 := mono j (m - 1) (by omega) (by omega)
          have a2 := mono (m - 1) m (by omega) (by omega)
          rcases hk with hk | hk
          · omega
          · omega
        · rw [List.mem_append, h2, List.mem_singleton]
          constructor
          · rintro (⟨j, hj, e⟩ | e)
            · exact ⟨j, by omega, e⟩
            · exact ⟨m, by omega, e.symm⟩
          · rintro ⟨j, hj, e⟩
            by_cases hjm : j = m
            · right; rw [← e, hjm]
            · exact .inl ⟨j, by omega, e⟩
      · rw [if_neg hk, List.append_nil]
        refine ⟨h1, fun x => (h2 x).trans ⟨fun ⟨j, hj, e⟩ => ⟨j, by omega, e⟩, fun ⟨j, hj, e⟩ => ?_⟩⟩
        by_cases hjm : j = m
        · subst hjm
          unfold Go.Lib.keeps at hk
          simp only [decide_eq_true_eq, not_or, Classical.not_not] at hk
          exact ⟨j - 1, by omega, by rw [← hk.2]; exact e⟩
        · exact ⟨j, by omega, e⟩
  obtain ⟨h1, h2⟩ := key zs.length (Nat.le_refl _)
  refine ⟨h1, fun x => ?_⟩
  unfold Go.Lib.compact
  rw [h2, List.mem_iff_getElem]
  constructor
  · rintro ⟨j, hj, e⟩; exact ⟨j, hj, by rw [← e, at' j hj]⟩
  · rintro ⟨j, hj, e⟩; exact ⟨j, hj, by rw [at' j hj]; exact e⟩
/-- Both are one. -/
theorem ded_eq (L : List Int) : Go.Lib.compact (srtL L) = dedU L := by
  have h1 := compact_ris (srtL_pw L)
  have h2 := dedU_ris L
  exact ris_eq h1.1 h2.1 (fun x => by rw [h1.2, h2.2, srtL_mem])
end Go.Proofs.Ythhbaccbhfngbaa
namespace Go.Proofs.Ythhbaccbhfngbaa
open Go.RowKit

def encI (x : Int) : List Value := [.int .i64 x]
theorem encI_len (x : Int) : (encI x).length = 1 := rfl
theorem encI_one (x : Int) : ∀ u ∈ encI x, u.oneCell' = true := by
  intro u hu
  simp only [encI, List.mem_singleton] at hu
  rw [hu]; rfl
theorem flatI (l : List Int) : l.flatMap encI = l.map (Value.int .i64) := by induction l with
  | nil => rfl
  | cons x r ih => rw [List.flatMap_cons, ih]; rfl
theorem idxS_flat {w : World} {base : Nat} {v : Value} {l : List Int} (h : w.ownsRow base 3 1 v l.length (l.flatMap encI)) : IdxS w v l := by
  rw [flatI] at h
  exact idxS_of h
theorem intInfR : ∃ i, Try.prog.info? 3 = some i ∧ i.zero = some (.int .i64 0) ∧ i.size = 1 ∧ i.bytes = 8 := by
  have e : (Try.prog.info? 3).map (fun i => (i.zero, i.size, i.bytes)) = some (some (.int .i64 0), 1, 8) := by kernel_rfl
  obtain ⟨i, hi, hz⟩ := Option.map_eq_some_iff.1 e
  simp only [Prod.mk.injEq] at hz
  exact ⟨i, hi, hz.1, hz.2.1, hz.2.2⟩
/-- The stripes without references. -/
def deadOf (L : List RF) (S : List Int) : List Int := S.filter (fun s => liveOf s L == 0)
theorem deadOf_y {L : List RF} {S : List Int} {j : Nat} (h : j < S.length) (hy : liveOf (S.getD j 0) L = 0) : deadOf L (S.take (j + 1)) = deadOf L (S.take j) ++ [S.getD j 0] := by
  rw [getD_snoc 0 h]; unfold deadOf; rw [List.filter_append, List.filter_cons_of_pos (by simpa using hy)]; rfl
theorem deadOf_n {L : List RF} {S : List Int} {j : Nat} (h : j < S.length) (hy : liveOf (S.getD j 0) L ≠ 0) : deadOf L (S.take (j + 1)) = deadOf L (S.take j) := by
  rw [getD_snoc 0 h]; unfold deadOf; rw [List.filter_append, List.filter_cons_of_neg (by simpa using hy)]; simp
theorem deadOf_le (L : List RF) (S : List Int) : (deadOf L S).length ≤ S.length := List.length_filter_le _ _
set_option maxHeartbeats 4000000 in
set_option maxRecDepth 100000 in
theorem docDead_any {w : World} {v u : Value} {L : List RF} {S : List Int} (hv : RefS w v L) (hu : IdxS w u S) (hS : S.length ≤ 100000) :
    Calls Try.prog 19 #[v, u] w fun e w' => ∃ x, e = .returned x ∧ IdxS w' x (deadOf L S) ∧ Below w.heap.size w w' := by
  obtain ⟨A, c1, rfl, k1, k2, k3⟩ := hu
  obtain ⟨i0, hi, hz0, hz1, hz2⟩ := intInfR
  obtain ⟨N, hN⟩ : ∃ N, N = S.length := ⟨_, rfl⟩
  have HN := Lib.hid hN
  rw [← hN] at k1 hS ⊢
  have hmx : N ≤ maxLen := Nat.le_trans k1 k2
  have HMX := Lib.hid hmx
  have HNS := Lib.hid hS
  have HK := Lib.hid k3
  have HL : Hid (∀ (W : World) (s : Int), Below w.heap.size w W → _) := Lib.hid (fun W s hb => docLive_any (hv.below hb (Nat.le_refl _)) s)
  obtain ⟨VA, vc, rfl⟩ := hv.form
  clear hN k3 hmx hS hv
  go_enter Try.func19, Try.ntmps19
  go_wp2
  go_loopw [5, 10] (fun vx ix wr => ∃ (j : Nat) (z : Value), j ≤ N ∧ ix = .int .i64 (j : Int) ∧ z = vx ∧ wr.ownsRow w.heap.size 3 1 z (deadOf L (S.take j)).length ((deadOf L (S.take j)).flatMap encI) ∧ Below w.heap.size w wr) (fun _ ix _ => N - idxOf ix)
  case atStart => exact ⟨0, _, Nat.zero_le _, rfl, rfl, World.ownsRow_nil _ _ _ _, Below.refl _ _⟩
  case round =>
    obtain ⟨j, z, hj, rfl, rfl, ho, hb⟩ := hrel
    have HB := Lib.hid hb
    have HO := Lib.hid ho
    clear hb ho
    by_cases hlt : j < N
    · obtain ⟨g, o, rfl, hglt, hk⟩ := HK.out.resolve_left (by intro e; have := HN.out; rw [e] at this; simp at this; omega)
      have hjL : j < S.length := by rw [← HN.out]; exact hlt
      have q0 : wr.cell? ⟨g, o + j, none⟩ = some (.int .i64 (S.getD j 0)) := (HB.out.cell (p := ⟨g, o + j, none⟩) hglt).trans (hk j hjL)
      have HY := Lib.hid (deadOf_y (L := L) hjL)
      have HZ := Lib.hid (deadOf_n (L := L) hjL)
      have hdl : (deadOf L (S.take j)).length ≤ j := Nat.le_trans (deadOf_le _ _) (List.length_take_le ..)
      generalize S.getD j 0 = x at q0 HY HZ
      have hLv := HL.out wr x HB.out
      generalize deadOf L (S.take j) = D at HO HY HZ hdl ⊢
      generalize hlv : liveOf x L = lv at hLv HY HZ
      have hi0 : (0 : Int) ≤ (j : Int) := by omega
      have hi1 : (j : Int) < (N : Int) := by omega
      have hj1 : j + 1 ≤ N := hlt
      have hms : N - (j + 1) < N - j := by omega
      have HJ : Hid (j + 1 ≤ N ∧ N - (j + 1) < N - j ∧ D.length + 1 ≤ maxLen ∧ (D.length + 1) * 8 ≤ 140737488355328) := Lib.hid ⟨hj1, hms, by have := HNS.out; unfold maxLen; omega, by have := HNS.out; omega⟩
      obtain ⟨hw1, hw2⟩ := nextR hlt HMX.out
      clear hk hjL hj1 hms hlv hdl
      by_cases hy : lv = 0
      · have HE := Lib.hid (HY.out hy)
        subst hy
        clear HY HZ
        go_wp2_with (first
          | (go_at_call 17; (with_reducible refine hLv.mono ?_); rintro e w3 ⟨rfl, hb3⟩; have HB3 := Lib.hid (HB.out.trans (hb3.mono HB.out.size)); have HO3 := Lib.hid ((ownS_keep HO.out hb3).alloc (.cells #[.int .i64 x] 3)); have HNW := Lib.hid (new_cells w3 [.int .i64 x] 3); have HSZ : Hid (w.heap.size ≤ (w3.alloc (.cells #[.int .i64 x] 3)).heap.size) := Lib.hid (by have := HB3.out.size; simp; omega); clear hb3)
          | (at_builtin; (refine wpList_append_own _ rfl _ _ 29 rfl w.heap.size 3 i0 _ 1 8 Try.underlying29 hi hz0 hz1 hz2 rfl (by decide) _ _ _ rfl HO3.out ⟨w3.heap.size, 0, none⟩ 1 1 [.int .i64 x] rfl rfl HNW.out (encI_one x) HJ.out.2.2.1 HJ.out.2.2.2 HSZ.out ?_); intro v' w4 hown4 hgrow _; have HB4 : Hid (Below w.heap.size w w4) := Lib.hid ((HB3.out.alloc HB3.out.size _).grown hgrow HSZ.out (fun g hg => (World.ownsRow.lt HO3.out g hg).1)); have HO4 := Lib.hid hown4; clear hown4 hgrow))
        go_roundw
        case rel => exact ⟨j + 1, v', HJ.out.1, by go_num, rfl, by rw [HE.out, List.length_append, flat_snoc]; exact HO4.out, HB4.out⟩
        case measure => have h := HJ.out.2.1; clear hw1 hw2; simp only [idxOf]; omega
      · have HE := Lib.hid (HZ.out hy)
        have hpm : ((lv : Int) == 0) = false := by rw [beq_eq_false_iff_ne]; omega
        clear HY HZ
        go_wp2_with (first
          | (go_at_call 17; (with_reducible refine hLv.mono ?_); rintro e w3 ⟨rfl, hb3⟩; have HB3 := Lib.hid (HB.out.trans (hb3.mono HB.out.size)); have HO3 := Lib.hid (ownS_keep HO.out hb3); clear hb3))
        go_roundw
        case rel => exact ⟨j + 1, z, HJ.out.1, by go_num, rfl, by rw [HE.out]; exact HO3.out, HB3.out⟩
        case measure => have h := HJ.out.2.1; clear hw1 hw2; simp only [idxOf]; omega
    · obtain rfl : j = N := by omega
      have hno : ¬ ((j : Int) < (j : Int)) := by omega
      have e : S.take j = S := by rw [HN.out, List.take_length]
      rw [e] at HO
      have HR := Lib.hid (idxS_flat HO.out)
      clear e
      go_wp2
      go_ret
      exact ⟨_, rfl, HR.out, HB.out⟩
/-- The stripes of which there are few. -/
def insK (L : List RF) (k : Int) (l : List Int) (r : RF) : List Int := if (liveOf r.s L : Int) < k then insU l r.s else l
def spU (L : List RF) (k : Int) : List Int := L.foldl (insK L k) []
theorem spU_snoc {L0 L : List RF} {k : Int} {j : Nat} (h : j < L.length) : (L.take (j + 1)).foldl (insK L0 k) [] = insK L0 k ((L.take j).foldl (insK L0 k) []) (L.getD j RF.zero) := by
  rw [getD_snoc RF.zero h, List.foldl_append]; rfl
theorem spU_ris (L0 : List RF) (k : Int) (L : List RF) : Ris (L.foldl (insK L0 k) []) ∧ ∀ x, x ∈ L.foldl (insK L0 k) [] ↔ (∃ r ∈ L, r.s = x) ∧ (liveOf x L0 : Int) < k := by
  have key : ∀ (L : List RF) (l : List Int), Ris l → Ris (L.foldl (insK L0 k) l) ∧ ∀ x, x ∈ L.foldl (insK L0 k) l ↔ x ∈ l ∨ ((∃ r ∈ L, r.s = x) ∧ (liveOf x L0 : Int) < k) := by
    intro L
    induction L with
    | nil => intro l h; exact ⟨h, fun x => by simp⟩
    | cons b L ih =>
      intro l h
      rw [List.foldl_cons]
      by_cases hc : (liveOf b.s L0 : Int) < k
      · have e : insK L0 k l b = insU l b.s := if_pos hc
        rw [e]
        have h1 := insU_ris h b.s
        have h2 := ih _ h1.1
        refine ⟨h2.1, fun x => ?_⟩
        rw [h2.2, h1.2]
        constructor
        · rintro ((h | rfl) | ⟨⟨r, hr, er⟩, hx⟩)
          · exact .inl h
          · exact .inr ⟨⟨b, List.mem_cons_self .., rfl⟩, hc⟩
          · exact .inr ⟨⟨r, List.mem_cons_of_mem _ hr, er⟩, hx⟩
        · rintro (h | ⟨⟨r, hr, er⟩, hx⟩)
          · exact .inl (.inl h)
          · rcases List.mem_cons.1 hr with rfl | hr
            · exact .inl (.inr er.symm)
            · exact .inr ⟨⟨r, hr, er⟩, hx⟩
      · have e : insK L0 k l b = l := if_neg hc
        rw [e]
        have h2 := ih _ h
        refine ⟨h2.1, fun x => ?_⟩
        rw [h2.2]
        constructor
        · rintro (h | ⟨⟨r, hr, er⟩, hx⟩)
          · exact .inl h
          · exact .inr ⟨⟨r, List.mem_cons_of_mem _ hr, er⟩, hx⟩
        · rintro (h | ⟨⟨r, hr, er⟩, hx⟩)
          · exact .inl h
          · rcases List.mem_cons.1 hr with rfl | hr
            · rw [← er] at hx; exact absurd hx hc
            · exact .inr ⟨⟨r, hr, er⟩, hx⟩
  have h := key L [] List.Pairwise.nil
  exact ⟨h.1, fun x => by rw [h.2]; simp⟩
theorem insK_len (L0 : List RF) (k : Int) (l : List Int) (r : RF) : (insK L0 k l r).length ≤ l.length + 1 := by
  unfold insK; split
  · exact insU_len _ _
  · omega
theorem spU_len (L0 : List RF) (k : Int) : ∀ (L : List RF) (l : List Int), (L.foldl (insK L0 k) l).length ≤ l.length + L.length
  | [], l => Nat.le_refl _
  | b :: L, l => by
    have h1 := spU_len L0 k L (insK L0 k l b)
    have h2 := insK_len L0 k l b
    rw [List.foldl_cons, List.length_cons]; omega
end Go.Proofs.Ythhbaccbhfngbaa
namespace Go.Proofs.Ythhbaccbhfngbaa
open Go.RowKit

theorem insK_lt {L : List RF} {k : Int} {l : List Int} {r : RF} {i : Nat} (hk : (liveOf r.s L : Int) < k) (hp : posU l r.s = i) (h : i < l.length → l.getD i 0 ≠ r.s) : insK L k l r = l.take i ++ [r.s] ++ l.drop i := by
  unfold insK insU
  rw [if_pos hk, if_neg (by rw [hp]; exact fun e => h e.2 e.1), hp, List.append_assoc]; rfl
theorem insK_hit {L : List RF} {k : Int} {l : List Int} {r : RF} {i : Nat} (hp : posU l r.s = i) (hi : i < l.length) (h : l.getD i 0 = r.s) : insK L k l r = l := by
  unfold insK insU
  split
  · rw [if_pos (by rw [hp]; exact ⟨h, hi⟩)]
  · rfl
theorem insK_ge {L : List RF} {k : Int} {l : List Int} {r : RF} (hk : ¬ (liveOf r.s L : Int) < k) : insK L k l r = l := if_neg hk
/-- A row of numbers, nil as long as it is empty. -/
structure NumRow (w : World) (base : Nat) (v : Value) (l : List Int) : Prop where
  own : w.ownsRow base 3 1 v l.length (l.flatMap encI)
  nil : l = [] → v = .slice none 0 0
  some' : l ≠ [] → ∃ g cap, v = .slice (some ⟨g, 0, none⟩) l.length cap ∧ g < w.heap.size ∧ l.length ≤ cap ∧ cap ≤ maxLen ∧ ∀ j, j < l.length → w.cell? ⟨g, j, none⟩ = some (.int .i64 (l.getD j 0))
theorem flatI_at {l : List Int} {j : Nat} (hj : j < l.length) : (l.flatMap encI)[j]? = some (.int .i64 (l.getD j 0)) := by
  rw [flatI, List.getElem?_map, List.getD, List.getElem?_eq_getElem hj]; rfl
theorem NumRow.of {w : World} {base : Nat} {v : Value} {l : List Int} (h : w.ownsRow base 3 1 v l.length (l.flatMap encI)) (hn : l = [] → v = .slice none 0 0) : NumRow w base v l := by
  refine ⟨h, hn, fun hne => ?_⟩
  rcases own_src encI_len h with ⟨_, h0⟩ | ⟨g, cap, hv, h1, _, h3, h4, h5⟩
  · exact absurd h0 hne
  · exact ⟨g, cap, hv, h1, h3, h4, fun j hj => h5 j _ (flatI_at hj)⟩
theorem NumRow.keep {w w' : World} {base : Nat} {v : Value} {l : List Int} (h : NumRow w base v l) (hb : Below w.heap.size w w') : NumRow w' base v l := NumRow.of (ownS_keep h.own hb) h.nil
theorem own_lowS {w : World} {base base' e s n : Nat} {v : Value} {xs : List Value} (h : w.ownsRow base e s v n xs) (hb : base' ≤ base) : w.ownsRow base' e s v n xs := by
  refine ⟨h.1, ?_⟩
  rcases h.2 with h0 | ⟨g, cap, cur, hv, hg, r⟩
  · exact .inl h0
  · exact .inr ⟨g, cap, cur, hv, Nat.le_trans hb hg, r⟩
/-- What the three appends come to. -/
theorem ins_int {w : World} {uL uR : Value} {A B : List Int} (x : Int) (hL : SrcS encI w uL A) (hL2 : ∀ a c n, uL = .slice (some a) n c → a.block < w.heap.size) (hR : SrcS encI w uR B) (hR2 : ∀ a c n, uR = .slice (some a) n c → a.block < w.heap.size) (hl : A.length + 1 + B.length ≤ 100000) :
    ∃ v1 w2, (Builtin.append_ #[29, 29] 29 #[.slice (some ⟨w.heap.size, 0, none⟩) 0 0, uL]).run Try.prog (w.alloc (.cells #[] 3)) = .ok v1 w2 ∧
      ∃ v2 w3, (Builtin.append_ #[29, 29] 29 #[v1, .slice (some ⟨w2.heap.size, 0, none⟩) 1 1]).run Try.prog (w2.alloc (.cells #[.int .i64 x] 3)) = .ok v2 w3 ∧
        ∃ v3 w4, (Builtin.append_ #[29, 29] 29 #[v2, uR]).run Try.prog w3 = .ok v3 w4 ∧ NumRow w4 w.heap.size v3 (A ++ [x] ++ B) ∧ Below w.heap.size w w4 := by
  obtain ⟨i0, hi, hz0, hz1, hz2⟩ := intInfR
  obtain ⟨v1, w2, r1, v2, w3, r2, v3, w4, r3, o, b, _⟩ := ins_runs Try.underlying29 hi hz0 hz1 hz2 rfl (by decide) encI_len encI_one x hL hL2 hR hR2 (by unfold maxLen; omega) (by omega)
  exact ⟨v1, w2, r1, v2, w3, r2, v3, w4, r3, NumRow.of o (fun h => by simp at h), b⟩
set_option maxHeartbeats 8000000 in
set_option maxRecDepth 100000 in
theorem docSparse_any {w : World} {v : Value} {L : List RF} (hv : RefS w v L) (hLn : L.length ≤ 10000) (k : Int) :
    Calls Try.prog 21 #[v, .int .i64 k] w fun e w' => ∃ x, e = .returned x ∧ IdxS w' x (spU L k) ∧ Below w.heap.size w w' := by
  have HL : Hid (∀ (W : World) (s : Int), Below w.heap.size w W → _) := Lib.hid (fun W s hb => docLive_any (hv.below hb (Nat.le_refl _)) s)
  obtain ⟨A, c1, rfl, k1, k2, k3⟩ := hv
  obtain ⟨N, hN⟩ : ∃ N, N = L.length := ⟨_, rfl⟩
  have HN := Lib.hid hN
  rw [← hN] at k1 hLn HL ⊢
  have hmx : N ≤ maxLen := Nat.le_trans k1 k2
  have HMX := Lib.hid hmx
  have HNL := Lib.hid hLn
  have HK := Lib.hid k3
  clear hN k3 hmx hLn
  go_enter Try.func21, Try.ntmps21
  go_wp2
  go_loopw [5, 13] (fun vx ix wr => ∃ (j : Nat) (z : Value), j ≤ N ∧ ix = .int .i64 (j : Int) ∧ z = vx ∧ NumRow wr w.heap.size z ((L.take j).foldl (insK L k) []) ∧ Below w.heap.size w wr) (fun _ ix _ => N - idxOf ix)
  case atStart => exact ⟨0, _, Nat.zero_le _, rfl, rfl, NumRow.of (World.ownsRow_nil _ _ _ _) (fun _ => rfl), Below.refl _ _⟩
  case round =>
    obtain ⟨j, z, hj, rfl, rfl, ho, hb⟩ := hrel
    have HB := Lib.hid hb
    have HO := Lib.hid ho
    clear hb ho
    by_cases hlt : j < N
    · obtain ⟨g, o, rfl, hglt, hk⟩ := HK.out.resolve_left (by intro e; have := HN.out; rw [e] at this; simp at this; omega)
      have hjL : j < L.length := by rw [← HN.out]; exact hlt
      have hc : ∀ q u, (L.getD j RF.zero).enc[q]? = some u → wr.cell? ⟨g, o + j * 3 + q, none⟩ = some u := fun q u hu => (HB.out.cell (p := ⟨g, o + j * 3 + q, none⟩) hglt).trans (hk j hjL q u hu)
      have HNX : Hid ((L.take (j + 1)).foldl (insK L k) [] = insK L k ((L.take j).foldl (insK L k) []) (L.getD j RF.zero)) := Lib.hid (spU_snoc hjL)
      have hll : ((L.take j).foldl (insK L k) []).length ≤ j := by have h1 := spU_len L k (L.take j) []; have h2 : (L.take j).length ≤ j := List.length_take_le ..; simp at h1; omega
      generalize (L.take j).foldl (insK L k) [] = l at HO HNX hll ⊢
      generalize L.getD j RF.zero = p at hc HNX
      obtain ⟨x, pm, pn⟩ := p
      have q0 : wr.cell? ⟨g, o + j * 3, none⟩ = some (.int .i64 x) := hc 0 _ rfl
      have q1 : wr.cell? ⟨g, o + j * 3 + 1, none⟩ = some (.int .i64 pm) := hc 1 _ rfl
      have q2 : wr.cell? ⟨g, o + j * 3 + 2, none⟩ = some (.int .i64 pn) := hc 2 _ rfl
      have hi0 : (0 : Int) ≤ (j : Int) := by omega
      have hi1 : (j : Int) < (N : Int) := by omega
      have hj1 : j + 1 ≤ N := hlt
      have hms : N - (j + 1) < N - j := by omega
      have hl1 : l.length + 1 ≤ 100000 := by have := HNL.out; omega
      have HJ : Hid (j + 1 ≤ N ∧ N - (j + 1) < N - j ∧ l.length + 1 ≤ 100000) := Lib.hid ⟨hj1, hms, hl1⟩
      obtain ⟨BX, hBX⟩ : ∃ BX, BX = wr.alloc (.cells #[.int .i64 x, .int .i64 pm, .int .i64 pn] 52) := ⟨_, rfl⟩
      have hbx : Below wr.heap.size wr BX := by rw [hBX]; exact below_new wr _
      have HBX := Lib.hid (HB.out.trans (hbx.mono HB.out.size))
      have HOX := Lib.hid (HO.out.keep hbx)
      have hLv := HL.out BX x HBX.out
      have HLV := Lib.hid (rfl : liveOf x L = liveOf x L)
      obtain ⟨lv, hlv⟩ : ∃ lv, lv = liveOf x L := ⟨_, rfl⟩
      rw [← hlv] at hLv
      have HLE := Lib.hid hlv
      obtain ⟨hw1, hw2⟩ := nextR hlt HMX.out
      have hx0 : BX.cell? ⟨wr.heap.size, 0, none⟩ = some (.int .i64 x) := by rw [hBX, cell_of_row _ _ _ _ _ (0, 0) (heap_alloc_new wr _)]; rfl
      clear hk hc hjL hj1 hms hlv hll hbx HLV HO hl1
      go_upto_region 5 with fail
      rw [← hBX]
      clear hBX q0 q1 q2
      obtain ⟨z0, hz0⟩ : ∃ z0, z0 = z := ⟨_, rfl⟩
      by_cases hle : l = []
      · obtain rfl := HOX.out.nil hle
        subst hle
        have HS0 : ∀ W : World, Below BX.heap.size BX W → SrcS encI W (.slice none 0 0) ([] : List Int) ∧ ∀ a c n, Value.slice none 0 0 = .slice (some a) n c → a.block < W.heap.size := fun W _ => ⟨.inl ⟨⟨0, rfl⟩, rfl⟩, fun a c n h => by cases h⟩
        subst hz0
        go_wp2
        go_loop [9] (fun ax => ax = .int .i64 0) (fun ax => 0)
        case atStart => rfl
        case round =>
          obtain rfl := hrel
          by_cases hkk : (lv : Int) < k
          · have dk : decide (k ≤ (lv : Int)) = false := decide_eq_false (by omega)
            have HJL := Lib.hid (show ([] : List Int).length + 1 + ([] : List Int).length ≤ 100000 by simp)
            have HI := Lib.hid (insK_lt (L := L) (k := k) (l := []) (r := ⟨x, pm, pn⟩) (i := 0) (by rw [HLE.out] at hkk; exact hkk) rfl (fun h => by simp at h))
            go_wp2_with (first
              | (go_at_call 17; (with_reducible refine hLv.mono ?_); rintro e w3 ⟨rfl, hb3⟩; obtain ⟨v1, w4, r1, v2, w5, r2, v3, w6, r3, hn6, hb6⟩ := ins_int (w := w3) (uL := .slice none 0 0) (uR := .slice none 0 0) x (HS0 w3 hb3).1 (HS0 w3 hb3).2 (HS0 w3 hb3).1 (HS0 w3 hb3).2 HJL.out; have HR1 := Lib.hid r1; have HR2 := Lib.hid r2; have HR3 := Lib.hid r3; have HN6 := Lib.hid hn6; have HB6 : Hid (Below w.heap.size w w6) := Lib.hid ((HBX.out.trans (hb3.mono HBX.out.size)).trans (hb6.mono (Nat.le_trans HBX.out.size hb3.size))); have HZ3 : Hid (w.heap.size ≤ w3.heap.size) := Lib.hid (Nat.le_trans HBX.out.size hb3.size); clear r1 r2 r3 hn6 hb6 hb3)
              | (at_builtin; (refine Lib.wpList_append_run _ rfl (.tmp 53) (.tmp 56) 29 29 rfl _ _ rfl rfl _ _ HR1.out ?_))
              | (at_builtin; (refine Lib.wpList_append_run _ rfl (.tmp 58) (.tmp 60) 29 29 rfl _ _ rfl rfl _ _ HR2.out ?_))
              | (at_builtin; (refine Lib.wpList_append_run _ rfl (.tmp 62) (.tmp 65) 29 29 rfl _ _ rfl rfl _ _ HR3.out ?_)))
            go_roundw
            case rel => exact ⟨j + 1, v3, HJ.out.1, by go_num, rfl, by rw [HNX.out, HI.out]; exact NumRow.of (own_lowS HN6.out.own HZ3.out) HN6.out.nil, HB6.out⟩
            case measure => have h := HJ.out.2.1; clear hw1 hw2; simp only [idxOf]; omega
          · have dk : decide (k ≤ (lv : Int)) = true := decide_eq_true (by omega)
            have HI := Lib.hid (insK_ge (L := L) (k := k) (l := []) (r := ⟨x, pm, pn⟩) (by rw [HLE.out] at hkk; exact hkk))
            go_wp2_with (first
              | (go_at_call 17; (with_reducible refine hLv.mono ?_); rintro e w3 ⟨rfl, hb3⟩; have HO3 := Lib.hid (HOX.out.keep hb3); have HB3 : Hid (Below w.heap.size w w3) := Lib.hid (HBX.out.trans (hb3.mono HBX.out.size)); clear hb3))
            go_roundw
            case rel => exact ⟨j + 1, _, HJ.out.1, by go_num, rfl, by rw [HNX.out, HI.out]; exact HO3.out, HB3.out⟩
            case measure => have h := HJ.out.2.1; clear hw1 hw2; simp only [idxOf]; omega
      · obtain ⟨gz, zc, rfl, hgz, hz1, hz2, hcz⟩ := HOX.out.some' hle
        have HGZ := Lib.hid hgz
        have HCZ := Lib.hid hcz
        have HFL : Hid (∀ W : World, Below BX.heap.size BX W → ∀ q u, (l.flatMap encI)[q]? = some u → W.cell? ⟨gz, q, none⟩ = some u) := Lib.hid (fun W hb q u hu => by
          have hq : q < l.length := by have := (List.getElem?_eq_some_iff.1 hu).1; rw [flatI, List.length_map] at this; exact this
          rw [flatI_at hq] at hu
          rw [← hu]
          exact (hb.cell (p := ⟨gz, q, none⟩) HGZ.out).trans (HCZ.out q hq))
        have hln := HJ.out.2.2
        clear hgz hcz hle hz0
        go_wp2
        go_loop [9] (fun ax => ∃ i : Nat, i ≤ l.length ∧ ax = .int .i64 (i : Int) ∧ ∀ q, q < i → l.getD q 0 < x) (fun ax => l.length - (intOf ax).toNat)
        case atStart => exact ⟨0, Nat.zero_le _, rfl, fun q hq => absurd hq (by omega)⟩
        case round =>
          obtain ⟨i, hi', rfl, hlow⟩ := hrel
          have HLOW := Lib.hid hlow
          clear hlow
          have hib : i ≤ 100000 := by omega
          have HSL : ∀ W : World, Below BX.heap.size BX W → SrcS encI W (.slice (some ⟨gz, 0, none⟩) i zc) (l.take i) ∧ ∀ a c n, Value.slice (some ⟨gz, 0, none⟩) i zc = .slice (some a) n c → a.block < W.heap.size := fun W hb => ⟨src_take hi' (HFL.out W hb), fun a c n h => by injection h with h1 _ _; injection h1 with h1; rw [← h1]; exact Nat.lt_of_lt_of_le HGZ.out hb.size⟩
          have HJLn : Hid ((l.take i).length + 1 + (l.drop i).length ≤ 100000) := Lib.hid (by rw [List.length_take, List.length_drop, Nat.min_eq_left hi']; omega)
          by_cases hin : i < l.length
          · have d0 : decide ((i : Int) < (l.length : Int)) = true := decide_eq_true (by omega)
            have d0' : decide (i < l.length) = true := decide_eq_true hin
            have ce := HCZ.out i hin
            have HPOS : Hid (¬ l.getD i 0 < x → posU l x = i) := Lib.hid (fun h => posU_find hi' HLOW.out (fun _ => by omega))
            have HLO2 : Hid (l.getD i 0 < x → ∀ q, q < i + 1 → l.getD q 0 < x) := Lib.hid (fun h q hq => by
              by_cases e : q = i
              · rw [e]; exact h
              · exact HLOW.out q (by omega))
            have HHIT : Hid (posU l x = i → l.getD i 0 = x → insK L k l ⟨x, pm, pn⟩ = l) := Lib.hid (fun h1 h2 => insK_hit h1 hin h2)
            have HLAY : Hid ((liveOf x L : Int) < k → posU l x = i → l.getD i 0 ≠ x → insK L k l ⟨x, pm, pn⟩ = l.take i ++ [x] ++ l.drop i) := Lib.hid (fun h0 h1 h2 => insK_lt (r := ⟨x, pm, pn⟩) h0 h1 (fun _ => h2))
            have HSR : ∀ W : World, Below BX.heap.size BX W → SrcS encI W (.slice (some ⟨gz, i, none⟩) (l.length - i) (zc - i)) (l.drop i) ∧ ∀ a c n, Value.slice (some ⟨gz, i, none⟩) (l.length - i) (zc - i) = .slice (some a) n c → a.block < W.heap.size := fun W hb => ⟨by have h := src_drop (c := zc - i) encI_len hi' (HFL.out W hb); rw [Nat.mul_one] at h; exact h, fun a c n h => by injection h with h1 _ _; injection h1 with h1; rw [← h1]; exact Nat.lt_of_lt_of_le HGZ.out hb.size⟩
            generalize l.getD i 0 = y at ce HPOS HLO2 HHIT HLAY
            have cd : ∀ W : World, Below BX.heap.size BX W → W.cell? ⟨gz, i, none⟩ = some (.int .i64 y) := fun W hb => (hb.cell (p := ⟨gz, i, none⟩) HGZ.out).trans ce
            have HCD := Lib.hid cd
            clear cd
            by_cases h1 : y < x
            · have d1 : decide (y < x) = true := decide_eq_true h1
              have HN2 := Lib.hid (HLO2.out h1)
              go_wp2
              go_round
              case rel => exact ⟨i + 1, hin, by go_num, HN2.out⟩
              case measure => simp [intOf]; omega
            · have d1 : decide (y < x) = false := decide_eq_false h1
              have HP := Lib.hid (HPOS.out h1)
              by_cases hkk : (lv : Int) < k
              · have dk : decide (k ≤ (lv : Int)) = false := decide_eq_false (by omega)
                have HKL : Hid ((liveOf x L : Int) < k) := Lib.hid (by rw [HLE.out] at hkk; exact hkk)
                by_cases h2 : y = x
                · have d2 : (y == x) = true := by rw [beq_iff_eq]; exact h2
                  have HI0 := Lib.hid (HHIT.out HP.out h2)
                  clear h2 h1
                  have HI := Lib.hid (HI0.out)
                  go_wp2_with (first
                    | (go_at_call 17; (with_reducible refine hLv.mono ?_); rintro e w3 ⟨rfl, hb3⟩; have HO3 := Lib.hid (HOX.out.keep hb3); have cc3 := HCD.out w3 hb3; have HB3 : Hid (Below w.heap.size w w3) := Lib.hid (HBX.out.trans (hb3.mono HBX.out.size)); clear hb3))
                  go_roundw
                  case rel => exact ⟨j + 1, _, HJ.out.1, by go_num, rfl, by rw [HNX.out, HI.out]; exact HO3.out, HB3.out⟩
                  case measure => have h := HJ.out.2.1; clear hw1 hw2; simp only [idxOf]; omega
                · have d2 : (y == x) = false := by rw [beq_eq_false_iff_ne]; exact h2
                  have HI0 := Lib.hid (HLAY.out HKL.out HP.out h2)
                  clear h2 h1
                  have HJL := Lib.hid (HJLn.out)
                  have HI := Lib.hid (HI0.out)
                  go_wp2_with (first
                    | (go_at_call 17; (with_reducible refine hLv.mono ?_); rintro e w3 ⟨rfl, hb3⟩; obtain ⟨v1, w4, r1, v2, w5, r2, v3, w6, r3, hn6, hb6⟩ := ins_int (w := w3) (uL := .slice (some ⟨gz, 0, none⟩) i zc) (uR := .slice (some ⟨gz, i, none⟩) (l.length - i) (zc - i)) x (HSL w3 hb3).1 (HSL w3 hb3).2 (HSR w3 hb3).1 (HSR w3 hb3).2 HJL.out; have cc3 := HCD.out w3 hb3; have HR1 := Lib.hid r1; have HR2 := Lib.hid r2; have HR3 := Lib.hid r3; have HN6 := Lib.hid hn6; have HB6 : Hid (Below w.heap.size w w6) := Lib.hid ((HBX.out.trans (hb3.mono HBX.out.size)).trans (hb6.mono (Nat.le_trans HBX.out.size hb3.size))); have HZ3 : Hid (w.heap.size ≤ w3.heap.size) := Lib.hid (Nat.le_trans HBX.out.size hb3.size); clear r1 r2 r3 hn6 hb6 hb3)
                    | (at_builtin; (refine Lib.wpList_append_run _ rfl (.tmp 53) (.tmp 56) 29 29 rfl _ _ rfl rfl _ _ HR1.out ?_))
                    | (at_builtin; (refine Lib.wpList_append_run _ rfl (.tmp 58) (.tmp 60) 29 29 rfl _ _ rfl rfl _ _ HR2.out ?_))
                    | (at_builtin; (refine Lib.wpList_append_run _ rfl (.tmp 62) (.tmp 65) 29 29 rfl _ _ rfl rfl _ _ HR3.out ?_)))
                  go_roundw
                  case rel => exact ⟨j + 1, v3, HJ.out.1, by go_num, rfl, by rw [HNX.out, HI.out]; exact NumRow.of (own_lowS HN6.out.own HZ3.out) HN6.out.nil, HB6.out⟩
                  case measure => have h := HJ.out.2.1; clear hw1 hw2; simp only [idxOf]; omega
              · have dk : decide (k ≤ (lv : Int)) = true := decide_eq_true (by omega)
                have HI := Lib.hid (insK_ge (L := L) (k := k) (l := l) (r := ⟨x, pm, pn⟩) (by rw [HLE.out] at hkk; exact hkk))
                go_wp2_with (first
                  | (go_at_call 17; (with_reducible refine hLv.mono ?_); rintro e w3 ⟨rfl, hb3⟩; have HO3 := Lib.hid (HOX.out.keep hb3); have HB3 : Hid (Below w.heap.size w w3) := Lib.hid (HBX.out.trans (hb3.mono HBX.out.size)); clear hb3))
                go_roundw
                case rel => exact ⟨j + 1, _, HJ.out.1, by go_num, rfl, by rw [HNX.out, HI.out]; exact HO3.out, HB3.out⟩
                case measure => have h := HJ.out.2.1; clear hw1 hw2; simp only [idxOf]; omega
          · have d0 : decide ((i : Int) < (l.length : Int)) = false := decide_eq_false (by omega)
            have d0' : decide (i < l.length) = false := decide_eq_false hin
            have HP : Hid (posU l x = i) := Lib.hid (posU_find hi' HLOW.out (fun h => absurd h hin))
            by_cases hkk : (lv : Int) < k
            · have dk : decide (k ≤ (lv : Int)) = false := decide_eq_false (by omega)
              have HI0 : Hid (insK L k l ⟨x, pm, pn⟩ = l.take i ++ [x] ++ l.drop i) := Lib.hid (insK_lt (r := ⟨x, pm, pn⟩) (by rw [HLE.out] at hkk; exact hkk) HP.out (fun h => absurd h hin))
              by_cases hic : i < zc
              · have dc : decide (i < zc) = true := decide_eq_true hic
                have dc2 : (zc == i) = false := by rw [beq_eq_false_iff_ne]; omega
                have dc3 : ¬ zc = i := by omega
                have HSR : ∀ W : World, Below BX.heap.size BX W → SrcS encI W (.slice (some ⟨gz, i, none⟩) (l.length - i) (zc - i)) (l.drop i) ∧ ∀ a c n, Value.slice (some ⟨gz, i, none⟩) (l.length - i) (zc - i) = .slice (some a) n c → a.block < W.heap.size := fun W hb => ⟨by have h := src_drop (c := zc - i) encI_len hi' (HFL.out W hb); rw [Nat.mul_one] at h; exact h, fun a c n h => by injection h with h1 _ _; injection h1 with h1; rw [← h1]; exact Nat.lt_of_lt_of_le HGZ.out hb.size⟩
                have HJL := Lib.hid (HJLn.out)
                have HI := Lib.hid (HI0.out)
                go_wp2_with (first
                  | (go_at_call 17; (with_reducible refine hLv.mono ?_); rintro e w3 ⟨rfl, hb3⟩; obtain ⟨v1, w4, r1, v2, w5, r2, v3, w6, r3, hn6, hb6⟩ := ins_int (w := w3) (uL := .slice (some ⟨gz, 0, none⟩) i zc) (uR := .slice (some ⟨gz, i, none⟩) (l.length - i) (zc - i)) x (HSL w3 hb3).1 (HSL w3 hb3).2 (HSR w3 hb3).1 (HSR w3 hb3).2 HJL.out; have HR1 := Lib.hid r1; have HR2 := Lib.hid r2; have HR3 := Lib.hid r3; have HN6 := Lib.hid hn6; have HB6 : Hid (Below w.heap.size w w6) := Lib.hid ((HBX.out.trans (hb3.mono HBX.out.size)).trans (hb6.mono (Nat.le_trans HBX.out.size hb3.size))); have HZ3 : Hid (w.heap.size ≤ w3.heap.size) := Lib.hid (Nat.le_trans HBX.out.size hb3.size); clear r1 r2 r3 hn6 hb6 hb3)
                  | (at_builtin; (refine Lib.wpList_append_run _ rfl (.tmp 53) (.tmp 56) 29 29 rfl _ _ rfl rfl _ _ HR1.out ?_))
                  | (at_builtin; (refine Lib.wpList_append_run _ rfl (.tmp 58) (.tmp 60) 29 29 rfl _ _ rfl rfl _ _ HR2.out ?_))
                  | (at_builtin; (refine Lib.wpList_append_run _ rfl (.tmp 62) (.tmp 65) 29 29 rfl _ _ rfl rfl _ _ HR3.out ?_)))
                go_roundw
                case rel => exact ⟨j + 1, v3, HJ.out.1, by go_num, rfl, by rw [HNX.out, HI.out]; exact NumRow.of (own_lowS HN6.out.own HZ3.out) HN6.out.nil, HB6.out⟩
                case measure => have h := HJ.out.2.1; clear hw1 hw2; simp only [idxOf]; omega
              · obtain rfl : i = zc := by omega
                have hel : l.length = i := by omega
                have HSR : ∀ W : World, Below BX.heap.size BX W → SrcS encI W (.slice (some ⟨gz, 0, none⟩) 0 0) (l.drop i) ∧ ∀ a c n, Value.slice (some ⟨gz, 0, none⟩) 0 0 = .slice (some a) n c → a.block < W.heap.size := fun W hb => ⟨by rw [List.drop_eq_nil_of_le (by omega)]; exact src_none, fun a c n h => by injection h with h1 _ _; injection h1 with h1; rw [← h1]; exact Nat.lt_of_lt_of_le HGZ.out hb.size⟩
                clear hic hin
                have HJL := Lib.hid (HJLn.out)
                have HI := Lib.hid (HI0.out)
                go_wp2_with (first
                  | (go_at_call 17; (with_reducible refine hLv.mono ?_); rintro e w3 ⟨rfl, hb3⟩; obtain ⟨v1, w4, r1, v2, w5, r2, v3, w6, r3, hn6, hb6⟩ := ins_int (w := w3) (uL := .slice (some ⟨gz, 0, none⟩) i i) (uR := .slice (some ⟨gz, 0, none⟩) 0 0) x (HSL w3 hb3).1 (HSL w3 hb3).2 (HSR w3 hb3).1 (HSR w3 hb3).2 HJL.out; have HR1 := Lib.hid r1; have HR2 := Lib.hid r2; have HR3 := Lib.hid r3; have HN6 := Lib.hid hn6; have HB6 : Hid (Below w.heap.size w w6) := Lib.hid ((HBX.out.trans (hb3.mono HBX.out.size)).trans (hb6.mono (Nat.le_trans HBX.out.size hb3.size))); have HZ3 : Hid (w.heap.size ≤ w3.heap.size) := Lib.hid (Nat.le_trans HBX.out.size hb3.size); clear r1 r2 r3 hn6 hb6 hb3)
                  | (at_builtin; (refine Lib.wpList_append_run _ rfl (.tmp 53) (.tmp 56) 29 29 rfl _ _ rfl rfl _ _ HR1.out ?_))
                  | (at_builtin; (refine Lib.wpList_append_run _ rfl (.tmp 58) (.tmp 60) 29 29 rfl _ _ rfl rfl _ _ HR2.out ?_))
                  | (at_builtin; (refine Lib.wpList_append_run _ rfl (.tmp 62) (.tmp 65) 29 29 rfl _ _ rfl rfl _ _ HR3.out ?_)))
                go_roundw
                case rel => exact ⟨j + 1, v3, HJ.out.1, by go_num, rfl, by rw [HNX.out, HI.out]; exact NumRow.of (own_lowS HN6.out.own HZ3.out) HN6.out.nil, HB6.out⟩
                case measure => have h := HJ.out.2.1; clear hw1 hw2; simp only [idxOf]; omega
            · have dk : decide (k ≤ (lv : Int)) = true := decide_eq_true (by omega)
              have HI := Lib.hid (insK_ge (L := L) (k := k) (l := l) (r := ⟨x, pm, pn⟩) (by rw [HLE.out] at hkk; exact hkk))
              go_wp2_with (first
                | (go_at_call 17; (with_reducible refine hLv.mono ?_); rintro e w3 ⟨rfl, hb3⟩; have HO3 := Lib.hid (HOX.out.keep hb3); have HB3 : Hid (Below w.heap.size w w3) := Lib.hid (HBX.out.trans (hb3.mono HBX.out.size)); clear hb3))
              go_roundw
              case rel => exact ⟨j + 1, _, HJ.out.1, by go_num, rfl, by rw [HNX.out, HI.out]; exact HO3.out, HB3.out⟩
              case measure => have h := HJ.out.2.1; clear hw1 hw2; simp only [idxOf]; omega
    · obtain rfl : j = N := by omega
      have hno : ¬ ((j : Int) < (j : Int)) := by omega
      have e : L.take j = L := by rw [HN.out, List.take_length]
      rw [e] at HO
      have HR := Lib.hid (idxS_flat HO.out.own)
      clear e
      go_wp2
      go_ret
      exact ⟨_, rfl, HR.out, HB.out⟩
end Go.Proofs.Ythhbaccbhfngbaa
