/- Laying one thing in, the document's way: append(append(append([]T{}, l[:i]...), x), l[i:]...): all three appends' runs at once. -/
import Derived.Test.YtfmpbohiahjafaaDoorStr
import Derived.Maps.AppendAt
import Derived.Laws.OwnMore
import Derived.Lib.AppendZeros
namespace Go.Proofs.YtfmpbohiahjafaaDoor
open Go.RowKit

section
variable {α : Type} {k : Nat} {enc : α → List Value} {z : α}
/-- What may be appended: nil, or what lies there. -/
def SrcS (enc : α → List Value) (w : World) (u : Value) (S : List α) : Prop := ((∃ c, u = .slice none 0 c) ∧ S = []) ∨ ∃ a c, u = .slice (some a) S.length c ∧ ∀ j x, (S.flatMap enc)[j]? = some x → w.cell? (a.add j) = some x
theorem run_append_none_cap {P : Program} {w : World} {base t e n size : Nat} {i : TypeInfo} (ht : P.underlying t = some (.slice e)) (hi : P.info? e = some i) {v : Value} {xs : List Value} (hown : w.ownsRow base e size v n xs) (c : Nat) :
    (Builtin.append_ #[t, t] t #[v, .slice none 0 c]).run P w = .ok v w := by
  rcases hown.2 with ⟨rfl, rfl⟩ | ⟨g, cap, cur, rfl, _, _, hnc, _⟩
  · simp [Builtin.append_, run_underlying ht, sizeOf, typeInfo, hi, Builtin.lenOf, Builtin.firstCells]
  · simp [Builtin.append_, run_underlying ht, sizeOf, typeInfo, hi, Builtin.lenOf, Builtin.firstCells, hnc, storeCells]
theorem app_src {P : Program} {W : World} {base t e : Nat} {i0 : TypeInfo} {zv : Value} {bytes : Nat} (ht : P.underlying t = some (.slice e)) (hi : P.info? e = some i0) (hz0 : i0.zero = some zv) (hz1 : i0.size = k) (hz2 : i0.bytes = bytes) (hzs : zv.cells.size = k) (hk0 : 0 < k) (hk : ∀ x, (enc x).length = k) (h1 : ∀ x, ∀ u ∈ enc x, u.oneCell' = true)
    {v u : Value} {D S : List α} (hv : W.ownsRow base e k v D.length (D.flatMap enc)) (hu : SrcS enc W u S) (hl : D.length + S.length ≤ maxLen) (hb : (D.length + S.length) * bytes ≤ 140737488355328) (hbase : base ≤ W.heap.size) :
    ∃ v1 w1, (Builtin.append_ #[t, t] t #[v, u]).run P W = .ok v1 w1 ∧ w1.ownsRow base e k v1 (D ++ S).length ((D ++ S).flatMap enc) ∧ Below base W w1 ∧ (v1 = .slice none 0 0 ↔ v = .slice none 0 0 ∧ S = []) := by
  rcases hu with ⟨⟨c, rfl⟩, rfl⟩ | ⟨a, c, rfl, hc⟩
  · rw [List.append_nil]
    exact ⟨v, W, run_append_none_cap ht hi hv c, hv, Below.refl _ _, by simp⟩
  · obtain ⟨v', w', hr, h2, h3, h4, _⟩ := run_append_own_at (P := P) (w := W) base t t e i0 zv k bytes ht hi hz0 hz1 hz2 hzs hk0 v D.length _ hv a S.length c (S.flatMap enc) (flatS_len hk S) hc (flat_one h1 S) hl hb hbase
    refine ⟨v', w', hr, by rw [List.length_append, List.flatMap_append]; exact h2, (Below.refl base W).grown h3 hbase (fun g hg => (World.ownsRow.lt hv g hg).1), h4.trans ?_⟩
    rw [List.length_eq_zero_iff]
theorem src_keep {w w' : World} {u : Value} {S : List α} (h : SrcS enc w u S) (hlt : ∀ a c n, u = .slice (some a) n c → a.block < w.heap.size) (hb : Below w.heap.size w w') : SrcS enc w' u S := by
  rcases h with h | ⟨a, c, rfl, hc⟩
  · exact .inl h
  · exact .inr ⟨a, c, rfl, fun j x hx => by
      have h := hc j x hx
      have h2 : (a.add j).block = a.block := by unfold Addr.add; split <;> rfl
      have h3 : (a.add j).block < w.heap.size := by rw [h2]; exact hlt a c _ rfl
      rw [← h]
      exact hb.cell h3⟩
/-- An own row's form. -/
theorem own_src {W : World} {base e : Nat} {v : Value} {l : List α} (hk : ∀ x, (enc x).length = k) (h : W.ownsRow base e k v l.length (l.flatMap enc)) : (v = .slice none 0 0 ∧ l = []) ∨ ∃ g cap, v = .slice (some ⟨g, 0, none⟩) l.length cap ∧ g < W.heap.size ∧ base ≤ g ∧ l.length ≤ cap ∧ cap ≤ maxLen ∧ ∀ j x, (l.flatMap enc)[j]? = some x → W.cell? ⟨g, j, none⟩ = some x := by
  rcases h.2 with ⟨rfl, h0⟩ | ⟨g, cap, cur, rfl, hb, hh, hn, hm, hs, ht⟩
  · exact .inl ⟨rfl, List.eq_nil_of_length_eq_zero h0⟩
  · refine .inr ⟨g, cap, rfl, (Array.getElem?_eq_some_iff.1 hh).1, hb, hn, hm, fun j x hx => ?_⟩
    have hj : j < l.length * k := by rw [← flatS_len hk l]; exact (List.getElem?_eq_some_iff.1 hx).1
    rw [cell_of_row W g j cur _ (0, 0) hh, ← hx, ← ht, List.getElem?_take, if_pos hj, Array.getElem?_toList]
theorem src_take {W : World} {g i c : Nat} {l : List α} (hi : i ≤ l.length) (h : ∀ j x, (l.flatMap enc)[j]? = some x → W.cell? ⟨g, j, none⟩ = some x) : SrcS enc W (.slice (some ⟨g, 0, none⟩) i c) (l.take i) := by
  refine .inr ⟨_, c, by rw [List.length_take, Nat.min_eq_left hi], fun j x hx => ?_⟩
  have e : (⟨g, 0, none⟩ : Addr).add j = ⟨g, j, none⟩ := by unfold Addr.add; split <;> simp_all
  rw [e]
  refine h j x ?_
  have hl : l.flatMap enc = (l.take i).flatMap enc ++ (l.drop i).flatMap enc := by rw [← List.flatMap_append, List.take_append_drop]
  rw [hl, List.getElem?_append_left (List.getElem?_eq_some_iff.1 hx).1]; exact hx
theorem src_drop {W : World} {g i c : Nat} {l : List α} (hk : ∀ x, (enc x).length = k) (hi : i ≤ l.length) (h : ∀ j x, (l.flatMap enc)[j]? = some x → W.cell? ⟨g, j, none⟩ = some x) : SrcS enc W (.slice (some ⟨g, i * k, none⟩) (l.length - i) c) (l.drop i) := by
  refine .inr ⟨_, c, by rw [List.length_drop], fun j x hx => ?_⟩
  have e : (⟨g, i * k, none⟩ : Addr).add j = ⟨g, i * k + j, none⟩ := by unfold Addr.add; split <;> simp_all
  rw [e]
  refine h _ x ?_
  have hl : l.flatMap enc = (l.take i).flatMap enc ++ (l.drop i).flatMap enc := by rw [← List.flatMap_append, List.take_append_drop]
  have ht : ((l.take i).flatMap enc).length = i * k := by rw [flatS_len hk, List.length_take, Nat.min_eq_left hi]
  rw [hl, List.getElem?_append_right (by omega), ht, Nat.add_sub_cancel_left]; exact hx
theorem src_none {W : World} {g o c : Nat} : SrcS enc W (.slice (some ⟨g, o, none⟩) 0 c) [] := .inr ⟨_, c, rfl, fun j x hx => by simp at hx⟩
/-- The three appends. -/
theorem ins_runs {P : Program} {w : World} {t e : Nat} {i0 : TypeInfo} {zv : Value} {bytes : Nat} (ht : P.underlying t = some (.slice e)) (hi : P.info? e = some i0) (hz0 : i0.zero = some zv) (hz1 : i0.size = k) (hz2 : i0.bytes = bytes) (hzs : zv.cells.size = k) (hk0 : 0 < k) (hk : ∀ x, (enc x).length = k) (h1 : ∀ x, ∀ u ∈ enc x, u.oneCell' = true)
    {uL uR : Value} {A B : List α} (x : α) (hL : SrcS enc w uL A) (hL2 : ∀ a c n, uL = .slice (some a) n c → a.block < w.heap.size) (hR : SrcS enc w uR B) (hR2 : ∀ a c n, uR = .slice (some a) n c → a.block < w.heap.size) (hl : A.length + 1 + B.length ≤ maxLen) (hb : (A.length + 1 + B.length) * bytes ≤ 140737488355328) :
    ∃ v1 w2, (Builtin.append_ #[t, t] t #[.slice (some ⟨w.heap.size, 0, none⟩) 0 0, uL]).run P (w.alloc (.cells #[] e)) = .ok v1 w2 ∧
      ∃ v2 w3, (Builtin.append_ #[t, t] t #[v1, .slice (some ⟨w2.heap.size, 0, none⟩) 1 1]).run P (w2.alloc (.cells (enc x).toArray e)) = .ok v2 w3 ∧
        ∃ v3 w4, (Builtin.append_ #[t, t] t #[v2, uR]).run P w3 = .ok v3 w4 ∧ w4.ownsRow w.heap.size e k v3 (A ++ [x] ++ B).length ((A ++ [x] ++ B).flatMap enc) ∧ Below w.heap.size w w4 ∧ v3 ≠ .slice none 0 0 := by
  have b1 : Below w.heap.size w (w.alloc (.cells #[] e)) := below_new w _
  have hE : (w.alloc (.cells #[] e)).ownsRow w.heap.size e k (.slice (some ⟨w.heap.size, 0, none⟩) 0 0) ([] : List α).length (([] : List α).flatMap enc) := ⟨by simp, .inr ⟨w.heap.size, 0, #[], rfl, Nat.le_refl _, heap_alloc_new w _, Nat.le_refl _, Nat.zero_le _, by simp, by simp⟩⟩
  have hbA : A.length * bytes ≤ (A.length + 1 + B.length) * bytes := Nat.mul_le_mul_right _ (by omega)
  have hbX : (A.length + 1) * bytes ≤ (A.length + 1 + B.length) * bytes := Nat.mul_le_mul_right _ (by omega)
  obtain ⟨v1, w2, r1, o1, B1, n1⟩ := app_src ht hi hz0 hz1 hz2 hzs hk0 hk h1 hE (src_keep hL hL2 b1) (by simp; omega) (by simp; omega) (by simp)
  rw [List.nil_append] at o1
  have c1 : Below w.heap.size w w2 := b1.trans B1
  have b2 : Below w2.heap.size w2 (w2.alloc (.cells (enc x).toArray e)) := below_new w2 _
  have hX : SrcS enc (w2.alloc (.cells (enc x).toArray e)) (.slice (some ⟨w2.heap.size, 0, none⟩) 1 1) [x] := .inr ⟨_, 1, rfl, fun j u hu => new_cells w2 (enc x) e j u (by simpa using hu)⟩
  obtain ⟨v2, w3, r2, o2, B2, n2⟩ := app_src ht hi hz0 hz1 hz2 hzs hk0 hk h1 (ownS_keep o1 b2) hX (by simp; omega) (by simp; omega) (Nat.le_trans c1.size b2.size)
  have c2 : Below w.heap.size w w3 := (c1.trans (b2.mono c1.size)).trans B2
  obtain ⟨v3, w4, r3, o3, B3, n3⟩ := app_src ht hi hz0 hz1 hz2 hzs hk0 hk h1 o2 (src_keep hR hR2 c2) (by simp; omega) (by simp; omega) c2.size
  refine ⟨v1, w2, r1, v2, w3, r2, v3, w4, r3, o3, c2.trans B3, fun h => ?_⟩
  have h5 := n2.1 (n3.1 h).1
  simp at h5
end
end Go.Proofs.YtfmpbohiahjafaaDoor
