/- Slices of structs of k cells each: what reads as one, and what a call makes of its own. -/
import Derived.Test.YtfmpbohiahjafaaDoorKit
import Derived.RegionTactic
import Derived.Laws.NewBlocks
import Derived.Laws.AppendOwn
import Derived.Laws.AppendOwnNone
import Derived.OwnWalk
import Derived.Maps.AppendAt
import Derived.Lib.SliceRun
namespace Go.Proofs.YtfmpbohiahjafaaDoor
open Go.RowKit

/-- A slice that reads as these things, each of k cells (z stands where nothing is). -/
def StS {α : Type} (k : Nat) (enc : α → List Value) (z : α) (w : World) (v : Value) (L : List α) : Prop :=
  ∃ A cap, v = .slice A L.length cap ∧ L.length ≤ cap ∧ cap ≤ maxLen ∧ (L = [] ∨ ∃ b off, A = some ⟨b, off, none⟩ ∧ b < w.heap.size ∧ ∀ j, j < L.length → ∀ q u, (enc (L.getD j z))[q]? = some u → w.cell? ⟨b, off + j * k + q, none⟩ = some u)
section
variable {α : Type} {k : Nat} {enc : α → List Value} {z : α}
theorem StS.below {B : Nat} {w w' : World} {v : Value} {L : List α} (h : StS k enc z w v L) (hb : Below B w w') (hB : w.heap.size ≤ B) : StS k enc z w' v L := by
  obtain ⟨A, cap, hv, h1, h2, h3⟩ := h
  refine ⟨A, cap, hv, h1, h2, ?_⟩
  rcases h3 with h3 | ⟨b, off, hA, hlt, hc⟩
  · exact .inl h3
  · exact .inr ⟨b, off, hA, Nat.lt_of_lt_of_le hlt hb.size, fun j hj q u hu => (hb.cell (p := ⟨b, off + j * k + q, none⟩) (by show b < B; omega)).trans (hc j hj q u hu)⟩
theorem StS.nil (w : World) : StS k enc z w (.slice none 0 0) [] := ⟨none, 0, rfl, Nat.le_refl _, Nat.zero_le _, .inl rfl⟩
theorem StS.form {w : World} {v : Value} {L : List α} (h : StS k enc z w v L) : ∃ A cap, v = .slice A L.length cap := by
  obtain ⟨A, cap, hv, _⟩ := h; exact ⟨A, cap, hv⟩
theorem flatS_len (hk : ∀ x, (enc x).length = k) (L : List α) : (L.flatMap enc).length = L.length * k := by
  induction L with
  | nil => simp
  | cons p r ih => rw [List.flatMap_cons, List.length_append, ih, hk, List.length_cons, Nat.add_mul]; omega
theorem flat_at (hk : ∀ x, (enc x).length = k) : ∀ (L : List α) (j : Nat), j < L.length → ∀ q, q < k → (L.flatMap enc)[j * k + q]? = (enc (L.getD j z))[q]?
  | p :: r, 0, _, q, hq => by
    rw [List.flatMap_cons, Nat.zero_mul, Nat.zero_add, List.getElem?_append_left (by rw [hk]; exact hq)]; rfl
  | p :: r, j + 1, h, q, hq => by
    rw [List.flatMap_cons, List.getElem?_append_right (by rw [hk, Nat.add_mul]; omega), List.getD_cons_succ, ← flat_at hk r j (by simpa using h) q hq, hk]
    congr 1
    rw [Nat.add_mul]; omega
theorem flat_snoc (L : List α) (x : α) : (L ++ [x]).flatMap enc = L.flatMap enc ++ enc x := by rw [List.flatMap_append, List.flatMap_singleton]
theorem flat_one (h1 : ∀ x, ∀ u ∈ enc x, u.oneCell' = true) (L : List α) : ∀ u ∈ L.flatMap enc, u.oneCell' = true := by
  intro u hu
  obtain ⟨x, _, hx⟩ := List.mem_flatMap.1 hu
  exact h1 x u hx
/-- What a call owns reads as that. -/
theorem StS.of_own {w : World} {base : Nat} {t : TypeId} {v : Value} {L : List α} (hk : ∀ x, (enc x).length = k) (h : w.ownsRow base t k v L.length (L.flatMap enc)) : StS k enc z w v L := by
  rcases h.2 with ⟨rfl, h0⟩ | ⟨g, cap, cur, rfl, hb, hh, hn, hm, hs, ht⟩
  · have : L = [] := List.eq_nil_of_length_eq_zero h0
    subst this
    exact StS.nil w
  · refine ⟨_, cap, rfl, hn, hm, .inr ⟨g, 0, rfl, (Array.getElem?_eq_some_iff.1 hh).1, fun j hj q u hu => ?_⟩⟩
    have hq : q < k := by rw [← hk (L.getD j z)]; exact (List.getElem?_eq_some_iff.1 hu).1
    rw [Nat.zero_add, cell_of_row w g (j * k + q) cur _ (0, 0) hh]
    have h1 : (cur.toList.take (L.length * k))[j * k + q]? = (L.flatMap enc)[j * k + q]? := by rw [ht]
    have hlt : j * k + q < L.length * k := by
      have : (j + 1) * k ≤ L.length * k := Nat.mul_le_mul_right _ hj
      rw [Nat.add_mul] at this; omega
    rw [List.getElem?_take, if_pos hlt, Array.getElem?_toList, flat_at hk L j hj q hq, hu] at h1
    exact h1
end
theorem add_mid0 (b j : Nat) : ((⟨b, 0, none⟩ : Addr).add j) = ⟨b, j, none⟩ := by unfold Addr.add; split <;> simp_all
/-- A block of cells, just made. -/
theorem new_cells (W : World) (vs : List Value) (t : TypeId) : ∀ j u, vs[j]? = some u → (W.alloc (.cells vs.toArray t)).cell? ((⟨W.heap.size, 0, none⟩ : Addr).add j) = some u := by
  intro j u h
  rw [add_mid0, cell_of_row _ _ _ _ t (0, 0) (heap_alloc_new W _), ← h]
  simp
theorem ownS_keep {w w' : World} {base e s n : Nat} {v : Value} {xs : List Value} (h : w.ownsRow base e s v n xs) (hb : Below w.heap.size w w') : w'.ownsRow base e s v n xs := by
  refine ⟨h.1, ?_⟩
  rcases h.2 with h0 | ⟨g, cap, cur, hv, hg, hh, r⟩
  · exact .inl h0
  · exact .inr ⟨g, cap, cur, hv, hg, (hb.block g (Array.getElem?_eq_some_iff.1 hh).1).trans hh, r⟩
theorem ownS_form {W : World} {B n s : Nat} {e : TypeId} {v : Value} {xs : List Value} (h : W.ownsRow B e s v n xs) : ∃ A cap, v = .slice A n cap ∧ n ≤ cap ∧ cap ≤ maxLen := by
  rcases h.2 with ⟨rfl, h0⟩ | ⟨g, cap', cur, rfl, _, _, h1, h2, _⟩
  · exact ⟨none, 0, by rw [h0], by omega, Nat.zero_le _⟩
  · exact ⟨_, cap', rfl, h1, h2⟩
theorem below_new (w : World) (o : Obj) : Below w.heap.size w (w.alloc o) := (Below.refl _ _).alloc (Nat.le_refl _) o
theorem getD_snoc {α : Type} {L : List α} {k : Nat} (z : α) (hk : k < L.length) : L.take (k + 1) = L.take k ++ [L.getD k z] := by
  rw [List.take_succ_eq_append_getElem hk, List.getD, List.getElem?_eq_getElem hk]; rfl
theorem wrap_nx {j n cap : Nat} (h : j < n) (h1 : n ≤ cap) (h2 : cap ≤ maxLen) : wrap64 ((j : Int) + 1) = (j : Int) + 1 := by
  unfold maxLen at h2; unfold wrap64; omega
end Go.Proofs.YtfmpbohiahjafaaDoor
