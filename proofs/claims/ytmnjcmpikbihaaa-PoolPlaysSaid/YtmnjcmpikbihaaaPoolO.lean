/- Pools: the two appends of the document's Add. -/
import Derived.Test.YtmnjcmpikbihaaaPoolN
import Derived.Maps.AppendAt
namespace Go.Proofs.Ytmnjcmpikbihaaa
open Go.RowKit Go.Maps

/-- append of an own row to an empty literal. -/
theorem app1 {W : World} {b0 base g : Nat} {v : Value} {L : PL} (hv : W.ownsRow b0 52 2 v L.length (L.flatMap enc1)) (hg : W.heap[g]? = some (.cells #[] 52)) (hb : base ≤ g) (hn : L.length ≤ 1000) (hbase : base ≤ W.heap.size) :
    ∃ v1 w1, (Builtin.append_ #[26, 26] 26 #[.slice (some ⟨g, 0, none⟩) 0 0, v]).run Try.prog W = .ok v1 w1 ∧ w1.ownsRow base 52 2 v1 L.length (L.flatMap enc1) ∧ Ap (fun k => k = g) W w1 := by
  obtain ⟨i0, hi, hz0, hz1, hz2⟩ := oneInfo
  have he : W.ownsRow base 52 2 (.slice (some ⟨g, 0, none⟩) 0 0) 0 [] := ⟨rfl, .inr ⟨g, 0, #[], rfl, hb, hg, Nat.le_refl _, Nat.zero_le _, rfl, rfl⟩⟩
  rcases hv.2 with ⟨rfl, h0⟩ | ⟨g', cap, cur, rfl, hg', hh, hn', hm, hs, ht⟩
  · have : L = [] := List.eq_nil_of_length_eq_zero h0
    subst this
    exact ⟨_, W, run_append_owned_none W base _ _ _ i0 2 Try.underlying26 hi _ _ _ he, he, Ap.refl _⟩
  · obtain ⟨v', w', hr, h2, h3, _, _⟩ := run_append_own_at (P := Try.prog) (w := W) base 26 26 52 i0 _ 2 24 Try.underlying26 hi hz0 hz1 hz2 rfl (by decide) _ 0 [] he ⟨g', 0, none⟩ L.length cap (L.flatMap enc1) (flat_len enc1_len L) (fun j u hu => by
      have hlt : j < L.length * 2 := by rw [← flat_len enc1_len L]; exact (List.getElem?_eq_some_iff.1 hu).1
      rw [add_mid0, cell_of_row W g' j cur _ (0, 0) hh]
      rw [← ht, List.getElem?_take, if_pos hlt, Array.getElem?_toList] at hu
      exact hu) (flat_one enc1_one L) (by unfold maxLen; omega) (by omega) hbase
    rw [Nat.zero_add, List.nil_append] at h2
    exact ⟨v', w', hr, h2, Ap.grown (S := fun k => k = g) (Ap.refl W) h3 (fun k hk => by have : some g = some k := hk; injection this with this; exact .inl this.symm)⟩
/-- .. and of one more. -/
theorem app2 {W : World} {base g : Nat} {v : Value} {L : PL} (hv : W.ownsRow base 52 2 v L.length (L.flatMap enc1)) (p : Int × List UInt8) (hc : ∀ j u, (enc1 p)[j]? = some u → W.cell? ((⟨g, 0, none⟩ : Addr).add j) = some u) (hn : L.length ≤ 1000) (hbase : base ≤ W.heap.size) :
    ∃ v1 w1, (Builtin.append_ #[26, 26] 26 #[v, .slice (some ⟨g, 0, none⟩) 1 1]).run Try.prog W = .ok v1 w1 ∧ w1.ownsRow base 52 2 v1 (L ++ [p]).length ((L ++ [p]).flatMap enc1) ∧ Below base W w1 := by
  obtain ⟨i0, hi, hz0, hz1, hz2⟩ := oneInfo
  obtain ⟨v', w', hr, h2, h3, _, _⟩ := run_append_own_at (P := Try.prog) (w := W) base 26 26 52 i0 _ 2 24 Try.underlying26 hi hz0 hz1 hz2 rfl (by decide) v L.length _ hv ⟨g, 0, none⟩ 1 1 (enc1 p) rfl hc (enc1_one p) (by unfold maxLen; omega) (by omega) hbase
  refine ⟨v', w', hr, by rw [List.length_append, flat_snoc]; exact h2, ?_⟩
  have ha : Ap (fun k => v.ownBlock = some k) W w' := Ap.grown (S := fun k => v.ownBlock = some k) (Ap.refl W) h3 (fun k hk => .inl hk)
  exact ha.below hbase (fun k hk => (World.ownsRow.lt hv k hk).1)
end Go.Proofs.Ytmnjcmpikbihaaa
