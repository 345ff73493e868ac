/- References: a slice of maps, and one map more. -/
import Derived.Test.YthhbaccbhfngbaaRfaM
namespace Go.Proofs.Ythhbaccbhfngbaa
open Go.RowKit

/-- A map as its cells say. -/
structure ChB where
  b : Int
  a : Option Addr
  n : Nat
  c : Nat
def ChB.zero : ChB := ⟨0, none, 0, 0⟩
def chEnc (p : ChB) : List Value := [.int .i64 p.b, .slice p.a p.n p.c]
theorem chEnc_len (p : ChB) : (chEnc p).length = 2 := rfl
theorem chEnc_one (p : ChB) : ∀ u ∈ chEnc p, u.oneCell' = true := by
  intro u hu
  simp only [chEnc, List.mem_cons, List.not_mem_nil, or_false] at hu
  rcases hu with rfl | rfl <;> rfl
/-- These cells are these maps'. -/
def ChP (w : World) (ps : List ChB) (C : List CH) : Prop := ps.length = C.length ∧ ∀ j, j < C.length → (ps.getD j ChB.zero).b = (C.getD j CH.zero).blocks ∧ (ps.getD j ChB.zero).n = (C.getD j CH.zero).tabs.length ∧ TabsS w (.slice (ps.getD j ChB.zero).a (ps.getD j ChB.zero).n (ps.getD j ChB.zero).c) (C.getD j CH.zero).tabs
theorem ChP.below {w w' : World} {ps : List ChB} {C : List CH} (h : ChP w ps C) (hb : Below w.heap.size w w') : ChP w' ps C := ⟨h.1, fun j hj => by obtain ⟨a, b, c⟩ := h.2 j hj; exact ⟨a, b, c.below hb⟩⟩
theorem chs_pairs {w : World} {v : Value} {C : List CH} (h : ChsS w v C) : ∃ ps : List ChB, ChP w ps C ∧ ∀ W, Below w.heap.size w W → SrcS chEnc W v ps := by
  obtain ⟨A, cap, rfl, h1, h2, h3⟩ := h
  rcases h3 with rfl | ⟨b, off, rfl, hlt, hc⟩
  · refine ⟨[], ⟨rfl, fun j hj => absurd hj (Nat.not_lt_zero _)⟩, fun W _ => ?_⟩
    cases A with
    | none => exact .inl ⟨⟨cap, rfl⟩, rfl⟩
    | some a => exact .inr ⟨a, cap, rfl, fun j x hx => by simp at hx⟩
  · have hx : ∀ j, ∃ p : ChB, j < C.length → p.b = (C.getD j CH.zero).blocks ∧ p.n = (C.getD j CH.zero).tabs.length ∧ w.cell? ⟨b, off + j * 2, none⟩ = some (.int .i64 p.b) ∧ w.cell? ⟨b, off + j * 2 + 1, none⟩ = some (.slice p.a p.n p.c) ∧ TabsS w (.slice p.a p.n p.c) (C.getD j CH.zero).tabs := fun j => by
      by_cases hj : j < C.length
      · obtain ⟨tA, tc, q0, q1, q2⟩ := hc j hj
        exact ⟨⟨_, tA, _, tc⟩, fun _ => ⟨rfl, rfl, q0, q1, q2⟩⟩
      · exact ⟨ChB.zero, fun h => absurd h hj⟩
    obtain ⟨f, hf⟩ := Classical.axiomOfChoice hx
    have hln : ((List.range C.length).map f).length = C.length := by simp
    have hget : ∀ j, j < C.length → ((List.range C.length).map f).getD j ChB.zero = f j := fun j hj => by simp [List.getD, hj]
    refine ⟨(List.range C.length).map f, ⟨hln, fun j hj => ?_⟩, fun W hb => .inr ⟨⟨b, off, none⟩, cap, by rw [hln], fun j x hxx => ?_⟩⟩
    · rw [hget j hj]
      obtain ⟨e1, e2, _, _, e5⟩ := hf j hj
      exact ⟨e1, e2, e5⟩
    · have hj : j < C.length * 2 := by have := (List.getElem?_eq_some_iff.1 hxx).1; rw [flatS_len chEnc_len, hln] at this; exact this
      have hq : j / 2 < C.length := by omega
      have hr : j % 2 < 2 := by omega
      have h5 := flat_at (z := ChB.zero) chEnc_len ((List.range C.length).map f) (j / 2) (by rw [hln]; exact hq) (j % 2) hr
      rw [show j / 2 * 2 + j % 2 = j by omega, hget _ hq, hxx] at h5
      obtain ⟨_, _, q0, q1, _⟩ := hf (j / 2) hq
      have ea : ((⟨b, off, none⟩ : Addr).add j) = ⟨b, off + j, none⟩ := by unfold Addr.add; split <;> simp_all
      rw [ea]
      refine (hb.cell (p := ⟨b, off + j, none⟩) hlt).trans ?_
      by_cases h0 : j % 2 = 0
      · rw [h0] at h5
        have e6 : off + j = off + j / 2 * 2 := by omega
        rw [e6, q0]
        simpa [chEnc] using h5.symm
      · have h1' : j % 2 = 1 := by omega
        rw [h1'] at h5
        have e6 : off + j = off + j / 2 * 2 + 1 := by omega
        rw [e6, q1]
        simpa [chEnc] using h5.symm
theorem chs_of_row {W : World} {base : Nat} {v : Value} {ps : List ChB} {C : List CH} (h : W.ownsRow base 44 2 v ps.length (ps.flatMap chEnc)) (hp : ChP W ps C) : ChsS W v C := by
  obtain ⟨A, cap, rfl, h1, h2, h3⟩ := StS.of_own (z := ChB.zero) chEnc_len h
  obtain ⟨hl, hq⟩ := hp
  refine ⟨A, cap, by rw [hl], by rw [← hl]; exact h1, h2, ?_⟩
  rcases h3 with rfl | ⟨b, off, rfl, hlt, hc⟩
  · exact .inl (List.eq_nil_of_length_eq_zero hl.symm)
  · refine .inr ⟨b, off, rfl, hlt, fun j hj => ?_⟩
    obtain ⟨e1, e2, e3⟩ := hq j hj
    have c0 := hc j (by rw [hl]; exact hj) 0 _ rfl
    have c1 := hc j (by rw [hl]; exact hj) 1 _ rfl
    rw [e1] at c0
    rw [e2] at c1 e3
    exact ⟨_, _, c0, c1, e3⟩
theorem chp_snoc {W : World} {ps : List ChB} {C : List CH} {c : CH} {tA : Option Addr} {tc : Nat} (h : ChP W ps C) (ht : TabsS W (.slice tA c.tabs.length tc) c.tabs) : ChP W (ps ++ [⟨c.blocks, tA, c.tabs.length, tc⟩]) (C ++ [c]) := by
  obtain ⟨hl, hq⟩ := h
  refine ⟨by simp [hl], fun j hj => ?_⟩
  rw [List.length_append] at hj
  by_cases hlt : j < C.length
  · rw [List.getD, List.getD, List.getElem?_append_left hlt, List.getElem?_append_left (by rw [hl]; exact hlt)]
    exact hq j hlt
  · have e : j = C.length := by simp at hj; omega
    subst e
    rw [List.getD, List.getD, List.getElem?_append_right (Nat.le_refl _), List.getElem?_append_right (by rw [hl]; exact Nat.le_refl _), hl, Nat.sub_self]
    exact ⟨rfl, rfl, ht⟩
theorem chInfo : ∃ i, Try.prog.info? 44 = some i ∧ i.zero = some (.agg #[.int .i64 0, .slice none 0 0]) ∧ i.size = 2 ∧ i.bytes = 32 := by
  have e : (Try.prog.info? 44).map (fun i => (i.zero, i.size, i.bytes)) = some (some (.agg #[.int .i64 0, .slice none 0 0]), 2, 32) := by kernel_rfl
  obtain ⟨i, hi, hz⟩ := Option.map_eq_some_iff.1 e
  simp only [Prod.mk.injEq] at hz
  exact ⟨i, hi, hz.1, hz.2.1, hz.2.2⟩
/-- append of the maps to an empty literal. -/
theorem appC1 {W : World} {base g : Nat} {v : Value} {ps : List ChB} (hv : SrcS chEnc W v ps) (hg : W.heap[g]? = some (.cells #[] 44)) (hb : base ≤ g) (hn : ps.length ≤ 1000) (hbase : base ≤ W.heap.size) :
    ∃ v1 w1, (Builtin.append_ #[22, 22] 22 #[.slice (some ⟨g, 0, none⟩) 0 0, v]).run Try.prog W = .ok v1 w1 ∧ w1.ownsRow base 44 2 v1 ps.length (ps.flatMap chEnc) ∧ Ap (fun k => k = g) W w1 := by
  obtain ⟨i0, hi, hz0, hz1, hz2⟩ := chInfo
  have he : W.ownsRow base 44 2 (.slice (some ⟨g, 0, none⟩) 0 0) 0 [] := ⟨rfl, .inr ⟨g, 0, #[], rfl, hb, hg, Nat.le_refl _, Nat.zero_le _, rfl, rfl⟩⟩
  rcases hv with ⟨⟨c, rfl⟩, rfl⟩ | ⟨a, c, rfl, hc⟩
  · exact ⟨_, W, run_append_none_cap Try.underlying22 hi he c, he, Ap.refl _⟩
  · obtain ⟨v', w', hr, h2, h3, _, _⟩ := run_append_own_at (P := Try.prog) (w := W) base 22 22 44 i0 _ 2 32 Try.underlying22 hi hz0 hz1 hz2 rfl (by decide) _ 0 [] he a ps.length c (ps.flatMap chEnc) (flatS_len chEnc_len ps) hc (flat_one chEnc_one ps) (by unfold maxLen; omega) (by omega) hbase
    rw [Nat.zero_add, List.nil_append] at h2
    exact ⟨v', w', hr, h2, Ap.grown (S := fun k => k = g) (Ap.refl W) h3 (fun k hk => by have : some g = some k := hk; injection this with this; exact .inl this.symm)⟩
/-- .. and of one more. -/
theorem appC2 {W : World} {base g : Nat} {v : Value} {ps : List ChB} (hv : W.ownsRow base 44 2 v ps.length (ps.flatMap chEnc)) (p : ChB) (hc : W.heap[g]? = some (.cells #[.int .i64 p.b, .slice p.a p.n p.c] 44)) (hn : ps.length ≤ 1000) (hbase : base ≤ W.heap.size) :
    ∃ v1 w1, (Builtin.append_ #[22, 22] 22 #[v, .slice (some ⟨g, 0, none⟩) 1 1]).run Try.prog W = .ok v1 w1 ∧ w1.ownsRow base 44 2 v1 (ps ++ [p]).length ((ps ++ [p]).flatMap chEnc) ∧ Below base W w1 := by
  obtain ⟨i0, hi, hz0, hz1, hz2⟩ := chInfo
  obtain ⟨v', w', hr, h2, h3, _, _⟩ := run_append_own_at (P := Try.prog) (w := W) base 22 22 44 i0 _ 2 32 Try.underlying22 hi hz0 hz1 hz2 rfl (by decide) v ps.length _ hv ⟨g, 0, none⟩ 1 1 (chEnc p) rfl (fun j u hu => by
    rw [add_mid0, cell_of_row W g j _ _ (0, 0) hc, ← hu]
    simp [chEnc]) (chEnc_one p) (by unfold maxLen; omega) (by omega) hbase
  refine ⟨v', w', hr, by rw [List.length_append, flat_snoc]; exact h2, ?_⟩
  have ha : Ap (fun k => v.ownBlock = some k) W w' := Ap.grown (S := fun k => v.ownBlock = some k) (Ap.refl W) h3 (fun k hk => .inl hk)
  exact ha.below hbase (fun k hk => (World.ownsRow.lt hv k hk).1)
end Go.Proofs.Ythhbaccbhfngbaa
