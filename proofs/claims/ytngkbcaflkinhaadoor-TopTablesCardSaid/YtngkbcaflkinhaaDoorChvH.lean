/- Charts: a table of holes put between the others. -/
import Derived.Test.YtngkbcaflkinhaaDoorChvG
namespace Go.Proofs.YtngkbcaflkinhaaDoor
open Go.RowKit

theorem pC_drop : ∀ (P : List PT) (i : Nat), (pC P).drop (i * 2) = pC (P.drop i)
  | _, 0 => by simp [pC]
  | [], i + 1 => by simp [pC]
  | p :: r, i + 1 => by
    rw [show (i + 1) * 2 = i * 2 + 1 + 1 by omega]
    show (pC r).drop (i * 2) = pC (r.drop i)
    rw [pC_drop r i]
theorem pC_ins (P : List PT) (i : Nat) (t : TB) (u : Value) : insC (pC P) i (.int .i64 t.at') u = pC (P.take i ++ (t, u) :: P.drop i) := by
  unfold insC
  rw [pC_take, pC_drop, pC_app, List.append_assoc]; rfl
def newP (k : Int) (gn E : Nat) : PT := (⟨k, List.replicate E EN.zero⟩, .slice (some ⟨gn, 0, none⟩) E E)
theorem PW.ins {w w' : World} {B U E i gn : Nat} {k : Int} {v v' : Value} {P : List PT} (hp : PW w B U E v P) (hi : i ≤ P.length) (hU : U ≤ w.heap.size) (hE : E ≤ 8192) (hrow : RowE w gn (List.replicate E EN.zero)) (hgn : U ≤ gn) (hgB : B ≤ gn)
    (ho : w'.ownsRow B 42 2 v' (P.length + 1) (insC (pC P) i (.int .i64 k) (.slice (some ⟨gn, 0, none⟩) E E))) (ha : Ap (fun q => some q = v.ownBlock) w w') (hob : v'.ownBlock = v.ownBlock ∨ ∃ q, v'.ownBlock = some q ∧ w.heap.size ≤ q) :
    PW w' B w'.heap.size E v' (P.take i ++ newP k gn E :: P.drop i) := by
  have hmem : ∀ p, p ∈ P.take i ++ newP k gn E :: P.drop i → p = newP k gn E ∨ p ∈ P := fun p h => by
    rcases List.mem_append.1 h with h | h
    · exact .inr ((List.take_sublist ..).subset h)
    · rcases List.mem_cons.1 h with h | h
      · exact .inl h
      · exact .inr ((List.drop_sublist ..).subset h)
  have hne : ∀ g, g < w.heap.size → some g ≠ v.ownBlock → some g ≠ v'.ownBlock := fun g hg h e => by
    rcases hob with h1 | ⟨q, h1, h2⟩
    · exact h (e.trans h1)
    · rw [h1] at e; injection e with e; omega
  refine ⟨?_, fun p h => ?_, ?_, fun g hg => (World.ownsRow.lt ho g hg).2, fun p h g hg => ?_⟩
  · have e := pC_ins P i (newP k gn E).1 (newP k gn E).2
    have hl : (P.take i ++ newP k gn E :: P.drop i).length = P.length + 1 := by rw [List.length_append, List.length_cons, List.length_take, List.length_drop]; omega
    rw [hl]
    have e2 : pC (P.take i ++ newP k gn E :: P.drop i) = insC (pC P) i (.int .i64 k) (.slice (some ⟨gn, 0, none⟩) E E) := e.symm
    rw [e2]; exact ho
  · rcases hmem p h with rfl | h
    · have h0 : some gn ≠ v.ownBlock := fun e => by have := hp.up gn e.symm; omega
      exact ⟨gn, E, rfl, hrow.ap ha (fun e => h0 e), List.length_replicate, Nat.le_refl _, by unfold maxLen; omega, hgB, hne gn hrow.1 h0⟩
    · have h1 := (hp.row p h).ap ha (fun q e => .inr (.inl e))
      obtain ⟨g, c, e1, e2, e3, e4, e5, e6, e7⟩ := h1
      have hg := hp.ups p h g (by rw [e1]; rfl)
      exact ⟨g, c, e1, e2, e3, e4, e5, e6, hne g (by omega) e7⟩
  · have hperm : (P.take i ++ newP k gn E :: P.drop i).Perm (newP k gn E :: P) := by
      have := List.perm_middle (a := newP k gn E) (l₁ := P.take i) (l₂ := P.drop i)
      rwa [List.take_append_drop] at this
    refine (List.Perm.pairwise_iff (R := fun p q : PT => p.2.ownBlock ≠ q.2.ownBlock) (fun h e => h e.symm) hperm).2 ?_
    rw [List.pairwise_cons]
    refine ⟨fun q hq e => ?_, hp.nd⟩
    have := hp.ups q hq gn e.symm
    omega
  · rcases hmem p h with rfl | h
    · have e : gn = g := by injection hg
      subst e
      exact Nat.lt_of_lt_of_le hrow.1 ha.size
    · exact Nat.lt_of_lt_of_le (hp.ups p h g hg) (Nat.le_trans hU ha.size)
theorem pC_one (P : List PT) (h : ∀ p ∈ P, p.2.oneCell' = true) : ∀ x ∈ pC P, x.oneCell' = true := by
  intro x hx
  unfold pC at hx
  obtain ⟨p, hp, h2⟩ := List.mem_flatMap.1 hx
  simp only [List.mem_cons, List.not_mem_nil, or_false] at h2
  rcases h2 with rfl | rfl
  · rfl
  · exact h p hp
theorem insP_any (P : List PT) (v : Value) (B U E i vb gn : Nat) (k : Int) (w : World) (hp : PW w B U E v P) (hi : i ≤ P.length) (hlen : P.length ≤ 65536) (hU : U ≤ w.heap.size) (hB : B ≤ w.heap.size) (hE : E ≤ 8192)
    (hvb : w.heap[vb]? = some (.cells #[.int .i64 k, .slice (some ⟨gn, 0, none⟩) E E] 42 (0, 0))) (hvU : U ≤ vb) (hrow : RowE w gn (List.replicate E EN.zero)) (hgn : U ≤ gn) (hgB : B ≤ gn) :
    Calls Tryd.prog 20 #[v, .int .i64 (i : Int), .slice (some ⟨vb, 0, none⟩) 1 1] w fun e w' => ∃ v', e = .returned v' ∧ PW w' B w'.heap.size E v' (P.take i ++ newP k gn E :: P.drop i) ∧ Ap (fun q => some q = v.ownBlock) w w' ∧ (v'.ownBlock = v.ownBlock ∨ ∃ q, v'.ownBlock = some q ∧ w.heap.size ≤ q) := by
  have h1 : ∀ x ∈ ([.int .i64 k, .slice (some ⟨gn, 0, none⟩) E E] : List Value), x.oneCell' = true := by
    intro x hx
    simp only [List.mem_cons, List.not_mem_nil, or_false] at hx
    rcases hx with rfl | rfl <;> rfl
  have h1x := pC_one P (fun p h => by obtain ⟨g, c, e, _⟩ := hp.row p h; rw [e]; rfl)
  have hQ : Calls Tryd.prog 20 #[v, .int .i64 (i : Int), .slice (some ⟨vb, 0, none⟩) 1 1] w (InsQ w B v P.length i (pC P) (.int .i64 k) (.slice (some ⟨gn, 0, none⟩) E E)) := by
    by_cases he : i = P.length
    · subst he
      exact ins_end B _ vb v _ _ _ w hp.own hlen hB (fun j x hj => by
        have e : ((⟨vb, 0, none⟩ : Addr).add j) = ⟨vb, j, none⟩ := by unfold Addr.add; split <;> simp_all
        rw [e, cell_of_row w vb j #[.int .i64 k, .slice (some ⟨gn, 0, none⟩) E E] _ (0, 0) hvb, ← hj]; simp) h1
    · obtain ⟨g, cap, cur, rfl, _, _, hc1, _, _⟩ := own_split hp.own (by omega)
      have hne : vb ≠ g := fun e => by have := hp.up g rfl; omega
      by_cases hc : P.length + 1 ≤ cap
      · exact ins_room B _ i cap g vb _ _ _ w hp.own hlen (by omega) hc hvb hne h1 h1x
      · have hcc : cap = P.length := by omega
        subst hcc
        exact ins_grow B _ i g vb _ _ _ w hp.own hlen (by omega) hB hvb h1 h1x
  refine hQ.mono ?_
  rintro e w' ⟨v', rfl, ho, ha, hob⟩
  exact ⟨v', rfl, hp.ins hi hU hE hrow hgn hgB ho ha hob, ha, hob⟩
end Go.Proofs.YtngkbcaflkinhaaDoor

