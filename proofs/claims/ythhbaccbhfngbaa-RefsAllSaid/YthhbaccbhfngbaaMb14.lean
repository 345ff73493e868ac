/- Charts: a map whose full entries are turned one by one, as told tells them. Charts: Resize under way: what lies where while the entries are told. -/
import Derived.Test.YthhbaccbhfngbaaChvT
import Derived.Test.YthhbaccbhfngbaaMb13
namespace Go.Proofs.Ythhbaccbhfngbaa
open Go.RowKit

theorem cntF_step {E : Nat} {T : List TB} {p : Nat} (h : p < T.length * E) : cntF E T p ≤ cntF E T (p + 1) := by
  cases hf : fullB (entF E T p) with
  | true => rw [(cntF_full h hf).2.2]; omega
  | false => rw [cntF_hole h hf]; exact Nat.le_refl _
theorem cntF_mono {E : Nat} {T : List TB} {p q : Nat} (hpq : p ≤ q) (hq : q ≤ T.length * E) : cntF E T p ≤ cntF E T q := by
  obtain ⟨d, rfl⟩ : ∃ d, q = p + d := ⟨q - p, by omega⟩
  clear hpq
  induction d with
  | zero => exact Nat.le_refl _
  | succ d ih => exact Nat.le_trans (ih (by omega)) (by have := cntF_step (E := E) (T := T) (p := p + d) (by omega); exact this)
/-- k full entries have been turned. -/
def Mid (E : Nat) (T : List TB) (P0 P : List PT) (F : TB → Nat → EN → EN) (k : Nat) : Prop :=
  P.length = T.length ∧ ∀ j, j < T.length → (P.getD j PT.zero).1.at' = (T.getD j TB.zero).at' ∧ (P.getD j PT.zero).2 = (P0.getD j PT.zero).2 ∧ (P.getD j PT.zero).1.l.length = E ∧
    ∀ i, i < E → (P.getD j PT.zero).1.l.getD i EN.zero = if cntF E T (j * E + i) < k then F (T.getD j TB.zero) i ((T.getD j TB.zero).l.getD i EN.zero) else (T.getD j TB.zero).l.getD i EN.zero
theorem Mid.start {E : Nat} {T : List TB} {P0 : List PT} {F : TB → Nat → EN → EN} (h : P0.map Prod.fst = T) (hl : ∀ j, j < T.length → (T.getD j TB.zero).l.length = E) : Mid E T P0 P0 F 0 := by
  have hlen : P0.length = T.length := by rw [← h, List.length_map]
  refine ⟨hlen, fun j hj => ?_⟩
  have e : (P0.getD j PT.zero).1 = T.getD j TB.zero := by rw [← h, getD_fst (by omega)]
  rw [e]
  exact ⟨rfl, rfl, hl j hj, fun i hi => by rw [if_neg (Nat.not_lt_zero _)]⟩
theorem divmod_inj {E j i j' i' : Nat} (hi : i < E) (hi' : i' < E) (h : j * E + i = j' * E + i') : j = j' ∧ i = i' := by
  have h1 := (divmod_eq (k := j) hi).1
  have h2 := (divmod_eq (k := j') hi').1
  have h3 := (divmod_eq (k := j) hi).2
  have h4 := (divmod_eq (k := j') hi').2
  rw [h] at h1 h3
  exact ⟨h1.symm.trans h2, h3.symm.trans h4⟩
/-- What stands at places whose number is that of a full one is a hole, but for it. -/
theorem hole_at {E : Nat} {T : List TB} {p q : Nat} (hp : p < T.length * E) (hf : fullB (entF E T p) = true) (hq : q < T.length * E) (hne : q ≠ p) (hc : cntF E T q = cntF E T p) : fullB (entF E T q) = false := by
  cases h : fullB (entF E T q) with
  | false => rfl
  | true =>
    exfalso
    obtain ⟨_, _, h1⟩ := cntF_full hp hf
    obtain ⟨_, _, h2⟩ := cntF_full hq h
    rcases Nat.lt_or_gt_of_ne hne with hlt | hlt
    · have := cntF_mono (E := E) (T := T) (p := q + 1) (q := p) hlt (Nat.le_of_lt hp); omega
    · have := cntF_mono (E := E) (T := T) (p := p + 1) (q := q) hlt (Nat.le_of_lt hq); omega
section
variable {E : Nat} {T : List TB} {P0 P : List PT} {F : TB → Nat → EN → EN} {j i : Nat}
theorem Mid.at (h : Mid E T P0 P F (cntF E T (j * E + i))) (hj : j < T.length) (hi : i < E) : (P.getD j PT.zero).1.l.getD i EN.zero = (T.getD j TB.zero).l.getD i EN.zero := by
  rw [(h.2 j hj).2.2.2 i hi, if_neg (Nat.lt_irrefl _)]
/-- The next full entry is turned. -/
theorem Mid.step (h : Mid E T P0 P F (cntF E T (j * E + i))) (hj : j < T.length) (hi : i < E) (hf : fullB ((T.getD j TB.zero).l.getD i EN.zero) = true)
    (hh : ∀ j', j' < T.length → ∀ i', i' < E → fullB ((T.getD j' TB.zero).l.getD i' EN.zero) = false → F (T.getD j' TB.zero) i' ((T.getD j' TB.zero).l.getD i' EN.zero) = (T.getD j' TB.zero).l.getD i' EN.zero) {y : EN} (hy : y = F (T.getD j TB.zero) i ((T.getD j TB.zero).l.getD i EN.zero)) :
    Mid E T P0 (P.set j (⟨(P.getD j PT.zero).1.at', (P.getD j PT.zero).1.l.set i y⟩, (P.getD j PT.zero).2)) F (cntF E T (j * E + i) + 1) := by
  have hjP : j < P.length := by rw [h.1]; exact hj
  have hp := pos_lt hj hi
  have hf' : fullB (entF E T (j * E + i)) = true := by rw [entF_at T hi]; exact hf
  refine ⟨by rw [List.length_set]; exact h.1, fun j' hj' => ?_⟩
  obtain ⟨a1, a2, a3, a4⟩ := h.2 j' hj'
  have hset : (P.set j (⟨(P.getD j PT.zero).1.at', (P.getD j PT.zero).1.l.set i y⟩, (P.getD j PT.zero).2)).getD j' PT.zero = if j' = j then (⟨(P.getD j PT.zero).1.at', (P.getD j PT.zero).1.l.set i y⟩, (P.getD j PT.zero).2) else P.getD j' PT.zero := by
    rw [List.getD, List.getElem?_set]
    by_cases e : j = j'
    · subst e; rw [if_pos rfl, if_pos hjP, if_pos rfl]; rfl
    · rw [if_neg e, if_neg (fun e2 => e e2.symm)]; rfl
  have other : ∀ i', i' < E → ¬ (j' = j ∧ i' = i) → (P.getD j' PT.zero).1.l.getD i' EN.zero = if cntF E T (j' * E + i') < cntF E T (j * E + i) + 1 then F (T.getD j' TB.zero) i' ((T.getD j' TB.zero).l.getD i' EN.zero) else (T.getD j' TB.zero).l.getD i' EN.zero := fun i' hi' hne => by
    have hq := pos_lt hj' hi'
    rw [a4 i' hi']
    by_cases hc : cntF E T (j' * E + i') < cntF E T (j * E + i)
    · rw [if_pos hc, if_pos (by omega)]
    · rw [if_neg hc]
      by_cases hc2 : cntF E T (j' * E + i') = cntF E T (j * E + i)
      · rw [if_pos (by omega)]
        have := hole_at hp hf' hq (fun e => hne (divmod_inj hi' hi e)) hc2
        rw [entF_at T hi'] at this
        exact (hh j' hj' i' hi' this).symm
      · rw [if_neg (by omega)]
  rw [hset]
  by_cases e : j' = j
  · subst e
    rw [if_pos rfl]
    refine ⟨a1, a2, by rw [List.length_set]; exact a3, fun i' hi' => ?_⟩
    dsimp only
    rw [getD_setE _ _ _ _ (by rw [a3]; exact hi)]
    by_cases e2 : i' = i
    · subst e2; rw [if_pos rfl, if_pos (Nat.lt_succ_self _)]; exact hy
    · rw [if_neg e2]; exact other i' hi' (fun h => e2 h.2)
  · rw [if_neg e]
    exact ⟨a1, a2, a3, fun i' hi' => other i' hi' (fun h => e h.1)⟩
/-- It stays as it is. -/
theorem Mid.stay (h : Mid E T P0 P F (cntF E T (j * E + i))) (hj : j < T.length) (hi : i < E) (hf : fullB ((T.getD j TB.zero).l.getD i EN.zero) = true)
    (hh : ∀ j', j' < T.length → ∀ i', i' < E → fullB ((T.getD j' TB.zero).l.getD i' EN.zero) = false → F (T.getD j' TB.zero) i' ((T.getD j' TB.zero).l.getD i' EN.zero) = (T.getD j' TB.zero).l.getD i' EN.zero)
    (hy : F (T.getD j TB.zero) i ((T.getD j TB.zero).l.getD i EN.zero) = (T.getD j TB.zero).l.getD i EN.zero) : Mid E T P0 P F (cntF E T (j * E + i) + 1) := by
  have hjP : j < P.length := by rw [h.1]; exact hj
  have h1 := h.step hj hi hf hh (y := (P.getD j PT.zero).1.l.getD i EN.zero) (by rw [h.at hj hi]; exact hy.symm)
  have e : P.set j (⟨(P.getD j PT.zero).1.at', (P.getD j PT.zero).1.l.set i ((P.getD j PT.zero).1.l.getD i EN.zero)⟩, (P.getD j PT.zero).2) = P := by
    have hl := (h.2 j hj).2.2.1
    have e1 : (P.getD j PT.zero).1.l.set i ((P.getD j PT.zero).1.l.getD i EN.zero) = (P.getD j PT.zero).1.l := by
      generalize (P.getD j PT.zero).1.l = l at hl ⊢
      rw [List.getD, List.getElem?_eq_getElem (by rw [hl]; exact hi)]
      exact List.set_getElem_self _
    rw [e1]
    have e2 : ((⟨(P.getD j PT.zero).1.at', (P.getD j PT.zero).1.l⟩, (P.getD j PT.zero).2) : PT) = P[j] := by rw [List.getD, List.getElem?_eq_getElem hjP]; rfl
    rw [e2]
    exact List.set_getElem_self _
  rw [e] at h1
  exact h1
/-- All are turned. -/
theorem Mid.done (h : Mid E T P0 P F (numF E T)) (hl : ∀ j, j < T.length → (T.getD j TB.zero).l.length = E)
    (hh : ∀ j', j' < T.length → ∀ i', i' < E → fullB ((T.getD j' TB.zero).l.getD i' EN.zero) = false → F (T.getD j' TB.zero) i' ((T.getD j' TB.zero).l.getD i' EN.zero) = (T.getD j' TB.zero).l.getD i' EN.zero) : P.map Prod.fst = mapT F T := by
  unfold mapT
  apply List.ext_getElem
  · rw [List.length_map, List.length_map]; exact h.1
  · intro j h1 h2
    rw [List.length_map] at h1 h2
    obtain ⟨a1, _, a3, a4⟩ := h.2 j h2
    rw [List.getElem_map, List.getElem_map]
    have e1 : P.getD j PT.zero = P[j] := by rw [List.getD, List.getElem?_eq_getElem h1]; rfl
    have e2 : T.getD j TB.zero = T[j] := by rw [List.getD, List.getElem?_eq_getElem h2]; rfl
    rw [e1] at a1 a3 a4
    have hlj := hl j h2
    have hq : ∀ i, i < E → (P[j]).1.l.getD i EN.zero = F (T[j]) i ((T[j]).l.getD i EN.zero) := fun i hi => by
      rw [a4 i hi]
      cases hf : fullB ((T.getD j TB.zero).l.getD i EN.zero) with
      | true =>
        have := (cntF_full (E := E) (T := T) (pos_lt h2 hi) (by rw [entF_at T hi]; exact hf)).1
        rw [if_pos this, e2]
      | false =>
        have := hh j h2 i hi hf
        rw [e2] at this ⊢
        split
        · rfl
        · exact this.symm
    rw [e2] at a1 hlj
    have e3 : (P[j]).1.l = (T[j]).l.mapIdx (F T[j]) := by
      refine same_all (by rw [List.length_mapIdx, a3, hlj]) (fun i hi => ?_)
      rw [a3] at hi
      rw [hq i hi, mapIdx_getD _ (by rw [hlj]; exact hi)]
    show (P[j]).1 = _
    rw [← e3, ← a1]
end
end Go.Proofs.Ythhbaccbhfngbaa
namespace Go.Proofs.Ythhbaccbhfngbaa
open Go.RowKit

def gOf (P : List PT) (j : Nat) : Nat := (P.getD j PT.zero).2.ownBlock.getD 0
def cOf (P : List PT) (j : Nat) : Nat := match (P.getD j PT.zero).2 with | .slice _ _ c => c | _ => 0
theorem of_row {W : World} {B E : Nat} {ob : Option Nat} {P : List PT} {j : Nat} (h : RowO W B E ob (P.getD j PT.zero)) : (P.getD j PT.zero).2 = .slice (some ⟨gOf P j, 0, none⟩) E (cOf P j) ∧ E ≤ cOf P j ∧ cOf P j ≤ maxLen := by
  obtain ⟨g, c, h1, _, _, h4, h5, _⟩ := h
  unfold gOf cOf
  rw [h1]
  exact ⟨rfl, h4, h5⟩
def layP (P0 : List PT) (AT : Option Addr) (cap gv : Nat) : Lay := ⟨AT, cap, gv, 0, gOf P0, fun _ => 0, cOf P0⟩
/-- The map under way, and the boxes of told. -/
structure RI (w W : World) (B E : Nat) (BN : Int) (T : List TB) (b9 : Nat) (A2 : Option Addr) (cap2 Bp U bc be : Nat) (P0 : List PT) (F : TB → Nat → EN → EN) (k : Nat) (P : List PT) : Prop where
  bl : Below w.heap.size w W
  nx : B2 W b9 (.int .i64 BN) (.slice A2 T.length cap2)
  pw : PW W Bp U E (.slice A2 T.length cap2) P
  mid : Mid E T P0 P F k
  cb : B2 W bc (.int .i64 BN) (.slice A2 T.length cap2)
  eb : W.cell? ⟨be, 0, none⟩ = some (.int .i64 (E : Int))
  hbe : be < W.heap.size
  sz : B ≤ W.heap.size
  hw : w.heap.size ≤ Bp
  hU : U ≤ b9 ∧ U ≤ bc ∧ U ≤ be ∧ U ≤ B
  hB : b9 < B ∧ bc < B ∧ be < B
theorem RI.ap {S : Nat → Prop} {w W W' : World} {B E : Nat} {BN : Int} {T : List TB} {b9 : Nat} {A2 : Option Addr} {cap2 Bp U bc be : Nat} {P0 : List PT} {F : TB → Nat → EN → EN} {k : Nat} {P : List PT} (h : RI w W B E BN T b9 A2 cap2 Bp U bc be P0 F k P) (a : Ap S W W') (hS : ∀ q, S q → B ≤ q) (hwB : w.heap.size ≤ B) : RI w W' B E BN T b9 A2 cap2 Bp U bc be P0 F k P := by
  obtain ⟨u1, u2, u3, u4⟩ := h.hU
  obtain ⟨b1, b2, b3⟩ := h.hB
  exact ⟨h.bl.trans (a.below h.bl.size (fun q e => by have := hS q e; omega)), h.nx.ap a (fun e => by have := hS _ e; omega), h.pw.ap a (fun q e => .inr (by have := hS q e; omega)), h.mid, h.cb.ap a (fun e => by have := hS _ e; omega), (a.cell h.hbe (fun e => by have := hS _ e; omega) _).trans h.eb, Nat.lt_of_lt_of_le h.hbe a.size, Nat.le_trans h.sz a.size, h.hw, h.hU, h.hB⟩
section
variable {w W : World} {B E : Nat} {BN : Int} {T : List TB} {b9 : Nat} {A2 : Option Addr} {cap2 Bp U bc be : Nat} {P0 P : List PT} {F : TB → Nat → EN → EN} {k : Nat}
theorem RI.lay (h : RI w W B E BN T b9 A2 cap2 Bp U bc be P0 F k P) {j : Nat} (hj : j < T.length) : (P.getD j PT.zero).2 = .slice (some ⟨gOf P0 j, 0, none⟩) E (cOf P0 j) ∧ E ≤ cOf P0 j ∧ cOf P0 j ≤ maxLen ∧ RowE W (gOf P0 j) (P.getD j PT.zero).1.l ∧ Bp ≤ gOf P0 j ∧ gOf P0 j < U := by
  have hjP : j < P.length := by rw [h.mid.1]; exact hj
  have hm := getD_memP hjP
  have hr := h.pw.row _ hm
  obtain ⟨e1, e2, e3⟩ := of_row hr
  have e4 := (h.mid.2 j hj).2.1
  have g1 : gOf P j = gOf P0 j := by unfold gOf; rw [e4]
  have g2 : cOf P j = cOf P0 j := by unfold cOf; rw [e4]
  rw [g1, g2] at e1
  rw [g2] at e2 e3
  obtain ⟨g, c, h1, h2, _, _, _, h6, _⟩ := hr
  have hu := h.pw.ups _ hm g (by rw [h1]; rfl)
  rw [h1] at e1
  injection e1 with e1 _ _
  injection e1 with e1
  injection e1 with e1 _ _
  subst e1
  exact ⟨by rw [h1]; rw [← g2]; unfold cOf; rw [h1], e2, e3, h2, h6, hu⟩
theorem RI.tr (h : RI w W B E BN T b9 A2 cap2 Bp U bc be P0 F k P) {gv : Nat} (hA : T.length ≠ 0 → A2 = some ⟨gv, 0, none⟩) : TR W E T bc be (layP P0 A2 cap2 gv) k := by
  refine ⟨h.cb.c1, h.eb, hA, fun j hj => ?_, fun j hj i hi hk => ?_⟩
  · have hA2 := hA (by omega)
    subst hA2
    have hl := h.mid.1
    have hp := h.pw.po
    rw [← hl] at hp
    obtain ⟨c0, c1⟩ := hp.cell (j := j) (by omega)
    rw [(h.mid.2 j hj).1] at c0
    rw [(h.lay hj).1] at c1
    show W.cell? ⟨gv, 0 + j * 2, none⟩ = _ ∧ W.cell? ⟨gv, 0 + j * 2 + 1, none⟩ = _
    rw [Nat.zero_add]
    exact ⟨c0, c1⟩
  · have h1 := (h.lay hj).2.2.2.1.2.1 i (by rw [(h.mid.2 j hj).2.2.1]; exact hi)
    rw [(h.mid.2 j hj).2.2.2 i hi, if_neg (by omega)] at h1
    show EntAt W (gOf P0 j) (0 + i * 4) _
    rw [Nat.zero_add]
    exact h1
/-- The entry that is told is turned. -/
theorem RI.put {j i : Nat} (h : RI w W B E BN T b9 A2 cap2 Bp U bc be P0 F (cntF E T (j * E + i)) P) (hj : j < T.length) (hi : i < E) (hf : fullB ((T.getD j TB.zero).l.getD i EN.zero) = true)
    (hh : ∀ j', j' < T.length → ∀ i', i' < E → fullB ((T.getD j' TB.zero).l.getD i' EN.zero) = false → F (T.getD j' TB.zero) i' ((T.getD j' TB.zero).l.getD i' EN.zero) = (T.getD j' TB.zero).l.getD i' EN.zero) {y : EN} (hy : y = F (T.getD j TB.zero) i ((T.getD j TB.zero).l.getD i EN.zero)) :
    ∃ P', RI w (putN W (gOf P0 j) (i * 4) y) B E BN T b9 A2 cap2 Bp U bc be P0 F (cntF E T (j * E + i) + 1) P' := by
  have hjP : j < P.length := by rw [h.mid.1]; exact hj
  obtain ⟨l1, _, _, l4, l5, l6⟩ := h.lay hj
  have hap := ap_putN W (gOf P0 j) (i * 4) y
  obtain ⟨u1, u2, u3, u4⟩ := h.hU
  have hg : ∀ q, U ≤ q → ¬ q = gOf P0 j := fun q hq e => by omega
  exact ⟨_, h.bl.trans (hap.below h.bl.size (fun q e => by have := h.hw; omega)), h.nx.ap hap (hg _ u1), h.pw.put hjP hi y l1, h.mid.step hj hi hf hh hy, h.cb.ap hap (hg _ u2), (hap.cell h.hbe (hg _ u3) _).trans h.eb, Nat.lt_of_lt_of_le h.hbe hap.size, Nat.le_trans h.sz hap.size, h.hw, h.hU, h.hB⟩
theorem RI.stay {j i : Nat} (h : RI w W B E BN T b9 A2 cap2 Bp U bc be P0 F (cntF E T (j * E + i)) P) (hj : j < T.length) (hi : i < E) (hf : fullB ((T.getD j TB.zero).l.getD i EN.zero) = true)
    (hh : ∀ j', j' < T.length → ∀ i', i' < E → fullB ((T.getD j' TB.zero).l.getD i' EN.zero) = false → F (T.getD j' TB.zero) i' ((T.getD j' TB.zero).l.getD i' EN.zero) = (T.getD j' TB.zero).l.getD i' EN.zero)
    (hy : F (T.getD j TB.zero) i ((T.getD j TB.zero).l.getD i EN.zero) = (T.getD j TB.zero).l.getD i EN.zero) : RI w W B E BN T b9 A2 cap2 Bp U bc be P0 F (cntF E T (j * E + i) + 1) P :=
  ⟨h.bl, h.nx, h.pw, h.mid.stay hj hi hf hh hy, h.cb, h.eb, h.hbe, h.sz, h.hw, h.hU, h.hB⟩
end
/-- The k-th that is told: where it is. -/
theorem told_at {E : Nat} {T : List TB} {k : Nat} (hE : 1 ≤ E) (hk : k < numF E T) : ∃ j i, j < T.length ∧ i < E ∧ posF E T k = j * E + i ∧ cntF E T (j * E + i) = k ∧ fullB ((T.getD j TB.zero).l.getD i EN.zero) = true := by
  have hlt : k < (fr true (fullQ E T)).length := hk
  have hm : posF E T k ∈ fr true (fullQ E T) := by
    unfold posF; rw [List.getD, List.getElem?_eq_getElem hlt]; exact List.getElem_mem _
  obtain ⟨h1, h2⟩ := frI_mem.1 hm
  rw [fullQ_len] at h1
  have hfull : fullB (entF E T (posF E T k)) = true := by rw [← fullQ_at E T h1]; exact h2
  have hd : posF E T k / E * E + posF E T k % E = posF E T k := by rw [Nat.mul_comm]; exact Nat.div_add_mod _ _
  have hi := Nat.mod_lt (posF E T k) hE
  have hj : posF E T k / E < T.length := (Nat.div_lt_iff_lt_mul hE).2 h1
  refine ⟨posF E T k / E, posF E T k % E, hj, hi, hd.symm, ?_, hfull⟩
  rw [hd]
  obtain ⟨c1, c2, _⟩ := cntF_full h1 hfull
  have hnd := frI_nodup true (fullQ E T) (fullQ E T).length
  have e1 : (fr true (fullQ E T)).getD (cntF E T (posF E T k)) 0 = (fr true (fullQ E T)).getD k 0 := c2
  rw [List.getD, List.getD, List.getElem?_eq_getElem hlt, List.getElem?_eq_getElem c1] at e1
  exact (List.getElem_inj hnd).1 e1
end Go.Proofs.Ythhbaccbhfngbaa
