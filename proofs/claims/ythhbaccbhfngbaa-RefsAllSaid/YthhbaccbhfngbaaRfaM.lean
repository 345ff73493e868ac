/- References: all told: what the counts of some maps sum up to. -/
import Derived.Test.YthhbaccbhfngbaaRefY
namespace Go.Proofs.Ythhbaccbhfngbaa
open Go.RowKit

theorem nOf_none (s m : Int) : ∀ (l : List RF) (acc : Int), (∀ r ∈ l, ¬ (r.s = s ∧ r.m = m)) → l.foldl (fun a r => if r.s = s ∧ r.m = m then wrap64 (a + r.n) else a) acc = acc
  | [], _, _ => rfl
  | x :: l, acc, h => by
    rw [List.foldl_cons, if_neg (h x (List.mem_cons_self ..))]
    exact nOf_none s m l acc (fun r hr => h r (List.mem_cons_of_mem _ hr))
theorem nOf_one (s m : Int) : ∀ (l : List RF) (acc : Int) (r0 : RF), l.Pairwise Ahd → r0 ∈ l → (r0.s = s ∧ r0.m = m) → l.foldl (fun a r => if r.s = s ∧ r.m = m then wrap64 (a + r.n) else a) acc = wrap64 (acc + r0.n)
  | [], _, _, _, h, _ => by cases h
  | x :: l, acc, r0, hp, h, he => by
    obtain ⟨p1, p2⟩ := List.pairwise_cons.1 hp
    rw [List.foldl_cons]
    rcases List.mem_cons.1 h with rfl | h
    · rw [if_pos he]
      exact nOf_none s m l _ (fun r hr e => (p1 r hr).ne ⟨he.1.trans e.1.symm, he.2.trans e.2.symm⟩)
    · rw [if_neg (fun e => (p1 r0 h).ne ⟨e.1.trans he.1.symm, e.2.trans he.2.symm⟩)]
      exact nOf_one s m l acc r0 p2 h he
theorem nOf_refs {l : List RF} {P : List (Int × Int)} (h : RefsOf l P) (hP : P.length ≤ 100000) (s m : Int) : nOf s m l = (P.count (s, m) : Nat) := by
  unfold nOf
  have hc : P.count (s, m) ≤ 100000 := Nat.le_trans List.count_le_length hP
  by_cases hm : (s, m) ∈ P
  · have hin := (h.mem ⟨s, m, (P.count (s, m) : Nat)⟩).2 ⟨hm, rfl⟩
    rw [nOf_one s m l 0 _ h.pw hin ⟨rfl, rfl⟩]
    dsimp only
    unfold wrap64; omega
  · rw [nOf_none s m l 0 (fun r hr e => hm (by have := ((h.mem r).1 hr).1; rwa [e.1, e.2] at this)), List.count_eq_zero_of_not_mem hm]; rfl
def sumR (l : List RF) : Int := (l.map RF.n).sum
theorem sumR_app (a b : List RF) : sumR (a ++ b) = sumR a + sumR b := by unfold sumR; rw [List.map_append, List.sum_append]
theorem sumR_one (r : RF) : sumR [r] = r.n := by unfold sumR; simp
theorem sumR_step {l : List RF} {P : List (Int × Int)} (h : RefsOf l P) {y : EN} (hk : y.kind = 1) (hP : P.length ≤ 100000) : sumR (cntS l y) = sumR l + 1 := by
  obtain ⟨kk, s, m, f⟩ := y
  dsimp only at hk
  obtain ⟨A, B, hl, hA, hAa, hB⟩ := split_at l s m
  cases B with
  | nil =>
    rw [List.append_nil] at hl
    have hp : posR l s m = l.length := by rw [← hA, hl]
    have e : cntS l ⟨kk, s, m, f⟩ = l ++ [⟨s, m, 1⟩] := by
      rw [cntS_lay (l := l) (i := l.length) hk hp (fun h => absurd h (Nat.lt_irrefl _)), List.take_length, List.drop_length, List.append_nil]
    rw [e, sumR_app, sumR_one]
  | cons r0 B' =>
    have hi : posR l s m < l.length := by rw [← hA, hl]; simp
    have hget : l.getD (posR l s m) RF.zero = r0 := by rw [← hA, hl, List.getD, List.getElem?_append_right (Nat.le_refl _)]; simp
    have hs : sumR (r0 :: B') = r0.n + sumR B' := by unfold sumR; simp
    by_cases hit : r0.s = s ∧ r0.m = m
    · obtain ⟨rs, rm, rn⟩ := r0
      obtain ⟨e1, e2⟩ := hit
      dsimp only at e1 e2
      subst e1; subst e2
      have hin : (⟨rs, rm, rn⟩ : RF) ∈ l := by rw [hl]; simp
      obtain ⟨hmP, hn⟩ := (h.mem _).1 hin
      dsimp only at hmP hn
      have hc : P.count (rs, rm) ≤ 100000 := Nat.le_trans List.count_le_length hP
      have hw : wrap64 (rn + 1) = rn + 1 := by rw [hn]; unfold wrap64; omega
      have e : cntS l ⟨kk, rs, rm, f⟩ = A ++ ⟨rs, rm, rn + 1⟩ :: B' := by
        rw [cntS_hit hk rfl hi hget, hw, ← hA, hl, List.set_append_right (i := A.length) (h := Nat.le_refl _), Nat.sub_self, List.set_cons_zero]
      have hs2 : sumR (⟨rs, rm, rn + 1⟩ :: B') = rn + 1 + sumR B' := by unfold sumR; simp
      rw [e, hl, sumR_app, sumR_app, hs, hs2]
      dsimp only
      clear hw; omega
    · have e : cntS l ⟨kk, s, m, f⟩ = A ++ [⟨s, m, 1⟩] ++ r0 :: B' := by
        rw [cntS_lay hk rfl (fun _ => by rw [hget]; exact hit), ← hA, hl, List.take_left' rfl, List.drop_left' rfl]
      rw [e, hl, sumR_app, sumR_app, sumR_app, sumR_one]
      dsimp only; omega
theorem sumR_of : ∀ (L0 L : List EN) (l : List RF), RefsOf l (plcOf L0) → L0.length + L.length ≤ 100000 → sumR l = ((plcOf L0).length : Nat) → sumR (L.foldl cntS l) = ((plcOf (L0 ++ L)).length : Nat)
  | L0, [], l, _, _, hs => by rw [List.append_nil]; exact hs
  | L0, y :: L, l, h, hl, hs => by
    rw [List.length_cons] at hl
    have e : L0 ++ y :: L = (L0 ++ [y]) ++ L := by simp
    have hp : (plcOf L0).length ≤ 100000 := Nat.le_trans (plcOf_len _) (by omega)
    rw [e, List.foldl_cons]
    by_cases hk : y.kind = 1
    · refine sumR_of (L0 ++ [y]) L _ (by rw [plcOf_y hk]; exact h.step hk hp) (by simp; omega) ?_
      rw [sumR_step h hk hp, hs, plcOf_y hk, List.length_append]; rfl
    · refine sumR_of (L0 ++ [y]) L _ (by rw [plcOf_n hk, cntS_no hk]; exact h) (by simp; omega) ?_
      rw [cntS_no hk, hs, plcOf_n hk]
theorem sumR_cnt {L : List EN} (hl : L.length ≤ 100000) : sumR (cntU L) = ((plcOf L).length : Nat) := by
  have h := sumR_of [] L [] RefsOf.nil (by simpa using hl) rfl
  rwa [List.nil_append] at h
theorem plcOf_app (A B : List EN) : plcOf (A ++ B) = plcOf A ++ plcOf B := by unfold plcOf; rw [List.filter_append, List.map_append]
/-- What is counted of two lots of maps. -/
theorem cnt_two {A B : List EN} (hl : (A ++ B).length ≤ 100000) {r : RF} (hr : r ∈ cntU (A ++ B)) : 1 ≤ r.n ∧ r.n ≤ 100000 ∧ r.n = nOf r.s r.m (cntU A) + nOf r.s r.m (cntU B) ∧ 0 ≤ nOf r.s r.m (cntU A) ∧ 0 ≤ nOf r.s r.m (cntU B) := by
  have h := cntU_refs hl
  rw [List.length_append] at hl
  have hA := nOf_refs (cntU_refs (L := A) (by omega)) (Nat.le_trans (plcOf_len A) (by omega)) r.s r.m
  have hB := nOf_refs (cntU_refs (L := B) (by omega)) (Nat.le_trans (plcOf_len B) (by omega)) r.s r.m
  obtain ⟨h1, h2⟩ := (h.mem r).1 hr
  rw [plcOf_app] at h1 h2
  have h3 : 0 < (plcOf A ++ plcOf B).count (r.s, r.m) := List.count_pos_iff.2 h1
  have h4 : (plcOf A ++ plcOf B).count (r.s, r.m) ≤ (plcOf A ++ plcOf B).length := List.count_le_length
  have h5 := plcOf_len A
  have h6 := plcOf_len B
  rw [List.count_append] at h2 h3 h4
  rw [List.length_append] at h4
  rw [hA, hB]
  omega
theorem cnt_apart {L : List EN} (hl : L.length ≤ 100000) {i : Nat} (h0 : 0 < i) (hi : i < (cntU L).length) : ¬ (((cntU L).getD (i - 1) RF.zero).s = ((cntU L).getD i RF.zero).s ∧ ((cntU L).getD (i - 1) RF.zero).m = ((cntU L).getD i RF.zero).m) := by
  have h := (cntU_refs hl).pw
  rw [List.pairwise_iff_getElem] at h
  have := (h (i - 1) i (by omega) hi (by omega)).ne
  rw [List.getD, List.getD, List.getElem?_eq_getElem hi, List.getElem?_eq_getElem (by omega : i - 1 < (cntU L).length)]
  exact this
theorem sumR_take {L : List EN} (hl : L.length ≤ 100000) {i : Nat} (hi : i < (cntU L).length) : sumR ((cntU L).take (i + 1)) = sumR ((cntU L).take i) + ((cntU L).getD i RF.zero).n ∧ 0 ≤ sumR ((cntU L).take i) ∧ sumR ((cntU L).take (i + 1)) ≤ 100000 := by
  have hpos : ∀ r ∈ cntU L, 1 ≤ r.n := fun r hr => by
    obtain ⟨h1, h2⟩ := ((cntU_refs hl).mem r).1 hr
    have := List.count_pos_iff.2 h1
    omega
  have hnn : ∀ (l : List RF), (∀ r ∈ l, 1 ≤ r.n) → 0 ≤ sumR l := by
    intro l
    induction l with
    | nil => intro _; exact Int.le_refl _
    | cons x l ih =>
      intro h
      have h1 := h x (List.mem_cons_self ..)
      have h2 := ih (fun r hr => h r (List.mem_cons_of_mem _ hr))
      have e : sumR (x :: l) = x.n + sumR l := by unfold sumR; simp
      omega
  have e1 := getD_snoc RF.zero hi
  have e2 : sumR ((cntU L).take (i + 1)) + sumR ((cntU L).drop (i + 1)) = sumR (cntU L) := by rw [← sumR_app, List.take_append_drop]
  have h3 := hnn ((cntU L).drop (i + 1)) (fun r hr => hpos r (List.mem_of_mem_drop hr))
  have h4 := sumR_cnt hl
  have h5 := plcOf_len L
  refine ⟨by rw [e1, sumR_app, sumR_one], hnn _ (fun r hr => hpos r (List.mem_of_mem_take hr)), by omega⟩
end Go.Proofs.Ythhbaccbhfngbaa
