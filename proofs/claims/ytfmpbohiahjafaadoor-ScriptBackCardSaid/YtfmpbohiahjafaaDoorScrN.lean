/- Scripts: the plain model (no program): whole texts, there and back. -/
import Derived.Test.YtfmpbohiahjafaaDoorScrM
namespace Go.Proofs.YtfmpbohiahjafaaDoor
open Go.Lib

/-- What is read behind the setup's line: the deeds, the first wrong line, the error. -/
def gp : List (List UInt8) → List DD → List DD × Int × Int
  | [], acc => (acc, 0, 0)
  | [p], acc => if p = [] then (acc, 0, 0) else ([], ((acc.length + 2 : Nat) : Int), 6)
  | p :: q :: R, acc => match psD p with
    | none => ([], ((acc.length + 2 : Nat) : Int), 6)
    | some d => if acc.length = 4096 then ([], ((acc.length + 2 : Nat) : Int), 7) else gp (q :: R) (acc ++ [d])
/-- What is read of a text. -/
def getS (t : List UInt8) : SU × List DD × Int × Int := match spl 10 t with
  | p :: q :: R => match psS p with
    | none => (SU.zero, [], 1, 6)
    | some c => if (gp (q :: R) []).2.2 = 0 then (c, (gp (q :: R) []).1, 0, 0) else (SU.zero, [], (gp (q :: R) []).2.1, (gp (q :: R) []).2.2)
  | _ => (SU.zero, [], 1, 6)
def dsT (L : List DD) : List UInt8 := L.flatMap fun d => lnT d ++ [10]
def putT (c : SU) (L : List DD) : List UInt8 := suT c ++ [10] ++ dsT L
def putOk (c : SU) (L : List DD) : Bool := (lnS c).isSome && L.all fun d => (lnD d).isSome
def putS (c : SU) (L : List DD) : List UInt8 × Int := if 4096 < L.length then ([], 7) else if putOk c L = true then (putT c L, 0) else ([], 2)
theorem lnD_some {d : DD} (h : (lnD d).isSome = true) : psD (lnT d) = some d := by
  obtain ⟨l, hl⟩ := Option.isSome_iff_exists.1 h
  obtain ⟨h1, h2⟩ := lnD_is hl
  rw [h2]; exact h1
theorem psD_k {l : List UInt8} {d : DD} (h : psD l = some d) : 0 ≤ d.k ∧ d.k < 19 := by
  obtain ⟨⟨k, h1, _, h2⟩, _⟩ := psD_is h
  omega
theorem gp_there : ∀ (L acc : List DD), (∀ d ∈ L, (lnD d).isSome = true) → acc.length + L.length ≤ 4096 → gp (spl 10 (dsT L)) acc = (acc ++ L, 0, 0)
  | [], acc, _, _ => by
    show gp [[]] acc = _
    rw [gp, if_pos rfl, List.append_nil]
  | d :: L, acc, h, hl => by
    have hd := lnD_some (h d (List.mem_cons_self ..))
    have e : dsT (d :: L) = lnT d ++ 10 :: dsT L := by unfold dsT; simp
    rw [List.length_cons] at hl
    rw [e, spl_app _ (lnT_out (psD_k hd))]
    have ih := gp_there L (acc ++ [d]) (fun x hx => h x (List.mem_cons_of_mem _ hx)) (by rw [List.length_append, List.length_singleton]; omega)
    cases hs : spl 10 (dsT L) with
    | nil => exact absurd hs (spl_ne _ _)
    | cons q R =>
      rw [hs] at ih
      rw [gp, hd]
      show (if acc.length = 4096 then _ else gp (q :: R) (acc ++ [d])) = _
      rw [if_neg (by omega), ih, List.append_assoc]; rfl
theorem get_put {c : SU} {L : List DD} (h : putS c L = (putT c L, 0)) : getS (putT c L) = (c, L, 0, 0) := by
  unfold putS at h
  split at h
  · cases (Prod.mk.inj h).2
  split at h
  case isFalse => cases (Prod.mk.inj h).2
  rename_i h1 h2
  unfold putOk at h2
  rw [Bool.and_eq_true, List.all_eq_true] at h2
  obtain ⟨l, hl⟩ := Option.isSome_iff_exists.1 h2.1
  obtain ⟨h3, h4⟩ := lnS_is hl
  have hg := gp_there L [] h2.2 (by simp; omega)
  have e : putT c L = suT c ++ 10 :: dsT L := by unfold putT; simp
  unfold getS
  rw [e, spl_app _ (suT_out c)]
  cases hs : spl 10 (dsT L) with
  | nil => exact absurd hs (spl_ne _ _)
  | cons q R =>
    rw [hs] at hg
    show (match psS (suT c) with | none => _ | some c => _) = _
    rw [← h4, h3]
    show (if (gp (q :: R) []).2.2 = 0 then _ else _) = _
    rw [hg, if_pos rfl]; rfl
theorem gp_back : ∀ (P : List (List UInt8)) (acc L : List DD) (a : Int), P ≠ [] → acc.length ≤ 4096 → gp P acc = (L, a, 0) → ∃ M, L = acc ++ M ∧ jn 10 P = dsT M ∧ (∀ d ∈ M, (lnD d).isSome = true) ∧ L.length ≤ 4096 ∧ a = 0
  | [], _, _, _, h, _, _ => absurd rfl h
  | [p], acc, L, a, _, hl, h => by
    rw [gp] at h
    split at h
    · rename_i hp
      injection h with h1 h2
      injection h2 with h2 h3
      subst hp
      exact ⟨[], by rw [← h1, List.append_nil], by rw [jn_one]; rfl, by simp, by rw [← h1]; exact hl, h2.symm⟩
    · have := (Prod.mk.inj (Prod.mk.inj h).2).2
      cases this
  | p :: q :: R, acc, L, a, _, hl, h => by
    rw [gp] at h
    cases hp : psD p with
    | none =>
      rw [hp] at h
      have := (Prod.mk.inj (Prod.mk.inj h).2).2
      cases this
    | some d =>
      rw [hp] at h
      dsimp only at h
      split at h
      · have := (Prod.mk.inj (Prod.mk.inj h).2).2
        cases this
      rename_i hn
      obtain ⟨M, h1, h2, h3, h4, h5⟩ := gp_back (q :: R) (acc ++ [d]) L a (by simp) (by rw [List.length_append, List.length_singleton]; omega) h
      refine ⟨d :: M, by rw [h1, List.append_assoc]; rfl, ?_, ?_, h4, h5⟩
      · rw [jn_cons, h2, ← (psD_is hp).2.2]
        unfold dsT; simp
      · intro x hx
        rcases List.mem_cons.1 hx with rfl | hx
        · rw [lnD_of hp]; rfl
        · exact h3 x hx
theorem put_get {t : List UInt8} {c : SU} {L : List DD} {a : Int} (h : getS t = (c, L, a, 0)) : putS c L = (t, 0) := by
  unfold getS at h
  split at h
  · rename_i p q R hs
    cases hp : psS p with
    | none =>
      rw [hp] at h
      have := (Prod.mk.inj (Prod.mk.inj (Prod.mk.inj h).2).2).2
      cases this
    | some x =>
      rw [hp] at h
      dsimp only at h
      split at h
      · rename_i h0
        obtain ⟨e1, e2⟩ := Prod.mk.inj h
        obtain ⟨e2, _⟩ := Prod.mk.inj e2
        subst e1
        obtain ⟨M, h1, h2, h3, h4, _⟩ := gp_back (q :: R) [] (gp (q :: R) []).1 (gp (q :: R) []).2.1 (by simp) (by simp) (by rw [← h0])
        rw [e2, List.nil_append] at h1
        subst h1
        rw [e2] at h4
        have hok : putOk x L = true := by
          unfold putOk
          rw [Bool.and_eq_true, List.all_eq_true, lnS_of hp]
          exact ⟨rfl, h3⟩
        unfold putS
        rw [if_neg (by omega), if_pos hok]
        unfold putT
        rw [psS_is hp, ← h2, ← jn_spl 10 t, hs, jn_cons]
        simp
      · rename_i h0
        exact absurd ((Prod.mk.inj (Prod.mk.inj (Prod.mk.inj h).2).2).2) h0
  · have := (Prod.mk.inj (Prod.mk.inj (Prod.mk.inj h).2).2).2
    cases this
theorem putS_no {c : SU} {L : List DD} (h : (putS c L).2 ≠ 0) : (putS c L).1 = [] := by
  unfold putS at h ⊢
  split
  · rfl
  · split
    · rename_i h1 h2
      rw [if_neg h1, if_pos h2] at h; exact absurd rfl h
    · rfl
end Go.Proofs.YtfmpbohiahjafaaDoor
