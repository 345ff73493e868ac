/- Pools: the plain model, and how a shelf lies in memory. -/
import Derived.Test.YtmnjcmpikbihaaaAp
import Derived.Test.YtmnjcmpikbihaaaOwnB
import Derived.Maps.Ext
import Derived.Lib.SlKeysI
import Derived.Maps.RangeWalk
namespace Go.Proofs.Ytmnjcmpikbihaaa
open Go.RowKit Go.Maps

/-- What is under which number, rising. -/
abbrev PL := List (Int × List UInt8)
def idsP (L : PL) : List Int := L.map (·.1)
def bytesP (L : PL) : Nat := (L.map (fun p => p.2.length)).sum
def getP (L : PL) (x : Int) : Option (List UInt8) := (L.find? (fun p => p.1 = x)).map (·.2)
def keepP (L : PL) (K : List Int) : PL := L.filter (fun p => K.contains p.1)
def kI (x : Int) : Lit := .int .i64 x
theorem kI_key (x : Int) : WideAt.IsKeyLit (kI x) := trivial
theorem kI_inj {i j : Int} (h : kI i = kI j) : i = j := by unfold kI at h; injection h
theorem kI_ne {i j : Int} (h : i ≠ j) : kI i ≠ kI j := fun e => h (kI_inj e)
/-- How a datum reads. -/
def datElem : Value → Option (DataW Unit × List MemPlace)
  | .agg cs => match cs.toList with
    | [.string s] => some (.lit (.string s.data.toList), [])
    | _ => none
  | _ => none
theorem datElem_mk (s : ByteArray) : datElem (.agg #[.string s]) = some (.lit (.string s.data.toList), []) := rfl
theorem datElem_inv {v : Value} {z : DataW Unit × List MemPlace} (h : datElem v = some z) : ∃ s : ByteArray, v = .agg #[.string s] ∧ z = (.lit (.string s.data.toList), []) := by
  unfold datElem at h
  split at h
  · rename_i cs
    split at h
    · rename_i s hs
      injection h with h
      exact ⟨s, by rw [← hs], h.symm⟩
    · cases h
  · cases h
/-- What the map in block b has. -/
def PMap (w : World) (b : Nat) (L : PL) : Prop :=
  ∃ D : DataW Unit, w.ownsMap Try.prog 3 datElem b (Maps.size D) D ∧ (∀ x : Int, has D (kI x) = true ↔ x ∈ idsP L) ∧ (∀ p ∈ L, ∀ z, D.atKey (kI p.1) z = .lit (.string p.2))
theorem owns_tightP {H : Type} {P : Program} {k : TypeId} {R : Value → Option (DataW H × List MemPlace)} {w : World} {b n : Nat} {D : DataW H} (h : w.ownsMap P k R b n D) : w.ownsMap P k R b (Maps.size D) D := by
  obtain ⟨es, clock, hb, F, _, rfl⟩ := h
  exact ⟨es, clock, hb, F, by simp [Maps.size, length_sorted], rfl⟩
/-- Two rising lists that have the same numbers are one. -/
theorem rising_extP : ∀ (l l' : List Int), l.Pairwise (· < ·) → l'.Pairwise (· < ·) → (∀ x, x ∈ l ↔ x ∈ l') → l = l'
  | [], [], _, _, _ => rfl
  | [], y :: r, _, _, h => absurd ((h y).2 (by simp)) (by simp)
  | x :: r, [], _, _, h => absurd ((h x).1 (by simp)) (by simp)
  | x :: r, y :: r', hp, hp', h => by
    obtain ⟨h1, h2⟩ := List.pairwise_cons.1 hp
    obtain ⟨h1', h2'⟩ := List.pairwise_cons.1 hp'
    have e : x = y := by
      have a := (h x).1 (by simp)
      have b := (h y).2 (by simp)
      simp only [List.mem_cons] at a b
      rcases a with a | a
      · exact a
      · rcases b with b | b
        · exact b.symm
        · have := h1 y b; have := h1' x a; omega
    subst e
    rw [rising_extP r r' h2 h2' (fun z => by
      have hz := h z
      simp only [List.mem_cons] at hz
      constructor
      · intro m
        rcases hz.1 (.inr m) with e | e
        · subst e; have := h1 z m; omega
        · exact e
      · intro m
        rcases hz.2 (.inr m) with e | e
        · subst e; have := h1' z m; omega
        · exact e)]
/-- The map's keys, sorted, are the numbers. -/
theorem keysP_sorted {k : TypeId} {R : Value → Option (DataW Unit × List MemPlace)} {w : World} {b m : Nat} {D : DataW Unit} (ho : w.ownsMap Try.prog k R b m D) (K : Keyed Try.prog k) (hk : Try.prog.underlying k = some (.int .i64))
    {l : List Int} (hr : l.Pairwise (· < ·)) (hh : ∀ x : Int, has D (kI x) = true ↔ x ∈ l) {ss : List Int} (hs : ss.Perm (intKeys D)) : ss.mergeSort (fun x y => decide (x ≤ y)) = l := by
  obtain ⟨es, hD, hpw, _⟩ := ho.entries K
  obtain ⟨es', hD', hko⟩ := ho.keysOf
  obtain rfl : es = es' := by rw [hD] at hD'; simpa using hD'
  subst hD
  have hpn : l.Perm (intKeys (.map es)) := perm_intKeys hpw (fun q hq => by obtain ⟨v, hv⟩ := hko q hq; obtain ⟨x, _, hx, _⟩ := Maps.keyOf_i64 hk hv; exact ⟨x, hx⟩)
    (hr.imp (fun h => by omega)) (fun x => (hh x).symm)
  have e := mergeSort_of_perm_i (hs.trans hpn.symm)
  unfold leI at e
  rw [e]
  refine List.mergeSort_of_pairwise (hr.imp (fun h => by simpa using Int.le_of_lt h))
theorem sizeP {k : TypeId} {R : Value → Option (DataW Unit × List MemPlace)} {w : World} {b m : Nat} {D : DataW Unit} (ho : w.ownsMap Try.prog k R b m D) (K : Keyed Try.prog k) (hk : Try.prog.underlying k = some (.int .i64))
    {l : List Int} (hr : l.Pairwise (· < ·)) (hh : ∀ x : Int, has D (kI x) = true ↔ x ∈ l) : Maps.size D = l.length := by
  have h := keysP_sorted ho K hk hr hh (List.Perm.refl (intKeys D))
  have hl : (intKeys D).length = Maps.size D := by
    obtain ⟨es, hD, _, _⟩ := ho.entries K
    subst hD
    simp [intKeys, Maps.size]
  rw [← hl, ← h, List.length_mergeSort]
theorem intKP : Keyed Try.prog 3 := Maps.int_keyed Try.underlying3
theorem PMap.lt {w : World} {b : Nat} {L : PL} (h : PMap w b L) : b < w.heap.size := by obtain ⟨D, ho, _⟩ := h; exact ho.lt
theorem PMap.ap {S : Nat → Prop} {w w' : World} {b : Nat} {L : PL} (h : PMap w b L) (a : Ap S w w') (hb : ¬ S b) : PMap w' b L := by
  obtain ⟨D, ho, r⟩ := h
  have hl := ho.lt
  obtain ⟨es, clock, e1, r1⟩ := ho
  exact ⟨D, ⟨es, clock, (a.block b hl hb).trans e1, r1⟩, r⟩
theorem PMap.below {w w' : World} {b : Nat} {L : PL} (h : PMap w b L) (a : Below w.heap.size w w') : PMap w' b L := by
  obtain ⟨D, ho, r⟩ := h
  have hl := ho.lt
  obtain ⟨es, clock, e1, r1⟩ := ho
  exact ⟨D, ⟨es, clock, (a.block b hl).trans e1, r1⟩, r⟩
theorem PMap.nil {w : World} {b n : Nat} (h : w.ownsMap Try.prog 3 datElem b n (.map [])) : PMap w b [] :=
  ⟨.map [], owns_tightP h, fun x => by simp [Maps.has, idsP], fun p hp => by cases hp⟩
theorem PMap.put {w w' : World} {b m n : Nat} {L L' : PL} {D : DataW Unit} (ho : w.ownsMap Try.prog 3 datElem b m D) (hh : ∀ x : Int, has D (kI x) = true ↔ x ∈ idsP L) (hv : ∀ p ∈ L, ∀ z, D.atKey (kI p.1) z = .lit (.string p.2))
    (k : Int) (l : List UInt8) (h' : w'.ownsMap Try.prog 3 datElem b n (D.put (kI k) (.lit (.string l))))
    (h1 : ∀ x, x ∈ idsP L' ↔ x = k ∨ x ∈ idsP L) (h2 : ∀ p ∈ L', p = (k, l) ∨ (p ∈ L ∧ p.1 ≠ k)) : PMap w' b L' := by
  refine ⟨_, owns_tightP h', fun x => ?_, fun p hp z => ?_⟩
  · rw [h1]
    by_cases e : x = k
    · subst e; simp [has_put_same ho.isMap (kI_key x)]
    · rw [has_put_other (kI_ne e), hh x]; simp [e]
  · rcases h2 p hp with rfl | ⟨h3, h4⟩
    · exact atKey_put_same ho.isMap (kI_key k) _ _
    · rw [atKey_put_other (kI_ne h4)]; exact hv p h3 z
theorem getP_some {L : PL} (hr : (idsP L).Pairwise (· < ·)) {p : Int × List UInt8} (hp : p ∈ L) : getP L p.1 = some p.2 := by
  induction L with
  | nil => cases hp
  | cons q r ih =>
    unfold idsP at hr
    obtain ⟨h1, h2⟩ := List.pairwise_cons.1 (by simpa using hr : List.Pairwise (· < ·) (q.1 :: r.map (·.1)))
    unfold getP
    rw [List.find?_cons]
    rcases List.mem_cons.1 hp with rfl | hp
    · simp
    · have : q.1 < p.1 := h1 p.1 (List.mem_map.2 ⟨p, hp, rfl⟩)
      rw [show decide (q.1 = p.1) = false by simp; omega]
      exact ih h2 hp
theorem getP_none {L : PL} {x : Int} (h : x ∉ idsP L) : getP L x = none := by
  unfold getP
  rw [List.find?_eq_none.2 (fun p hp e => h (by simp at e; exact List.mem_map.2 ⟨p, hp, e⟩))]
  rfl
theorem getP_mem {L : PL} {x : Int} {l : List UInt8} (h : getP L x = some l) : (x, l) ∈ L := by
  unfold getP at h
  rw [Option.map_eq_some_iff] at h
  obtain ⟨p, hp, rfl⟩ := h
  have h1 := List.mem_of_find?_eq_some hp
  have h2 := List.find?_some hp
  simp at h2
  rw [← h2]; exact h1
theorem idsP_rise {L : PL} (hr : (idsP L).Pairwise (· < ·)) (f : Int × List UInt8 → Bool) : (idsP (L.filter f)).Pairwise (· < ·) := hr.sublist ((List.filter_sublist).map _)
end Go.Proofs.Ytmnjcmpikbihaaa
