/- Devices: the plain model, and how one lies in memory. -/
import Derived.Test.YtfpnlaafefdcaaaDoorAp
import Derived.Test.YtfpnlaafefdcaaaDoorOwnB
import Derived.Maps.Ext
import Derived.Lib.SlKeysI
namespace Go.Proofs.YtfpnlaafefdcaaaDoor
open Go.RowKit Go.Maps

/-! ### a sector as a map's element -/
def byteV : Value → Option UInt8
  | .int .u8 n => if 0 ≤ n ∧ n < 256 then some (UInt8.ofNat n.toNat) else none
  | _ => none
theorem byteV_mk (b : UInt8) : byteV (.int .u8 (b.toNat : Int)) = some b := by
  have := b.toNat_lt
  simp only [byteV]
  rw [if_pos ⟨by omega, by omega⟩]
  simp
theorem byteV_inv {v : Value} {b : UInt8} (h : byteV v = some b) : v = .int .u8 (b.toNat : Int) := by
  unfold byteV at h
  split at h
  · rename_i n
    split at h
    · rename_i hn
      injection h with h
      subst h
      congr 1
      rw [UInt8.toNat_ofNat']
      omega
    · cases h
  · cases h
def bytesV : List Value → Option (List UInt8)
  | [] => some []
  | v :: r => match byteV v, bytesV r with
    | some b, some l => some (b :: l)
    | _, _ => none
theorem bytesV_mk : ∀ l : List UInt8, bytesV (U8s l) = some l
  | [] => rfl
  | b :: r => by
    have := bytesV_mk r
    unfold U8s at this ⊢
    simp only [List.map_cons, bytesV, byteV_mk, this]
theorem bytesV_inv : ∀ (vs : List Value) (l : List UInt8), bytesV vs = some l → vs = U8s l
  | [], l, h => by simp only [bytesV, Option.some.injEq] at h; subst h; rfl
  | v :: r, l, h => by
    unfold bytesV at h
    split at h
    · rename_i b l' hb hl
      injection h with h
      subst h
      rw [byteV_inv hb, bytesV_inv r l' hl]; rfl
    · cases h
/-- How a sector reads. -/
def secElem : Value → Option (DataW Unit × List MemPlace)
  | .agg cs => match bytesV cs.toList with
    | some l => if l.length = 512 then some (.lit (.string l), []) else none
    | none => none
  | _ => none
theorem secElem_mk {l : List UInt8} (h : l.length = 512) : secElem (.agg (U8s l).toArray) = some (.lit (.string l), []) := by
  unfold secElem
  simp only [bytesV_mk, h, if_true]
theorem secElem_inv {v : Value} {z : DataW Unit × List MemPlace} (h : secElem v = some z) : ∃ l : List UInt8, l.length = 512 ∧ v = .agg (U8s l).toArray ∧ z = (.lit (.string l), []) := by
  unfold secElem at h
  split at h
  · rename_i cs
    split at h
    · rename_i l hl
      split at h
      · rename_i hlen
        injection h with h
        have e := bytesV_inv _ _ hl
        exact ⟨l, hlen, by rw [← e], h.symm⟩
      · cases h
    · cases h
  · cases h

/-! ### maps as functions -/
def kLit (i : Nat) : Lit := .int .i64 (i : Int)
theorem kLit_key (i : Nat) : WideAt.IsKeyLit (kLit i) := trivial
theorem kLit_inj {i j : Nat} (h : kLit i = kLit j) : i = j := by unfold kLit at h; injection h with _ h; omega
theorem kLit_ne {i j : Nat} (h : i ≠ j) : kLit i ≠ kLit j := fun e => h (kLit_inj e)

/-- The map in block b has, of each number below n, what f says, and nothing else. -/
def WaitMap (w : World) (b n : Nat) (f : Nat → Option (List UInt8)) : Prop :=
  ∃ D : DataW Unit, w.ownsMap Tryd.prog 3 secElem b (Maps.size D) D ∧
    (∀ x : Int, has D (.int .i64 x) = true ↔ 0 ≤ x ∧ x.toNat < n ∧ (f x.toNat).isSome = true) ∧
    (∀ i l, i < n → f i = some l → ∀ z, D.atKey (kLit i) z = .lit (.string l)) ∧ Maps.size D ≤ n
def BadMap (w : World) (b n : Nat) (f : Nat → Bool) : Prop :=
  ∃ D : DataW Unit, w.ownsMap Tryd.prog 3 unitElem b (Maps.size D) D ∧
    (∀ x : Int, has D (.int .i64 x) = true ↔ 0 ≤ x ∧ x.toNat < n ∧ f x.toNat = true) ∧ Maps.size D ≤ n

theorem owns_tight {H : Type} {P : Program} {k : TypeId} {R : Value → Option (DataW H × List MemPlace)} {w : World} {b n : Nat} {D : DataW H} (h : w.ownsMap P k R b n D) : w.ownsMap P k R b (Maps.size D) D := by
  obtain ⟨es, clock, hb, F, _, rfl⟩ := h
  exact ⟨es, clock, hb, F, by simp [Maps.size, length_sorted], rfl⟩

/-- Rising numbers from a on, below n, are no more than there is room for. -/
theorem rising_room : ∀ (l : List Int) (a n : Int), l.Pairwise (· < ·) → (∀ x ∈ l, a ≤ x ∧ x < n) → a ≤ n → (l.length : Int) ≤ n - a
  | [], a, n, _, _, h => by simp; omega
  | x :: r, a, n, hp, hb, h => by
    obtain ⟨h1, h2⟩ := List.pairwise_cons.1 hp
    have hx := hb x (by simp)
    have := rising_room r (x + 1) n h2 (fun y hy => ⟨by have := h1 y hy; omega, (hb y (by simp [hy])).2⟩) (by omega)
    simp only [List.length_cons]
    omega
/-- Two rising lists that have the same numbers are one. -/
theorem rising_ext : ∀ (l l' : List Int), l.Pairwise (· < ·) → l'.Pairwise (· < ·) → (∀ x, x ∈ l ↔ x ∈ l') → l = l'
  | [], [], _, _, _ => rfl
  | [], y :: r, _, _, h => absurd ((h y).2 (by simp)) (by simp)
  | x :: r, [], _, _, h => absurd ((h x).1 (by simp)) (by simp)
  | x :: r, y :: r', hp, hp', h => by
    obtain ⟨h1, h2⟩ := List.pairwise_cons.1 hp
    obtain ⟨h1', h2'⟩ := List.pairwise_cons.1 hp'
    have e : x = y := by
      have a := (h x).1 (by simp)
      have b := (h y).2 (by simp)
      simp only [List.mem_cons] at a b
      rcases a with a | a
      · exact a
      · rcases b with b | b
        · exact b.symm
        · have := h1 y b; have := h1' x a; omega
    subst e
    rw [rising_ext r r' h2 h2' (fun z => by
      have hz := h z
      simp only [List.mem_cons] at hz
      constructor
      · intro m
        rcases hz.1 (.inr m) with e | e
        · subst e; have := h1 z m; omega
        · exact e
      · intro m
        rcases hz.2 (.inr m) with e | e
        · subst e; have := h1' z m; omega
        · exact e)]
/-- The numbers below n for which p holds. -/
def numsI (n : Nat) (p : Nat → Bool) : List Int := ((List.range n).filter p).map (fun i : Nat => (i : Int))
theorem numsI_rising (n : Nat) (p : Nat → Bool) : (numsI n p).Pairwise (· < ·) := by
  unfold numsI
  rw [List.pairwise_map]
  exact (List.pairwise_lt_range.filter p).imp (fun h => by omega)
theorem mem_numsI {n : Nat} {p : Nat → Bool} {x : Int} : x ∈ numsI n p ↔ 0 ≤ x ∧ x.toNat < n ∧ p x.toNat = true := by
  unfold numsI
  simp only [List.mem_map, List.mem_filter, List.mem_range]
  constructor
  · rintro ⟨i, ⟨h1, h2⟩, rfl⟩
    exact ⟨by omega, by simpa using h1, by simpa using h2⟩
  · rintro ⟨h1, h2, h3⟩
    exact ⟨x.toNat, ⟨h2, h3⟩, by omega⟩
/-- A map's keys, sorted, are the numbers that it has. -/
theorem keys_sorted {k : TypeId} {R : Value → Option (DataW Unit × List MemPlace)} {w : World} {b m : Nat} {D : DataW Unit} (ho : w.ownsMap Tryd.prog k R b m D) (K : Keyed Tryd.prog k) (hk : Tryd.prog.underlying k = some (.int .i64))
    {n : Nat} {p : Nat → Bool} (hh : ∀ x : Int, has D (.int .i64 x) = true ↔ 0 ≤ x ∧ x.toNat < n ∧ p x.toNat = true) {ss : List Int} (hs : ss.Perm (intKeys D)) : ss.mergeSort (fun x y => decide (x ≤ y)) = numsI n p := by
  obtain ⟨es, hD, hpw, _⟩ := ho.entries K
  obtain ⟨es', hD', hko⟩ := ho.keysOf
  obtain rfl : es = es' := by rw [hD] at hD'; simpa using hD'
  subst hD
  have hpn : (numsI n p).Perm (intKeys (.map es)) := perm_intKeys hpw (fun q hq => by obtain ⟨v, hv⟩ := hko q hq; obtain ⟨x, _, hx, _⟩ := Maps.keyOf_i64 hk hv; exact ⟨x, hx⟩)
    ((numsI_rising n p).imp (fun h => by omega)) (fun x => by rw [hh x, mem_numsI])
  have e := mergeSort_of_perm_i (hs.trans hpn.symm)
  unfold leI at e
  rw [e]
  refine List.mergeSort_of_pairwise ((numsI_rising n p).imp (fun h => by simpa using Int.le_of_lt h))
theorem size_keys {k : TypeId} {R : Value → Option (DataW Unit × List MemPlace)} {w : World} {b m : Nat} {D : DataW Unit} (ho : w.ownsMap Tryd.prog k R b m D) (K : Keyed Tryd.prog k) (hk : Tryd.prog.underlying k = some (.int .i64))
    {n : Nat} {p : Nat → Bool} (hh : ∀ x : Int, has D (.int .i64 x) = true ↔ 0 ≤ x ∧ x.toNat < n ∧ p x.toNat = true) : Maps.size D ≤ n := by
  have h := keys_sorted ho K hk hh (List.Perm.refl (intKeys D))
  have hl : (intKeys D).length = Maps.size D := by
    obtain ⟨es, hD, _, _⟩ := ho.entries K
    subst hD
    simp [intKeys, Maps.size]
  have h2 := rising_room (numsI n p) 0 n (numsI_rising n p) (fun x hx => by have := mem_numsI.1 hx; omega) (by omega)
  rw [← h, List.length_mergeSort, hl] at h2
  omega
end Go.Proofs.YtfpnlaafefdcaaaDoor
