/- Reports of damage: the plain model (no program). -/
import Derived.Lib.SplitLaws
import Derived.Lib.IndexBytes
import Derived.Lib.ItoaLen
import Derived.Lib.AtoiTie
import Derived.Lib.AtoiAll
namespace Go.Proofs.YtfmpbohiahjafaaDoor
open Go.Lib

/-! ### parted at a byte -/
/-- The pieces between these bytes. -/
def spl (c : UInt8) : List UInt8 → List (List UInt8)
  | [] => [[]]
  | b :: r => if b = c then [] :: spl c r else match spl c r with
    | [] => [[b]]
    | h :: t => (b :: h) :: t
theorem spl_ne (c : UInt8) : ∀ l, spl c l ≠ []
  | [] => by simp [spl]
  | b :: r => by
    unfold spl
    split
    · simp
    · split <;> simp
theorem spl_none {c : UInt8} : ∀ {l : List UInt8}, c ∉ l → spl c l = [l]
  | [], _ => rfl
  | b :: r, h => by
    have h1 : b ≠ c := fun e => h (by rw [e]; exact List.mem_cons_self ..)
    have h2 : spl c r = [r] := spl_none (fun e => h (List.mem_cons_of_mem _ e))
    unfold spl
    rw [if_neg h1, h2]
theorem spl_app {c : UInt8} : ∀ {a : List UInt8} (b : List UInt8), c ∉ a → spl c (a ++ c :: b) = a :: spl c b
  | [], b, _ => by
    show spl c (c :: b) = _
    rw [spl, if_pos rfl]
  | x :: a, b, h => by
    have h1 : x ≠ c := fun e => h (by rw [e]; exact List.mem_cons_self ..)
    have h2 := spl_app (a := a) b (fun e => h (List.mem_cons_of_mem _ e))
    show spl c (x :: (a ++ c :: b)) = _
    rw [spl, if_neg h1, h2]
theorem spl_out {c : UInt8} : ∀ (l : List UInt8), ∀ x ∈ spl c l, c ∉ x
  | [], x, hx => by
    rw [spl, List.mem_singleton] at hx
    rw [hx]; simp
  | b :: r, x, hx => by
    have ih := spl_out (c := c) r
    rw [spl] at hx
    split at hx
    · rcases List.mem_cons.1 hx with rfl | hx
      · simp
      · exact ih x hx
    · rename_i hb
      cases hs : spl c r with
      | nil => exact absurd hs (spl_ne c r)
      | cons h t =>
        rw [hs] at hx ih
        rcases List.mem_cons.1 hx with rfl | hx
        · intro e
          rcases List.mem_cons.1 e with e | e
          · exact hb e.symm
          · exact ih h (List.mem_cons_self ..) e
        · exact ih x (List.mem_cons_of_mem _ hx)
/-- Put together with the byte between. -/
def jn (c : UInt8) (L : List (List UInt8)) : List UInt8 := [c].intercalate L
theorem jn_one (c : UInt8) (a : List UInt8) : jn c [a] = a := by simp [jn]
theorem jn_cons (c : UInt8) (a b : List UInt8) (r : List (List UInt8)) : jn c (a :: b :: r) = a ++ c :: jn c (b :: r) := by
  unfold jn
  simp [List.intercalate, List.intersperse]
theorem jn_spl (c : UInt8) : ∀ l, jn c (spl c l) = l
  | [] => rfl
  | b :: r => by
    have ih := jn_spl c r
    rw [spl]
    cases hs : spl c r with
    | nil => exact absurd hs (spl_ne c r)
    | cons h t =>
      rw [hs] at ih
      by_cases hb : b = c
      · rw [if_pos hb, jn_cons, ih, hb]; rfl
      · rw [if_neg hb]
        cases t with
        | nil => rw [jn_one] at ih ⊢; rw [ih]
        | cons t0 t => rw [jn_cons] at ih ⊢; rw [← ih]; rfl
theorem spl_jn (c : UInt8) : ∀ (L : List (List UInt8)), L ≠ [] → (∀ x ∈ L, c ∉ x) → spl c (jn c L) = L
  | [], h, _ => absurd rfl h
  | [a], _, h => by rw [jn_one]; exact spl_none (h a (List.mem_cons_self ..))
  | a :: b :: r, _, h => by
    rw [jn_cons, spl_app _ (h a (List.mem_cons_self ..)), spl_jn c (b :: r) (by simp) (fun x hx => h x (List.mem_cons_of_mem _ hx))]
theorem spl_len_le (c : UInt8) : ∀ l, (spl c l).length ≤ l.length + 1
  | [] => Nat.le_refl _
  | b :: r => by
    have ih := spl_len_le c r
    rw [spl]
    split
    · simp; omega
    · cases hs : spl c r with
      | nil => simp
      | cons h t => rw [hs] at ih; simp at ih ⊢; omega
theorem not_mem_of {l : List UInt8} {c : UInt8} (h : indexByte l c = -1) : c ∉ l := by
  intro hm
  obtain ⟨k, hk⟩ := List.getElem?_of_mem hm
  exact indexByte_none h k hk
theorem at_of {l : List UInt8} {c : UInt8} {o : Nat} (h : indexByte l c = o) : l = l.take o ++ c :: l.drop (o + 1) ∧ c ∉ l.take o := by
  obtain ⟨h1, h2⟩ := indexByte_some h
  obtain ⟨hlt, he⟩ := List.getElem?_eq_some_iff.1 h1
  refine ⟨?_, fun hm => ?_⟩
  · rw [← he, List.getElem_cons_drop, List.take_append_drop]
  · obtain ⟨k, hk⟩ := List.getElem?_of_mem hm
    rw [List.getElem?_take] at hk
    split at hk
    · rename_i hko; exact h2 k hko hk
    · cases hk
/-- The library's cut is that. -/
theorem splitK_spl (c : UInt8) : ∀ (n : Nat) (l : List UInt8), l.length ≤ n → splitK [c] 0 (count l [c]) l = spl c l := by
  intro n
  induction n with
  | zero =>
    intro l hl
    have : l = [] := List.eq_nil_of_length_eq_zero (by omega)
    subst this; rfl
  | succ n ih =>
    intro l hl
    by_cases h : index l [c] = -1
    · rw [count_miss h, splitK, spl_none (not_mem_of (by rw [← index_one]; exact h))]
    · have hge := indexByte_ge l c
      rw [← index_one] at hge
      obtain ⟨i, hi⟩ : ∃ i : Nat, index l [c] = i := ⟨(index l [c]).toNat, by omega⟩
      obtain ⟨h1, h2⟩ := at_of (by rw [← index_one]; exact hi)
      have hlt : i < l.length := by
        rcases Nat.lt_or_ge i l.length with h | h
        · exact h
        · rw [List.take_of_length_le h] at h1
          have := congrArg List.length h1
          simp at this
      rw [count_hit (by simp) hi, Nat.add_comm, splitK, if_neg (by rw [hi]; simp), hi]
      show l.take (i + 0) :: splitK [c] 0 _ (l.drop (i + 1)) = _
      rw [Nat.add_zero, show l.drop (i + [c].length) = l.drop (i + 1) from rfl, ih _ (by rw [List.length_drop]; omega)]
      conv => rhs; rw [h1]
      rw [spl_app _ h2]
/-! ### wounds and lost ranges -/
structure WD where
  k : Int
  id : Int
  ix : Int
  pl : Int
  hl : Bool
deriving DecidableEq
def WD.zero : WD := ⟨0, 0, 0, 0, false⟩
structure LO where
  c : Int
  f : Int
  t : Int
deriving DecidableEq
def LO.zero : LO := ⟨0, 0, 0⟩
def nmOk (n : Int) : Bool := decide (0 ≤ n) && decide (n ≤ 2147483648)
def wdOk (x : WD) : Bool := decide (1 ≤ x.k) && decide (x.k < 4) && nmOk x.id && nmOk x.ix && nmOk x.pl && (decide (x.k = 3) || decide (x.ix = 0) || decide (x.k = 2) && decide (x.ix = 1))
def loOk (x : LO) : Bool := decide (-1 ≤ x.c) && decide (x.c ≤ 2147483648) && decide (0 ≤ x.f) && decide (x.f < x.t) && decide (x.t ≤ 65536)
def ckL (W : List WD) (L : List LO) : Bool := decide (W.length + L.length ≤ 16384)
def ckE (W : List WD) (L : List LO) : Int := if ckL W L = false then 7 else if W.all wdOk && L.all loOk then 0 else 2
/-- The words. -/
def slotW : List UInt8 := [115, 108, 111, 116]
def pageW : List UInt8 := [112, 97, 103, 101]
def stripeW : List UInt8 := [115, 116, 114, 105, 112, 101]
def healedW : List UInt8 := [104, 101, 97, 108, 101, 100]
def openW : List UInt8 := [111, 112, 101, 110]
def lostW : List UInt8 := [108, 111, 115, 116]
def nowW : List UInt8 := [110, 111, 119]
def kW (k : Int) : List UInt8 := if k = 1 then slotW else if k = 2 then pageW else stripeW
def hW (b : Bool) : List UInt8 := if b then healedW else openW
def cW (c : Int) : List UInt8 := if c = -1 then nowW else itoa c
def wWords (x : WD) : List (List UInt8) := [kW x.k, itoa x.id, itoa x.ix, itoa x.pl, hW x.hl]
def lWords (x : LO) : List (List UInt8) := [lostW, cW x.c, itoa x.f, itoa x.t]
def wLn (x : WD) : List UInt8 := jn 32 (wWords x)
def lLn (x : LO) : List UInt8 := jn 32 (lWords x)
def txB (W : List WD) (L : List LO) : List UInt8 := (W.flatMap fun x => wLn x ++ [10]) ++ L.flatMap fun x => lLn x ++ [10]
def txL (W : List WD) (L : List LO) : List UInt8 := if ckE W L = 0 then txB W L else []
/-! ### digits -/
def dgt (b : UInt8) : Prop := 48 ≤ b.toNat ∧ b.toNat ≤ 57
theorem dig_ok {m : Nat} (h : m < 10) : dgt (UInt8.ofNat (48 + m)) := by
  unfold dgt
  rw [UInt8.toNat_ofNat']
  omega
theorem dec_dgt (u : Nat) : ∀ b ∈ decDigits u, dgt b := by
  induction u using Nat.strongRecOn with
  | _ u ih =>
    intro b hb
    rw [decDigits] at hb
    split at hb
    · rw [List.mem_singleton] at hb; rw [hb]; exact dig_ok (by omega)
    · rcases List.mem_append.1 hb with hb | hb
      · exact ih (u / 10) (by omega) b hb
      · rw [List.mem_singleton] at hb; rw [hb]; exact dig_ok (by omega)
theorem ito_dec {n : Int} (h : 0 ≤ n) : itoa n = decDigits n.toNat := by unfold itoa; rw [if_neg (by omega)]
theorem ito_out {n : Int} (h : 0 ≤ n) {c : UInt8} (hc : ¬ dgt c) : c ∉ itoa n := by
  rw [ito_dec h]; exact fun hm => hc (dec_dgt _ c hm)
theorem dec_ne (u : Nat) : decDigits u ≠ [] := by
  intro e
  have h := decDigits_length u
  rw [e] at h
  have := nDigits_pos u
  simp at h; omega
/-- The number that digits are (at most so many are looked at). -/
def vlF (acc : Nat) : List UInt8 → Nat
  | [] => acc
  | b :: r => vlF (10 * acc + (b.toNat - 48)) r
theorem vlF_app (a b : List UInt8) (acc : Nat) : vlF acc (a ++ b) = vlF (vlF acc a) b := by
  induction a generalizing acc with
  | nil => rfl
  | cons x a ih => exact ih _
theorem vlF_dec (u : Nat) : vlF 0 (decDigits u) = u := by
  induction u using Nat.strongRecOn with
  | _ u ih =>
    rw [decDigits]
    split
    · show 10 * 0 + ((UInt8.ofNat (48 + u)).toNat - 48) = u
      rw [UInt8.toNat_ofNat']; omega
    · rw [vlF_app, ih (u / 10) (by omega)]
      show 10 * (u / 10) + ((UInt8.ofNat (48 + u % 10)).toNat - 48) = u
      rw [UInt8.toNat_ofNat']; omega
theorem dec_inj {a b : Nat} (h : decDigits a = decDigits b) : a = b := by rw [← vlF_dec a, ← vlF_dec b, h]
theorem ito_inj {a b : Int} (ha : 0 ≤ a) (hb : 0 ≤ b) (h : itoa a = itoa b) : a = b := by
  rw [ito_dec ha, ito_dec hb] at h
  have := dec_inj h
  omega
theorem dec_from : ∀ (l : List UInt8) (acc : Nat), (∀ b ∈ l, dgt b) → decFrom acc l = some (vlF acc l)
  | [], _, _ => rfl
  | b :: r, acc, h => by
    have hb := h b (List.mem_cons_self ..)
    unfold dgt at hb
    rw [decFrom, digitVal, if_pos hb]
    show decFrom (acc * 10 + (b.toNat - 48)) r = _
    rw [Nat.mul_comm, dec_from r _ (fun x hx => h x (List.mem_cons_of_mem _ hx))]; rfl
theorem nmOk_iff {n : Int} : nmOk n = true ↔ 0 ≤ n ∧ n ≤ 2147483648 := by unfold nmOk; rw [Bool.and_eq_true, decide_eq_true_eq, decide_eq_true_eq]
theorem dec_short {u : Nat} (h : u ≤ 2147483648) : (decDigits u).length ≤ 10 := by
  rw [decDigits_length]
  rcases Nat.lt_or_ge 10 (nDigits u) with h1 | h1
  · exfalso
    have h2 : ∀ k u : Nat, k + 1 < nDigits u → 10 ^ k ≤ u := by
      intro k
      induction k with
      | zero =>
        intro u hu
        by_cases h0 : u < 10
        · rw [nDigits_small h0] at hu; omega
        · simp; omega
      | succ k ih =>
        intro u hu
        by_cases h0 : u < 10
        · rw [nDigits_small h0] at hu; omega
        · rw [nDigits_big h0] at hu
          have := ih (u / 10) (by omega)
          rw [Nat.pow_succ]; omega
    have h3 := h2 9 u (by omega)
    have h5 : nDigits u ≤ 10 := by
      rcases Nat.lt_or_ge u (10 ^ 10) with h6 | h6
      · rw [nDigits_unique 9 u h3 h6]; decide
      · omega
    omega
  · exact h1
theorem ito_short {n : Int} (h : nmOk n = true) : (itoa n).length ≤ 10 := by
  rw [nmOk_iff] at h
  rw [ito_dec h.1]; exact dec_short (by omega)
/-- Its numeral is read as it. -/
theorem ato_ito {n : Int} (h : nmOk n = true) : atoiAll (itoa n) = .ok n := by
  have hs := ito_short h
  rw [nmOk_iff] at h
  rw [atoiAll_short _ (by omega), ito_dec h.1]
  have hd := dec_dgt n.toNat
  have hv := vlF_dec n.toNat
  have hne := dec_ne n.toNat
  generalize decDigits n.toNat = l at hd hv hne
  cases l with
  | nil => exact absurd rfl hne
  | cons b r =>
    have hb := hd b (List.mem_cons_self ..)
    unfold dgt at hb
    have e1 : (b == 45) = false := by rw [beq_eq_false_iff_ne]; intro e; rw [e] at hb; revert hb; decide
    have e2 : (b == 43) = false := by rw [beq_eq_false_iff_ne]; intro e; rw [e] at hb; revert hb; decide
    simp only [atoi, e1, e2, Bool.false_eq_true, if_false]
    unfold decNat
    rw [dec_from _ _ hd, hv]
    simp [NumEnd.ofOption]
    omega
end Go.Proofs.YtfmpbohiahjafaaDoor
