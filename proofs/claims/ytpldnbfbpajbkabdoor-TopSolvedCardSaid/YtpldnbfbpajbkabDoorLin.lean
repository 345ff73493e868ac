import Derived.Test.YtpldnbfbpajbkabDoorGfMath
namespace Caulk.Lin
open Caulk.Gf

/-! Sums (exclusive or) over the first n. -/
def sx : Nat → (Nat → UInt8) → UInt8
  | 0, _ => 0
  | n + 1, f => sx n f ^^^ f n
theorem sx_congr {f g : Nat → UInt8} : ∀ {n : Nat}, (∀ i, i < n → f i = g i) → sx n f = sx n g
  | 0, _ => rfl
  | n + 1, h => by simp only [sx]; rw [sx_congr (fun i hi => h i (by omega)), h n (by omega)]
theorem sx_xor (f g : Nat → UInt8) : ∀ n, sx n (fun i => f i ^^^ g i) = sx n f ^^^ sx n g
  | 0 => by simp [sx]
  | n + 1 => by simp only [sx]; rw [sx_xor f g n, xor_ac]
theorem sx_mul (c : UInt8) (f : Nat → UInt8) : ∀ n, sx n (fun i => mul c (f i)) = mul c (sx n f)
  | 0 => (mul_zeroR c).symm
  | n + 1 => by simp only [sx]; rw [sx_mul c f n, mul_xorR]
theorem sx_zero : ∀ n, sx n (fun _ => 0) = 0
  | 0 => rfl
  | n + 1 => by simp only [sx]; rw [sx_zero n]; rfl
theorem sx_none {f : Nat → UInt8} {n : Nat} (h : ∀ i, i < n → f i = 0) : sx n f = 0 := by rw [sx_congr h, sx_zero]
theorem sx_single {f : Nat → UInt8} {p : Nat} : ∀ {n : Nat}, p < n → (∀ i, i < n → i ≠ p → f i = 0) → sx n f = f p
  | 0, h, _ => by omega
  | n + 1, h, hz => by
    simp only [sx]
    by_cases e : p = n
    · subst e; rw [sx_none (fun i hi => hz i (by omega) (by omega)), UInt8.zero_xor]
    · rw [sx_single (n := n) (by omega) (fun i hi => hz i (by omega)), hz n (by omega) (by omega), UInt8.xor_zero]
theorem sx_swap (f : Nat → Nat → UInt8) (m : Nat) : ∀ n, sx n (fun i => sx m (fun j => f i j)) = sx m (fun j => sx n (fun i => f i j))
  | 0 => (sx_zero m).symm
  | n + 1 => by
    simp only [sx]
    rw [sx_swap f m n, ← sx_xor]
theorem sx_add (f : Nat → UInt8) (m : Nat) : ∀ n, sx (m + n) f = sx m f ^^^ sx n (fun i => f (m + i))
  | 0 => by simp [sx]
  | n + 1 => by
    show sx (m + n) f ^^^ f (m + n) = sx m f ^^^ (sx n (fun i => f (m + i)) ^^^ f (m + n))
    rw [sx_add f m n, UInt8.xor_assoc]
theorem xor_eq_zero {a b : UInt8} (h : a ^^^ b = 0) : a = b := by
  have : (a ^^^ b) ^^^ b = 0 ^^^ b := by rw [h]
  rwa [UInt8.xor_assoc, UInt8.xor_self, UInt8.xor_zero, UInt8.zero_xor] at this

/-! Matrices as functions: steps on rows. -/
abbrev Fn2 := Nat → Nat → UInt8
def swp (W : Fn2) (i j : Nat) : Fn2 := fun r => if r = i then W j else if r = j then W i else W r
def scl (W : Fn2) (i : Nat) (x : UInt8) : Fn2 := fun r c => if r = i then mul x (W r c) else W r c
def elm (W : Fn2) (i : Nat) : Fn2 := fun r c => if r = i then W r c else W r c ^^^ mul (W r i) (W i c)
/-- The first row from i on, among so many, without nought in column c. -/
def pv (W : Fn2) (c : Nat) : Nat → Nat → Nat
  | 0, i => i
  | n + 1, i => if W i c ≠ 0 then i else pv W c n (i + 1)
theorem pv_spec (W : Fn2) (c : Nat) : ∀ n i, i ≤ pv W c n i ∧ pv W c n i ≤ i + n ∧ (∀ j, i ≤ j → j < pv W c n i → W j c = 0) ∧ (pv W c n i < i + n → W (pv W c n i) c ≠ 0)
  | 0, i => ⟨Nat.le_refl _, Nat.le_refl _, fun j h1 h2 => by simp only [pv] at h2; omega, fun h => by simp only [pv] at h; omega⟩
  | n + 1, i => by
    by_cases h : W i c ≠ 0
    · simp only [pv, if_pos h]
      exact ⟨Nat.le_refl _, by omega, fun j h1 h2 => by omega, fun _ => h⟩
    · simp only [pv, if_neg h]
      obtain ⟨a1, a2, a3, a4⟩ := pv_spec W c n (i + 1)
      refine ⟨by omega, by omega, fun j h1 h2 => ?_, fun h3 => a4 (by omega)⟩
      by_cases e : j = i
      · subst e; simpa using h
      · exact a3 j (by omega) h2
theorem pv_unique {W : Fn2} {c n i p : Nat} (h1 : i ≤ p) (h2 : p ≤ i + n) (h3 : ∀ j, i ≤ j → j < p → W j c = 0) (h4 : p < i + n → W p c ≠ 0) : pv W c n i = p := by
  obtain ⟨a1, a2, a3, a4⟩ := pv_spec W c n i
  rcases Nat.lt_trichotomy (pv W c n i) p with h | h | h
  · exact absurd (h3 _ a1 h) (a4 (by omega))
  · exact h
  · exact absurd (a3 _ h1 h) (h4 (by omega))
def stp (n : Nat) (W : Fn2) (i : Nat) : Option Fn2 :=
  if pv W i (n - i) i < n then some (elm (scl (swp W i (pv W i (n - i) i)) i (inv (W (pv W i (n - i) i) i))) i) else none
def gjN (n : Nat) (W : Fn2) : Nat → Option Fn2
  | 0 => some W
  | k + 1 => (gjN n W k).bind fun V => stp n V k
def wide0 (n : Nat) (m : Fn2) : Fn2 := fun r c => if c < n then m r c else if c = n + r then 1 else 0
def invM (n : Nat) (m : Fn2) : Option Fn2 := (gjN n (wide0 n m) n).map fun W r c => W r (n + c)

/-! What the rows say of a column z: the steps keep it. -/
def Sol (n k : Nat) (W : Fn2) (z : Nat → UInt8) : Prop := ∀ r, r < n → sx k (fun c => mul (W r c) (z c)) = 0
theorem sol_swp {n k i j : Nat} {W : Fn2} {z : Nat → UInt8} (hi : i < n) (hj : j < n) : Sol n k (swp W i j) z ↔ Sol n k W z := by
  constructor
  · intro h r hr
    by_cases e1 : r = i
    · by_cases e2 : j = i
      · have := h i hi; simp only [swp, if_true] at this; rw [e1, ← e2]; rw [e2] at this ⊢; exact this
      · have := h j hj; simp only [swp, if_neg e2, if_true] at this; rw [e1]; exact this
    · by_cases e2 : r = j
      · have := h i hi; simp only [swp, if_true] at this; rw [e2]; exact this
      · have := h r hr; simp only [swp, if_neg e1, if_neg e2] at this; exact this
  · intro h r hr
    simp only [swp]
    split
    · exact h j hj
    · split
      · exact h i hi
      · exact h r hr
theorem sol_scl {n k i : Nat} {x : UInt8} {W : Fn2} {z : Nat → UInt8} (hx : x ≠ 0) : Sol n k (scl W i x) z ↔ Sol n k W z := by
  have e : ∀ r, sx k (fun c => mul (scl W i x r c) (z c)) = if r = i then mul x (sx k (fun c => mul (W r c) (z c))) else sx k (fun c => mul (W r c) (z c)) := by
    intro r
    by_cases h : r = i
    · simp only [scl, if_pos h]; rw [← sx_mul]; exact sx_congr (fun c _ => (mul_assoc x (W r c) (z c)).symm)
    · simp only [scl, if_neg h]
  constructor
  · intro h r hr
    have := h r hr
    rw [e r] at this
    split at this
    · exact ((mul_eq_zero _ _).1 this).resolve_left hx
    · exact this
  · intro h r hr
    rw [e r, h r hr]
    split
    · exact mul_zeroR x
    · rfl
theorem sol_elm {n k i : Nat} {W : Fn2} {z : Nat → UInt8} (hi : i < n) : Sol n k (elm W i) z ↔ Sol n k W z := by
  have e : ∀ r, r ≠ i → sx k (fun c => mul (elm W i r c) (z c)) = sx k (fun c => mul (W r c) (z c)) ^^^ mul (W r i) (sx k (fun c => mul (W i c) (z c))) := by
    intro r h
    simp only [elm, if_neg h]
    rw [← sx_mul, ← sx_xor]
    exact sx_congr (fun c _ => by rw [mul_xorL, mul_assoc])
  have e0 : sx k (fun c => mul (elm W i i c) (z c)) = sx k (fun c => mul (W i c) (z c)) := by simp only [elm, if_true]
  constructor
  · intro h r hr
    have hi0 := h i hi
    rw [e0] at hi0
    by_cases hri : r = i
    · rw [hri]; exact hi0
    · have := h r hr
      rw [e r hri, hi0, mul_zeroR, UInt8.xor_zero] at this
      exact this
  · intro h r hr
    by_cases hri : r = i
    · rw [hri, e0]; exact h i hi
    · rw [e r hri, h r hr, h i hi, mul_zeroR]; rfl
theorem inv_ne {a : UInt8} (h : a ≠ 0) : inv a ≠ 0 := by
  intro e
  have := mul_inv a h
  rw [e, mul_zeroR] at this
  exact absurd this (by decide)
theorem inv_mul (a : UInt8) (h : a ≠ 0) : mul (inv a) a = 1 := by rw [mul_comm]; exact mul_inv a h

theorem stp_some {n i : Nat} {W V : Fn2} (hi : i < n) (h : stp n W i = some V) :
    ∃ p, i ≤ p ∧ p < n ∧ W p i ≠ 0 ∧ V = elm (scl (swp W i p) i (inv (W p i))) i := by
  unfold stp at h
  split at h
  · rename_i hp
    obtain ⟨a1, a2, a3, a4⟩ := pv_spec W i (n - i) i
    exact ⟨_, a1, hp, a4 (by omega), (Option.some.inj h).symm⟩
  · cases h
theorem stp_none {n i : Nat} {W : Fn2} (_hi : i < n) (h : stp n W i = none) : ∀ r, i ≤ r → r < n → W r i = 0 := by
  unfold stp at h
  split at h
  · cases h
  · rename_i hp
    obtain ⟨a1, a2, a3, a4⟩ := pv_spec W i (n - i) i
    exact fun r h1 h2 => a3 r h1 (by omega)
theorem sol_stp {n k i : Nat} {W V : Fn2} {z : Nat → UInt8} (hi : i < n) (h : stp n W i = some V) : Sol n k V z ↔ Sol n k W z := by
  obtain ⟨p, h1, h2, h3, rfl⟩ := stp_some hi h
  rw [sol_elm hi, sol_scl (inv_ne h3), sol_swp hi h2]
/-- The first columns are the unit's. -/
def Uc (n : Nat) (W : Fn2) (m : Nat) : Prop := ∀ r c, r < n → c < m → W r c = if r = c then 1 else 0
theorem uc_stp {n i : Nat} {W V : Fn2} (hi : i < n) (hu : Uc n W i) (h : stp n W i = some V) : Uc n V (i + 1) := by
  obtain ⟨p, h1, h2, h3, rfl⟩ := stp_some hi h
  have hpi : swp W i p i = W p := by simp [swp]
  have hs : ∀ r c, r < n → c < i → swp W i p r c = if r = c then 1 else 0 := by
    intro r c hr hc
    simp only [swp]
    split
    · rename_i e; rw [hu p c h2 hc, if_neg (by omega), if_neg (by omega)]
    · split
      · rename_i e1 e2; rw [hu i c hi hc, if_neg (by omega), if_neg (by omega)]
      · exact hu r c hr hc
  have hrow : ∀ c, c < i → scl (swp W i p) i (inv (W p i)) i c = 0 := by
    intro c hc
    simp only [scl, if_true]
    rw [hs i c hi hc, if_neg (by omega), mul_zeroR]
  have hone : scl (swp W i p) i (inv (W p i)) i i = 1 := by
    simp only [scl, if_true, hpi]
    exact inv_mul _ h3
  intro r c hr hc
  by_cases hri : r = i
  · subst hri
    simp only [elm, if_true]
    by_cases e : c = r
    · subst e; rw [hone, if_pos rfl]
    · rw [hrow c (by omega), if_neg (by omega)]
  · simp only [elm, if_neg hri]
    by_cases e : c = i
    · subst e
      rw [hone, mul_comm, one_mul, UInt8.xor_self, if_neg hri]
    · rw [hrow c (by omega), mul_zeroR, UInt8.xor_zero]
      simp only [scl, if_neg hri]
      exact hs r c hr (by omega)
theorem gjN_some {n : Nat} {W : Fn2} : ∀ {k : Nat} {V : Fn2}, k ≤ n → gjN n W k = some V → Uc n V k ∧ ∀ K z, Sol n K V z ↔ Sol n K W z
  | 0, V, _, h => by
    obtain rfl := Option.some.inj h
    exact ⟨fun r c _ hc => by omega, fun _ _ => Iff.rfl⟩
  | k + 1, V, hk, h => by
    simp only [gjN] at h
    cases hU : gjN n W k with
    | none => rw [hU] at h; cases h
    | some U =>
      rw [hU] at h
      obtain ⟨a, b⟩ := gjN_some (k := k) (by omega) hU
      exact ⟨uc_stp (by omega) a h, fun K z => (sol_stp (by omega) h).trans (b K z)⟩
theorem gjN_none {n : Nat} {W : Fn2} : ∀ {k : Nat}, k ≤ n → gjN n W k = none → ∃ i V, i < k ∧ gjN n W i = some V ∧ stp n V i = none
  | 0, _, h => by cases h
  | k + 1, hk, h => by
    simp only [gjN] at h
    cases hU : gjN n W k with
    | none =>
      obtain ⟨i, V, a, b⟩ := gjN_none (k := k) (by omega) hU
      exact ⟨i, V, by omega, b⟩
    | some U => rw [hU] at h; exact ⟨k, U, by omega, hU, h⟩

def vec (n : Nat) (m : Fn2) (v : Nat → UInt8) : Nat → UInt8 := fun r => sx n (fun c => mul (m r c) (v c))
theorem vec_congr {n : Nat} {m : Fn2} {v w : Nat → UInt8} (h : ∀ c, c < n → v c = w c) (r : Nat) : vec n m v r = vec n m w r :=
  sx_congr (fun c hc => by rw [h c hc])
theorem sol_wide {n : Nat} {m : Fn2} {z : Nat → UInt8} : Sol n (n + n) (wide0 n m) z ↔ ∀ r, r < n → z (n + r) = vec n m z r := by
  have e : ∀ r, r < n → sx (n + n) (fun c => mul (wide0 n m r c) (z c)) = vec n m z r ^^^ z (n + r) := by
    intro r hr
    rw [sx_add]
    congr 1
    · exact sx_congr (fun c hc => by simp only [wide0, if_pos hc])
    · rw [sx_single (p := r) hr]
      · simp only [wide0]; rw [if_neg (by omega), if_true, one_mul]
      · intro c hc hne
        simp only [wide0]
        rw [if_neg (by omega), if_neg (by omega), mul_zeroL]
  constructor
  · intro h r hr
    have := h r hr
    rw [e r hr] at this
    exact (xor_eq_zero this).symm
  · intro h r hr
    rw [e r hr, h r hr, UInt8.xor_self]
theorem sol_done {n : Nat} {W : Fn2} {z : Nat → UInt8} (hu : Uc n W n) : Sol n (n + n) W z ↔ ∀ r, r < n → z r = vec n (fun r c => W r (n + c)) (fun c => z (n + c)) r := by
  have e : ∀ r, r < n → sx (n + n) (fun c => mul (W r c) (z c)) = z r ^^^ vec n (fun r c => W r (n + c)) (fun c => z (n + c)) r := by
    intro r hr
    rw [sx_add]
    congr 1
    rw [sx_single (p := r) hr]
    · rw [hu r r hr hr, if_pos rfl, one_mul]
    · intro c hc hne
      rw [hu r c hr hc, if_neg (by omega), mul_zeroL]
  constructor
  · intro h r hr
    have := h r hr
    rw [e r hr] at this
    exact xor_eq_zero this
  · intro h r hr
    rw [e r hr, ← h r hr, UInt8.xor_self]
/-- The inverse: u is m times v just where v is X times u. -/
theorem inv_some {n : Nat} {m X : Fn2} (h : invM n m = some X) (v u : Nat → UInt8) :
    (∀ r, r < n → u r = vec n m v r) ↔ (∀ r, r < n → v r = vec n X u r) := by
  unfold invM at h
  cases hW : gjN n (wide0 n m) n with
  | none => rw [hW] at h; cases h
  | some W =>
    rw [hW] at h
    obtain rfl := Option.some.inj h
    obtain ⟨a, b⟩ := gjN_some (Nat.le_refl n) hW
    let z : Nat → UInt8 := fun c => if c < n then v c else u (c - n)
    have z1 : ∀ c, c < n → z c = v c := fun c hc => if_pos hc
    have z2 : ∀ c, z (n + c) = u c := fun c => by show (if n + c < n then _ else _) = _; rw [if_neg (by omega)]; congr 1; omega
    have h1 := sol_wide (n := n) (m := m) (z := z)
    have h2 := sol_done (z := z) a
    have h3 := b (n + n) z
    constructor
    · intro hh r hr
      have := h2.1 (h3.2 (h1.2 (fun r hr => by rw [z2, hh r hr]; exact vec_congr (fun c hc => (z1 c hc).symm) r))) r hr
      rw [z1 r hr] at this
      rw [this]
      exact vec_congr (fun c _ => z2 c) r
    · intro hh r hr
      have := h1.1 (h3.1 (h2.2 (fun r hr => by rw [z1 r hr, hh r hr]; exact vec_congr (fun c _ => (z2 c).symm) r))) r hr
      rw [z2] at this
      rw [this]
      exact vec_congr z1 r
/-- No inverse: a column that is not 0 comes to 0. -/
theorem inv_none {n : Nat} {m : Fn2} (h : invM n m = none) : ∃ v : Nat → UInt8, (∃ c, c < n ∧ v c ≠ 0) ∧ ∀ r, r < n → vec n m v r = 0 := by
  unfold invM at h
  rw [Option.map_eq_none_iff] at h
  obtain ⟨i, V, hi, hV, hs⟩ := gjN_none (Nat.le_refl n) h
  obtain ⟨a, b⟩ := gjN_some (by omega) hV
  have hz := stp_none hi hs
  let v : Nat → UInt8 := fun c => if c < i then V c i else if c = i then 1 else 0
  let z : Nat → UInt8 := fun c => if c < n then v c else 0
  have hsol : Sol n (n + n) V z := by
    intro r hr
    rw [sx_add]
    have e2 : sx n (fun c => mul (V r (n + c)) (z (n + c))) = 0 := sx_none (fun c _ => by
      show mul _ (if n + c < n then _ else _) = 0
      rw [if_neg (by omega), mul_zeroR])
    rw [e2, UInt8.xor_zero]
    have zc : ∀ c, c < n → z c = v c := fun c hc => if_pos hc
    by_cases hri : r < i
    · have e3 : sx n (fun c => mul (V r c) (z c)) = sx n (fun c => (if c = r then V r i else 0) ^^^ (if c = i then V r i else 0)) := by
        apply sx_congr
        intro c hc
        rw [zc c hc]
        show mul (V r c) (if c < i then V c i else if c = i then 1 else 0) = _
        by_cases h1 : c < i
        · rw [if_pos h1, a r c hr h1]
          by_cases h2 : c = r
          · subst h2; rw [if_pos rfl, one_mul, if_pos rfl, if_neg (by omega), UInt8.xor_zero]
          · rw [if_neg (Ne.symm h2), mul_zeroL, if_neg h2, if_neg (by omega)]; rfl
        · rw [if_neg h1]
          by_cases h2 : c = i
          · subst h2; rw [if_pos rfl, if_pos rfl, mul_comm, one_mul, if_neg (by omega), UInt8.zero_xor]
          · rw [if_neg h2, if_neg h2, mul_zeroR, if_neg (by omega)]; rfl
      rw [e3, sx_xor, sx_single (p := r) hr (fun c _ hne => if_neg hne), sx_single (p := i) (by omega) (fun c _ hne => if_neg hne), if_pos rfl, if_pos rfl, UInt8.xor_self]
    · apply sx_none
      intro c hc
      rw [zc c hc]
      show mul (V r c) (if c < i then V c i else if c = i then 1 else 0) = _
      by_cases h1 : c < i
      · rw [a r c hr h1, if_neg (by omega), mul_zeroL]
      · by_cases h2 : c = i
        · subst h2; rw [hz r (by omega) hr, mul_zeroL]
        · rw [if_neg h1, if_neg h2, mul_zeroR]
  have hw := sol_wide.1 ((b (n + n) z).1 hsol)
  refine ⟨v, ⟨i, by omega, ?_⟩, fun r hr => ?_⟩
  · show (if i < i then _ else if i = i then _ else _) ≠ 0
    rw [if_neg (by omega), if_pos rfl]; decide
  · have := hw r hr
    have e : z (n + r) = 0 := if_neg (by omega)
    rw [e] at this
    rw [this]
    exact vec_congr (fun c hc => (if_pos hc).symm) r
end Caulk.Lin
