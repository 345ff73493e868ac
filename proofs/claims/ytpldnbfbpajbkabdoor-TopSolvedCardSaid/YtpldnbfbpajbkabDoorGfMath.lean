namespace Caulk.Gf

/-- Times x. -/
def dbl (a : UInt8) : UInt8 := (a <<< 1) ^^^ ((29 : UInt8) * (a >>> 7))
def dblN : Nat → UInt8 → UInt8
  | 0, a => a
  | n + 1, a => dblN n (dbl a)
/-- Of the low n bits of b: the product with a. -/
def mulN : Nat → UInt8 → UInt8 → UInt8
  | 0, _, _ => 0
  | n + 1, a, b => (if b &&& 1 = 1 then a else 0) ^^^ mulN n (dbl a) (b >>> 1)
def mul (a b : UInt8) : UInt8 := mulN 8 a b
/-- The generator's powers. -/
def pw (n : Nat) : UInt8 := dblN n 1

theorem xor_ac (a b c d : UInt8) : (a ^^^ b) ^^^ (c ^^^ d) = (a ^^^ c) ^^^ (b ^^^ d) := by
  rw [UInt8.xor_assoc, UInt8.xor_assoc, ← UInt8.xor_assoc b c d, UInt8.xor_comm b c, UInt8.xor_assoc c b d]
theorem bytes_all {p : UInt8 → Prop} [DecidablePred p] (h : ∀ i : Fin 256, p (UInt8.ofNat i.val)) (a : UInt8) : p a := by
  have := h ⟨a.toNat, a.toNat_lt⟩
  simpa using this
theorem dbl_split (a : UInt8) : dbl a = (a <<< 1) ^^^ (if a.toBitVec.getLsbD 7 then 29 else 0) := by
  revert a; apply bytes_all; decide +kernel
theorem dbl_xor (a b : UInt8) : dbl (a ^^^ b) = dbl a ^^^ dbl b := by
  rw [dbl_split, dbl_split, dbl_split, UInt8.toBitVec_xor, BitVec.getLsbD_xor]
  have h : (a ^^^ b) <<< 1 = (a <<< 1) ^^^ (b <<< 1) := by
    apply UInt8.toBitVec_inj.1
    simp [BitVec.shiftLeft_xor_distrib]
  rw [h]
  rw [xor_ac]
  congr 1
  cases a.toBitVec.getLsbD 7 <;> cases b.toBitVec.getLsbD 7 <;> decide
theorem dblN_xor (n : Nat) : ∀ a b : UInt8, dblN n (a ^^^ b) = dblN n a ^^^ dblN n b := by
  induction n with
  | zero => intros; rfl
  | succ n ih => intro a b; simp only [dblN, dbl_xor, ih]
theorem dbl_zero : dbl 0 = 0 := by decide
theorem dblN_zero (n : Nat) : dblN n 0 = 0 := by
  induction n with
  | zero => rfl
  | succ n ih => simp only [dblN, dbl_zero, ih]
theorem dblN_add (m n : Nat) : ∀ a, dblN (m + n) a = dblN n (dblN m a) := by
  induction m with
  | zero => intro a; simp [dblN]
  | succ m ih => intro a; rw [Nat.succ_add]; simp only [dblN, ih]
theorem dblN_succ (n : Nat) (a : UInt8) : dblN (n + 1) a = dbl (dblN n a) := dblN_add n 1 a
theorem mulN_zeroL (n : Nat) : ∀ b, mulN n 0 b = 0 := by
  induction n with
  | zero => intro b; rfl
  | succ n ih => intro b; simp only [mulN, dbl_zero, ih]; split <;> decide
theorem mulN_zeroR (n : Nat) : ∀ a, mulN n a 0 = 0 := by
  induction n with
  | zero => intro b; rfl
  | succ n ih => intro a; simp only [mulN]; rw [show (0 : UInt8) >>> 1 = 0 by decide, ih, if_neg (by decide), UInt8.xor_zero]
theorem mulN_xorL (n : Nat) : ∀ a c b, mulN n (a ^^^ c) b = mulN n a b ^^^ mulN n c b := by
  induction n with
  | zero => intros; exact (UInt8.xor_self).symm
  | succ n ih =>
    intro a c b
    simp only [mulN, dbl_xor, ih]
    by_cases h : b &&& 1 = 1
    · simp only [h, if_true]; exact xor_ac _ _ _ _
    · simp only [h, if_false]; rw [UInt8.zero_xor, UInt8.zero_xor, UInt8.zero_xor]
theorem mulN_dbl (n : Nat) : ∀ a b, mulN n (dbl a) b = dbl (mulN n a b) := by
  induction n with
  | zero => intros; exact dbl_zero.symm
  | succ n ih =>
    intro a b
    simp only [mulN, dbl_xor, ih]
    by_cases h : b &&& 1 = 1
    · simp only [h, if_true]
    · simp only [h, if_false, dbl_zero]
theorem low_xor (b c : UInt8) : ((b ^^^ c) &&& 1 = 1) ↔ ¬ ((b &&& 1 = 1) ↔ (c &&& 1 = 1)) := by
  have h1 : ∀ x : UInt8, (x &&& 1 = 1) ↔ x.toBitVec.getLsbD 0 = true := by apply bytes_all; decide +kernel
  rw [h1, h1, h1, UInt8.toBitVec_xor, BitVec.getLsbD_xor]
  cases b.toBitVec.getLsbD 0 <;> cases c.toBitVec.getLsbD 0 <;> decide
theorem shr_xor (b c : UInt8) : (b ^^^ c) >>> 1 = (b >>> 1) ^^^ (c >>> 1) := by
  apply UInt8.toBitVec_inj.1
  simp [BitVec.ushiftRight_xor_distrib]
theorem mulN_xorR (n : Nat) : ∀ a b c, mulN n a (b ^^^ c) = mulN n a b ^^^ mulN n a c := by
  induction n with
  | zero => intros; exact (UInt8.xor_self).symm
  | succ n ih =>
    intro a b c
    simp only [mulN, shr_xor, ih]
    rw [xor_ac]
    congr 1
    by_cases h1 : b &&& 1 = 1 <;> by_cases h2 : c &&& 1 = 1
    · rw [if_neg (fun h => (low_xor b c).1 h (by simp [h1, h2])), if_pos h1, if_pos h2, UInt8.xor_self]
    · rw [if_pos ((low_xor b c).2 (by simp [h1, h2])), if_pos h1, if_neg h2, UInt8.xor_zero]
    · rw [if_pos ((low_xor b c).2 (by simp [h1, h2])), if_neg h1, if_pos h2, UInt8.zero_xor]
    · rw [if_neg (fun h => (low_xor b c).1 h (by simp [h1, h2])), if_neg h1, if_neg h2, UInt8.xor_self]
theorem one_mul (b : UInt8) : mul 1 b = b := by revert b; apply bytes_all; decide +kernel
theorem mul_zeroL (b : UInt8) : mul 0 b = 0 := mulN_zeroL 8 b
theorem mul_zeroR (a : UInt8) : mul a 0 = 0 := mulN_zeroR 8 a
theorem mul_xorR (a b c : UInt8) : mul a (b ^^^ c) = mul a b ^^^ mul a c := mulN_xorR 8 a b c
theorem mul_xorL (a b c : UInt8) : mul (a ^^^ b) c = mul a c ^^^ mul b c := mulN_xorL 8 a b c
theorem dblN_mul (n : Nat) (a b : UInt8) : mul (dblN n a) b = dblN n (mul a b) := by
  induction n with
  | zero => rfl
  | succ n ih => rw [dblN_succ, dblN_succ, ← ih]; exact mulN_dbl 8 _ b
theorem mul_two (a : UInt8) : mul a 2 = dbl a := by revert a; apply bytes_all; decide +kernel

/-! Powers and logarithms. -/
theorem pw_mul (i j : Nat) : mul (pw i) (pw j) = pw (i + j) := by
  unfold pw
  rw [dblN_mul, one_mul, ← dblN_add, Nat.add_comm]
/-- The powers' row, so that it is reckoned once. -/
def rowFrom : Nat → UInt8 → List UInt8
  | 0, _ => []
  | n + 1, a => a :: rowFrom n (dbl a)
theorem rowFrom_len (n : Nat) : ∀ a, (rowFrom n a).length = n := by
  induction n with
  | zero => intro a; rfl
  | succ n ih => intro a; simp [rowFrom, ih]
theorem rowFrom_get (n : Nat) : ∀ (a : UInt8) (k : Nat), k < n → (rowFrom n a)[k]? = some (dblN k a) := by
  induction n with
  | zero => intro a k h; omega
  | succ n ih =>
    intro a k h
    cases k with
    | zero => rfl
    | succ k => simp only [rowFrom, List.getElem?_cons_succ, dblN]; exact ih _ k (by omega)
def row : List UInt8 := rowFrom 255 1
/-- The logarithm of what is not 0. -/
def lg (a : UInt8) : Nat := row.findIdx (· == a)
theorem lg_all : ∀ i : Fin 256, UInt8.ofNat i.val ≠ 0 → lg (UInt8.ofNat i.val) < 255 ∧ row[lg (UInt8.ofNat i.val)]? = some (UInt8.ofNat i.val) := by decide +kernel
theorem lg_lt (a : UInt8) (h : a ≠ 0) : lg a < 255 := by
  have := lg_all ⟨a.toNat, a.toNat_lt⟩
  simp only [UInt8.ofNat_toNat] at this
  exact (this h).1
theorem pw_lg (a : UInt8) (h : a ≠ 0) : pw (lg a) = a := by
  have := lg_all ⟨a.toNat, a.toNat_lt⟩
  simp only [UInt8.ofNat_toNat] at this
  have h2 := (this h).2
  rw [row, rowFrom_get 255 1 _ (this h).1] at h2
  exact Option.some.inj h2
theorem row_nodup : ∀ i : Fin 255, row.findIdx (· == row.getD i.val 0) = i.val := by decide +kernel
theorem lg_pw (n : Nat) (h : n < 255) : lg (pw n) = n := by
  have := row_nodup ⟨n, h⟩
  have e : row.getD n 0 = pw n := by rw [List.getD, row, rowFrom_get 255 1 n h]; rfl
  simp only [e] at this
  exact this
theorem row_ne : ∀ i : Fin 255, row.getD i.val 0 ≠ 0 := by decide +kernel
theorem pw_period (n : Nat) : pw (n + 255) = pw n := by
  have h : pw 255 = 1 := by decide +kernel
  rw [← pw_mul, h, show pw n = dblN n 1 from rfl, dblN_mul, one_mul]
theorem pw_mod (n : Nat) : pw (n % 255) = pw n := by
  induction n using Nat.strongRecOn with
  | ind n ih =>
    by_cases h : n < 255
    · rw [Nat.mod_eq_of_lt h]
    · have h1 := ih (n - 255) (by omega)
      rw [show n % 255 = (n - 255) % 255 by omega, h1, ← pw_period, show n - 255 + 255 = n by omega]
theorem pw_ne (n : Nat) : pw n ≠ 0 := by
  rw [← pw_mod]
  have hlt : n % 255 < 255 := Nat.mod_lt _ (by omega)
  have := row_ne ⟨n % 255, hlt⟩
  have e : row.getD (n % 255) 0 = pw (n % 255) := by rw [List.getD, row, rowFrom_get 255 1 _ hlt]; rfl
  simp only [e] at this
  exact this
theorem mul_lg (a b : UInt8) (ha : a ≠ 0) (hb : b ≠ 0) : mul a b = pw (lg a + lg b) := by
  rw [← pw_mul, pw_lg a ha, pw_lg b hb]
theorem mul_ne (a b : UInt8) (ha : a ≠ 0) (hb : b ≠ 0) : mul a b ≠ 0 := by rw [mul_lg a b ha hb]; exact pw_ne _
theorem mul_comm (a b : UInt8) : mul a b = mul b a := by
  by_cases ha : a = 0
  · subst ha; rw [mul_zeroL, mul_zeroR]
  by_cases hb : b = 0
  · subst hb; rw [mul_zeroL, mul_zeroR]
  rw [mul_lg a b ha hb, mul_lg b a hb ha, Nat.add_comm]
theorem mul_assoc (a b c : UInt8) : mul a (mul b c) = mul (mul a b) c := by
  by_cases ha : a = 0
  · subst ha; rw [mul_zeroL, mul_zeroL, mul_zeroL]
  by_cases hb : b = 0
  · subst hb; rw [mul_zeroL, mul_zeroR, mul_zeroL]
  by_cases hc : c = 0
  · subst hc; rw [mul_zeroR, mul_zeroR, mul_zeroR]
  rw [← pw_lg a ha, ← pw_lg b hb, ← pw_lg c hc, pw_mul, pw_mul, pw_mul, pw_mul, Nat.add_assoc]
theorem mul_eq_zero (a b : UInt8) : mul a b = 0 ↔ (a = 0 ∨ b = 0) := by
  constructor
  · intro h
    by_cases ha : a = 0
    · exact .inl ha
    by_cases hb : b = 0
    · exact .inr hb
    exact absurd h (mul_ne a b ha hb)
  · rintro (rfl | rfl)
    · exact mul_zeroL b
    · exact mul_zeroR a
/-- The inverse of what is not 0. -/
def inv (a : UInt8) : UInt8 := pw ((255 - lg a) % 255)
theorem mul_inv (a : UInt8) (ha : a ≠ 0) : mul a (inv a) = 1 := by
  have h := lg_lt a ha
  conv => lhs; rw [← pw_lg a ha]
  unfold inv
  rw [lg_pw _ h, pw_mod, pw_mul, show lg a + (255 - lg a) = 0 + 255 by omega, pw_period]; rfl
theorem inv_one (a b : UInt8) (ha : a ≠ 0) (h : mul a b = 1) : b = inv a := by
  have h1 : mul (inv a) (mul a b) = mul (inv a) 1 := by rw [h]
  rw [mul_assoc, mul_comm (inv a) a, mul_inv a ha, one_mul, mul_comm, one_mul] at h1
  exact h1
/-- A power of any number. -/
def pwI (n : Int) : UInt8 := pw (n % 255).toNat
theorem pwI_mul (m n : Int) : mul (pwI m) (pwI n) = pwI (m + n) := by
  unfold pwI
  rw [pw_mul, ← pw_mod]
  congr 1
  omega
theorem pwI_neg (k : Nat) (_h : k < 255) : pwI (-(k : Int)) = pw ((255 - k) % 255) := by
  unfold pwI
  congr 1
  omega
end Caulk.Gf
