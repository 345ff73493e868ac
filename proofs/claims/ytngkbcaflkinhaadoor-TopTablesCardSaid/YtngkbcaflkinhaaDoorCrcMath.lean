namespace Caulk.Crc

abbrev W := BitVec 32
/-- The polynomial, its bits turned round. -/
def P : W := 0x82f63b78#32
/-- One bit 0 is taken in. -/
def stp (r : W) : W := (r >>> 1) ^^^ (if r.getLsbD 0 then P else 0)
def stpN : Nat → W → W
  | 0, r => r
  | n + 1, r => stpN n (stp r)

theorem stp_xor (a b : W) : stp (a ^^^ b) = stp a ^^^ stp b := by
  unfold stp
  rw [BitVec.ushiftRight_xor_distrib, BitVec.getLsbD_xor]
  have h3 : ∀ x y z : W, x ^^^ y ^^^ z = x ^^^ (y ^^^ z) := fun x y z => BitVec.xor_assoc x y z
  have hc : ∀ x y : W, x ^^^ y = y ^^^ x := fun x y => BitVec.xor_comm x y
  cases a.getLsbD 0 <;> cases b.getLsbD 0 <;> simp
  · rw [h3]
  · rw [h3, h3, hc P]
  · rw [h3, hc P, h3, BitVec.xor_self, BitVec.xor_zero]
theorem stpN_xor (n : Nat) : ∀ a b : W, stpN n (a ^^^ b) = stpN n a ^^^ stpN n b := by
  induction n with
  | zero => intros; rfl
  | succ n ih => intro a b; simp only [stpN, stp_xor, ih]
theorem stp_zero : stp 0 = 0 := by decide
theorem stpN_zero (n : Nat) : stpN n 0 = 0 := by
  induction n with
  | zero => rfl
  | succ n ih => simp only [stpN, stp_zero, ih]
theorem stpN_add (m n : Nat) : ∀ r : W, stpN (m + n) r = stpN n (stpN m r) := by
  induction m with
  | zero => intro r; simp [stpN]
  | succ m ih => intro r; rw [Nat.succ_add]; simp only [stpN, ih]
theorem stp_even (r : W) (h : r.getLsbD 0 = false) : stp r = r >>> 1 := by
  unfold stp; rw [h]; simp
/-- A step loses nothing. -/
theorem stp_inj0 (r : W) (h : stp r = 0) : r = 0 := by
  unfold stp at h
  cases hb : r.getLsbD 0 with
  | true =>
    exfalso
    rw [hb] at h
    have := congrArg (fun x : W => x.getLsbD 31) h
    simp only [BitVec.getLsbD_xor, BitVec.getLsbD_ushiftRight, if_pos] at this
    rw [BitVec.getLsbD_of_ge r (1 + 31) (by omega)] at this
    revert this; decide
  | false =>
    rw [hb] at h
    simp at h
    apply BitVec.eq_of_getLsbD_eq
    intro i hi
    rcases i with _ | i
    · rw [hb]; simp
    · have := congrArg (fun x : W => x.getLsbD i) h
      simp only [BitVec.getLsbD_ushiftRight] at this
      rw [Nat.add_comm] at this
      rw [this]; simp
theorem stpN_inj0 (n : Nat) : ∀ r : W, stpN n r = 0 → r = 0 := by
  induction n with
  | zero => intro r h; exact h
  | succ n ih => intro r h; exact stp_inj0 r (ih _ h)

/-- One byte is taken in. -/
def byt (r : W) (b : UInt8) : W := stpN 8 (r ^^^ b.toBitVec.setWidth 32)
def add (r : W) (l : List UInt8) : W := l.foldl byt r
def sum (l : List UInt8) : W := ~~~ (add 0xffffffff#32 l)
theorem add_append (r : W) (l m : List UInt8) : add r (l ++ m) = add (add r l) m := List.foldl_append

/-! Nibbles. -/
def tabN : List Nat := [0, 274646895, 549293790, 820201905, 1098587580, 1361435347, 1640403810, 1905808397, 2197175160, 2460548119, 2722870694, 2987750089, 3280807620, 3553878443, 3811616794, 4084100981]
def tabV (i : Nat) : W := BitVec.ofNat 32 (tabN.getD i 0)
def nib (r : W) : W := tabV (r &&& 15#32).toNat ^^^ (r >>> 4)

theorem low_lt (r : W) : (r &&& 15#32).toNat < 16 := by
  rw [BitVec.toNat_and]
  exact Nat.lt_of_le_of_lt Nat.and_le_right (by decide)
theorem shift_out (n : Nat) (hn : n ≤ 32) : ∀ x : W, (∀ i, i < n → x.getLsbD i = false) → stpN n x = x >>> n := by
  induction n with
  | zero => intro x _; simp [stpN]
  | succ n ih =>
    intro x hx
    simp only [stpN]
    rw [stp_even x (hx 0 (by omega)), ih (by omega)]
    · apply BitVec.eq_of_getLsbD_eq
      intro i hi
      simp only [BitVec.getLsbD_ushiftRight]
      congr 1; omega
    · intro i hi
      rw [BitVec.getLsbD_ushiftRight, Nat.add_comm]
      exact hx _ (by omega)
theorem tab_is : ∀ i : Nat, i < 16 → stpN 4 (BitVec.ofNat 32 i) = tabV i := by decide +kernel
theorem mask_bit (n : Nat) : ∀ i, i < 32 → (BitVec.ofNat 32 (2 ^ n - 1)).getLsbD i = decide (i < n) := by
  intro i hi
  rw [BitVec.getLsbD_ofNat, Nat.testBit_two_pow_sub_one]
  simp [hi]
theorem split_low (n : Nat) (r : W) : r = (r &&& BitVec.ofNat 32 (2 ^ n - 1)) ^^^ (r &&& ~~~ BitVec.ofNat 32 (2 ^ n - 1)) := by
  apply BitVec.eq_of_getLsbD_eq
  intro i hi
  simp only [BitVec.getLsbD_xor, BitVec.getLsbD_and, BitVec.getLsbD_not, mask_bit n i hi, hi]
  cases r.getLsbD i <;> cases decide (i < n) <;> rfl
theorem high_out (n : Nat) (hn : n ≤ 32) (r : W) : stpN n (r &&& ~~~ BitVec.ofNat 32 (2 ^ n - 1)) = r >>> n := by
  rw [shift_out n hn]
  · apply BitVec.eq_of_getLsbD_eq
    intro i hi
    simp only [BitVec.getLsbD_ushiftRight, BitVec.getLsbD_and, BitVec.getLsbD_not]
    by_cases h : n + i < 32
    · rw [mask_bit n _ h]; simp [h]
    · rw [BitVec.getLsbD_of_ge r _ (by omega)]; simp
  · intro i hi
    simp only [BitVec.getLsbD_and, BitVec.getLsbD_not]
    rw [mask_bit n _ (by omega)]; simp [hi]
/-- What is taken out of a rest by n steps: the low bits' share, and the high bits, shifted. -/
theorem stpN_split (n : Nat) (hn : n ≤ 32) (r : W) : stpN n r = stpN n (r &&& BitVec.ofNat 32 (2 ^ n - 1)) ^^^ (r >>> n) := by
  conv => lhs; rw [split_low n r, stpN_xor, high_out n hn]
theorem nib_is (r : W) : nib r = stpN 4 r := by
  rw [stpN_split 4 (by omega)]
  unfold nib
  have h := tab_is (r &&& 15#32).toNat (low_lt r)
  rw [BitVec.ofNat_toNat, BitVec.setWidth_eq] at h
  rw [← h]
theorem byt_nib (r : W) (b : UInt8) : nib (nib (r ^^^ b.toBitVec.setWidth 32)) = byt r b := by
  rw [nib_is, nib_is, ← stpN_add]; rfl

/-! Bits. -/
/-- The bit k of a byte is taken in, as the document says it. -/
def bit (r : W) (b : Bool) : W := if r.getLsbD 0 != b then (r >>> 1) ^^^ P else r >>> 1
theorem bit_is (r : W) (b : Bool) : bit r b = stp (r ^^^ (BitVec.ofBool b).setWidth 32) := by
  rw [stp_xor]
  unfold bit
  have h1 : stp ((BitVec.ofBool true).setWidth 32) = P := by decide
  have h0 : stp ((BitVec.ofBool false).setWidth 32) = 0 := by decide
  cases b
  · rw [h0]; unfold stp; cases r.getLsbD 0 <;> simp
  · rw [h1]; unfold stp; cases r.getLsbD 0 <;> simp [BitVec.xor_assoc]
def bitsTo (r : W) (b : UInt8) : Nat → W
  | 0 => r
  | k + 1 => bit (bitsTo r b k) (b.toBitVec.getLsbD k)
theorem bitsTo_is (r : W) (b : UInt8) : ∀ k, k ≤ 8 → bitsTo r b k = stpN k (r ^^^ (b.toBitVec.setWidth 32 &&& BitVec.ofNat 32 (2 ^ k - 1)))
  | 0, _ => by simp [bitsTo, stpN]
  | k + 1, h => by
    have one : ∀ r : W, stp r = stpN 1 r := fun _ => rfl
    rw [bitsTo, bitsTo_is r b k (by omega), bit_is, one, show k + 1 = k + 1 from rfl, stpN_add k 1, ← one, ← one]
    congr 1
    rw [stpN_xor, stpN_xor, BitVec.xor_assoc]
    congr 1
    rw [show ∀ x y z : W, x ^^^ y = z ↔ y = x ^^^ z from fun x y z => ⟨fun e => by rw [← e, ← BitVec.xor_assoc, BitVec.xor_self, BitVec.zero_xor], fun e => by rw [e, ← BitVec.xor_assoc, BitVec.xor_self, BitVec.zero_xor]⟩, ← stpN_xor]
    have key : (b.toBitVec.setWidth 32 &&& BitVec.ofNat 32 (2 ^ k - 1)) ^^^ (b.toBitVec.setWidth 32 &&& BitVec.ofNat 32 (2 ^ (k + 1) - 1)) = ((BitVec.ofBool (b.toBitVec.getLsbD k)).setWidth 32) <<< k := by
      apply BitVec.eq_of_getLsbD_eq
      intro i hi
      simp only [BitVec.getLsbD_xor, BitVec.getLsbD_and, mask_bit _ i hi, BitVec.getLsbD_shiftLeft, BitVec.getLsbD_setWidth, hi, decide_true, Bool.true_and]
      by_cases h1 : i < k
      · simp [h1, show i < k + 1 by omega]
      · by_cases h2 : i = k
        · subst h2; simp
        · have : ¬ i < k + 1 := by omega
          simp [h1, this]
          intro _ h3; 
          omega
    rw [key, shift_out k (by omega)]
    · apply BitVec.eq_of_getLsbD_eq
      intro i hi
      simp only [BitVec.getLsbD_ushiftRight, BitVec.getLsbD_shiftLeft, BitVec.getLsbD_setWidth]
      by_cases h1 : k + i < 32
      · simp [h1, hi]
      · have : 1 ≤ i := by omega
        simp [h1]
        intro _ h3
        omega
    · intro i hi
      simp [BitVec.getLsbD_shiftLeft, hi]
theorem bits_byt (r : W) (b : UInt8) : bitsTo r b 8 = byt r b := by
  rw [bitsTo_is r b 8 (by omega)]
  unfold byt
  congr 2
  apply BitVec.eq_of_getLsbD_eq
  intro i hi
  simp only [BitVec.getLsbD_and, mask_bit _ i hi, BitVec.getLsbD_setWidth]
  by_cases h : i < 8
  · simp [h]
  · rw [BitVec.getLsbD_of_ge b.toBitVec i (by omega)]; simp

/-! What is put together. -/
def z2 : List UInt8 → List UInt8 → List UInt8
  | a :: l, b :: m => (a ^^^ b) :: z2 l m
  | _, _ => []
theorem byt_xor (r q : W) (a b : UInt8) : byt (r ^^^ q) (a ^^^ b) = byt r a ^^^ byt q b := by
  unfold byt
  rw [← stpN_xor]
  congr 1
  rw [UInt8.toBitVec_xor, BitVec.setWidth_xor]
  generalize a.toBitVec.setWidth 32 = x
  generalize b.toBitVec.setWidth 32 = y
  rw [BitVec.xor_assoc, BitVec.xor_assoc, ← BitVec.xor_assoc q x y, BitVec.xor_comm q x, BitVec.xor_assoc]
theorem add_xor : ∀ (a b : List UInt8) (r q : W), a.length = b.length → add (r ^^^ q) (z2 a b) = add r a ^^^ add q b
  | [], [], r, q, _ => rfl
  | x :: a, y :: b, r, q, h => by
    show add (byt (r ^^^ q) (x ^^^ y)) (z2 a b) = add (byt r x) a ^^^ add (byt q y) b
    rw [byt_xor]
    exact add_xor a b _ _ (by simpa using h)
theorem z2_zero : ∀ a : List UInt8, z2 a (List.replicate a.length 0) = a
  | [] => rfl
  | x :: a => by
    show (x ^^^ 0) :: z2 a (List.replicate a.length 0) = x :: a
    rw [z2_zero a, UInt8.xor_zero]
theorem z2_len : ∀ (a b : List UInt8), a.length = b.length → (z2 a b).length = a.length
  | [], [], _ => rfl
  | x :: a, y :: b, h => by simp only [z2, List.length_cons]; rw [z2_len a b (by simpa using h)]
theorem xor4 (a b c d : W) (h : c ^^^ d = a ^^^ b) : a ^^^ b ^^^ c ^^^ d = 0 := by
  rw [BitVec.xor_assoc (a ^^^ b), h, BitVec.xor_self]
  rfl
theorem together (a b : List UInt8) (h : a.length = b.length) :
    sum a ^^^ sum b ^^^ sum (z2 a b) ^^^ sum (List.replicate a.length 0) = 0 := by
  apply xor4
  unfold sum
  have e : ∀ x y : W, ~~~x ^^^ ~~~y = x ^^^ y := by
    intro x y
    apply BitVec.eq_of_getLsbD_eq
    intro i hi
    simp only [BitVec.getLsbD_xor, BitVec.getLsbD_not, hi]
    cases x.getLsbD i <;> cases y.getLsbD i <;> rfl
  rw [e, e, ← add_xor _ _ _ _ (by rw [z2_len a b h]; simp), ← add_xor a b _ _ h, show (z2 a b) = z2 (z2 a b) (List.replicate a.length 0) from ?_, ]
  · rw [← z2_len a b h, z2_zero, z2_zero]
  · rw [← z2_len a b h, z2_zero]

/-! A bit that is turned. -/
theorem add_zero_part : ∀ (l : List UInt8) (r d : W), add (r ^^^ d) l = add r l ^^^ stpN (8 * l.length) d
  | [], r, d => rfl
  | b :: l, r, d => by
    show add (byt (r ^^^ d) b) l = add (byt r b) l ^^^ stpN (8 * (l.length + 1)) d
    have e : byt (r ^^^ d) b = byt r b ^^^ stpN 8 d := by
      unfold byt
      rw [← stpN_xor, BitVec.xor_assoc, BitVec.xor_comm d, ← BitVec.xor_assoc]
    rw [e, add_zero_part l, show 8 * (l.length + 1) = 8 + 8 * l.length by omega, stpN_add]
def flip (l : List UInt8) (p : Nat) : List UInt8 := l.set (p / 8) (l.getD (p / 8) 0 ^^^ (1 <<< UInt8.ofNat (p % 8)))
theorem flip_len (l : List UInt8) (p : Nat) : (flip l p).length = l.length := by simp [flip]
theorem one_shift (i : Nat) (hi : i < 32) : stpN i (1#32 <<< i) = 1#32 := by
  rw [shift_out i (by omega)]
  · apply BitVec.eq_of_getLsbD_eq
    intro j hj
    simp only [BitVec.getLsbD_ushiftRight, BitVec.getLsbD_shiftLeft]
    by_cases h : i + j < 32
    · simp [h]
    · have : j ≠ 0 := by omega
      simp [h, BitVec.getLsbD_one, this]
  · intro j hj
    simp [BitVec.getLsbD_shiftLeft, hj]
theorem byte_one (q : Nat) (hq : q < 8) : ((1 <<< UInt8.ofNat q : UInt8)).toBitVec.setWidth 32 = 1#32 <<< q := by
  have : ∀ q : Nat, q < 8 → ((1 <<< UInt8.ofNat q : UInt8)).toBitVec.setWidth 32 = 1#32 <<< q := by decide
  exact this q hq
theorem add_flip (l : List UInt8) (r : W) (p : Nat) (hp : p < 8 * l.length) : add r (flip l p) = add r l ^^^ stpN (8 * l.length - p) 1#32 := by
  have hk : p / 8 < l.length := by omega
  have e1 : l = l.take (p / 8) ++ l.getD (p / 8) 0 :: l.drop (p / 8 + 1) := by
    rw [List.getD_eq_getElem?_getD, List.getElem?_eq_getElem hk, Option.getD_some, ← List.drop_eq_getElem_cons hk, List.take_append_drop]
  have e2 : flip l p = l.take (p / 8) ++ (l.getD (p / 8) 0 ^^^ (1 <<< UInt8.ofNat (p % 8))) :: l.drop (p / 8 + 1) := by
    unfold flip
    rw [List.set_eq_take_append_cons_drop, if_pos hk]
  rw [e2, add_append]
  conv => rhs; rw [e1, add_append]
  generalize add r (l.take (p / 8)) = r
  generalize l.getD (p / 8) 0 = b
  show add (byt r (b ^^^ _)) _ = add (byt r b) _ ^^^ _
  have e3 : byt r (b ^^^ (1 <<< UInt8.ofNat (p % 8))) = byt r b ^^^ stpN (8 - p % 8) 1#32 := by
    unfold byt
    rw [UInt8.toBitVec_xor, BitVec.setWidth_xor, byte_one _ (by omega), ← BitVec.xor_assoc, stpN_xor]
    congr 1
    have e8 : ∀ x : W, stpN 8 x = stpN (8 - p % 8) (stpN (p % 8) x) := by
      intro x
      rw [← stpN_add]
      congr 1
      omega
    rw [e8, one_shift _ (by omega)]
  rw [e3, add_zero_part, ← stpN_add]
  congr 2
  simp only [List.length_append, List.length_take, List.length_cons, List.length_drop]
  omega
/-- The bytes in which those of the first i bits of 'by' are turned that lie within. -/
def burstTo (l : List UInt8) (bit : Nat) (c : W) : Nat → List UInt8
  | 0 => l
  | i + 1 => if c.getLsbD i = true ∧ bit + i < 8 * l.length then flip (burstTo l bit c i) (bit + i) else burstTo l bit c i
theorem burst_len (l : List UInt8) (bit : Nat) (c : W) : ∀ i, (burstTo l bit c i).length = l.length
  | 0 => rfl
  | i + 1 => by
    unfold burstTo
    split
    · rw [flip_len, burst_len l bit c i]
    · exact burst_len l bit c i
def burstMask (n bit : Nat) (c : W) : Nat → W
  | 0 => 0
  | i + 1 => if c.getLsbD i = true ∧ bit + i < n then burstMask n bit c i ^^^ (1#32 <<< i) else burstMask n bit c i
theorem add_burst (l : List UInt8) (r : W) (bit : Nat) (c : W) : ∀ i, i ≤ 32 → add r (burstTo l bit c i) = add r l ^^^ stpN (8 * l.length - bit) (burstMask (8 * l.length) bit c i)
  | 0, _ => by
    show add r l = add r l ^^^ stpN _ 0
    rw [stpN_zero, show (0 : W) = 0#32 from rfl, BitVec.xor_zero]
  | i + 1, h => by
    unfold burstTo burstMask
    split
    · rename_i hc
      rw [add_flip _ _ _ (by rw [burst_len]; omega), burst_len, add_burst l r bit c i (by omega), BitVec.xor_assoc, stpN_xor]
      congr 2
      rw [show 8 * l.length - bit = i + (8 * l.length - (bit + i)) by omega, stpN_add i, one_shift i (by omega)]
    · exact add_burst l r bit c i (by omega)
theorem mask_same (l : List UInt8) (bit : Nat) (c : W) : ∀ i, i ≤ 32 → (burstMask (8 * l.length) bit c i = 0 → burstTo l bit c i = l) ∧ (∀ j, i ≤ j → (burstMask (8 * l.length) bit c i).getLsbD j = false)
  | 0, _ => by simp [burstTo, burstMask]
  | i + 1, h => by
    obtain ⟨h1, h2⟩ := mask_same l bit c i (by omega)
    unfold burstTo burstMask
    split
    · refine ⟨fun e => ?_, fun j hj => ?_⟩
      · exfalso
        have := congrArg (fun x : W => x.getLsbD i) e
        simp only [BitVec.getLsbD_xor, h2 i (Nat.le_refl _), BitVec.getLsbD_shiftLeft] at this
        simp at this
        omega
      · rw [BitVec.getLsbD_xor, h2 j (by omega), BitVec.getLsbD_shiftLeft]
        have : ¬ j < i := by omega
        have h3 : j - i ≠ 0 := by omega
        simp [BitVec.getLsbD_one, h3]
    · exact ⟨h1, fun j hj => h2 j (by omega)⟩
/-- A burst of at most 32 bits is found. -/
theorem found (l : List UInt8) (bit : Nat) (c : W) (h : sum (burstTo l bit c 32) = sum l) : burstTo l bit c 32 = l := by
  have h1 : add 0xffffffff#32 (burstTo l bit c 32) = add 0xffffffff#32 l := by
    have e : ∀ x y : W, ~~~x = ~~~y → x = y := by
      intro x y h
      have := congrArg (~~~ ·) h
      simpa using this
    exact e _ _ h
  rw [add_burst _ _ _ _ 32 (by omega)] at h1
  have h2 : stpN (8 * l.length - bit) (burstMask (8 * l.length) bit c 32) = 0 := by
    have := congrArg (add 0xffffffff#32 l ^^^ ·) h1
    simp only [← BitVec.xor_assoc, BitVec.xor_self, BitVec.zero_xor] at this
    exact this
  exact (mask_same l bit c 32 (by omega)).1 (stpN_inj0 _ _ h2)

theorem z2_append : ∀ (a b c d : List UInt8), a.length = b.length → z2 (a ++ c) (b ++ d) = z2 a b ++ z2 c d
  | [], [], _, _, _ => rfl
  | x :: a, y :: b, c, d, h => by
    show (x ^^^ y) :: z2 (a ++ c) (b ++ d) = _
    rw [z2_append a b c d (by simpa using h)]; rfl
theorem z2_snoc (a b : List UInt8) (k : Nat) (ha : k < a.length) (hb : k < b.length) (n : Nat) (hn : k < n) :
    (z2 (a.take k) (b.take k) ++ List.replicate (n - k) 0).set k (a.getD k 0 ^^^ b.getD k 0) = z2 (a.take (k + 1)) (b.take (k + 1)) ++ List.replicate (n - (k + 1)) 0 := by
  have hl : (a.take k).length = (b.take k).length := by simp; omega
  have hk : (z2 (a.take k) (b.take k)).length = k := by rw [z2_len _ _ hl]; simp; omega
  rw [show n - k = (n - (k + 1)) + 1 by omega, List.replicate_succ, List.set_append_right k _ (by omega), hk, Nat.sub_self, List.set_cons_zero,
    List.take_succ_eq_append_getElem ha, List.take_succ_eq_append_getElem hb, z2_append _ _ _ _ hl]
  simp [z2, List.getD, ha, hb]

theorem sum_check : sum [49, 50, 51, 52, 53, 54, 55, 56, 57] = 0xe3069283#32 := by decide +kernel
end Caulk.Crc

