import Derived.Test.YtpldnbfbpajbkaaGfMath
namespace Caulk.Gf

/-! The document's own product: as polynomials, then what is above x^7 is taken away. -/
def cl (a b : Nat) : Nat → Nat
  | 0 => 0
  | k + 1 => if b.testBit k then cl a b k ^^^ (a <<< k) else cl a b k
def rd (p : Nat) : Nat → Nat
  | 0 => p
  | j + 1 => if (rd p j).testBit (14 - j) then rd p j ^^^ (285 <<< (6 - j)) else rd p j
theorem nxor_ac (a b c d : Nat) : (a ^^^ b) ^^^ (c ^^^ d) = (a ^^^ c) ^^^ (b ^^^ d) := by
  rw [Nat.xor_assoc, Nat.xor_assoc, ← Nat.xor_assoc b c d, Nat.xor_comm b c, Nat.xor_assoc c b d]
theorem rd_xor (p q : Nat) : ∀ j, rd (p ^^^ q) j = rd p j ^^^ rd q j
  | 0 => rfl
  | j + 1 => by
    simp only [rd, rd_xor p q j, Nat.testBit_xor]
    cases (rd p j).testBit (14 - j) <;> cases (rd q j).testBit (14 - j) <;> simp
    · rw [Nat.xor_assoc]
    · rw [Nat.xor_assoc, Nat.xor_assoc, Nat.xor_comm (rd q j)]
    · rw [nxor_ac, Nat.xor_self, Nat.xor_zero]
def pb (b : Nat) : Nat → UInt8
  | 0 => 0
  | k + 1 => if b.testBit k then pb b k ^^^ pw k else pb b k
theorem rd_shift : ∀ k : Fin 8, ∀ i : Fin 256, rd ((UInt8.ofNat i.val).toNat <<< k.val) 7 = (dblN k.val (UInt8.ofNat i.val)).toNat := by decide +kernel
theorem pb_all : ∀ i : Fin 256, pb i.val 8 = UInt8.ofNat i.val := by decide +kernel
theorem mul_pw (a : UInt8) (k : Nat) : mul a (pw k) = dblN k a := by
  rw [mul_comm, show pw k = dblN k 1 from rfl, dblN_mul, one_mul]
theorem rd_cl (a b : UInt8) : ∀ k, k ≤ 8 → rd (cl a.toNat b.toNat k) 7 = (mul a (pb b.toNat k)).toNat
  | 0, _ => by
    show rd 0 7 = (mul a 0).toNat
    rw [mul_zeroR]; decide
  | k + 1, h => by
    have ih := rd_cl a b k (by omega)
    simp only [cl, pb]
    by_cases hb : b.toNat.testBit k
    · rw [if_pos hb, if_pos hb, rd_xor, ih, mul_xorR, UInt8.toNat_xor, mul_pw]
      congr 1
      have := rd_shift ⟨k, by omega⟩ ⟨a.toNat, a.toNat_lt⟩
      simpa using this
    · rw [if_neg hb, if_neg hb]; exact ih
theorem ref_mul (a b : UInt8) : rd (cl a.toNat b.toNat 8) 7 = (mul a b).toNat := by
  rw [rd_cl a b 8 (Nat.le_refl _)]
  have := pb_all ⟨b.toNat, b.toNat_lt⟩
  simp only [UInt8.ofNat_toNat] at this
  rw [this]
theorem cl_lt (a b : UInt8) : ∀ k, k ≤ 8 → cl a.toNat b.toNat k < 2 ^ 16
  | 0, _ => by show 0 < 2 ^ 16; decide
  | k + 1, h => by
    have ih := cl_lt a b k (by omega)
    simp only [cl]
    split
    · apply Nat.xor_lt_two_pow ih
      rw [Nat.shiftLeft_eq]
      have h1 := a.toNat_lt
      have h2 : 2 ^ k ≤ 2 ^ 7 := Nat.pow_le_pow_right (by omega) (by omega)
      have : a.toNat * 2 ^ k ≤ 255 * 2 ^ 7 := Nat.mul_le_mul (by omega) h2
      omega
    · exact ih
theorem rd_lt (p : Nat) (hp : p < 2 ^ 16) : ∀ j, j ≤ 7 → rd p j < 2 ^ 16
  | 0, _ => hp
  | j + 1, h => by
    have ih := rd_lt p hp j (by omega)
    simp only [rd]
    split
    · apply Nat.xor_lt_two_pow ih
      have : ∀ j : Fin 7, 285 <<< (6 - j.val) < 2 ^ 16 := by decide
      exact this ⟨j, by omega⟩
    · exact ih
end Caulk.Gf
