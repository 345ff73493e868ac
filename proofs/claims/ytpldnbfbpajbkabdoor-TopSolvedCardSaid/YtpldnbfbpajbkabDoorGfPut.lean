import Derived.Test.YtpldnbfbpajbkabDoorGfMath
namespace Caulk.Gf
/-- To each byte the byte at its place, times c, is put, as far as both go. -/
def putL (c : UInt8) : List UInt8 → List UInt8 → List UInt8
  | x :: l, y :: s => (x ^^^ mul c y) :: putL c l s
  | l, _ => l
theorem putL_nil (c : UInt8) : ∀ l, putL c l [] = l
  | [] => rfl
  | _ :: _ => rfl
theorem putL_len (c : UInt8) : ∀ l s, (putL c l s).length = l.length
  | [], _ => by simp [putL]
  | _ :: _, [] => rfl
  | x :: l, y :: s => by simp only [putL, List.length_cons]; rw [putL_len c l s]
theorem putL_getD (c : UInt8) : ∀ (l s : List UInt8) (k : Nat), (putL c l (s.take k)).getD k 0 = l.getD k 0
  | [], _, k => by simp [putL]
  | x :: l, [], k => by rw [List.take_nil, putL_nil]
  | x :: l, y :: s, 0 => by rw [List.take_zero, putL_nil]
  | x :: l, y :: s, k + 1 => by simp only [List.take_succ_cons, putL, List.getD_cons_succ]; exact putL_getD c l s k
theorem putL_step (c : UInt8) : ∀ (l s : List UInt8) (k : Nat), k < l.length → k < s.length →
    putL c l (s.take (k + 1)) = (putL c l (s.take k)).set k (l.getD k 0 ^^^ mul c (s.getD k 0))
  | [], _, k, h, _ => by simp at h
  | x :: l, [], k, _, h => by simp at h
  | x :: l, y :: s, 0, _, _ => by simp [putL, putL_nil]
  | x :: l, y :: s, k + 1, h1, h2 => by
    simp only [List.take_succ_cons, putL, List.getD_cons_succ, List.set_cons_succ]
    rw [putL_step c l s k (by simpa using h1) (by simpa using h2)]
theorem putL_all (c : UInt8) : ∀ (l s : List UInt8) (n : Nat), n = min l.length s.length → putL c l (s.take n) = putL c l s
  | [], s, n, h => by simp at h; subst h; simp [putL]
  | x :: l, [], n, h => by simp [putL]
  | x :: l, y :: s, 0, h => by simp at h
  | x :: l, y :: s, n + 1, h => by
    simp only [List.take_succ_cons, putL]
    rw [putL_all c l s n (by simp at h; omega)]
theorem putL_twice (c : UInt8) : ∀ l s, putL c (putL c l s) s = l
  | [], _ => by simp [putL]
  | _ :: _, [] => rfl
  | x :: l, y :: s => by
    simp only [putL]
    rw [putL_twice c l s, UInt8.xor_assoc, UInt8.xor_self, UInt8.xor_zero]
/-- A string's bytes, each times c. -/
def scaleL (c : UInt8) (s : List UInt8) : List UInt8 := s.map (mul c)
theorem putL_zero (c : UInt8) : ∀ s, putL c (List.replicate s.length 0) s = scaleL c s
  | [] => rfl
  | y :: s => by
    show (0 ^^^ mul c y) :: putL c (List.replicate s.length 0) s = mul c y :: scaleL c s
    rw [putL_zero c s, UInt8.zero_xor]
/-- A byte's low half, and its high one. -/
def lowN (y : UInt8) : Nat := (y &&& 15).toNat
def highN (y : UInt8) : Nat := (y >>> 4).toNat
theorem half_all : ∀ i : Fin 256, lowN (UInt8.ofNat i.val) < 16 ∧ highN (UInt8.ofNat i.val) < 16 ∧ UInt8.ofNat (lowN (UInt8.ofNat i.val)) ^^^ mul 16 (UInt8.ofNat (highN (UInt8.ofNat i.val))) = UInt8.ofNat i.val := by decide +kernel
theorem half_of (y : UInt8) : lowN y < 16 ∧ highN y < 16 ∧ UInt8.ofNat (lowN y) ^^^ mul 16 (UInt8.ofNat (highN y)) = y := by
  have := half_all ⟨y.toNat, y.toNat_lt⟩
  simpa only [UInt8.ofNat_toNat] using this
theorem mul_halves (c y : UInt8) : mul c (UInt8.ofNat (lowN y)) ^^^ mul (mul c 16) (UInt8.ofNat (highN y)) = mul c y := by
  rw [← mul_assoc, ← mul_xorR, (half_of y).2.2]
theorem scale_back (c : UInt8) (hc : c ≠ 0) (s : List UInt8) : scaleL (inv c) (scaleL c s) = s := by
  unfold scaleL
  rw [List.map_map]
  have : (mul (inv c) ∘ mul c) = id := by
    funext y
    show mul (inv c) (mul c y) = y
    rw [mul_assoc, mul_comm (inv c) c, mul_inv c hc, one_mul]
  rw [this, List.map_id]
theorem scale_zero (s : List UInt8) : scaleL 0 s = List.replicate s.length 0 := by
  unfold scaleL
  induction s with
  | nil => rfl
  | cons y s ih => rw [List.map_cons, ih, mul_zeroL]; rfl
end Caulk.Gf
