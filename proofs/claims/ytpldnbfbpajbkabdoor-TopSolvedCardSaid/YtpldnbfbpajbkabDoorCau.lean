import Derived.Test.YtpldnbfbpajbkabDoorLin2
namespace Caulk.Lin
open Caulk.Gf

/-! Cauchy's matrices: no sum of 1/(a+b_j) with too many noughts. -/
def cs (a : UInt8) : List (UInt8 × UInt8) → UInt8
  | [] => 0
  | p :: l => mul p.2 (inv (a ^^^ p.1)) ^^^ cs a l
theorem xor_ne {a b : UInt8} (h : a ≠ b) : a ^^^ b ≠ 0 := fun e => h (xor_eq_zero e)
/-- One term of the step. -/
theorem cau_term {a0 a b0 b x : UInt8} (h1 : a0 ≠ b) (h2 : a ≠ b) :
    mul (a0 ^^^ a) (mul (mul x (mul (b0 ^^^ b) (inv (a0 ^^^ b)))) (inv (a ^^^ b))) = mul (a0 ^^^ b0) (mul x (inv (a0 ^^^ b))) ^^^ mul (a ^^^ b0) (mul x (inv (a ^^^ b))) := by
  have hs := mul_inv _ (xor_ne h1)
  have ht := mul_inv _ (xor_ne h2)
  have e1 : a0 ^^^ a = (a0 ^^^ b) ^^^ (a ^^^ b) := by rw [UInt8.xor_assoc, ← UInt8.xor_assoc b a b, UInt8.xor_comm b a, UInt8.xor_assoc a b b, UInt8.xor_self, UInt8.xor_zero]
  have e2 : a0 ^^^ b0 = (a0 ^^^ b) ^^^ (b0 ^^^ b) := by rw [UInt8.xor_assoc, ← UInt8.xor_assoc b b0 b, UInt8.xor_comm b b0, UInt8.xor_assoc b0 b b, UInt8.xor_self, UInt8.xor_zero]
  have e3 : a ^^^ b0 = (a ^^^ b) ^^^ (b0 ^^^ b) := by rw [UInt8.xor_assoc, ← UInt8.xor_assoc b b0 b, UInt8.xor_comm b b0, UInt8.xor_assoc b0 b b, UInt8.xor_self, UInt8.xor_zero]
  rw [e1, e2, e3]
  generalize a0 ^^^ b = s at *
  generalize a ^^^ b = t at *
  generalize b0 ^^^ b = d at *
  generalize inv s = p at *
  generalize inv t = q at *
  -- everything times x
  have f1 : mul (s ^^^ t) (mul (mul x (mul d p)) q) = mul x (mul d q ^^^ mul d p) := by
    rw [mul_xorL, mul_xorR]
    congr 1
    · rw [mul_comm (mul x (mul d p)) q, mul_assoc, mul_comm s q, ← mul_assoc q s, mul_assoc s x, mul_comm s x, ← mul_assoc x s, mul_assoc s d, mul_comm s d, ← mul_assoc d s, hs, mul_comm d 1, one_mul, mul_assoc, mul_comm q x, ← mul_assoc x q, mul_comm q d]
    · rw [mul_comm (mul x (mul d p)) q, mul_assoc, ht, one_mul]
  have f2 : mul (s ^^^ d) (mul x p) = mul x (1 ^^^ mul d p) := by
    rw [mul_assoc, mul_comm _ x, ← mul_assoc, mul_xorL, hs]
  have f3 : mul (t ^^^ d) (mul x q) = mul x (1 ^^^ mul d q) := by
    rw [mul_assoc, mul_comm _ x, ← mul_assoc, mul_xorL, ht]
  rw [f1, f2, f3, ← mul_xorR x (1 ^^^ mul d p)]
  congr 1
  rw [xor_ac, UInt8.xor_self, UInt8.zero_xor, UInt8.xor_comm]
theorem cau_sum {a0 a b0 : UInt8} : ∀ (l : List (UInt8 × UInt8)), (∀ p, p ∈ l → a0 ≠ p.1 ∧ a ≠ p.1) →
    mul (a0 ^^^ a) (cs a (l.map fun p => (p.1, mul p.2 (mul (b0 ^^^ p.1) (inv (a0 ^^^ p.1)))))) = mul (a0 ^^^ b0) (cs a0 l) ^^^ mul (a ^^^ b0) (cs a l)
  | [], _ => by simp only [List.map_nil, cs, mul_zeroR]; rfl
  | p :: l, h => by
    simp only [List.map_cons, cs]
    rw [mul_xorR, cau_sum l (fun q hq => h q (List.mem_cons_of_mem _ hq)), mul_xorR, mul_xorR, xor_ac (mul (a0 ^^^ b0) _)]
    congr 1
    exact cau_term (h p (List.mem_cons_self)).1 (h p (List.mem_cons_self)).2
/-- As many noughts as terms, at places apart from one another: all is nought. -/
theorem cau_zero : ∀ (l : List (UInt8 × UInt8)) (as : List UInt8), l.length ≤ as.length → (l.map (·.1)).Nodup → as.Nodup → (∀ a, a ∈ as → ∀ p, p ∈ l → a ≠ p.1) → (∀ a, a ∈ as → cs a l = 0) → ∀ p, p ∈ l → p.2 = 0
  | [], _, _, _, _, _, _ => fun p hp => by simp at hp
  | q :: l, [], h, _, _, _, _ => by simp at h
  | q :: l, a0 :: as, hlen, hn1, hn2, hne, hz => by
    have hq : ∀ a, a ∈ a0 :: as → a ≠ q.1 := fun a ha => hne a ha q (List.mem_cons_self)
    have hl : ∀ a, a ∈ a0 :: as → ∀ p, p ∈ l → a ≠ p.1 := fun a ha p hp => hne a ha p (List.mem_cons_of_mem _ hp)
    rw [List.map_cons, List.nodup_cons] at hn1
    rw [List.nodup_cons] at hn2
    have hz2 : ∀ a, a ∈ a0 :: as → cs a l = mul q.2 (inv (a ^^^ q.1)) := fun a ha => by
      have := hz a ha
      simp only [cs] at this
      exact (xor_eq_zero this).symm
    have hsub : ∀ a, a ∈ as → cs a (l.map fun p => (p.1, mul p.2 (mul (q.1 ^^^ p.1) (inv (a0 ^^^ p.1))))) = 0 := fun a ha => by
      have h1 := cau_sum (a0 := a0) (a := a) (b0 := q.1) l (fun p hp => ⟨hl a0 (List.mem_cons_self) p hp, hl a (List.mem_cons_of_mem _ ha) p hp⟩)
      rw [hz2 a0 (List.mem_cons_self), hz2 a (List.mem_cons_of_mem _ ha)] at h1
      have g1 : ∀ c, c ≠ q.1 → mul (c ^^^ q.1) (mul q.2 (inv (c ^^^ q.1))) = q.2 := fun c hc => by
        rw [mul_comm q.2, mul_assoc, mul_inv _ (xor_ne hc), one_mul]
      rw [g1 a0 (hq a0 (List.mem_cons_self)), g1 a (hq a (List.mem_cons_of_mem _ ha)), UInt8.xor_self] at h1
      have hne0 : a0 ^^^ a ≠ 0 := xor_ne (fun e => hn2.1 (by rw [e]; exact ha))
      exact ((mul_eq_zero _ _).1 h1).resolve_left hne0
    have hrec := cau_zero (l.map fun p => (p.1, mul p.2 (mul (q.1 ^^^ p.1) (inv (a0 ^^^ p.1))))) as (by simp at hlen ⊢; omega)
      (by rw [List.map_map]; exact hn1.2) hn2.2
      (fun a ha p hp => by
        obtain ⟨p', hp', rfl⟩ := List.mem_map.1 hp
        exact hl a (List.mem_cons_of_mem _ ha) p' hp') hsub
    have hl0 : ∀ p, p ∈ l → p.2 = 0 := fun p hp => by
      have h1 := hrec _ (List.mem_map.2 ⟨p, hp, rfl⟩)
      rcases (mul_eq_zero _ _).1 h1 with e | e
      · exact e
      · rcases (mul_eq_zero _ _).1 e with e2 | e2
        · exact absurd (xor_eq_zero e2) (fun e3 => hn1.1 (by rw [e3]; exact List.mem_map.2 ⟨p, hp, rfl⟩))
        · exact absurd e2 (inv_ne (xor_ne (hl a0 (List.mem_cons_self) p hp)))
    have hcs : ∀ (m : List (UInt8 × UInt8)) (a : UInt8), (∀ p, p ∈ m → p.2 = 0) → cs a m = 0 := by
      intro m a hm
      induction m with
      | nil => rfl
      | cons p m ih =>
        simp only [cs]
        rw [hm p (List.mem_cons_self), mul_zeroL, UInt8.zero_xor]
        exact ih (fun p hp => hm p (List.mem_cons_of_mem _ hp))
    have hq0 : q.2 = 0 := by
      have h1 := hz2 a0 (List.mem_cons_self)
      rw [hcs l a0 hl0] at h1
      rcases (mul_eq_zero _ _).1 h1.symm with e | e
      · exact e
      · exact absurd e (inv_ne (xor_ne (hq a0 (List.mem_cons_self))))
    intro p hp
    rcases List.mem_cons.1 hp with rfl | hp
    · exact hq0
    · exact hl0 p hp
end Caulk.Lin
