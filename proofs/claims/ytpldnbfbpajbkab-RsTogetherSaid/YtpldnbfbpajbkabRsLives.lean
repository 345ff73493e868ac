/- The contract of caulklaw04.lives. -/
import Derived.Test.YtpldnbfbpajbkabRsMath
namespace Go.Proofs.Ytpldnbfbpajbkab
open Go.RowKit
open Caulk.Lin (Fn2 invM)

def bS (l : List UInt8) : ByteArray := ⟨l.toArray⟩
theorem strs1 (w : World) (s : ByteArray) (h : s.size ≤ maxLen) : StrsS (w.alloc (.cells #[.string s] 9)) (.slice (some ⟨w.heap.size, 0, none⟩) 1 1) [s] := by
  refine ⟨_, 1, rfl, by simp, Nat.le_refl _, by unfold maxLen; omega, fun x hx => by simp at hx; subst hx; exact h, .inr ⟨_, 0, rfl, by simp, fun j hj => ?_⟩⟩
  rw [World.cell?_alloc_at _ _ _ _ rfl]
  have : j = 0 := by simp at hj; omega
  subst this; rfl
theorem strs2 (w : World) (s t : ByteArray) (h : s.size ≤ maxLen) (h2 : t.size ≤ maxLen) : StrsS (w.alloc (.cells #[.string s, .string t] 9)) (.slice (some ⟨w.heap.size, 0, none⟩) 2 2) [s, t] := by
  refine ⟨_, 2, rfl, by simp, Nat.le_refl _, by unfold maxLen; omega, fun x hx => ?_, .inr ⟨_, 0, rfl, by simp, fun j hj => ?_⟩⟩
  · simp at hx
    rcases hx with rfl | rfl
    · exact h
    · exact h2
  · rw [World.cell?_alloc_at _ _ _ _ rfl]
    have : j = 0 ∨ j = 1 := by simp at hj; omega
    rcases this with rfl | rfl <;> rfl
theorem pieces3 (w : World) (p q r : Bool) (s t u : ByteArray) (h : s.size ≤ maxLen) (h2 : t.size ≤ maxLen) (h3 : u.size ≤ maxLen) :
    PiecesS (w.alloc (.cells #[.bool p, .string s, .bool q, .string t, .bool r, .string u] 31)) (.slice (some ⟨w.heap.size, 0, none⟩) 3 3) [(p, s), (q, t), (r, u)] := by
  refine ⟨_, 3, rfl, by simp, Nat.le_refl _, by unfold maxLen; omega, fun x hx => ?_, .inr ⟨_, 0, rfl, by simp, fun j hj => ?_⟩⟩
  · simp at hx
    rcases hx with rfl | rfl | rfl
    · exact h
    · exact h2
    · exact h3
  · rw [World.cell?_alloc_at _ _ _ _ rfl, World.cell?_alloc_at _ _ _ _ rfl]
    have : j = 0 ∨ j = 1 ∨ j = 2 := by simp at hj; omega
    rcases this with rfl | rfl | rfl <;> exact ⟨rfl, rfl⟩
theorem k_enc1 : encE 1 2 [⟨#[97, 98]⟩] = 0 := by
  unfold encE
  rw [if_pos (by decide), if_pos ⟨rfl, alikeB_true (fun j hj => by have : j = 0 := by simp at hj; omega
                                                                   subst this; decide)⟩]
theorem k_enc1L : (encL 1 2 [⟨#[97, 98]⟩]).length = 2 := by
  unfold encL
  rw [k_enc1, if_pos rfl]
  exact weaveL_len _ _ _ _ _
theorem k_enc4 : encE 2 1 [⟨#[97]⟩] = 2 := by
  unfold encE
  rw [if_pos (by decide), if_neg (by rintro ⟨h, _⟩; simp at h)]
theorem k_enc5 : encE 0 1 [] = 1 := by
  unfold encE
  rw [if_neg (by decide)]
theorem k_good : goodB 2 1 [⟨#[97]⟩, ⟨#[98]⟩] = false := by
  unfold goodB
  rw [if_neg (by rintro ⟨_, h⟩; simp at h)]
def pcA : List (Bool × ByteArray) := [(false, ⟨#[]⟩), (true, ⟨#[120]⟩), (true, ⟨#[121]⟩)]
def pcB : List (Bool × ByteArray) := [(false, ⟨#[]⟩), (false, ⟨#[]⟩), (true, ⟨#[121]⟩)]
theorem thL_A : thL pcA = [1, 2] := by decide
theorem thL_B : thL pcB = [2] := by decide
theorem thS_A : thS pcA = [⟨#[120]⟩, ⟨#[121]⟩] := by unfold thS; rw [thL_A]; rfl
theorem thS_B : thS pcB = [⟨#[121]⟩] := by unfold thS; rw [thL_B]; rfl
theorem al_A : alikeB (thS pcA) = true := by
  rw [thS_A]
  refine alikeB_true (fun j hj => ?_)
  have : j = 0 ∨ j = 1 := by simp at hj; omega
  rcases this with rfl | rfl <;> decide
theorem al_B : alikeB (thS pcB) = true := by
  rw [thS_B]
  refine alikeB_true (fun j hj => ?_)
  have : j = 0 := by simp at hj; omega
  subst this; decide
theorem k_dec2 : decE 2 1 pcA = 0 := by
  unfold decE
  rw [if_pos (by decide), if_pos ⟨rfl, al_A⟩, if_neg (by rw [thL_A]; decide)]
theorem k_dec3 : decE 2 1 pcB = 10 := by
  unfold decE
  rw [if_pos (by decide), if_pos ⟨rfl, al_B⟩, if_pos (by rw [thL_B]; decide)]
theorem k_dec3L : decL 2 1 pcB = [] := by
  unfold decL
  rw [if_neg (by rw [k_dec3]; decide)]
theorem k_enc4L : encL 2 1 [⟨#[97]⟩] = [] := by
  unfold encL
  rw [if_neg (by rw [k_enc4]; decide)]
theorem k_enc5L : encL 0 1 [] = [] := by
  unfold encL
  rw [if_neg (by rw [k_enc5]; decide)]
theorem k_dec2L : decL 2 1 pcA = decAll 2 1 (backX 2 pcA) (thS pcA) := by
  unfold decL
  rw [if_pos k_dec2]
  rfl
theorem k_dec2n : (decL 2 1 pcA).length = 3 := by
  rw [k_dec2L, decAll_stripe (by decide), stripeL_len (decData_len _ _ _)]
theorem sz_A : ∀ j, j < (thS pcA).length → ((thS pcA).getD j ByteArray.empty).size = 1 := by
  rw [thS_A]
  intro j hj
  have : j = 0 ∨ j = 1 := by simp at hj; omega
  rcases this with rfl | rfl <;> decide
theorem k_dec2at : (decL 2 1 pcA).getD 1 ByteArray.empty = ⟨#[120]⟩ ∧ (decL 2 1 pcA).getD 2 ByteArray.empty = ⟨#[121]⟩ := by
  have hX := back_X (k := 2) (m := 1) (by decide) (P := pcA) rfl (by rw [thL_A]; decide)
  have h := fun {i : Nat} (hi : i < 2) => dec_there (k := 2) (m := 1) (n := 1) (by decide) (by decide) (by rw [thL_A]; decide) (fun x hx => thL_lt pcA x hx) (by rw [thS_A]; decide) sz_A hX hi
  rw [k_dec2L]
  refine ⟨?_, ?_⟩
  · have := h (i := 0) (by decide)
    rw [thL_A] at this
    rw [show ([1, 2] : List Nat).getD 0 0 = 1 from rfl] at this
    rw [this, thS_A]; rfl
  · have := h (i := 1) (by decide)
    rw [thL_A] at this
    rw [show ([1, 2] : List Nat).getD 1 0 = 2 from rfl] at this
    rw [this, thS_A]; rfl
theorem k_dec2g : goodB 2 1 (decL 2 1 pcA) = true := by
  rw [k_dec2L, decAll_stripe (by decide)]
  exact stripe_good (k := 2) (m := 1) (n := 1) (by decide) (by decide) (decData_len _ _ _) (fun j hj => decData_size (sz_A 0 (by rw [thS_A]; decide)) hj) (by decide)
set_option maxRecDepth 100000 in
set_option maxHeartbeats 2000000 in
theorem lives4_any (w : World) : Calls Try.prog 6 #[] w fun e w' => e = .returned (.bool true) ∧ Below w.heap.size w w' := by
  have K1 := Lib.hid k_enc1
  have K2 := Lib.hid k_enc1L
  have K3 := Lib.hid k_enc4
  have K4 := Lib.hid k_enc5
  have K5 := Lib.hid k_good
  have K6 := Lib.hid k_dec2
  have K7 := Lib.hid k_dec3
  have K8 := Lib.hid k_dec2n
  have K9 := Lib.hid k_dec2at
  have K10 := Lib.hid k_dec2g
  go_enter Try.func6, Try.ntmps6
  go_wp2_with fail
  have hS := strs1 w ⟨#[97, 98]⟩ (by decide)
  have h := encode_res (k := 1) (m := 2) hS (by omega) (by omega)
  rw [K1.out] at h
  (with_reducible refine h.mono ?_)
  rintro e w1 ⟨v1, rfl, hs, hb⟩
  clear h hS
  have hl := K2.out
  obtain ⟨a1, c1, rfl, hc1, hm1⟩ := hs.opened
  rw [hl] at hc1 ⊢
  have HB := Lib.hid ((below_alloc w (.cells #[.string ⟨#[97, 98]⟩] 9)).trans (hb.mono (by simp)))
  clear hs hb hl
  go_wp2_with fail
  have hP := pieces3 w1 false true true ⟨#[]⟩ ⟨#[120]⟩ ⟨#[121]⟩ (by decide) (by decide) (by decide)
  have hb1 := below_alloc w1 (.cells #[.bool false, .string ⟨#[]⟩, .bool true, .string ⟨#[120]⟩, .bool true, .string ⟨#[121]⟩] 31)
  have h := decode_res (k := 2) (m := 1) (P := pcA) hP (by decide) (by omega) (by omega)
  rw [K6.out] at h
  (with_reducible refine h.mono ?_)
  rintro e w2 ⟨v2, rfl, hs, hb⟩
  clear h hP
  replace HB := Lib.hid (HB.out.trans ((hb1.trans (hb.mono hb1.size)).mono HB.out.size))
  have HL := Lib.hid hs
  obtain ⟨b2, o2, c2, rfl, hc2, hm2, _⟩ := hs.reads (by rw [K8.out]; decide)
  rw [K8.out] at hc2 HL ⊢
  clear hs hb hb1
  go_wp2_with fail
  have hP := pieces3 w2 false false true ⟨#[]⟩ ⟨#[]⟩ ⟨#[121]⟩ (by decide) (by decide) (by decide)
  have hb1 := below_alloc w2 (.cells #[.bool false, .string ⟨#[]⟩, .bool false, .string ⟨#[]⟩, .bool true, .string ⟨#[121]⟩] 31)
  have h := decode_res (k := 2) (m := 1) (P := pcB) hP (by decide) (by omega) (by omega)
  rw [K7.out, k_dec3L] at h
  (with_reducible refine h.mono ?_)
  rintro e w3 ⟨v3, rfl, hs, hb⟩
  clear h hP
  have hb2 := hb1.trans (hb.mono hb1.size)
  replace HB := Lib.hid (HB.out.trans (hb2.mono HB.out.size))
  replace HL := Lib.hid (HL.out.below hb2)
  obtain ⟨a3, c3, rfl, _, _⟩ := hs.opened
  clear hs hb hb1 hb2
  go_wp2_with fail
  have hP := strs1 w3 ⟨#[97]⟩ (by decide)
  have hb1 := below_alloc w3 (.cells #[.string ⟨#[97]⟩] 9)
  have h := encode_res (k := 2) (m := 1) hP (by omega) (by omega)
  rw [K3.out, k_enc4L] at h
  (with_reducible refine h.mono ?_)
  rintro e w4 ⟨v4, rfl, hs, hb⟩
  clear h hP
  have hb2 := hb1.trans (hb.mono hb1.size)
  replace HB := Lib.hid (HB.out.trans (hb2.mono HB.out.size))
  replace HL := Lib.hid (HL.out.below hb2)
  obtain ⟨a4, c4, rfl, _, _⟩ := hs.opened
  clear hs hb hb1 hb2
  go_wp2_with fail
  have h := encode_res (k := 0) (m := 1) (strsS_nil w4) (by omega) (by omega)
  rw [K4.out, k_enc5L] at h
  (with_reducible refine h.mono ?_)
  rintro e w5 ⟨v5, rfl, hs, hb⟩
  clear h
  replace HB := Lib.hid (HB.out.trans (hb.mono HB.out.size))
  replace HL := Lib.hid (HL.out.below hb)
  obtain ⟨a5, c5, rfl, _, _⟩ := hs.opened
  clear hs hb
  have HC : Hid (w5.cell? ⟨b2, o2 + 1, none⟩ = some (.string ⟨#[120]⟩) ∧ w5.cell? ⟨b2, o2 + 2, none⟩ = some (.string ⟨#[121]⟩)) := Lib.hid (by
    obtain ⟨b', o', c', e, _, _, h⟩ := HL.out.reads (by rw [K8.out]; decide)
    injection e with e1 _ _
    injection e1 with e1
    injection e1 with e1 e2
    subst e1; subst e2
    have h1 := (h w5 (Below.refl _ _) 1 (by rw [K8.out]; decide)).1
    have h2 := (h w5 (Below.refl _ _) 2 (by rw [K8.out]; decide)).1
    rw [K9.out.1] at h1
    rw [K9.out.2] at h2
    exact ⟨h1, h2⟩)
  obtain ⟨hx1, hx2⟩ := HC.out
  go_wp2_with fail
  have h := good_any HL.out (k := 2) (m := 1) (by omega) (by omega)
  rw [K10.out] at h
  (with_reducible refine h.mono ?_)
  rintro e w6 ⟨rfl, hb⟩
  clear h HC hx1 hx2 HL
  replace HB := Lib.hid (HB.out.trans (hb.mono HB.out.size))
  clear hb
  go_wp2_with fail
  have h := rsCheck_any 1 0 (by omega) (by omega) w6
  rw [show rsE 1 0 = 0 from if_pos (by omega)] at h
  (with_reducible refine h.mono ?_)
  rintro e w7 ⟨rfl, rfl⟩
  clear h
  go_wp2_with fail
  have hP := strs2 w6 ⟨#[97]⟩ ⟨#[98]⟩ (by decide) (by decide)
  have hb1 := below_alloc w6 (.cells #[.string ⟨#[97]⟩, .string ⟨#[98]⟩] 9)
  have h := good_any hP (k := 2) (m := 1) (by omega) (by omega)
  rw [K5.out] at h
  (with_reducible refine h.mono ?_)
  rintro e w8 ⟨rfl, hb⟩
  clear h hP
  replace HB := Lib.hid (HB.out.trans ((hb1.trans (hb.mono hb1.size)).mono HB.out.size))
  clear hb hb1
  go_wp2
  go_ret
  exact ⟨rfl, HB.out⟩
end Go.Proofs.Ytpldnbfbpajbkab
