/- What rs.Decode answers, in all cases. -/
import Derived.Test.YtpldnbfbpajbkabRsH
namespace Go.Proofs.Ytpldnbfbpajbkab
open Go.RowKit
open Caulk.Lin (Fn2 sx stack invM any_inv)

theorem decode_one {w : World} {vp : Value} {k m : Int} {P : List (Bool × ByteArray)} (hP : PiecesS w vp P) (hkw : -9223372036854775808 ≤ k ∧ k ≤ 9223372036854775807) (hmw : -9223372036854775808 ≤ m ∧ m ≤ 9223372036854775807) (h : rsE k m ≠ 0) :
    Calls Try.prog 9 #[.int .i64 k, .int .i64 m, vp] w fun e w' => e = .returned (.tuple #[.slice none 0 0, .int .i64 1]) ∧ w = w' := by
  have hck := rsCheck_any k m hkw hmw w
  rw [show rsE k m = 1 by unfold rsE at h ⊢; split at h <;> simp_all] at hck
  obtain ⟨A, c, rfl, hlc, hcm⟩ := hP.opened
  have HCK := Lib.hid hck
  clear hck h hP
  go_enter Try.func9, Try.ntmps9
  go_wp2_with fail
  refine HCK.out.mono ?_
  rintro e w' ⟨rfl, rfl⟩
  go_wp2
  go_ret2
  exact ⟨rfl, rfl⟩
/-- A slice of strings, behind there. -/
theorem there_left {w1 : World} {P : List (Bool × ByteArray)} {va vl : Value} {B : Nat} (hmax : ∀ p, p ∈ P → p.2.size ≤ maxLen) (hth : ThereO w1 B va vl (thD P) (thL P)) : StrsS w1 vl (thS P) :=
  own_strs (d := thD P) (l := thL P) hth.2.1 (fun i hi => by
    have hlt := thL_lt P i hi
    unfold thD
    exact hmax _ (by rw [List.getD, List.getElem?_eq_getElem hlt]; exact List.getElem_mem hlt))
theorem own_open {w : World} {B : Nat} {t : TypeId} {v : Value} {n : Nat} {xs : List Value} (h : w.ownsRow B t 1 v n xs) : ∃ A c, v = .slice A n c ∧ n ≤ c ∧ c ≤ 9223372036854775807 := by
  rcases h.2 with ⟨rfl, e⟩ | ⟨g, c, cur, rfl, hb, hh, hn, hm, hs, ht⟩
  · subst e; exact ⟨none, 0, rfl, Nat.le_refl _, by omega⟩
  · unfold maxLen at hm; exact ⟨_, c, rfl, hn, hm⟩
set_option maxRecDepth 10000 in
set_option maxHeartbeats 1000000 in
theorem decode_two {w : World} {vp : Value} {k m : Nat} {P : List (Bool × ByteArray)} (hk : 1 ≤ k) (hkm : k + m ≤ 255) (hP : PiecesS w vp P) (hmax : P.length ≤ 1000000000000) (h : ¬ (P.length = k + m ∧ alikeB (thS P) = true)) :
    Calls Try.prog 9 #[.int .i64 (k : Int), .int .i64 (m : Int), vp] w fun e w' => e = .returned (.tuple #[.slice none 0 0, .int .i64 2]) ∧ Below w.heap.size w w' := by
  have hck := rsCheck_any (k : Int) (m : Int) (by omega) (by omega) w
  rw [show rsE (k : Int) (m : Int) = 0 from if_pos (by omega)] at hck
  have HCK := Lib.hid hck
  have HTH := Lib.hid (there_any hP hmax)
  have HMAX : Hid (∀ p, p ∈ P → p.2.size ≤ maxLen) := Lib.hid (by obtain ⟨_, _, _, _, _, _, hs, _⟩ := hP; exact hs)
  obtain ⟨A, c, rfl, hlc, hcm⟩ := hP.opened
  obtain ⟨R, hR⟩ : ∃ R, R = k + m := ⟨_, rfl⟩
  have hkm2 : (k : Int) + (m : Int) = (R : Int) := by omega
  rw [← hR] at hkm h
  obtain ⟨q, hq⟩ : ∃ q, q = (thL P).length := ⟨_, rfl⟩
  have HQ := Lib.hid hq
  by_cases hl : P.length = R
  · have hal : alikeB (thS P) = false := by
      cases hh : alikeB (thS P) with
      | false => rfl
      | true => exact absurd ⟨hl, hh⟩ h
    have HAL := Lib.hid hal
    have hz1 : ((P.length : Int) == (R : Int)) = true := by rw [hl]; simp
    have hz2 : ((P.length : Int) != (R : Int)) = false := by rw [hl]; simp
    clear hck hP hl hal hR h hmax hq
    go_enter Try.func9, Try.ntmps9
    go_wp2_with fail
    refine HCK.out.mono ?_
    rintro e w' ⟨rfl, rfl⟩
    go_wp2_with fail
    (with_reducible refine HTH.out.mono ?_)
    rintro e w1 ⟨va, vl, rfl, hth, hb⟩
    have hss : StrsS w1 vl (thS P) := there_left HMAX.out hth
    have hak := alike_any hss
    rw [HAL.out] at hak
    have HAK := Lib.hid hak
    have HB := Lib.hid hb
    obtain ⟨Aa, ca, rfl, hca, hcam⟩ := own_open hth.1
    obtain ⟨Al, cl, rfl, hcl, hclm⟩ := own_open hth.2.1
    rw [show (thAt (fun i => (P.getD i (false, ByteArray.empty)).1) P.length).length = q from HQ.out.symm] at hca hcl HAK ⊢
    clear hth hss hak hb HTH HCK
    go_wp2_with fail
    (with_reducible refine HAK.out.mono ?_)
    rintro e w' ⟨rfl, rfl⟩
    go_wp2
    go_ret2
    exact ⟨rfl, HB.out⟩
  · have hz1 : ((P.length : Int) == (R : Int)) = false := by simp; omega
    have hz2 : ((P.length : Int) != (R : Int)) = true := by simp; omega
    clear hck hP hl hR h hmax hq
    go_enter Try.func9, Try.ntmps9
    go_wp2_with fail
    refine HCK.out.mono ?_
    rintro e w' ⟨rfl, rfl⟩
    go_wp2_with fail
    (with_reducible refine HTH.out.mono ?_)
    rintro e w1 ⟨va, vl, rfl, hth, hb⟩
    have HB := Lib.hid hb
    obtain ⟨Aa, ca, rfl, hca, hcam⟩ := own_open hth.1
    obtain ⟨Al, cl, rfl, hcl, hclm⟩ := own_open hth.2.1
    rw [show (thAt (fun i => (P.getD i (false, ByteArray.empty)).1) P.length).length = q from HQ.out.symm] at hca hcl ⊢
    clear hth hb HTH HCK
    go_wp2
    go_ret2
    exact ⟨rfl, HB.out⟩
set_option maxRecDepth 10000 in
set_option maxHeartbeats 1000000 in
theorem decode_ten {w : World} {vp : Value} {k m : Nat} {P : List (Bool × ByteArray)} (hk : 1 ≤ k) (hkm : k + m ≤ 255) (hP : PiecesS w vp P) (hl : P.length = k + m) (hal : alikeB (thS P) = true) (hle : (thL P).length < k) :
    Calls Try.prog 9 #[.int .i64 (k : Int), .int .i64 (m : Int), vp] w fun e w' => e = .returned (.tuple #[.slice none 0 0, .int .i64 10]) ∧ Below w.heap.size w w' := by
  have hck := rsCheck_any (k : Int) (m : Int) (by omega) (by omega) w
  rw [show rsE (k : Int) (m : Int) = 0 from if_pos (by omega)] at hck
  have HCK := Lib.hid hck
  have HTH := Lib.hid (there_any hP (by omega))
  have HMAX : Hid (∀ p, p ∈ P → p.2.size ≤ maxLen) := Lib.hid (by obtain ⟨_, _, _, _, _, _, hs, _⟩ := hP; exact hs)
  obtain ⟨A, c, rfl, hlc, hcm⟩ := hP.opened
  obtain ⟨R, hR⟩ : ∃ R, R = k + m := ⟨_, rfl⟩
  have hkm2 : (k : Int) + (m : Int) = (R : Int) := by omega
  rw [← hR] at hkm hl
  obtain ⟨q, hq⟩ : ∃ q, q = (thL P).length := ⟨_, rfl⟩
  have HQ := Lib.hid hq
  rw [← hq] at hle
  have hd1 : decide ((q : Int) < (k : Int)) = true := by simp; omega
  have hqR : q ≤ 255 := by omega
  have HAL := Lib.hid hal
  have hz1 : ((P.length : Int) == (R : Int)) = true := by rw [hl]; simp
  have hz2 : ((P.length : Int) != (R : Int)) = false := by rw [hl]; simp
  have hsl : (thS P).length = (thL P).length := by simp [thS]
  rw [← hq] at hsl
  clear hck hP hl hal hR hq
  go_enter Try.func9, Try.ntmps9
  go_wp2_with fail
  refine HCK.out.mono ?_
  rintro e w' ⟨rfl, rfl⟩
  go_wp2_with fail
  (with_reducible refine HTH.out.mono ?_)
  rintro e w1 ⟨va, vl, rfl, hth, hb⟩
  have hss : StrsS w1 vl (thS P) := there_left HMAX.out hth
  have hak := alike_any hss
  rw [HAL.out] at hak
  have HAK := Lib.hid hak
  have HB := Lib.hid hb
  obtain ⟨Aa, ca, rfl, hca, hcam⟩ := own_open hth.1
  obtain ⟨Al, cl, rfl, hcl, hclm⟩ := own_open hth.2.1
  rw [show (thAt (fun i => (P.getD i (false, ByteArray.empty)).1) P.length).length = q from HQ.out.symm] at hca hcl HAK ⊢
  clear hth hss hak hb HTH HCK hsl
  go_wp2_with fail
  (with_reducible refine HAK.out.mono ?_)
  rintro e w' ⟨rfl, rfl⟩
  go_wp2
  go_ret2
  exact ⟨rfl, HB.out⟩
/-- Why nothing comes back. -/
noncomputable def decE (k m : Int) (P : List (Bool × ByteArray)) : Int := if rsE k m = 0 then (if (P.length : Int) = k + m ∧ alikeB (thS P) = true then (if ((thL P).length : Int) < k then 10 else 0) else 2) else 1
/-- What does. -/
noncomputable def backX (k : Nat) (P : List (Bool × ByteArray)) : Fn2 := (invM k (pickF (stack k) (((thL P).take k).map fun i : Nat => (i : Int)))).getD (fun _ _ => 0)
noncomputable def decL (k m : Int) (P : List (Bool × ByteArray)) : List ByteArray := if decE k m P = 0 then decAll k.toNat m.toNat (backX k.toNat P) (thS P) else []
theorem back_X {k m : Nat} (hkm : k + m ≤ 255) {P : List (Bool × ByteArray)} (hl : P.length = k + m) (hle : k ≤ (thL P).length) :
    invM k (pickF (stack k) (((thL P).take k).map fun i : Nat => (i : Int))) = some (backX k P) := by
  obtain ⟨X, hX⟩ := pick_inv (k := k) hkm (thL_nodup P) (fun x hx => by have := thL_lt P x hx; omega) hle (by omega)
  unfold backX
  rw [hX]
  rfl
theorem decode_res {w : World} {vp : Value} {k m : Int} {P : List (Bool × ByteArray)} (hP : PiecesS w vp P) (hmax : P.length ≤ 1000000000000) (hkw : -9223372036854775808 ≤ k ∧ k ≤ 9223372036854775807) (hmw : -9223372036854775808 ≤ m ∧ m ≤ 9223372036854775807) :
    Calls Try.prog 9 #[.int .i64 k, .int .i64 m, vp] w (StrRes w (decL k m P) (decE k m P)) := by
  by_cases h0 : rsE k m = 0
  · have hb : 1 ≤ k ∧ 0 ≤ m ∧ k + m ≤ 255 := by
      unfold rsE at h0
      by_cases hh : 1 ≤ k ∧ 0 ≤ m ∧ k + m ≤ 255
      · exact hh
      · rw [if_neg hh] at h0; simp at h0
    obtain ⟨kn, rfl⟩ : ∃ n : Nat, k = (n : Int) := ⟨k.toNat, by omega⟩
    obtain ⟨mn, rfl⟩ : ∃ n : Nat, m = (n : Int) := ⟨m.toNat, by omega⟩
    by_cases h1 : (P.length : Int) = (kn : Int) + (mn : Int) ∧ alikeB (thS P) = true
    · have hl : P.length = kn + mn := by have := h1.1; omega
      by_cases h2 : ((thL P).length : Int) < (kn : Int)
      · have e1 : decE (kn : Int) (mn : Int) P = 10 := by unfold decE; rw [if_pos h0, if_pos h1, if_pos h2]
        unfold decL
        rw [e1, if_neg (by decide)]
        exact (decode_ten (by omega) (by omega) hP hl h1.2 (by omega)).mono fun _ _ ⟨a, b⟩ => ⟨_, a, strsS_nil _, b⟩
      · have e1 : decE (kn : Int) (mn : Int) P = 0 := by unfold decE; rw [if_pos h0, if_pos h1, if_neg h2]
        unfold decL
        rw [e1, if_pos rfl, Int.toNat_natCast, Int.toNat_natCast]
        exact decode_ok (by omega) (by omega) hP hl (alikeB_iff.1 h1.2) (by omega) (back_X (by omega) hl (by omega))
    · have e1 : decE (kn : Int) (mn : Int) P = 2 := by unfold decE; rw [if_pos h0, if_neg h1]
      unfold decL
      rw [e1, if_neg (by decide)]
      refine (decode_two (by omega) (by omega) hP hmax (fun h => h1 ⟨by have := h.1; omega, h.2⟩)).mono fun _ _ ⟨a, b⟩ => ⟨_, a, strsS_nil _, b⟩
  · have e1 : decE k m P = 1 := by unfold decE; rw [if_neg h0]
    unfold decL
    rw [e1, if_neg (by decide)]
    exact (decode_one hP hkw hmw h0).mono fun _ _ ⟨a, b⟩ => by subst b; exact ⟨_, a, strsS_nil _, Below.refl _ _⟩
end Go.Proofs.Ytpldnbfbpajbkab
