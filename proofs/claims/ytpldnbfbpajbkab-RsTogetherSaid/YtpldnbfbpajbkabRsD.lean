/- The contracts of rs.Encode whatever it is given, of slices.Equal at strings, and of rs.Good. -/
import Derived.Test.YtpldnbfbpajbkabRsC
namespace Go.Proofs.Ytpldnbfbpajbkab
open Go.RowKit
open Caulk.Lin (Fn2 sx stack)

theorem strs_string {s t : ByteArray} (h : s ≠ t) : (s.toList == t.toList) = false := by
  rw [byte_toList, byte_toList, beq_eq_false_iff_ne]
  intro e
  apply h
  apply ByteArray.ext
  exact Array.ext' e
set_option maxHeartbeats 1000000 in
theorem equal_any {w : World} {a b : Value} {S T : List ByteArray} (ha : StrsS w a S) (hb : StrsS w b T) :
    Calls Try.prog 19 #[a, b] w fun e w' => e = .returned (.bool (decide (S = T))) ∧ Below w.heap.size w w' := by
  have ha' := ha.opened
  have hb' := hb.opened
  obtain ⟨A1, c1, rfl, hl1, hm1⟩ := ha'
  obtain ⟨A2, c2, rfl, hl2, hm2⟩ := hb'
  by_cases hlen : S.length = T.length
  · have HD : Hid (∀ i, i < S.length → ∃ b1 o1 b2 o2, A1 = some ⟨b1, o1, none⟩ ∧ A2 = some ⟨b2, o2, none⟩ ∧ ∀ W, Below w.heap.size w W → W.cell? ⟨b1, o1 + i, none⟩ = some (.string (S.getD i ByteArray.empty)) ∧ W.cell? ⟨b2, o2 + i, none⟩ = some (.string (T.getD i ByteArray.empty))) := Lib.hid (by
      intro i hi
      obtain ⟨b1, o1, k1, e1, _, _, r1⟩ := ha.reads (by omega)
      obtain ⟨b2, o2, k2, e2, _, _, r2⟩ := hb.reads (by omega)
      injection e1 with e1 _ _
      injection e2 with e2 _ _
      exact ⟨b1, o1, b2, o2, e1, e2, fun W hW => ⟨(r1 W hW i hi).1, (r2 W hW i (by omega)).1⟩⟩)
    have HEQ : Hid (S = T ↔ ∀ i, i < S.length → S.getD i ByteArray.empty = T.getD i ByteArray.empty) := Lib.hid ⟨fun h => by rw [h]; simp, fun h => by
      apply List.ext_getElem hlen
      intro i h1 h2
      have := h i h1
      simpa [List.getD, h1, h2] using this⟩
    obtain ⟨E, hE⟩ : ∃ E, E = decide (S = T) := ⟨_, rfl⟩
    have HE := Lib.hid hE
    rw [← hE]
    obtain ⟨s, hs⟩ : ∃ s : Nat → ByteArray, s = fun i => S.getD i ByteArray.empty := ⟨_, rfl⟩
    obtain ⟨t, ht⟩ : ∃ t : Nat → ByteArray, t = fun i => T.getD i ByteArray.empty := ⟨_, rfl⟩
    have q1 : ∀ i, S.getD i ByteArray.empty = s i := fun i => by rw [hs]
    have q2 : ∀ i, T.getD i ByteArray.empty = t i := fun i => by rw [ht]
    simp only [q1, q2] at HD HEQ
    clear hE ha hb hs ht q1 q2
    obtain ⟨n, hn⟩ : ∃ n, n = S.length := ⟨_, rfl⟩
    rw [← hn] at hl1 HD HEQ hlen ⊢
    rw [← hlen] at hl2 ⊢
    clear hn
    have hne : ((n : Int) != (n : Int)) = false := by simp
    clear hlen
    go_enter Try.func19, Try.ntmps19
    go_wp2
    go_loopw [13] (fun i wr => ∃ k : Nat, k ≤ n ∧ i = .int .i64 k ∧ (∀ j, j < k → s j = t j) ∧ Below w.heap.size w wr) (fun i _ => n - (intOf i).toNat)
    case atStart => exact ⟨0, by omega, rfl, fun j hj => by omega, Below.refl _ _⟩
    case round =>
      obtain ⟨k, hk, rfl, hall, hbe⟩ := hrel
      have HALL := Lib.hid hall
      have HBE := Lib.hid hbe
      clear hall hbe
      by_cases hlt : k < n
      · obtain ⟨b1, o1, b2, o2, rfl, rfl, hW⟩ := HD.out k hlt
        obtain ⟨hx, hy⟩ := hW wr HBE.out
        clear hW
        by_cases hls : s k = t k
        · have HS := Lib.hid hls
          rw [hls] at hx
          clear hls
          generalize t k = X at hx hy
          go_wp2_with fail
          go_quiet (fail)
          go_wp2
          go_roundw
          case rel =>
            refine ⟨k + 1, by omega, by go_num, fun j hj => ?_, below_drewN HBE.out _⟩
            by_cases e : j = k
            · subst e; exact HS.out
            · exact HALL.out j (by omega)
          case measure => simp [intOf]; omega
        · have HS := Lib.hid hls
          have hne2 := strs_string hls
          have hno : Hid (E = false) := Lib.hid (by rw [HE.out, decide_eq_false_iff_not]; exact fun h => HS.out (HEQ.out.1 h k hlt))
          clear hls
          generalize s k = X at hx hne2
          generalize t k = Y at hy hne2
          go_wp2_with fail
          go_quiet (fail)
          go_wp2
          go_ret
          exact ⟨ret_bool hno.out.symm, below_drewN HBE.out _⟩
      · obtain rfl : k = n := by omega
        have hyes : Hid (E = true) := Lib.hid (by rw [HE.out, decide_eq_true_eq]; exact HEQ.out.2 HALL.out)
        go_wp2
        go_ret
        exact ⟨ret_bool hyes.out.symm, HBE.out⟩
  · have hno : decide (S = T) = false := by rw [decide_eq_false_iff_not]; exact fun h => hlen (by rw [h])
    have hb1 : ((S.length : Int) != (T.length : Int)) = true := by simp; omega
    have hb2 : ((S.length : Int) == (T.length : Int)) = false := by simp; omega
    rw [hno]
    clear hno ha hb
    go_enter Try.func19, Try.ntmps19
    go_wp2
    go_ret
    exact ⟨rfl, Below.refl _ _⟩
theorem encode_one {w : World} {vd : Value} {k m : Int} {S : List ByteArray} (hD : StrsS w vd S) (hkw : -9223372036854775808 ≤ k ∧ k ≤ 9223372036854775807) (hmw : -9223372036854775808 ≤ m ∧ m ≤ 9223372036854775807) (h : rsE k m ≠ 0) :
    Calls Try.prog 8 #[.int .i64 k, .int .i64 m, vd] w fun e w' => e = .returned (.tuple #[.slice none 0 0, .int .i64 1]) ∧ w = w' := by
  have hck := rsCheck_any k m hkw hmw w
  rw [show rsE k m = 1 by unfold rsE at h ⊢; split at h <;> simp_all] at hck
  obtain ⟨A, c, rfl, hlc, hcm⟩ := hD.opened
  have HCK := Lib.hid hck
  clear hck h hD
  go_enter Try.func8, Try.ntmps8
  go_wp2_with fail
  refine HCK.out.mono ?_
  rintro e w' ⟨rfl, rfl⟩
  go_wp2
  go_ret2
  exact ⟨rfl, rfl⟩
theorem encode_two {w : World} {vd : Value} {k m : Int} {S : List ByteArray} (hD : StrsS w vd S) (hkw : -9223372036854775808 ≤ k ∧ k ≤ 9223372036854775807) (hmw : -9223372036854775808 ≤ m ∧ m ≤ 9223372036854775807) (h0 : rsE k m = 0) (h : ¬ ((S.length : Int) = k ∧ alikeB S = true)) :
    Calls Try.prog 8 #[.int .i64 k, .int .i64 m, vd] w fun e w' => e = .returned (.tuple #[.slice none 0 0, .int .i64 2]) ∧ w = w' := by
  have hck := rsCheck_any k m hkw hmw w
  rw [h0] at hck
  have hak := alike_any hD
  obtain ⟨A, c, rfl, hlc, hcm⟩ := hD.opened
  have HCK := Lib.hid hck
  have HAK := Lib.hid hak
  clear hck hak hD h0
  by_cases hl : (S.length : Int) = k
  · have hal : alikeB S = false := by
      cases hh : alikeB S with
      | false => rfl
      | true => exact absurd ⟨hl, hh⟩ h
    rw [hal] at HAK
    subst hl
    have hz2 : ((S.length : Int) != (S.length : Int)) = false := by simp
    clear h hal
    go_enter Try.func8, Try.ntmps8
    go_wp2_with fail
    refine HCK.out.mono ?_
    rintro e w' ⟨rfl, rfl⟩
    go_wp2_with fail
    refine HAK.out.mono ?_
    rintro e w' ⟨rfl, rfl⟩
    go_wp2
    go_ret2
    exact ⟨rfl, rfl⟩
  · have hz1 : ((S.length : Int) == k) = false := by simpa using hl
    have hz2 : ((S.length : Int) != k) = true := by simpa using hl
    clear h hl HAK
    go_enter Try.func8, Try.ntmps8
    go_wp2_with fail
    refine HCK.out.mono ?_
    rintro e w' ⟨rfl, rfl⟩
    go_wp2
    go_ret2
    exact ⟨rfl, rfl⟩
theorem encode_res {w : World} {vd : Value} {k m : Int} {S : List ByteArray} (hD : StrsS w vd S) (hkw : -9223372036854775808 ≤ k ∧ k ≤ 9223372036854775807) (hmw : -9223372036854775808 ≤ m ∧ m ≤ 9223372036854775807) :
    Calls Try.prog 8 #[.int .i64 k, .int .i64 m, vd] w (StrRes w (encL k m S) (encE k m S)) := by
  by_cases h0 : rsE k m = 0
  · by_cases h1 : (S.length : Int) = k ∧ alikeB S = true
    · have e1 : encE k m S = 0 := by unfold encE; rw [if_pos h0, if_pos h1]
      unfold encL
      rw [e1, if_pos rfl]
      have hb : 1 ≤ k ∧ 0 ≤ m ∧ k + m ≤ 255 := by
        unfold rsE at h0
        by_cases hh : 1 ≤ k ∧ 0 ≤ m ∧ k + m ≤ 255
        · exact hh
        · rw [if_neg hh] at h0; simp at h0
      obtain ⟨kn, rfl⟩ : ∃ n : Nat, k = (n : Int) := ⟨k.toNat, by omega⟩
      obtain ⟨mn, rfl⟩ : ∃ n : Nat, m = (n : Int) := ⟨m.toNat, by omega⟩
      have hA := alikeB_iff.1 h1.2
      have hl : S.length = kn := by have := h1.1; omega
      rw [Int.toNat_natCast, Int.toNat_natCast]
      exact encode_ok (by omega) (by omega) hD hl (fun j hj => (hA j (by omega)).1) (hA 0 (by omega)).2 h1.2
    · have e1 : encE k m S = 2 := by unfold encE; rw [if_pos h0, if_neg h1]
      unfold encL
      rw [e1, if_neg (by decide)]
      exact (encode_two hD hkw hmw h0 h1).mono fun _ _ ⟨a, b⟩ => by subst b; exact ⟨_, a, strsS_nil _, Below.refl _ _⟩
  · have e1 : encE k m S = 1 := by unfold encE; rw [if_neg h0]
    unfold encL
    rw [e1, if_neg (by decide)]
    exact (encode_one hD hkw hmw h0).mono fun _ _ ⟨a, b⟩ => by subst b; exact ⟨_, a, strsS_nil _, Below.refl _ _⟩
end Go.Proofs.Ytpldnbfbpajbkab
