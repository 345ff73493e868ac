/- The contract of rs.Good. -/
import Derived.Test.YtpldnbfbpajbkabRsD
namespace Go.Proofs.Ytpldnbfbpajbkab
open Go.RowKit

theorem StrsS.take {w : World} {A : Option Addr} {n cap : Nat} {S : List ByteArray} (h : StrsS w (.slice A n cap) S) (k : Nat) (hk : k ≤ n) : StrsS w (.slice A k cap) (S.take k) := by
  obtain ⟨A', c, e, h1, h2, h3, h4, h5⟩ := h
  injection e with e1 e2 e3
  subst e1; subst e3; subst e2
  have hl : (S.take k).length = k := by simp; omega
  refine ⟨A, cap, by rw [hl], h1, by rw [hl]; omega, h3, fun s hs => h4 s (List.mem_of_mem_take hs), ?_⟩
  by_cases h0 : k = 0
  · left; subst h0; simp
  · rcases h5 with h5 | ⟨b, off, rfl, hlt, hc⟩
    · rw [h5] at hk; simp at hk; omega
    · refine .inr ⟨b, off, rfl, hlt, fun j hj => ?_⟩
      rw [hl] at hj
      rw [hc j (by omega), List.getD, List.getD, List.getElem?_take, if_pos hj]
theorem StrsS.drop {w : World} {b off n cap : Nat} {S : List ByteArray} (h : StrsS w (.slice (some ⟨b, off, none⟩) n cap) S) (k : Nat) (hk : k ≤ n) : StrsS w (.slice (some ⟨b, off + k, none⟩) (n - k) (cap - k)) (S.drop k) := by
  obtain ⟨A', c, e, h1, h2, h3, h4, h5⟩ := h
  injection e with e1 e2 e3
  subst e1; subst e3; subst e2
  have hl : (S.drop k).length = S.length - k := by simp
  refine ⟨_, _, by rw [hl], by simp, by rw [hl]; omega, by omega, fun s hs => h4 s (List.mem_of_mem_drop hs), ?_⟩
  by_cases h0 : S.length - k = 0
  · left; exact List.eq_nil_of_length_eq_zero (by rw [hl]; exact h0)
  · rcases h5 with h5 | ⟨b', off', e, hlt, hc⟩
    · rw [h5] at h0; simp at h0
    · injection e with e
      injection e with e1 e2
      subst e1; subst e2
      refine .inr ⟨b, off + k, rfl, hlt, fun j hj => ?_⟩
      rw [hl] at hj
      rw [Nat.add_assoc, hc (k + j) (by omega), List.getD, List.getD, List.getElem?_drop]
theorem strsS_none {w : World} {A : Addr} : StrsS w (.slice (some A) 0 0) [] := ⟨_, 0, rfl, by simp, Nat.le_refl _, Nat.zero_le _, fun s hs => by simp at hs, .inl rfl⟩
noncomputable def goodB (k m : Int) (S : List ByteArray) : Bool :=
  if rsE k m = 0 ∧ (S.length : Int) = k + m then (if encE k m (S.take k.toNat) = 0 then decide (encL k m (S.take k.toNat) = S.drop k.toNat) else false) else false
set_option maxHeartbeats 2000000 in
theorem good_any {w : World} {vd : Value} {k m : Int} {S : List ByteArray} (hD : StrsS w vd S) (hkw : -9223372036854775808 ≤ k ∧ k ≤ 9223372036854775807) (hmw : -9223372036854775808 ≤ m ∧ m ≤ 9223372036854775807) :
    Calls Try.prog 11 #[.int .i64 k, .int .i64 m, vd] w fun e w' => e = .returned (.bool (goodB k m S)) ∧ Below w.heap.size w w' := by
  have hck := rsCheck_any k m hkw hmw w
  by_cases h0 : rsE k m = 0
  · rw [h0] at hck
    have HCK := Lib.hid hck
    clear hck
    have hb : 1 ≤ k ∧ 0 ≤ m ∧ k + m ≤ 255 := by
      unfold rsE at h0
      by_cases hh : 1 ≤ k ∧ 0 ≤ m ∧ k + m ≤ 255
      · exact hh
      · rw [if_neg hh] at h0; simp at h0
    obtain ⟨kn, rfl⟩ : ∃ n : Nat, k = (n : Int) := ⟨k.toNat, by omega⟩
    obtain ⟨mn, rfl⟩ : ∃ n : Nat, m = (n : Int) := ⟨m.toNat, by omega⟩
    obtain ⟨hb1, hb2, hb3⟩ := hb
    by_cases h1 : (S.length : Int) = (kn : Int) + (mn : Int)
    · have hg : goodB kn mn S = if encE kn mn (S.take kn) = 0 then decide (encL kn mn (S.take kn) = S.drop kn) else false := by
        unfold goodB; rw [if_pos ⟨h0, h1⟩, Int.toNat_natCast]
      rw [hg]
      obtain ⟨b, off, cap, rfl, hlc, hcm, _⟩ := hD.reads (by omega)
      have hl : S.length = kn + mn := by omega
      have hE := encode_res (hD.take kn (by omega)) hkw hmw
      have HE := Lib.hid hE
      have HD := Lib.hid hD
      have hz1 : ((S.length : Int) == (kn : Int) + (mn : Int)) = true := by rw [h1]; simp
      have hz2 : ((S.length : Int) != (kn : Int) + (mn : Int)) = false := by rw [h1]; simp
      clear hE hD hg h0 h1
      obtain ⟨T, hT⟩ : ∃ T, T = encL kn mn (S.take kn) := ⟨_, rfl⟩
      obtain ⟨E, hEE⟩ : ∃ E, E = encE kn mn (S.take kn) := ⟨_, rfl⟩
      rw [← hT, ← hEE] at HE ⊢
      clear hT hEE
      obtain ⟨n, hn⟩ : ∃ n, n = S.length := ⟨_, rfl⟩
      rw [← hn] at hl hlc HD hz1 hz2 ⊢
      clear hn
      by_cases hE0 : E = 0
      · subst hE0
        rw [if_pos rfl]
        obtain ⟨R, hR⟩ : ∃ R, decide (T = S.drop kn) = R := ⟨_, rfl⟩
        rw [hR]
        have HRR := Lib.hid hR
        clear hR
        by_cases hcap : cap = kn
        · obtain rfl : mn = 0 := by omega
          obtain rfl : n = kn := by omega
          obtain rfl : cap = n := hcap
          have HDN : Hid (StrsS w (.slice (some ⟨b, off, none⟩) 0 0) (S.drop cap)) := Lib.hid (by
            have hl0 : S.drop cap = [] := by
              have := HD.out.opened
              obtain ⟨A, c, e, _, _⟩ := this
              injection e with _ e2 _
              exact List.eq_nil_of_length_eq_zero (by simp; omega)
            rw [hl0]; exact strsS_none)
          clear hl
          go_enter Try.func11, Try.ntmps11
          go_wp2_with fail
          refine HCK.out.mono ?_
          rintro e w' ⟨rfl, rfl⟩
          go_wp2_with fail
          refine HE.out.mono ?_
          rintro e w1 ⟨v, rfl, hs, hb⟩
          have HS := Lib.hid hs
          have HDN2 := Lib.hid (HDN.out.below hb)
          have HB := Lib.hid hb
          clear hs hb
          go_wp2_with fail
          have h := equal_any HS.out HDN2.out
          rw [HRR.out] at h
          (with_reducible refine h.mono ?_)
          rintro e w2 ⟨rfl, hb⟩
          clear h
          replace HB := Lib.hid (HB.out.trans (hb.mono HB.out.size))
          clear hb
          go_wp2
          go_ret
          exact ⟨rfl, HB.out⟩
        · have HDN : Hid (StrsS w (.slice (some ⟨b, off + kn, none⟩) (n - kn) (cap - kn)) (S.drop kn)) := Lib.hid (HD.out.drop kn (by omega))
          have hcap2 : ¬ cap - kn = 0 := by omega
          have hkn : kn ≤ n := by omega
          have HLL := Lib.hid hl
          clear hl
          have hn5 : n ≤ 255 := by have := HLL.out; omega
          go_enter Try.func11, Try.ntmps11
          go_wp2_with fail
          refine HCK.out.mono ?_
          rintro e w' ⟨rfl, rfl⟩
          go_wp2_with fail
          refine HE.out.mono ?_
          rintro e w1 ⟨v, rfl, hs, hb⟩
          have HS := Lib.hid hs
          have HDN2 := Lib.hid (HDN.out.below hb)
          have HB := Lib.hid hb
          clear hs hb
          go_wp2_with fail
          have h := equal_any HS.out HDN2.out
          rw [HRR.out] at h
          (with_reducible refine h.mono ?_)
          rintro e w2 ⟨rfl, hb⟩
          clear h
          replace HB := Lib.hid (HB.out.trans (hb.mono HB.out.size))
          clear hb
          go_wp2
          go_ret
          exact ⟨rfl, HB.out⟩
      · rw [if_neg hE0]
        have he1 : (E == 0) = false := by simpa using hE0
        have he2 : (E != 0) = true := by simpa using hE0
        clear hE0
        go_enter Try.func11, Try.ntmps11
        go_wp2_with fail
        refine HCK.out.mono ?_
        rintro e w' ⟨rfl, rfl⟩
        go_wp2_with fail
        refine HE.out.mono ?_
        rintro e w1 ⟨v, rfl, _, hb⟩
        have HB := Lib.hid hb
        clear hb
        go_wp2
        go_ret
        exact ⟨rfl, HB.out⟩
    · have hg : goodB kn mn S = false := by unfold goodB; rw [if_neg (fun h => h1 h.2)]
      rw [hg]
      obtain ⟨A, cap, rfl, hlc, hcm⟩ := hD.opened
      have hz1 : ((S.length : Int) == (kn : Int) + (mn : Int)) = false := by simpa using h1
      have hz2 : ((S.length : Int) != (kn : Int) + (mn : Int)) = true := by simpa using h1
      clear hD hg h0 h1
      go_enter Try.func11, Try.ntmps11
      go_wp2_with fail
      refine HCK.out.mono ?_
      rintro e w' ⟨rfl, rfl⟩
      go_wp2
      go_ret
      exact ⟨rfl, Below.refl _ _⟩
  · have h1 : rsE k m = 1 := by unfold rsE at h0 ⊢; split at h0 <;> simp_all
    rw [h1] at hck
    have HCK := Lib.hid hck
    have hg : goodB k m S = false := by unfold goodB; rw [if_neg (fun h => h0 h.1)]
    rw [hg]
    obtain ⟨A, cap, rfl, hlc, hcm⟩ := hD.opened
    clear hck hD hg h0 h1
    go_enter Try.func11, Try.ntmps11
    go_wp2_with fail
    refine HCK.out.mono ?_
    rintro e w' ⟨rfl, rfl⟩
    go_wp2
    go_ret
    exact ⟨rfl, Below.refl _ _⟩
end Go.Proofs.Ytpldnbfbpajbkab
