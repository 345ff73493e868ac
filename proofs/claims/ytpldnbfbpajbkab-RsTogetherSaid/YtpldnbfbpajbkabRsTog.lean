/- The walk of RsTogether. -/
import Derived.Test.YtpldnbfbpajbkabRsLives
import Derived.Test.YtpldnbfbpajbkabRsPut
import Derived.Test.YtpldnbfbpajbkabRsArgs
import Derived.Deep.RegionLaw
import Derived.Deep.AppendLies
namespace Go.Proofs.Ytpldnbfbpajbkab
open Go.RowKit
open Caulk.Lin (Fn2 sx sx_xor sx_congr)
open Caulk.Gf (mul mul_xorR)

theorem byteAt_putS {n b : Nat} (s t : ByteArray) (h : b < n) : byteAt (putS n s t) b = byteAt s b ^^^ byteAt t b := by
  unfold putS
  conv => lhs; unfold byteAt
  exact rowL_getD _ h
def bothL (n k : Nat) (A B : List ByteArray) : List ByteArray := (List.range k).map fun i => putS n (A.getD i ByteArray.empty) (B.getD i ByteArray.empty)
theorem bothL_len (n k : Nat) (A B : List ByteArray) : (bothL n k A B).length = k := by simp [bothL]
theorem bothL_getD {n k i : Nat} (A B : List ByteArray) (h : i < k) : (bothL n k A B).getD i ByteArray.empty = putS n (A.getD i ByteArray.empty) (B.getD i ByteArray.empty) := by simp [bothL, List.getD, h]
theorem weave_both (k n i : Nat) (f : Fn2) (A B : List ByteArray) : weaveS k n f (bothL n k A B) i = putS n (weaveS k n f A i) (weaveS k n f B i) := by
  refine str_ext (weaveS_size _ _ _ _ _) (putS_size _ _ _) (fun b hb => ?_)
  rw [byteAt_weave _ _ _ hb, byteAt_putS _ _ hb, byteAt_weave _ _ _ hb, byteAt_weave _ _ _ hb]
  unfold weaveF
  rw [← sx_xor]
  exact sx_congr (fun j hj => by rw [bothL_getD _ _ hj, byteAt_putS _ _ hb, mul_xorR])
/-- What there is where the parity is made. -/
theorem enc_zero {k m : Int} {S : List ByteArray} (h : encE k m S = 0) : ∃ K M n : Nat, k = K ∧ m = M ∧ 1 ≤ K ∧ K + M ≤ 255 ∧ S.length = K ∧ (∀ j, j < K → (S.getD j ByteArray.empty).size = n) ∧ n ≤ 65536 ∧ encL k m S = weaveL M K n (cauF K) S := by
  have h' := h
  unfold encE at h'
  split at h'
  case isFalse => cases h'
  case isTrue h0 =>
    split at h'
    case isFalse => cases h'
    case isTrue h1 =>
      have hb : 1 ≤ k ∧ 0 ≤ m ∧ k + m ≤ 255 := by
        unfold rsE at h0
        by_cases g : 1 ≤ k ∧ 0 ≤ m ∧ k + m ≤ 255
        · exact g
        · rw [if_neg g] at h0; cases h0
      obtain ⟨K, rfl⟩ := Int.eq_ofNat_of_zero_le (show 0 ≤ k by omega)
      obtain ⟨M, rfl⟩ := Int.eq_ofNat_of_zero_le (show 0 ≤ m by omega)
      have hl : S.length = K := by have := h1.1; omega
      have hal := alikeB_iff.1 h1.2
      refine ⟨K, M, (S.getD 0 ByteArray.empty).size, rfl, rfl, by omega, by omega, hl, fun j hj => (hal j (by omega)).1, (hal 0 (by omega)).2, ?_⟩
      unfold encL
      rw [if_pos h]; rfl
theorem enc_fine {K M n : Nat} {S : List ByteArray} (hk : 1 ≤ K) (hkm : K + M ≤ 255) (hl : S.length = K) (hn : ∀ j, j < K → (S.getD j ByteArray.empty).size = n) (hn2 : n ≤ 65536) : encE K M S = 0 ∧ encL K M S = weaveL M K n (cauF K) S := by
  have he : encE K M S = 0 := by
    unfold encE
    rw [if_pos (show rsE (K : Int) (M : Int) = 0 from if_pos (by omega)), if_pos ⟨by omega, alikeB_true (alike_of hl hn hn2)⟩]
  refine ⟨he, ?_⟩
  unfold encL
  rw [if_pos he]
  show weaveL M K (S.getD 0 ByteArray.empty).size (cauF K) S = _
  rw [hn 0 (by omega)]
set_option maxRecDepth 100000 in
set_option maxHeartbeats 4000000 in
theorem rsTogether_walk {w : World} {k m : Int} {a b : Value} {A B : List ByteArray} (hkw : -9223372036854775808 ≤ k ∧ k ≤ 9223372036854775807) (hmw : -9223372036854775808 ≤ m ∧ m ≤ 9223372036854775807) (hA : StrsS w a A) (hB : StrsS w b B) :
    Calls Try.prog 4 #[.int .i64 k, .int .i64 m, a, b] w fun e w' => e = .returned (.bool true) ∧ Below w.heap.size w w' := by
  have HSA : Hid (StrsS w a A) := Lib.hid hA
  have HSB : Hid (StrsS w b B) := Lib.hid hB
  have HKW := Lib.hid hkw
  have HMW := Lib.hid hmw
  clear hA hB hkw hmw
  obtain ⟨aA, cA, rfl, hlA, hmA⟩ := HSA.out.opened
  obtain ⟨aB, cB, rfl, hlB, hmB⟩ := HSB.out.opened
  go_enter Try.func4, Try.ntmps4
  go_wp2_with fail
  (with_reducible refine (lives4_any _).mono ?_)
  rintro e w1 ⟨rfl, hb⟩
  replace HSA := Lib.hid (HSA.out.below hb)
  replace HSB := Lib.hid (HSB.out.below hb)
  have HB := Lib.hid hb
  clear hb
  go_wp2_with fail
  (with_reducible refine (small4_any HSA.out HKW.out HMW.out).mono ?_)
  rintro e w' ⟨⟨r1, rfl⟩, rfl⟩
  cases r1 with
  | false =>
    go_wp2
    go_ret
    exact ⟨rfl, HB.out⟩
  | true =>
  go_wp2_with fail
  (with_reducible refine (small4_any HSB.out HKW.out HMW.out).mono ?_)
  rintro e w' ⟨⟨r1, rfl⟩, rfl⟩
  cases r1 with
  | false =>
    go_wp2
    go_ret
    exact ⟨rfl, HB.out⟩
  | true =>
  go_wp2_with fail
  have h := encode_res HSA.out HKW.out HMW.out
  (with_reducible refine h.mono ?_)
  rintro e w2 ⟨vp, rfl, hx, hb⟩
  clear h
  have HP := Lib.hid hx
  replace HSA := Lib.hid (HSA.out.below hb)
  replace HSB := Lib.hid (HSB.out.below hb)
  replace HB := Lib.hid (HB.out.trans (hb.mono HB.out.size))
  clear hx hb
  go_wp2_with fail
  have h := encode_res HSB.out HKW.out HMW.out
  (with_reducible refine h.mono ?_)
  rintro e w3 ⟨vq, rfl, hx, hb⟩
  clear h
  have HQ := Lib.hid hx
  replace HP := Lib.hid (HP.out.below hb)
  replace HSA := Lib.hid (HSA.out.below hb)
  replace HSB := Lib.hid (HSB.out.below hb)
  replace HB := Lib.hid (HB.out.trans (hb.mono HB.out.size))
  clear hx hb
  obtain ⟨ap, cp, rfl, hlp, hmp⟩ := HP.out.opened
  obtain ⟨aq, cq, rfl, hlq, hmq⟩ := HQ.out.opened
  by_cases hE : encE k m A = 0
  case neg =>
    have hz1 : (encE k m A == 0) = false := by simpa using hE
    have hz2 : (encE k m A != 0) = true := by simpa using hE
    clear hE HP HQ HSA HSB
    generalize encE k m A = E at *
    go_wp2
    go_region
    go_wp2
    go_ret
    exact ⟨rfl, HB.out.drew⟩
  case pos =>
  by_cases hF : encE k m B = 0
  case neg =>
    have hz1 : (encE k m B == 0) = false := by simpa using hF
    have hz2 : (encE k m B != 0) = true := by simpa using hF
    rw [hE]
    clear hE hF HP HQ HSA HSB
    generalize encE k m B = E at *
    go_wp2
    go_region
    go_wp2
    go_ret
    exact ⟨rfl, HB.out.drew⟩
  case pos =>
  obtain ⟨K, M, n, rfl, rfl, hK1, hKM, hlenA, hnA, hn2, eP⟩ := enc_zero hE
  obtain ⟨K', M', n', hK', hM', _, _, hlenB, hnB, hn2', eQ⟩ := enc_zero hF
  obtain rfl : K = K' := by omega
  obtain rfl : M = M' := by omega
  clear hK' hM'
  rw [hE, hF]
  rw [eP] at HP hlp ⊢
  rw [eQ] at HQ hlq ⊢
  clear hE hF eP eQ
  rw [weaveL_len] at hlp hlq ⊢
  rw [weaveL_len]
  rw [hlenA] at hlA ⊢
  rw [hlenB] at hlB ⊢
  obtain ⟨bA, oA, kA, eA, _, _, rA⟩ := HSA.out.reads (by omega)
  obtain ⟨bB, oB, kB, eB, _, _, rB⟩ := HSB.out.reads (by omega)
  injection eA with eA _ eA3
  injection eB with eB _ eB3
  subst eA; subst eA3; subst eB; subst eB3
  obtain ⟨s, hs⟩ : ∃ s : Nat → ByteArray, s = fun i => A.getD i ByteArray.empty := ⟨_, rfl⟩
  obtain ⟨t, ht⟩ : ∃ t : Nat → ByteArray, t = fun i => B.getD i ByteArray.empty := ⟨_, rfl⟩
  have q1 : ∀ i, A.getD i ByteArray.empty = s i := fun i => by rw [hs]
  have q2 : ∀ i, B.getD i ByteArray.empty = t i := fun i => by rw [ht]
  have Q1 := Lib.hid q1
  have Q2 := Lib.hid q2
  rw [hlenA] at rA
  rw [hlenB] at rB
  simp only [q1] at rA hnA
  simp only [q2] at rB hnB
  have RA := Lib.hid rA
  have RB := Lib.hid rB
  have HNA := Lib.hid hnA
  have HNB := Lib.hid hnB
  have HLA := Lib.hid hlenA
  have HLB := Lib.hid hlenB
  obtain ⟨ha0, hsa⟩ := rA w3 (Below.refl _ _) 0 (by omega)
  obtain ⟨hb0, hsb⟩ := rB w3 (Below.refl _ _) 0 (by omega)
  rw [Nat.add_zero] at ha0 hb0
  have hsa0 := hnA 0 (by omega)
  have hsb0 := hnB 0 (by omega)
  clear rA rB hnA hnB hlenA hlenB q1 q2 hs ht HSA HSB
  by_cases hnn : n = n'
  case neg =>
    have hz1 : ((n : Int) == (n' : Int)) = false := by simp; omega
    have hz2 : ((n : Int) != (n' : Int)) = true := by simp; omega
    go_wp2
    go_region
    go_wp2
    go_ret
    exact ⟨rfl, HB.out.drew⟩
  case pos =>
  subst hnn
  have hz1 : ((n : Int) == (n : Int)) = true := by simp
  have hz2 : ((n : Int) != (n : Int)) = false := by simp
  go_wp2
  go_region
  go_wp2
  have HBW : Hid (Below w3.heap.size w3 w3.drew) := Lib.hid (Below.refl _ w3).drew
  clear ha0 hb0 hsa hsb hsa0 hsb0 hz1 hz2
  obtain ⟨i1, hi1, hz3, hz4, hz5⟩ := info_parts infoString
  go_loopw [13, 65] (fun zo i wr => ∃ (p : Nat) (vo : Value), p ≤ K ∧ i = .int .i64 p ∧ vo = zo ∧ wr.ownsRow w3.heap.size 9 1 vo p (leftV (fun i => putS n (s i) (t i)) (List.range p)) ∧ Below w3.heap.size w3 wr) (fun _ i _ => K - (intOf i).toNat)
  case atStart => exact ⟨0, .slice none 0 0, by omega, rfl, rfl, World.ownsRow_nil _ _ _ _, HBW.out⟩
  case round =>
    clear HBW
    obtain ⟨p, vo, hp, rfl, rfl, how, hbe⟩ := hrel
    have HOW := Lib.hid how
    have HBE := Lib.hid hbe
    clear how hbe
    by_cases hlt : p < K
    · obtain ⟨hap, _⟩ := RA.out wr HBE.out p hlt
      obtain ⟨hbp, _⟩ := RB.out wr HBE.out p hlt
      have hpa := HNA.out p hlt
      have hpb := HNB.out p hlt
      have hnn2 : n ≤ 65536 := by omega
      go_wp2
      go_region_law (first
        | (go_simp
           go_at_call 12
           (with_reducible refine (put4_any hpa hpb hnn2 _).mono ?_)
           rintro e w4 ⟨rfl, hb4⟩
           have HBR : Hid (Below wr.heap.size wr w4) := Lib.hid ((Below.refl _ wr).drew.trans hb4)
           have hsz4 : w3.heap.size ≤ w4.heap.size := Nat.le_trans HBE.out.size HBR.out.size
           have HOL := Lib.hid (World.ownsRow.alloc (own_below HOW.out HBR.out) (.cells #[.string (putS n (s p) (t p))] 9)))
        | (refine step_append_lies _ (by rfl) (.tmp 68) (.tmp 78) 22 (by rfl) w3.heap.size 9 i1 (.string ByteArray.empty) 1 16 Try.underlying22 hi1 hz3 hz4 hz5 (by rfl) (by decide) vo p (leftV (fun i => putS n (s i) (t i)) (List.range p)) (by rfl) HOL.out ⟨w4.heap.size, 0, none⟩ 1 1 [.string (putS n (s p) (t p))] (by rfl) (by rfl) (cell_one_new _ _ _) (by simp [Value.oneCell']) (by decide) (by unfold maxLen; omega) (by omega) (by simp; omega) (w4.heap.size + 1) (by simp) ?_
           intro g cap w5 hown5 hgrow5 hat5 hlt5))
      all_goals
        have HT : Hid (w5.ownsRow w3.heap.size 9 1 (.slice (some ⟨g, 0, none⟩) (p + 1) cap) (p + 1) (leftV (fun i => putS n (s i) (t i)) (List.range (p + 1)))) := Lib.hid (by rw [List.range_succ, leftV_snoc]; exact hown5)
        have HB5 : Hid (Below w3.heap.size w3 w5) := Lib.hid (by
          have h1 : Below w3.heap.size w3 w4 := HBE.out.trans (HBR.out.mono HBE.out.size)
          exact (h1.alloc h1.size _).grown hgrow5 (by simp; omega) (fun g hg => (World.ownsRow.lt HOL.out g hg).1))
        clear hown5 hgrow5 hat5 hlt5
        go_wp2
        go_roundw
      all_goals first | exact ⟨p + 1, _, by omega, by go_num, rfl, HT.out, HB5.out⟩ | (simp [intOf]; omega)
    · obtain rfl : p = K := by omega
      have hbb : Below w.heap.size w wr := HB.out.trans (HBE.out.mono HB.out.size)
      have hpp := HP.out.below HBE.out
      have hqq := HQ.out.below HBE.out
      have hboth : StrsS wr vo (bothL n p A B) := by
        have e : (List.range p).map (fun i => putS n (s i) (t i)) = bothL n p A B := by unfold bothL; simp only [Q1.out, Q2.out]
        rw [← e]
        refine own_strs (B := w3.heap.size) (d := fun i => putS n (s i) (t i)) (l := List.range p) (by rw [List.length_range]; exact HOW.out) (fun i _ => by
          show (putS n (s i) (t i)).size ≤ maxLen
          rw [putS_size]; unfold maxLen; omega)
      have hfine := enc_fine (M := M) hK1 hKM (bothL_len n p A B) (fun j hj => by rw [bothL_getD _ _ hj, putS_size]) hn2
      have HSB := Lib.hid hboth
      have HPP := Lib.hid hpp
      have HQQ := Lib.hid hqq
      replace HB := Lib.hid hbb
      have HF := Lib.hid hfine
      clear hboth hpp hqq hbb hfine HOW HBE RA RB HNA HNB HP HQ
      obtain ⟨aS, cS, rfl, hlS, hmS⟩ := HSB.out.opened
      rw [bothL_len] at hlS HSB ⊢
      have h := encode_res HSB.out (k := (p : Int)) (m := (M : Int)) (by omega) (by omega)
      rw [HF.out.1, HF.out.2] at h
      go_wp2_with fail
      (with_reducible refine h.mono ?_)
      rintro e w5 ⟨vs, rfl, hx, hb⟩
      clear h
      have HS := Lib.hid hx
      replace HPP := Lib.hid (HPP.out.below hb)
      replace HQQ := Lib.hid (HQQ.out.below hb)
      replace HB := Lib.hid (HB.out.trans (hb.mono HB.out.size))
      clear hx hb
      obtain ⟨aT, cT, rfl, hlT, hmT⟩ := HS.out.opened
      rw [weaveL_len] at hlT ⊢
      have hmm : ((M : Int) != (M : Int)) = false := by simp
      have HC : Hid (∀ q, q < M → ∃ b1 o1 b2 o2 b3 o3, aT = some ⟨b1, o1, none⟩ ∧ ap = some ⟨b2, o2, none⟩ ∧ aq = some ⟨b3, o3, none⟩ ∧ ∀ W, Below w5.heap.size w5 W → W.cell? ⟨b1, o1 + q, none⟩ = some (.string (putS n (weaveS p n (cauF p) A q) (weaveS p n (cauF p) B q))) ∧ W.cell? ⟨b2, o2 + q, none⟩ = some (.string (weaveS p n (cauF p) A q)) ∧ W.cell? ⟨b3, o3 + q, none⟩ = some (.string (weaveS p n (cauF p) B q))) := Lib.hid (by
        intro q hq
        obtain ⟨b1, o1, c1, e1, _, _, r1⟩ := HS.out.reads (by rw [weaveL_len]; omega)
        obtain ⟨b2, o2, c2, e2, _, _, r2⟩ := HPP.out.reads (by rw [weaveL_len]; omega)
        obtain ⟨b3, o3, c3, e3, _, _, r3⟩ := HQQ.out.reads (by rw [weaveL_len]; omega)
        injection e1 with e1 _ _
        injection e2 with e2 _ _
        injection e3 with e3 _ _
        refine ⟨b1, o1, b2, o2, b3, o3, e1, e2, e3, fun W hW => ?_⟩
        have g1 := (r1 W hW q (by rw [weaveL_len]; omega)).1
        have g2 := (r2 W hW q (by rw [weaveL_len]; omega)).1
        have g3 := (r3 W hW q (by rw [weaveL_len]; omega)).1
        rw [weaveL_getD _ _ hq] at g1 g2 g3
        rw [weave_both] at g1
        exact ⟨g1, g2, g3⟩)
      have hnn2 : n ≤ 65536 := by omega
      have HB5 : Hid (Below w5.heap.size w5 w5) := Lib.hid (Below.refl _ _)
      clear HS HPP HQQ HSB HF
      go_wp2_with fail
      go_loopw [106] (fun i wr => ∃ q : Nat, q ≤ M ∧ i = .int .i64 q ∧ Below w5.heap.size w5 wr) (fun i _ => M - (intOf i).toNat)
      case atStart => exact ⟨0, by omega, rfl, HB5.out⟩
      case round =>
        clear HB5 hmm
        obtain ⟨q, hq, rfl, hbe⟩ := hrel
        have HBE := Lib.hid hbe
        clear hbe
        by_cases hlt : q < M
        · obtain ⟨b1, o1, b2, o2, b3, o3, rfl, rfl, rfl, hW⟩ := HC.out q hlt
          obtain ⟨hc1, hc2, hc3⟩ := hW wr HBE.out
          have hX := weaveS_size p n (cauF p) A q
          have hY := weaveS_size p n (cauF p) B q
          generalize weaveS p n (cauF p) A q = X at hW hc1 hc2 hX
          generalize weaveS p n (cauF p) B q = Y at hW hc1 hc3 hY
          have hput := fun w => put4_any hX hY hnn2 w
          generalize putS n X Y = Z at hW hc1 hput
          have HPUT := Lib.hid hput
          have HW := Lib.hid hW
          clear hput hW
          go_wp2_with fail
          go_region_with (first
            | (go_at_call 12
               (with_reducible refine (HPUT.out _).mono ?_)
               rintro e w6 ⟨rfl, hb6⟩
               have HB6 : Hid (Below w5.heap.size w5 w6) := Lib.hid (by first | exact HBE.out.trans (hb6.mono HBE.out.size) | exact HBE.out.drew.trans (hb6.mono HBE.out.size))
               obtain ⟨hd1, hd2, hd3⟩ := HW.out w6 HB6.out))
          all_goals clear HPUT HW
          all_goals go_wp2
          all_goals go_roundw
          all_goals first | exact ⟨q + 1, by omega, by go_num, HB6.out⟩ | (simp [intOf]; omega)
        · obtain rfl : q = M := by omega
          go_wp2
          go_ret
          exact ⟨rfl, HB.out.trans (HBE.out.mono HB.out.size)⟩
theorem rsTogether_any {w : World} (k : Int) (hk : (Lit.int .i64 k).wf = true) (m : Int) (hm : (Lit.int .i64 m).wf = true) {a b : Value} {A B : List ByteArray} (hA : StrsS w a A) (hB : StrsS w b B) :
    Calls Try.prog 4 #[.int .i64 k, .int .i64 m, a, b] w fun e w' => e = .returned (.bool true) ∧ Below w.heap.size w w' := rsTogether_walk (int_of_wf hk) (int_of_wf hm) hA hB
end Go.Proofs.Ytpldnbfbpajbkab
