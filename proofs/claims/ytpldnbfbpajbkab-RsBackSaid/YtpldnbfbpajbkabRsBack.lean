/- The walk of RsBack. -/
import Derived.Test.YtpldnbfbpajbkabRsMath2
import Derived.Deep.RegionLaw
import Derived.Deep.AppendLies
namespace Go.Proofs.Ytpldnbfbpajbkab
open Go.RowKit
open Caulk.Lin (Fn2)

theorem encL_none {k m : Int} {S : List ByteArray} (h : encE k m S ≠ 0) : encL k m S = [] := by unfold encL; rw [if_neg h]
set_option maxRecDepth 100000 in
set_option maxHeartbeats 4000000 in
theorem rsBack_walk {w : World} {k m : Int} {a b : Value} {D : List ByteArray} {Q : List Bool} (hkw : -9223372036854775808 ≤ k ∧ k ≤ 9223372036854775807) (hmw : -9223372036854775808 ≤ m ∧ m ≤ 9223372036854775807) (hD : StrsS w a D) (hQ : BoolsS w b Q) :
    Calls Try.prog 3 #[.int .i64 k, .int .i64 m, a, b] w fun e w' => e = .returned (.bool true) ∧ Below w.heap.size w w' := by
  have HSD : Hid (StrsS w a D) := Lib.hid hD
  have HKW := Lib.hid hkw
  have HMW := Lib.hid hmw
  obtain ⟨A0, c0, rfl, hlQ, hmQ, hcQ⟩ := hQ
  unfold maxLen at hmQ
  have HQ : Hid (∀ i, i < Q.length → ∃ b o, A0 = some ⟨b, o, none⟩ ∧ ∀ W, Below w.heap.size w W → W.cell? ⟨b, o + i, none⟩ = some (.bool (Q.getD i false))) := Lib.hid (by
    intro i hi
    rcases hcQ with hcQ | ⟨b, o, rfl, hlt, hc⟩
    · rw [hcQ] at hi; simp at hi
    · exact ⟨b, o, rfl, fun W hW => (hW.cell (p := ⟨b, o + i, none⟩) hlt).trans (hc i hi)⟩)
  clear hD hkw hmw hcQ
  obtain ⟨aA, cA, rfl, hlA, hmA⟩ := HSD.out.opened
  go_enter Try.func3, Try.ntmps3
  go_wp2_with fail
  (with_reducible refine (lives4_any _).mono ?_)
  rintro e w1 ⟨rfl, hb⟩
  replace HSD := Lib.hid (HSD.out.below hb)
  have HB := Lib.hid hb
  clear hb
  go_wp2_with fail
  (with_reducible refine (small4_any HSD.out HKW.out HMW.out).mono ?_)
  rintro e w' ⟨⟨r1, rfl⟩, rfl⟩
  cases r1 with
  | false =>
    go_wp2
    go_ret
    exact ⟨rfl, HB.out⟩
  | true =>
  by_cases hE : encE k m D = 0
  case neg =>
    have hz1 : (encE k m D == 0) = false := by simpa using hE
    have hz2 : (encE k m D != 0) = true := by simpa using hE
    have h := encode_res HSD.out HKW.out HMW.out
    rw [encL_none hE] at h
    have HE := Lib.hid h
    clear hE HSD h
    generalize encE k m D = E at *
    go_wp2_with fail
    (with_reducible refine HE.out.mono ?_)
    rintro e w2 ⟨vp, rfl, hx, hb⟩
    replace HB := Lib.hid (HB.out.trans (hb.mono HB.out.size))
    obtain ⟨ap, cp, rfl, hlp, hmp⟩ := hx.opened
    clear hx hb HE
    go_wp2
    go_ret
    exact ⟨rfl, HB.out⟩
  case pos =>
  obtain ⟨K, M, n, rfl, rfl, hK1, hKM, hlen, hn, hn2, _⟩ := enc_zero hE
  clear hE
  have h := encode_ok (m := M) hK1 hKM HSD.out hlen hn hn2 (alikeB_true (alike_of hlen hn hn2))
  rw [hlen] at h hlA ⊢
  have HE := Lib.hid h
  have HN := Lib.hid hn
  have HL := Lib.hid hlen
  clear h hn hlen
  go_wp2_with fail
  (with_reducible refine HE.out.mono ?_)
  rintro e w2 ⟨vp, rfl, hx, hb⟩
  have HNP := Lib.hid hx
  replace HSD := Lib.hid (HSD.out.below hb)
  replace HB := Lib.hid (HB.out.trans (hb.mono HB.out.size))
  obtain ⟨bp, cp, hfp, rfl, hp1, hp2, hp3, hp4, hp5, hp6⟩ := hx
  rw [weaveL_len] at hp3 hp6 ⊢
  unfold maxLen at hp4
  clear hb hp1 hp2 hp5 hp6 HE
  obtain ⟨bA, oA, kA, eA, _, _, rA⟩ := HSD.out.reads (by rw [HL.out]; omega)
  injection eA with eA _ eA3
  subst eA; subst eA3
  rw [HL.out] at rA
  obtain ⟨i1, hi1, hz3, hz4, hz5⟩ := info_parts infoString
  have hmade : (w2.alloc (.cells #[] 9)).ownsRow w2.heap.size 9 1 (.slice (some ⟨w2.heap.size, 0, none⟩) 0 0) 0 [] := World.ownsRow_made w2 #[] 0 (Nat.le_refl _) (by decide) rfl
  have HM := Lib.hid hmade
  have HBM := Lib.hid (below_alloc w2 (.cells #[] 9))
  have HX1 := Lib.hid (StrsS.cellsOf (HSD.out.below HBM.out))
  have HX2 := Lib.hid (strs_ones D)
  have HX3 : Hid ((D.map Value.string).length = K * 1) := Lib.hid (by rw [List.length_map, HL.out, Nat.mul_one])
  obtain ⟨xs, hxs⟩ : ∃ xs, xs = D.map Value.string := ⟨_, rfl⟩
  rw [← hxs] at HX1 HX2 HX3
  have HXS := Lib.hid hxs
  obtain ⟨R, hR⟩ : ∃ R, R = K + M := ⟨_, rfl⟩
  have HRR := Lib.hid hR
  obtain ⟨ys, hys⟩ : ∃ ys, ys = (weaveL M K n (cauF K) D).map Value.string := ⟨_, rfl⟩
  have HYS := Lib.hid hys
  have HY2 := strs_ones (weaveL M K n (cauF K) D)
  have HY3 : ((weaveL M K n (cauF K) D).map Value.string).length = M * 1 := by rw [List.length_map, weaveL_len, Nat.mul_one]
  rw [← hys] at HY2 HY3
  replace HY2 := Lib.hid HY2
  replace HY3 := Lib.hid HY3
  clear hmade rA hxs hys hR
  go_wp2_with (first
    | (at_builtin; (with_reducible refine wpList_append_own_at _ ?g0 (.tmp 37) (.tmp 38) 22 ?g1 w2.heap.size 9 i1 (.string ByteArray.empty) 1 16 Try.underlying22 hi1 hz3 hz4 hz5 ?g2 (by decide) (.slice (some ⟨w2.heap.size, 0, none⟩) 0 0) 0 [] ?g3 HM.out ⟨bA, oA, none⟩ K cA xs ?g4 ?g5 ?c1 ?c2 ?c3 ?c4 ?c5 ?_); (case g0 => rfl); (case g1 => rfl); (case g2 => rfl); (case g3 => rfl); (case g4 => rfl); (case g5 => exact HX3.out); (case c1 => exact HX1.out); (case c2 => exact HX2.out); (case c3 => unfold maxLen; omega); (case c4 => omega); (case c5 => simp)
       intro v3 w3 hown1 hgrow1 _ _
       rw [List.nil_append, Nat.zero_add] at hown1
       have hb3 : Below w2.heap.size w2 w3 := HBM.out.grown hgrow1 (by simp) (fun g hg => by simp [Value.ownBlock] at hg; omega)
       have HB3 := Lib.hid hb3
       have HO3 := Lib.hid hown1
       have hy1 := StrsS.cellsOf (HNP.out.strs.below hb3)
       rw [← HYS.out] at hy1
       have HY1 := Lib.hid hy1
       clear hown1 hgrow1 hb3 hy1)
    | (at_builtin; (with_reducible refine wpList_append_own_at _ ?h0 (.tmp 39) (.tmp 40) 22 ?h1 w2.heap.size 9 i1 (.string ByteArray.empty) 1 16 Try.underlying22 hi1 hz3 hz4 hz5 ?h2 (by decide) v3 K xs ?h3 HO3.out ⟨bp, 0, none⟩ M cp ys ?h4 ?h5 ?d1 ?d2 ?d3 ?d4 ?d5 ?_); (case h0 => rfl); (case h1 => rfl); (case h2 => rfl); (case h3 => rfl); (case h4 => rfl); (case h5 => exact HY3.out); (case d1 => exact HY1.out); (case d2 => exact HY2.out); (case d3 => unfold maxLen; omega); (case d4 => omega); (case d5 => exact HB3.out.size)
       intro v4 w4 hown1 hgrow1 _ _
       have HB4 : Hid (Below w2.heap.size w2 w4) := Lib.hid (HB3.out.grown hgrow1 HB3.out.size (fun g hg => (World.ownsRow.lt HO3.out g hg).1))
       have hst : StrsS w4 v4 (stripeL K M D) := strs_own (B := w2.heap.size) (n := K + M) (by
         rw [HXS.out, HYS.out, ← List.map_append] at hown1
         have e : stripeL K M D = D ++ weaveL M K n (cauF K) D := by unfold stripeL parL; rw [HN.out 0 (by omega)]
         rw [e]; exact hown1) (stripeL_len HL.out) (stripe_short hK1 HL.out HN.out hn2)
       obtain ⟨b4, o4, c4, rfl, hl4, hm4, _⟩ := hst.reads (by rw [stripeL_len HL.out]; omega)
       rw [stripeL_len HL.out, ← HRR.out] at hl4 hst ⊢
       have HST := Lib.hid hst
       clear hown1 hgrow1 hst HY1))
  obtain ⟨T, hT⟩ : ∃ T, T = stripeL K M D := ⟨_, rfl⟩
  have hTS := stripe_short (M := M) hK1 HL.out HN.out hn2
  have hTL := stripeL_len (k := K) (m := M) HL.out
  rw [← hT] at HST hTS hTL
  rw [← HRR.out] at hTL
  have HT := Lib.hid hT
  have HTS := Lib.hid hTS
  have HTL := Lib.hid hTL
  have HCT : Hid (∀ W, Below w4.heap.size w4 W → ∀ j, j < R → W.cell? ⟨b4, o4 + j, none⟩ = some (.string (T.getD j ByteArray.empty))) := Lib.hid (fun W hW j hj => by
    obtain ⟨b, o, c, e, _, _, r⟩ := HST.out.reads (by rw [HTL.out]; omega)
    injection e with e _ _
    injection e with e
    injection e with e1 e2
    subst e1; subst e2
    exact (r W hW j (by rw [HTL.out]; exact hj)).1)
  obtain ⟨q, hq⟩ : ∃ q : Nat → Bool, q = fun i => Q.getD i false := ⟨_, rfl⟩
  have q1 : ∀ i, Q.getD i false = q i := fun i => by rw [hq]
  have hqn : ∀ i, Q.length ≤ i → q i = false := fun i hi => by rw [hq]; simp [List.getD, hi]
  simp only [q1] at HQ
  have HQN := Lib.hid hqn
  replace HB := Lib.hid (HB.out.trans (HB4.out.mono HB.out.size))
  obtain ⟨i2, hi2, hw3, hw4, hw5⟩ := info_parts infoPiece
  clear hq q1 hqn hT hTS hTL HB3 HO3 HBM HM HX1 HX2 HX3 HXS HYS HY2 HY3 HNP HSD hi1 hz3 hz4 hz5
  have hR2 : R ≤ 255 := by have := HRR.out; omega
  go_loopw [12, 13, 44] (fun zl zt i wr => ∃ (x : Nat) (vl : Value), x ≤ R ∧ i = .int .i64 x ∧ vl = zl ∧ zt = .int .i64 (cntB q x : Nat) ∧ wr.ownsRow w4.heap.size 31 2 vl x (pcF (pcL T q x)) ∧ Below w4.heap.size w4 wr) (fun _ _ i _ => R - (intOf i).toNat)
  case atStart => exact ⟨0, .slice none 0 0, by omega, rfl, rfl, rfl, World.ownsRow_nil _ _ _ _, Below.refl _ _⟩
  case round =>
    obtain ⟨x, vl, hxn, rfl, rfl, rfl, how, hbe⟩ := hrel
    have HOW := Lib.hid how
    have HBE := Lib.hid hbe
    clear how hbe
    have hcl := cntB_le q x
    by_cases hlt : x < R
    · have hct := HCT.out wr HBE.out x hlt
      have hs1 := HBE.out.size
      cases hqx : q x with
      | true =>
        have hxq : x < Q.length := by
          by_cases g : x < Q.length
          · exact g
          · rw [HQN.out x (by omega)] at hqx; cases hqx
        obtain ⟨b0, o0, rfl, hcq⟩ := HQ.out x hxq
        have hcq2 := hcq wr (HB.out.trans (HBE.out.mono HB.out.size))
        rw [hqx] at hcq2
        have hdq : decide ((x : Int) < (Q.length : Int)) = true := by simp; omega
        have HSN : Hid (pcF (pcL T q (x + 1)) = pcF (pcL T q x) ++ [.bool false, .string ⟨#[]⟩]) := Lib.hid (by rw [pcL_succ, hqx, pcF_snoc]; rfl)
        have HCN : Hid (cntB q (x + 1) = cntB q x) := Lib.hid (by show cntB q x + (if q x then 0 else 1) = _; rw [hqx]; rfl)
        have HOL := Lib.hid (World.ownsRow.alloc HOW.out (.cells #[.bool false, .string ⟨#[]⟩] 31))
        obtain ⟨xs, hxs⟩ : ∃ xs, xs = pcF (pcL T q x) := ⟨_, rfl⟩
        rw [← hxs] at HOL HSN
        clear hqx hcq hxs
        generalize cntB q x = ct at *
        go_wp2_with (at_builtin; (with_reducible refine wpList_append_own_at _ ?g0 (.tmp 59) (.tmp 61) 29 ?g1 w4.heap.size 31 i2 (.agg #[.bool false, .string ByteArray.empty]) 2 24 Try.underlying29 hi2 hw3 hw4 hw5 ?g2 (by decide) vl x xs ?g3 HOL.out ⟨wr.heap.size, 0, none⟩ 1 1 [.bool false, .string ⟨#[]⟩] ?g4 ?g5 ?c1 ?c2 ?c3 ?c4 ?c5 ?_); (case g0 => rfl); (case g1 => rfl); (case g2 => rfl); (case g3 => rfl); (case g4 => rfl); (case g5 => rfl); (case c1 => exact cell_two_new _ _ _ _); (case c2 => simp [Value.oneCell']); (case c3 => unfold maxLen; omega); (case c4 => omega); (case c5 => simp; omega); intro v5; intro w5; intro hown5; intro hgrow5; intro hx5; intro hat5; have HO5 := Lib.hid hown5; have HG5 := Lib.hid hgrow5; clear hown5 hgrow5 hx5 hat5)
        have HB5 : Hid (Below w4.heap.size w4 w5) := Lib.hid ((HBE.out.alloc hs1 _).grown HG5.out (by simp; omega) (fun g hg => (World.ownsRow.lt HOL.out g hg).1))
        go_roundw
        case rel => exact ⟨x + 1, v5, by omega, by go_num, rfl, by rw [HCN.out], by rw [HSN.out]; exact HO5.out, HB5.out⟩
        case measure => simp [intOf]; omega
      | false =>
        have HSN : Hid (pcF (pcL T q (x + 1)) = pcF (pcL T q x) ++ [.bool true, .string (T.getD x ByteArray.empty)]) := Lib.hid (by rw [pcL_succ, hqx, pcF_snoc]; rfl)
        have HCN : Hid (cntB q (x + 1) = cntB q x + 1) := Lib.hid (by show cntB q x + (if q x then 0 else 1) = _; rw [hqx]; rfl)
        have HOL := Lib.hid (World.ownsRow.alloc HOW.out (.cells #[.bool true, .string (T.getD x ByteArray.empty)] 31))
        obtain ⟨xs, hxs⟩ : ∃ xs, xs = pcF (pcL T q x) := ⟨_, rfl⟩
        obtain ⟨s, hs⟩ : ∃ s, s = T.getD x ByteArray.empty := ⟨_, rfl⟩
        rw [← hxs] at HOL HSN
        rw [← hs] at HOL HSN hct
        generalize cntB q x = ct at *
        by_cases hxq : x < Q.length
        · obtain ⟨b0, o0, rfl, hcq⟩ := HQ.out x hxq
          have hcq2 := hcq wr (HB.out.trans (HBE.out.mono HB.out.size))
          rw [hqx] at hcq2
          have hdq : decide ((x : Int) < (Q.length : Int)) = true := by simp; omega
          clear hqx hcq hxs hs
          go_wp2_with (at_builtin; (with_reducible refine wpList_append_own_at _ ?g0 (.tmp 63) (.tmp 66) 29 ?g1 w4.heap.size 31 i2 (.agg #[.bool false, .string ByteArray.empty]) 2 24 Try.underlying29 hi2 hw3 hw4 hw5 ?g2 (by decide) vl x xs ?g3 HOL.out ⟨wr.heap.size, 0, none⟩ 1 1 [.bool true, .string s] ?g4 ?g5 ?c1 ?c2 ?c3 ?c4 ?c5 ?_); (case g0 => rfl); (case g1 => rfl); (case g2 => rfl); (case g3 => rfl); (case g4 => rfl); (case g5 => rfl); (case c1 => exact cell_two_new _ _ _ _); (case c2 => simp [Value.oneCell']); (case c3 => unfold maxLen; omega); (case c4 => omega); (case c5 => simp; omega); intro v5; intro w5; intro hown5; intro hgrow5; intro hx5; intro hat5; have HO5 := Lib.hid hown5; have HG5 := Lib.hid hgrow5; clear hown5 hgrow5 hx5 hat5)
          have HB5 : Hid (Below w4.heap.size w4 w5) := Lib.hid ((HBE.out.alloc hs1 _).grown HG5.out (by simp; omega) (fun g hg => (World.ownsRow.lt HOL.out g hg).1))
          go_roundw
          case rel => exact ⟨x + 1, v5, by omega, by go_num, rfl, by rw [HCN.out]; go_num, by rw [HSN.out]; exact HO5.out, HB5.out⟩
          case measure => simp [intOf]; omega
        · have hdq : decide ((x : Int) < (Q.length : Int)) = false := by simp; omega
          clear hqx hxs hs
          go_wp2_with (at_builtin; (with_reducible refine wpList_append_own_at _ ?g0 (.tmp 63) (.tmp 66) 29 ?g1 w4.heap.size 31 i2 (.agg #[.bool false, .string ByteArray.empty]) 2 24 Try.underlying29 hi2 hw3 hw4 hw5 ?g2 (by decide) vl x xs ?g3 HOL.out ⟨wr.heap.size, 0, none⟩ 1 1 [.bool true, .string s] ?g4 ?g5 ?c1 ?c2 ?c3 ?c4 ?c5 ?_); (case g0 => rfl); (case g1 => rfl); (case g2 => rfl); (case g3 => rfl); (case g4 => rfl); (case g5 => rfl); (case c1 => exact cell_two_new _ _ _ _); (case c2 => simp [Value.oneCell']); (case c3 => unfold maxLen; omega); (case c4 => omega); (case c5 => simp; omega); intro v5; intro w5; intro hown5; intro hgrow5; intro hx5; intro hat5; have HO5 := Lib.hid hown5; have HG5 := Lib.hid hgrow5; clear hown5 hgrow5 hx5 hat5)
          have HB5 : Hid (Below w4.heap.size w4 w5) := Lib.hid ((HBE.out.alloc hs1 _).grown HG5.out (by simp; omega) (fun g hg => (World.ownsRow.lt HOL.out g hg).1))
          go_roundw
          case rel => exact ⟨x + 1, v5, by omega, by go_num, rfl, by rw [HCN.out]; go_num, by rw [HSN.out]; exact HO5.out, HB5.out⟩
          case measure => simp [intOf]; omega
    · obtain rfl : x = R := by omega
      have hps : PiecesS wr vl (pcL T q x) := own_pieces HOW.out (pcL_len _ _ _) (pcL_short HTS.out (by rw [HTL.out]; exact Nat.le_refl _))
      have hres := back_res (M := M) hK1 hKM HL.out HN.out hn2 q
      rw [← HT.out, ← HRR.out] at hres
      have h := decode_res (k := (K : Int)) (m := (M : Int)) hps (by rw [pcL_len]; omega) HKW.out HMW.out
      have hgood := stripe_good (m := M) hK1 hKM HL.out HN.out hn2
      rw [← HT.out] at hgood
      have HGOOD := Lib.hid hgood
      have HPS := Lib.hid hps
      clear hps hgood
      obtain ⟨al, cl, rfl, hll, hlm⟩ := HPS.out.opened
      rw [pcL_len] at hll h ⊢
      by_cases hc : cntB q x < K
      · obtain ⟨r1, r2⟩ := hres.1 hc
        rw [r1, r2] at h
        have hdc : decide (((cntB q x : Nat) : Int) < (K : Int)) = true := by simp; omega
        clear hres r1 r2
        go_wp2_with fail
        (with_reducible refine h.mono ?_)
        rintro e w6 ⟨vb, rfl, hx, hb⟩
        clear h
        obtain ⟨ab, cb, rfl, hlb, hmb⟩ := hx.opened
        replace HB := Lib.hid (HB.out.trans ((HBE.out.trans (hb.mono HBE.out.size)).mono HB.out.size))
        clear hx hb HBE
        generalize cntB q x = ct at *
        go_wp2
        go_ret
        exact ⟨rfl, HB.out⟩
      · obtain ⟨r1, r2⟩ := hres.2 (by omega)
        rw [r1, r2] at h
        have hdc : decide (((cntB q x : Nat) : Int) < (K : Int)) = false := by simp; omega
        clear hres r1 r2
        go_wp2_with fail
        (with_reducible refine h.mono ?_)
        rintro e w6 ⟨vb, rfl, hx, hb⟩
        clear h
        have HSV := Lib.hid hx
        have HST2 := Lib.hid (HST.out.below (HBE.out.trans (hb.mono HBE.out.size)))
        obtain ⟨ab, cb, rfl, hlb, hmb⟩ := hx.opened
        replace HB := Lib.hid (HB.out.trans ((HBE.out.trans (hb.mono HBE.out.size)).mono HB.out.size))
        rw [HTL.out] at hlb HSV ⊢
        clear hx hb HBE
        generalize cntB q x = ct at *
        go_wp2_with fail
        have h := same4_any HSV.out HST2.out
        rw [decide_eq_true rfl] at h
        (with_reducible refine h.mono ?_)
        rintro e w7 ⟨rfl, hb⟩
        clear h
        replace HSV := Lib.hid (HSV.out.below hb)
        replace HB := Lib.hid (HB.out.trans (hb.mono HB.out.size))
        clear hb
        go_wp2_with fail
        have h := good_any HSV.out HKW.out HMW.out
        rw [HGOOD.out] at h
        (with_reducible refine h.mono ?_)
        rintro e w8 ⟨rfl, hb⟩
        replace HB := Lib.hid (HB.out.trans (hb.mono HB.out.size))
        clear hb h
        go_wp2
        go_ret
        exact ⟨rfl, HB.out⟩
theorem rsBack_any {w : World} (k : Int) (hk : (Lit.int .i64 k).wf = true) (m : Int) (hm : (Lit.int .i64 m).wf = true) {a b : Value} {D : List ByteArray} {Q : List Bool} (hD : StrsS w a D) (hQ : BoolsS w b Q) :
    Calls Try.prog 3 #[.int .i64 k, .int .i64 m, a, b] w fun e w' => e = .returned (.bool true) ∧ Below w.heap.size w w' := rsBack_walk (int_of_wf hk) (int_of_wf hm) hD hQ
end Go.Proofs.Ytpldnbfbpajbkab
