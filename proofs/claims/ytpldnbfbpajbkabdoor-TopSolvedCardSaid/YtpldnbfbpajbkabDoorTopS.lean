/- The walk of TopSolved. -/
import Derived.Test.YtpldnbfbpajbkabDoorTopSM
import Derived.Test.YtpldnbfbpajbkabDoorTopBeg
import Derived.Test.YtpldnbfbpajbkabDoorGfK
import Derived.Deep.RegionLaw
import Derived.Deep.AppendLies
import Derived.Deep.Cut
import Derived.Laws.OwnMore
namespace Go.Proofs.YtpldnbfbpajbkabDoor
open Go.RowKit
open Caulk.Lin (Fn2 sx stack)
open Caulk.Gf (mul putL)

/-- Heads of a unit, and of parity's matrix behind them, copied to one slice. -/
theorem stack_copy2 {w1 w2 w3 : World} {B1 B2 B k m : Nat} {v v2 v' : Value} {pl pl2 : Nat → Nat × Nat × Nat} (hkm : k + m ≤ 255) (h1 : GridP w1 B1 v k k unitF pl) (h2 : GridP w2 B2 v2 m k (cauF k) pl2)
    (hb1 : Below w1.heap.size w1 w3) (hb2 : Below w2.heap.size w2 w3) (ho : w3.ownsRow B 40 1 v' (k + m) (hdL k k pl ++ hdL m k pl2)) : MatS w3 v' (rowsL (k + m) k (stack k)) := by
  refine own_mat ho (rowsL_len _ _ _) (fun i hi => ?_)
  rw [rowsL_len] at hi
  rw [rowsL_getD _ hi]
  by_cases e : i < k
  · obtain ⟨a1, a2, a3, a4, a5⟩ := (h1.below hb1).2.1 i e
    refine ⟨_, by rw [List.getElem?_append_left (by rw [hdL_len]; exact e)]; exact hdL_at pl e, ?_⟩
    rw [rowL_congr (g := unitF i) (fun j _ => stack_unit e)]
    exact ⟨_, _, by rw [rowL_len], by simp, by rw [rowL_len]; exact a2, a3, .inr ⟨_, _, rfl, a5.1, fun j hj => (a5.2 j hj).1⟩⟩
  · obtain ⟨a1, a2, a3, a4, a5⟩ := (h2.below hb2).2.1 (i - k) (by omega)
    refine ⟨_, by rw [List.getElem?_append_right (by rw [hdL_len]; omega), hdL_len]; exact hdL_at pl2 (by omega), ?_⟩
    rw [rowL_congr (f := stack k i) (g := cauF k (i - k)) (fun j hj => by have := stack_cau (k := k) (i := i - k) hj (by omega); rwa [show k + (i - k) = i by omega] at this)]
    exact ⟨_, _, by rw [rowL_len], by simp, by rw [rowL_len]; exact a2, a3, .inr ⟨_, _, rfl, a5.1, fun j hj => (a5.2 j hj).1⟩⟩
set_option maxRecDepth 100000 in
set_option maxHeartbeats 4000000 in
theorem topSolved_walk {w : World} {k m : Int} {a b : Value} {D : List ByteArray} {Q : List Bool} (hkw : -9223372036854775808 ≤ k ∧ k ≤ 9223372036854775807) (hmw : -9223372036854775808 ≤ m ∧ m ≤ 9223372036854775807) (hD : StrsS w a D) (hQ : BoolsS w b Q) (hT : Tab w) :
    Calls Tryd.prog 3 #[.int .i64 k, .int .i64 m, a, b] w fun e w' => e = .returned (.bool true) ∧ Below w.heap.size w w' := by
  have HSD : Hid (StrsS w a D) := Lib.hid hD
  obtain ⟨hk1, hk2⟩ := hkw
  obtain ⟨hm1, hm2⟩ := hmw
  have HT := Lib.hid hT
  obtain ⟨A0, c0, rfl, hlQ, hmQ, hcQ⟩ := hQ
  unfold maxLen at hmQ
  have HQ : Hid (∀ i, i < Q.length → ∃ b o, A0 = some ⟨b, o, none⟩ ∧ ∀ W, Below w.heap.size w W → W.cell? ⟨b, o + i, none⟩ = some (.bool (Q.getD i false))) := Lib.hid (by
    intro i hi
    rcases hcQ with hcQ | ⟨b, o, rfl, hlt, hc⟩
    · rw [hcQ] at hi; simp at hi
    · exact ⟨b, o, rfl, fun W hW => (hW.cell (p := ⟨b, o + i, none⟩) hlt).trans (hc i hi)⟩)
  clear hD hcQ hT
  obtain ⟨aA, cA, rfl, hlA, hmA⟩ := HSD.out.opened
  go_enter Tryd.func3, Tryd.ntmps3
  go_wp2_with fail
  (with_reducible refine (begins_any2 _ HT.out).mono ?_)
  rintro e w' ⟨rfl, rfl⟩
  clear HT
  by_cases h1 : k < 1
  case pos =>
    have e1 : decide (k < 1) = true := decide_eq_true h1
    go_wp2
    go_ret
    exact ⟨rfl, Below.refl _ _⟩
  case neg =>
  have e1 : decide (k < 1) = false := decide_eq_false h1
  by_cases h3 : m < 1
  case pos =>
    have e3 : decide (m < 1) = true := decide_eq_true h3
    go_wp2
    go_ret
    exact ⟨rfl, Below.refl _ _⟩
  case neg =>
  have e3 : decide (m < 1) = false := decide_eq_false h3
  by_cases h2 : 12 < k
  case pos =>
    have e2 : decide ((12 : Int) < k) = true := decide_eq_true h2
    go_wp2
    go_ret
    exact ⟨rfl, Below.refl _ _⟩
  case neg =>
  have e2 : decide ((12 : Int) < k) = false := decide_eq_false h2
  by_cases h4 : 12 < m
  case pos =>
    have e4 : decide ((12 : Int) < m) = true := decide_eq_true h4
    go_wp2
    go_ret
    exact ⟨rfl, Below.refl _ _⟩
  case neg =>
  have e4 : decide ((12 : Int) < m) = false := decide_eq_false h4
  obtain ⟨K, rfl⟩ : ∃ K : Nat, k = (K : Int) := ⟨k.toNat, by omega⟩
  obtain ⟨M, rfl⟩ : ∃ M : Nat, m = (M : Int) := ⟨m.toNat, by omega⟩
  by_cases h5 : D.length = K
  case neg =>
    have e5 : ((D.length : Int) == (K : Int)) = false := by rw [beq_eq_false_iff_ne]; omega
    have e6 : ((D.length : Int) != (K : Int)) = true := by rw [bne_iff_ne]; omega
    go_wp2
    go_ret
    exact ⟨rfl, Below.refl _ _⟩
  case pos =>
  have HL := Lib.hid h5
  have hK1 : 1 ≤ K := by omega
  have hM1 : 1 ≤ M := by omega
  have hK2 : K ≤ 12 := by omega
  have hM2 : M ≤ 12 := by omega
  rw [h5] at hlA ⊢
  have e5 : ((K : Int) == (K : Int)) = true := by simp
  have e6 : ((K : Int) != (K : Int)) = false := by simp
  have HC : Hid (∀ j, j < K → ∃ b o, aA = some ⟨b, o, none⟩ ∧ w.cell? ⟨b, o + j, none⟩ = some (.string (D.getD j ByteArray.empty)) ∧ (D.getD j ByteArray.empty).size ≤ 9223372036854775807) := Lib.hid (fun j hj => by
    obtain ⟨b, o, c, e, _, _, r⟩ := HSD.out.reads (by rw [HL.out]; omega)
    injection e with e _ _
    have := r w (Below.refl _ _) j (by rw [HL.out]; exact hj)
    exact ⟨b, o, e, this.1, this.2⟩)
  clear h5
  go_wp2_with fail
  go_loop [59] (fun i => ∃ j : Nat, j ≤ K ∧ i = .int .i64 j) (fun i => K - (intOf i).toNat)
  case atStart => exact ⟨0, by omega, rfl⟩
  case round =>
    obtain ⟨j, hj, rfl⟩ := hrel
    by_cases hlt : j < K
    · obtain ⟨b, o, rfl, hc, hs⟩ := HC.out j hlt
      generalize D.getD j ByteArray.empty = s at hc hs
      by_cases hbig : 1024 < s.size
      · have d1 : decide ((1024 : Int) < (s.size : Int)) = true := by simp; omega
        go_wp2
        go_ret
        exact ⟨rfl, Below.refl _ _⟩
      · have d1 : decide ((1024 : Int) < (s.size : Int)) = false := by simp; omega
        go_wp2
        go_round
        case rel => exact ⟨j + 1, by omega, by go_num⟩
        case measure => simp [intOf]; omega
    · obtain rfl : j = K := by omega
      clear HC hlt hj e1 e2 e3 e4 e5 e6 h1 h2 h3 h4
      have HKW : Hid (-9223372036854775808 ≤ (j : Int) ∧ (j : Int) ≤ 9223372036854775807) := Lib.hid (by omega)
      have HMW : Hid (-9223372036854775808 ≤ (M : Int) ∧ (M : Int) ≤ 9223372036854775807) := Lib.hid (by omega)
      have hrs : rsE (j : Int) (M : Int) = 0 := if_pos (by omega)
      by_cases hal : alikeB D = true
      case neg =>
        have hE : encE j M D = 2 := by unfold encE; rw [if_pos hrs, if_neg (fun h => hal h.2)]
        have h := encode_res HSD.out HKW.out HMW.out
        rw [hE, HL.out] at h
        have HE := Lib.hid h
        clear h hE hal hrs
        go_wp2_with fail
        (with_reducible refine HE.out.mono ?_)
        rintro e w2 ⟨vp, rfl, hx, hb⟩
        have HB := Lib.hid hb
        clear hx hb HE
        go_wp2
        go_ret
        exact ⟨rfl, HB.out⟩
      case pos =>
      have hal2 := alikeB_iff.1 hal
      obtain ⟨n, hnn⟩ : ∃ n, n = (D.getD 0 ByteArray.empty).size := ⟨_, rfl⟩
      have hn : ∀ i, i < j → (D.getD i ByteArray.empty).size = n := fun i hi => by rw [hnn]; exact (hal2 i (by rw [HL.out]; exact hi)).1
      have hn2 : n ≤ 65536 := by rw [hnn]; exact (hal2 0 (by rw [HL.out]; omega)).2
      have hKM : j + M ≤ 255 := by omega
      have h := encode_ok (m := M) hK1 hKM HSD.out HL.out hn hn2 hal
      rw [HL.out] at h
      have HE := Lib.hid h
      have HN := Lib.hid hn
      have HAL := Lib.hid hal
      clear h hn hal hal2 hnn hrs
      go_wp2_with fail
      (with_reducible refine HE.out.mono ?_)
      rintro e w2 ⟨vp, rfl, hx, hb⟩
      have HNP := Lib.hid hx
      replace HSD := Lib.hid (HSD.out.below hb)
      have HB := Lib.hid hb
      obtain ⟨bp, cp, hfp, rfl, hp1, hp2, hp3, hp4, hp5, hp6⟩ := hx
      rw [weaveL_len] at hp3 hp6 ⊢
      unfold maxLen at hp4
      clear hb hp1 hp2 hp5 hp6 HE
      obtain ⟨bA, oA, kA, eA, _, _, rA⟩ := HSD.out.reads (by rw [HL.out]; omega)
      injection eA with eA eA2 eA3
      subst eA; subst eA3
      clear eA2 rA
      obtain ⟨i1, hi1, hz3, hz4, hz5⟩ := info_parts infoString
      have hmade : (w2.alloc (.cells #[] 9)).ownsRow w2.heap.size 9 1 (.slice (some ⟨w2.heap.size, 0, none⟩) 0 0) 0 [] := World.ownsRow_made w2 #[] 0 (Nat.le_refl _) (by decide) rfl
      have HM := Lib.hid hmade
      have HBM := Lib.hid (below_alloc w2 (.cells #[] 9))
      have hsd2 := HSD.out.below HBM.out
      rw [HL.out] at hsd2
      have HX1 := Lib.hid (StrsS.cellsOf hsd2)
      have HX2 := Lib.hid (strs_ones D)
      have HX3 : Hid ((D.map Value.string).length = j * 1) := Lib.hid (by rw [List.length_map, HL.out, Nat.mul_one])
      obtain ⟨xs, hxs⟩ : ∃ xs, xs = D.map Value.string := ⟨_, rfl⟩
      rw [← hxs] at HX1 HX2 HX3
      have HXS := Lib.hid hxs
      obtain ⟨R, hR⟩ : ∃ R, R = j + M := ⟨_, rfl⟩
      have HRR := Lib.hid hR
      obtain ⟨ys, hys⟩ : ∃ ys, ys = (weaveL M j n (cauF j) D).map Value.string := ⟨_, rfl⟩
      have HYS := Lib.hid hys
      have HY2 := strs_ones (weaveL M j n (cauF j) D)
      have HY3 : ((weaveL M j n (cauF j) D).map Value.string).length = M * 1 := by rw [List.length_map, weaveL_len, Nat.mul_one]
      rw [← hys] at HY2 HY3
      replace HY2 := Lib.hid HY2
      replace HY3 := Lib.hid HY3
      clear hmade hsd2 hxs hys hR
      have hR2 : R ≤ 24 := by have := HRR.out; omega
      go_wp2_with (first
        | (at_builtin; (with_reducible refine wpList_append_own_at _ ?g0 (.tmp 78) (.tmp 79) 22 ?g1 w2.heap.size 9 i1 (.string ByteArray.empty) 1 16 Tryd.underlying22 hi1 hz3 hz4 hz5 ?g2 (by decide) (.slice (some ⟨w2.heap.size, 0, none⟩) 0 0) 0 [] ?g3 HM.out ⟨bA, oA, none⟩ j cA xs ?g4 ?g5 ?g6 ?g7 ?g8 ?g9 ?g10 ?_); (case g0 => rfl); (case g1 => rfl); (case g2 => rfl); (case g3 => rfl); (case g4 => rfl); (case g5 => exact HX3.out); (case g6 => exact HX1.out); (case g7 => exact HX2.out); (case g8 => unfold maxLen; omega); (case g9 => omega); (case g10 => simp)
           intro v3 w3 hown1 hgrow1 _ _
           rw [List.nil_append, Nat.zero_add] at hown1
           have hb3 : Below w2.heap.size w2 w3 := HBM.out.grown hgrow1 (by simp) (fun g hg => by simp [Value.ownBlock] at hg; omega)
           have HB3 := Lib.hid hb3
           have HO3 := Lib.hid hown1
           have hy1 := HNP.out.strs.below hb3
           rw [weaveL_len] at hy1
           have hy2 := StrsS.cellsOf hy1
           rw [← HYS.out] at hy2
           have HY1 := Lib.hid hy2
           clear hown1 hgrow1 hb3 hy1 hy2)
        | (at_builtin; (with_reducible refine wpList_append_own_at _ ?h0 (.tmp 80) (.tmp 81) 22 ?h1 w2.heap.size 9 i1 (.string ByteArray.empty) 1 16 Tryd.underlying22 hi1 hz3 hz4 hz5 ?h2 (by decide) v3 j xs ?h3 HO3.out ⟨bp, 0, none⟩ M cp ys ?h4 ?h5 ?h6 ?h7 ?h8 ?h9 ?h10 ?_); (case h0 => rfl); (case h1 => rfl); (case h2 => rfl); (case h3 => rfl); (case h4 => rfl); (case h5 => exact HY3.out); (case h6 => exact HY1.out); (case h7 => exact HY2.out); (case h8 => unfold maxLen; omega); (case h9 => omega); (case h10 => exact HB3.out.size)
           intro v4 w4 hown1 hgrow1 _ _
           have HB4 : Hid (Below w2.heap.size w2 w4) := Lib.hid (HB3.out.grown hgrow1 HB3.out.size (fun g hg => (World.ownsRow.lt HO3.out g hg).1))
           have hst : StrsS w4 v4 (stripeL j M D) := strs_own (B := w2.heap.size) (n := j + M) (by
             rw [HXS.out, HYS.out, ← List.map_append] at hown1
             have e : stripeL j M D = D ++ weaveL M j n (cauF j) D := by unfold stripeL parL; rw [HN.out 0 (by omega)]
             rw [e]; exact hown1) (stripeL_len HL.out) (stripe_short hK1 HL.out HN.out hn2)
           obtain ⟨b4, o4, c4, rfl, hl4, hm4, _⟩ := hst.reads (by rw [stripeL_len HL.out]; omega)
           rw [stripeL_len HL.out, ← HRR.out] at hl4 hst ⊢
           have HST := Lib.hid hst
           clear hown1 hgrow1 hst HY1))
      replace HSD := Lib.hid (HSD.out.below HB4.out)
      replace HB := Lib.hid (HB.out.trans (HB4.out.mono HB.out.size))
      clear HB3 HO3 HBM HM HX1 HX2 HX3 HXS HYS HY2 HY3 HNP HB4 hi1 hz3 hz4 hz5
      obtain ⟨T, hT⟩ : ∃ T, T = stripeL j M D := ⟨_, rfl⟩
      have hTS := stripe_short (M := M) hK1 HL.out HN.out hn2
      have hTL := stripeL_len (k := j) (m := M) HL.out
      rw [← hT] at HST hTS hTL
      rw [← HRR.out] at hTL
      have HT := Lib.hid hT
      have HTS := Lib.hid hTS
      have HTL := Lib.hid hTL
      clear hT hTS hTL
      (with_reducible refine (unit_any j hK1 (by omega) _).mono ?_)
      rintro e w5 ⟨vu, rfl, hg, hb⟩
      have HU := Lib.hid hg
      replace HST := Lib.hid (HST.out.below hb)
      replace HSD := Lib.hid (HSD.out.below hb)
      replace HB := Lib.hid (HB.out.trans (hb.mono HB.out.size))
      clear hb hg
      go_wp2_with fail
      (with_reducible refine (cauchy_any j M hK1 hM1 hKM _).mono ?_)
      rintro e w6 ⟨vc, rfl, hg, hb⟩
      obtain ⟨bu, cu, rfl, hcu1, hcu2, _⟩ := HU.out.shape
      obtain ⟨bc, cc, rfl, hcc1, hcc2, _⟩ := hg.shape
      obtain ⟨pl, hp1⟩ := HU.out.own
      obtain ⟨pl2, hp2⟩ := hg.own
      have hp1' := GridP.below (pl := pl) hp1 hb
      have HP1 : Hid (GridP w6 w4.heap.size (.slice (some ⟨bu, 0, none⟩) j cu) j j unitF pl) := Lib.hid hp1'
      have HP2 : Hid (GridP w6 w5.heap.size (.slice (some ⟨bc, 0, none⟩) M cc) M j (cauF j) pl2) := Lib.hid hp2
      replace HST := Lib.hid (HST.out.below hb)
      replace HSD := Lib.hid (HSD.out.below hb)
      replace HB := Lib.hid (HB.out.trans (hb.mono HB.out.size))
      obtain ⟨i1, hi1, hz3, hz4, hz5⟩ := info_parts infoRow
      have hmade : (w6.alloc (.cells #[] 40)).ownsRow w6.heap.size 40 1 (.slice (some ⟨w6.heap.size, 0, none⟩) 0 0) 0 [] := World.ownsRow_made w6 #[] 0 (Nat.le_refl _) (by decide) rfl
      have HM := Lib.hid hmade
      have HBM := Lib.hid (below_alloc w6 (.cells #[] 40))
      have HX1 : Hid (∀ i u, (hdL j j pl)[i]? = some u → (w6.alloc (.cells #[] 40)).cell? ((⟨bu, 0, none⟩ : Addr).add i) = some u) := Lib.hid (World.ownsRow.cells (GridP.below (pl := pl) hp1' HBM.out).1 (g := bu) rfl)
      have HX2 : Hid (∀ u, u ∈ hdL j j pl → u.oneCell' = true) := Lib.hid (fun u hu => by obtain ⟨i, _, rfl⟩ := List.mem_map.1 hu; rfl)
      have HX3 : Hid ((hdL j j pl).length = j * 1) := Lib.hid (by rw [hdL_len, Nat.mul_one])
      have HY2 : Hid (∀ u, u ∈ hdL M j pl2 → u.oneCell' = true) := Lib.hid (fun u hu => by obtain ⟨i, _, rfl⟩ := List.mem_map.1 hu; rfl)
      have HY3 : Hid ((hdL M j pl2).length = M * 1) := Lib.hid (by rw [hdL_len, Nat.mul_one])
      unfold maxLen at hcu2 hcc2
      clear hb hg hp1 hp1' hp2 hmade HU
      go_wp2_with (first
        | (at_builtin; (with_reducible refine wpList_append_own_at _ ?g0 (.tmp 94) (.tmp 95) 29 ?g1 w6.heap.size 40 i1 (.slice none 0 0) 1 24 Tryd.underlying29 hi1 hz3 hz4 hz5 ?g2 (by decide) (.slice (some ⟨w6.heap.size, 0, none⟩) 0 0) 0 [] ?g3 HM.out ⟨bu, 0, none⟩ j cu (hdL j j pl) ?g4 ?g5 ?g6 ?g7 ?g8 ?g9 ?g10 ?_); (case g0 => rfl); (case g1 => rfl); (case g2 => rfl); (case g3 => rfl); (case g4 => rfl); (case g5 => exact HX3.out); (case g6 => exact HX1.out); (case g7 => exact HX2.out); (case g8 => unfold maxLen; omega); (case g9 => omega); (case g10 => simp)
           intro v7 w7 hown1 hgrow1 _ _
           rw [List.nil_append, Nat.zero_add] at hown1
           have hb4 : Below w6.heap.size w6 w7 := HBM.out.grown hgrow1 (by simp) (fun g hg => by simp [Value.ownBlock] at hg; omega)
           have HB7 := Lib.hid hb4
           have HO7 := Lib.hid hown1
           have HY1 : Hid (∀ i u, (hdL M j pl2)[i]? = some u → w7.cell? ((⟨bc, 0, none⟩ : Addr).add i) = some u) := Lib.hid (World.ownsRow.cells (GridP.below (pl := pl2) HP2.out hb4).1 (g := bc) rfl)
           clear hown1 hgrow1 hb4)
        | (at_builtin; (with_reducible refine wpList_append_own_at _ ?h0 (.tmp 96) (.tmp 97) 29 ?h1 w6.heap.size 40 i1 (.slice none 0 0) 1 24 Tryd.underlying29 hi1 hz3 hz4 hz5 ?h2 (by decide) v7 j (hdL j j pl) ?h3 HO7.out ⟨bc, 0, none⟩ M cc (hdL M j pl2) ?h4 ?h5 ?h6 ?h7 ?h8 ?h9 ?h10 ?_); (case h0 => rfl); (case h1 => rfl); (case h2 => rfl); (case h3 => rfl); (case h4 => rfl); (case h5 => exact HY3.out); (case h6 => exact HY1.out); (case h7 => exact HY2.out); (case h8 => unfold maxLen; omega); (case h9 => omega); (case h10 => exact HB7.out.size)
           intro v8 w8 hown1 hgrow1 _ _
           have hb5 : Below w6.heap.size w6 w8 := HB7.out.grown hgrow1 HB7.out.size (fun g hg => (World.ownsRow.lt HO7.out g hg).1)
           have hmat := stack_copy2 (k := j) (m := M) hKM HP1.out HP2.out hb5 hb5 hown1
           have HMAT := Lib.hid hmat
           have HB8 := Lib.hid hb5
           clear hown1 hgrow1 hb5 hmat HY1))
      replace HST := Lib.hid (HST.out.below HB8.out)
      replace HSD := Lib.hid (HSD.out.below HB8.out)
      replace HB := Lib.hid (HB.out.trans (HB8.out.mono HB.out.size))
      clear HB7 HO7 HBM HM HX1 HX2 HX3 HY2 HY3 HP1 HP2 HB8 hi1 hz3 hz4 hz5
      obtain ⟨q, hq⟩ : ∃ q : Nat → Bool, q = fun i => Q.getD i false := ⟨_, rfl⟩
      have q1 : ∀ i, Q.getD i false = q i := fun i => by rw [hq]
      have hqn : ∀ i, Q.length ≤ i → q i = false := fun i hi => by rw [hq]; simp [List.getD, hi]
      simp only [q1] at HQ
      have HQN := Lib.hid hqn
      obtain ⟨i2, hi2, hw3, hw4, hw5⟩ := info_parts infoPiece
      obtain ⟨i0, hi0, hy0, hy1, hy2⟩ := info_parts infoInt
      have HCT : Hid (∀ W, Below w8.heap.size w8 W → ∀ i, i < R → W.cell? ⟨b4, o4 + i, none⟩ = some (.string (T.getD i ByteArray.empty))) := Lib.hid (fun W hW i hi => by
        obtain ⟨b, o, c, e, _, _, r⟩ := HST.out.reads (by rw [HTL.out]; omega)
        injection e with e _ _
        injection e with e
        injection e with e1 e2
        subst e1; subst e2
        exact (r W hW i (by rw [HTL.out]; exact hi)).1)
      clear hq q1 hqn
      go_loopw [19, 20, 101] (fun za zl c wr => ∃ (x : Nat) (va vl : Value), x ≤ R ∧ c = .int .i64 x ∧ va = za ∧ vl = zl ∧ wr.ownsRow w8.heap.size 3 1 va (atL q j x).length (atV (atL q j x)) ∧ wr.ownsRow w8.heap.size 36 2 vl x (pcF (pcM T q x)) ∧ (va.ownBlock = none ∨ va.ownBlock ≠ vl.ownBlock) ∧ Below w8.heap.size w8 wr) (fun _ _ c _ => R - (intOf c).toNat)
      case atStart => exact ⟨0, .slice none 0 0, .slice none 0 0, by omega, rfl, rfl, rfl, by rw [atL_zero]; exact World.ownsRow_nil _ _ _ _, World.ownsRow_nil _ _ _ _, .inl rfl, Below.refl _ _⟩
      case round =>
        obtain ⟨x, va, vl, hxn, rfl, rfl, rfl, hoa, hop, hap, hbe⟩ := hrel
        have HBE := Lib.hid hbe
        have HAP := Lib.hid hap
        by_cases hlt : x < R
        · have hct := HCT.out wr hbe x hlt
          have hs1 := hbe.size
          obtain ⟨al, hal⟩ : ∃ al, al = atL q j x := ⟨_, rfl⟩
          obtain ⟨xs, hxs⟩ : ∃ xs, xs = pcF (pcM T q x) := ⟨_, rfl⟩
          obtain ⟨s, hs⟩ : ∃ s, s = T.getD x ByteArray.empty := ⟨_, rfl⟩
          rw [← hal] at hoa
          rw [← hxs] at hop
          rw [← hs] at hct
          have hll := (atL_len q j x).1
          rw [← hal] at hll
          obtain ⟨aa, ca, eva, hla, hma⟩ := own_open hoa
          have HOA := Lib.hid hoa
          have HOP := Lib.hid hop
          have HALL := Lib.hid hal
          have HXS := Lib.hid hxs
          have HSS := Lib.hid hs
          subst eva
          clear hoa hop hal hxs hs hap hbe
          cases hqx : q x with
          | true =>
            have hxq : x < Q.length := by
              by_cases g : x < Q.length
              · exact g
              · rw [HQN.out x (by omega)] at hqx; cases hqx
            have HQX := Lib.hid hqx
            obtain ⟨b0, o0, rfl, hcq⟩ := HQ.out x hxq
            have hcq2 := hcq wr (HB.out.trans (HBE.out.mono HB.out.size))
            rw [hqx] at hcq2
            have hdq : decide ((Q.length : Int) ≤ (x : Int)) = false := by simp; omega
            have hdn : decide (Q.length ≤ x) = false := by simp; omega
            have hnle : ¬ Q.length ≤ x := by omega
            have HAL2 : Hid (atL q j (x + 1) = al) := Lib.hid (by rw [HALL.out]; exact atL_lost hqx)
            clear hqx hcq
            have HOL := Lib.hid (World.ownsRow.alloc HOP.out (.cells #[.bool false, .string s] 36))
            have HSN : Hid (pcF (pcM T q (x + 1)) = xs ++ [.bool false, .string s]) := Lib.hid (by rw [pcM_succ, HQX.out, pcF_snoc, HXS.out, HSS.out]; rfl)
            go_wp2_with (first
                    | (at_builtin; (with_reducible refine wpList_append_own_at _ ?g0 (.tmp 117) (.tmp 121) 34 ?g1 w8.heap.size 36 i2 (.agg #[.bool false, .string ByteArray.empty]) 2 24 Tryd.underlying34 hi2 hw3 hw4 hw5 ?g2 (by decide) vl x xs ?g3 HOL.out ⟨wr.heap.size, 0, none⟩ 1 1 [.bool false, .string s] ?g4 ?g5 ?g6 ?g7 ?g8 ?g9 ?g10 ?_); (case g0 => rfl); (case g1 => rfl); (case g2 => rfl); (case g3 => rfl); (case g4 => rfl); (case g5 => rfl); (case g6 => exact cell_two_new _ _ _ _); (case g7 => simp [Value.oneCell']); (case g8 => unfold maxLen; omega); (case g9 => omega); (case g10 => simp; omega)
                       intro vl' w9 hown1 hgrow1 _ hat1
                       have HO9 := Lib.hid hown1
                       have HG9 := Lib.hid hgrow1
                       have HAT9 := Lib.hid hat1
                       have HS9 : Hid (wr.heap.size + 1 ≤ w9.heap.size) := Lib.hid (by have := hgrow1.size; simpa using this)
                       have HA9 : Hid (w9.ownsRow w8.heap.size 3 1 (Value.slice aa al.length ca) al.length (atV al)) := Lib.hid ((World.ownsRow.alloc HOA.out (.cells #[.bool false, .string s] 36)).kept HG9.out HAP.out)
                       have HB9 : Hid (Below w8.heap.size w8 w9) := Lib.hid ((HBE.out.alloc hs1 _).grown HG9.out (by simp; omega) (fun g hg => (World.ownsRow.lt HOL.out g hg).1))
                       have HAP9 : Hid ((Value.slice aa al.length ca).ownBlock = none ∨ (Value.slice aa al.length ca).ownBlock ≠ vl'.ownBlock) := Lib.hid (by
                         rcases HAT9.out with e | e
                         · rw [e]; exact HAP.out
                         · cases hv : (Value.slice aa al.length ca).ownBlock with
                           | none => exact .inl rfl
                           | some g =>
                             right
                             intro e2
                             rw [e] at e2
                             have := (World.ownsRow.lt HOA.out g hv).2
                             simp at e2
                             omega)
                       clear hown1 hgrow1 hat1))
            go_roundw
            case rel => exact ⟨x + 1, (Value.slice aa al.length ca), vl', by omega, by go_num, rfl, rfl, by rw [HAL2.out]; exact HA9.out, by rw [HSN.out]; exact HO9.out, HAP9.out, HB9.out⟩
            case measure => simp [intOf]; omega
          | false =>
            have HQX := Lib.hid hqx
            by_cases hxq : x < Q.length
            · obtain ⟨b0, o0, rfl, hcq⟩ := HQ.out x hxq
              have hcq2 := hcq wr (HB.out.trans (HBE.out.mono HB.out.size))
              rw [hqx] at hcq2
              have hdq : decide ((Q.length : Int) ≤ (x : Int)) = false := by simp; omega
              have hdn : decide (Q.length ≤ x) = false := by simp; omega
              have hnle : ¬ Q.length ≤ x := by omega
              clear hqx hcq
              by_cases hfew : al.length < j
              · have dk : decide ((al.length : Int) < (j : Int)) = true := by simp; omega
                have HAL2 : Hid (atL q j (x + 1) = al ++ [x]) := Lib.hid (by rw [HALL.out]; exact atL_more HQX.out (by rw [← HALL.out]; exact hfew))
                have HOL := Lib.hid (World.ownsRow.alloc HOP.out (.cells #[.bool true, .string s] 36))
                have HSN : Hid (pcF (pcM T q (x + 1)) = xs ++ [.bool true, .string s]) := Lib.hid (by rw [pcM_succ, HQX.out, pcF_snoc, HXS.out, HSS.out]; rfl)
                go_wp2_with (first
                        | (at_builtin; (with_reducible refine wpList_append_own_at _ ?g0 (.tmp 117) (.tmp 121) 34 ?g1 w8.heap.size 36 i2 (.agg #[.bool false, .string ByteArray.empty]) 2 24 Tryd.underlying34 hi2 hw3 hw4 hw5 ?g2 (by decide) vl x xs ?g3 HOL.out ⟨wr.heap.size, 0, none⟩ 1 1 [.bool true, .string s] ?g4 ?g5 ?g6 ?g7 ?g8 ?g9 ?g10 ?_); (case g0 => rfl); (case g1 => rfl); (case g2 => rfl); (case g3 => rfl); (case g4 => rfl); (case g5 => rfl); (case g6 => exact cell_two_new _ _ _ _); (case g7 => simp [Value.oneCell']); (case g8 => unfold maxLen; omega); (case g9 => omega); (case g10 => simp; omega)
                           intro vl' w9 hown1 hgrow1 _ hat1
                           have HO9 := Lib.hid hown1
                           have HG9 := Lib.hid hgrow1
                           have HAT9 := Lib.hid hat1
                           have HS9 : Hid (wr.heap.size + 1 ≤ w9.heap.size) := Lib.hid (by have := hgrow1.size; simpa using this)
                           have HA9 : Hid (w9.ownsRow w8.heap.size 3 1 (Value.slice aa al.length ca) al.length (atV al)) := Lib.hid ((World.ownsRow.alloc HOA.out (.cells #[.bool true, .string s] 36)).kept HG9.out HAP.out)
                           have HB9 : Hid (Below w8.heap.size w8 w9) := Lib.hid ((HBE.out.alloc hs1 _).grown HG9.out (by simp; omega) (fun g hg => (World.ownsRow.lt HOL.out g hg).1))
                           have HAP9 : Hid ((Value.slice aa al.length ca).ownBlock = none ∨ (Value.slice aa al.length ca).ownBlock ≠ vl'.ownBlock) := Lib.hid (by
                             rcases HAT9.out with e | e
                             · rw [e]; exact HAP.out
                             · cases hv : (Value.slice aa al.length ca).ownBlock with
                               | none => exact .inl rfl
                               | some g =>
                                 right
                                 intro e2
                                 rw [e] at e2
                                 have := (World.ownsRow.lt HOA.out g hv).2
                                 simp at e2
                                 omega)
                           clear hown1 hgrow1 hat1
                           have HOL9 := Lib.hid (World.ownsRow.alloc HA9.out (.cells #[.int .i64 (x : Int)] 3)))
                        | (at_builtin; (with_reducible refine wpList_append_own_at _ ?h0 (.tmp 130) (.tmp 132) 33 ?h1 w8.heap.size 3 i0 (.int .i64 0) 1 8 Tryd.underlying33 hi0 hy0 hy1 hy2 ?h2 (by decide) (Value.slice aa al.length ca) al.length (atV al) ?h3 HOL9.out ⟨w9.heap.size, 0, none⟩ 1 1 [.int .i64 (x : Int)] ?h4 ?h5 ?h6 ?h7 ?h8 ?h9 ?h10 ?_); (case h0 => rfl); (case h1 => rfl); (case h2 => rfl); (case h3 => rfl); (case h4 => rfl); (case h5 => rfl); (case h6 => exact cell_one_new _ _ _); (case h7 => simp [Value.oneCell']); (case h8 => unfold maxLen; omega); (case h9 => omega); (case h10 => have := HS9.out; simp; omega)
                           intro va' w10 hown2 hgrow2 _ hat2
                           have HO10 := Lib.hid hown2
                           have HG10 := Lib.hid hgrow2
                           have HAT10 := Lib.hid hat2
                           clear hown2 hgrow2 hat2))
                have HB10 : Hid (Below w8.heap.size w8 w10) := Lib.hid ((HB9.out.alloc HB9.out.size _).grown HG10.out (by have := HS9.out; simp; omega) (fun g hg => (World.ownsRow.lt HA9.out g hg).1))
                have HP10 : Hid (w10.ownsRow w8.heap.size 36 2 vl' (x + 1) (pcF (pcM T q (x + 1)))) := Lib.hid (by
                  rw [HSN.out]
                  refine (World.ownsRow.alloc HO9.out (.cells #[.int .i64 (x : Int)] 3)).kept HG10.out ?_
                  cases hv : vl'.ownBlock with
                  | none => exact .inl rfl
                  | some g =>
                    right
                    rcases HAP9.out with e | e
                    · rw [e]; simp
                    · rw [hv] at e; exact fun e2 => e e2.symm)
                have HA10 : Hid (w10.ownsRow w8.heap.size 3 1 va' (atL q j (x + 1)).length (atV (atL q j (x + 1)))) := Lib.hid (by
                  rw [HAL2.out, List.length_append, atV_snoc]
                  exact HO10.out)
                have HAP10 : Hid (va'.ownBlock = none ∨ va'.ownBlock ≠ vl'.ownBlock) := Lib.hid (by
                  rcases HAT10.out with e | e
                  · rw [e]; exact HAP9.out
                  · right
                    rw [e]
                    intro e2
                    have := (World.ownsRow.lt HO9.out _ e2.symm).2
                    simp at this
                    omega)
                go_roundw
                case rel => exact ⟨x + 1, va', vl', by omega, by go_num, rfl, rfl, HA10.out, HP10.out, HAP10.out, HB10.out⟩
                case measure => simp [intOf]; omega
              · have dk : decide ((al.length : Int) < (j : Int)) = false := by simp; omega
                have HAL2 : Hid (atL q j (x + 1) = al) := Lib.hid (by rw [HALL.out]; exact atL_full (by rw [← HALL.out]; exact hfew))
                have HOL := Lib.hid (World.ownsRow.alloc HOP.out (.cells #[.bool true, .string s] 36))
                have HSN : Hid (pcF (pcM T q (x + 1)) = xs ++ [.bool true, .string s]) := Lib.hid (by rw [pcM_succ, HQX.out, pcF_snoc, HXS.out, HSS.out]; rfl)
                go_wp2_with (first
                        | (at_builtin; (with_reducible refine wpList_append_own_at _ ?g0 (.tmp 117) (.tmp 121) 34 ?g1 w8.heap.size 36 i2 (.agg #[.bool false, .string ByteArray.empty]) 2 24 Tryd.underlying34 hi2 hw3 hw4 hw5 ?g2 (by decide) vl x xs ?g3 HOL.out ⟨wr.heap.size, 0, none⟩ 1 1 [.bool true, .string s] ?g4 ?g5 ?g6 ?g7 ?g8 ?g9 ?g10 ?_); (case g0 => rfl); (case g1 => rfl); (case g2 => rfl); (case g3 => rfl); (case g4 => rfl); (case g5 => rfl); (case g6 => exact cell_two_new _ _ _ _); (case g7 => simp [Value.oneCell']); (case g8 => unfold maxLen; omega); (case g9 => omega); (case g10 => simp; omega)
                           intro vl' w9 hown1 hgrow1 _ hat1
                           have HO9 := Lib.hid hown1
                           have HG9 := Lib.hid hgrow1
                           have HAT9 := Lib.hid hat1
                           have HS9 : Hid (wr.heap.size + 1 ≤ w9.heap.size) := Lib.hid (by have := hgrow1.size; simpa using this)
                           have HA9 : Hid (w9.ownsRow w8.heap.size 3 1 (Value.slice aa al.length ca) al.length (atV al)) := Lib.hid ((World.ownsRow.alloc HOA.out (.cells #[.bool true, .string s] 36)).kept HG9.out HAP.out)
                           have HB9 : Hid (Below w8.heap.size w8 w9) := Lib.hid ((HBE.out.alloc hs1 _).grown HG9.out (by simp; omega) (fun g hg => (World.ownsRow.lt HOL.out g hg).1))
                           have HAP9 : Hid ((Value.slice aa al.length ca).ownBlock = none ∨ (Value.slice aa al.length ca).ownBlock ≠ vl'.ownBlock) := Lib.hid (by
                             rcases HAT9.out with e | e
                             · rw [e]; exact HAP.out
                             · cases hv : (Value.slice aa al.length ca).ownBlock with
                               | none => exact .inl rfl
                               | some g =>
                                 right
                                 intro e2
                                 rw [e] at e2
                                 have := (World.ownsRow.lt HOA.out g hv).2
                                 simp at e2
                                 omega)
                           clear hown1 hgrow1 hat1))
                go_roundw
                case rel => exact ⟨x + 1, (Value.slice aa al.length ca), vl', by omega, by go_num, rfl, rfl, by rw [HAL2.out]; exact HA9.out, by rw [HSN.out]; exact HO9.out, HAP9.out, HB9.out⟩
                case measure => simp [intOf]; omega
            · have hdq : decide ((Q.length : Int) ≤ (x : Int)) = true := by simp; omega
              have hdn : decide (Q.length ≤ x) = true := by simp; omega
              clear hqx
              by_cases hfew : al.length < j
              · have dk : decide ((al.length : Int) < (j : Int)) = true := by simp; omega
                have HAL2 : Hid (atL q j (x + 1) = al ++ [x]) := Lib.hid (by rw [HALL.out]; exact atL_more HQX.out (by rw [← HALL.out]; exact hfew))
                have HOL := Lib.hid (World.ownsRow.alloc HOP.out (.cells #[.bool true, .string s] 36))
                have HSN : Hid (pcF (pcM T q (x + 1)) = xs ++ [.bool true, .string s]) := Lib.hid (by rw [pcM_succ, HQX.out, pcF_snoc, HXS.out, HSS.out]; rfl)
                go_wp2_with (first
                        | (at_builtin; (with_reducible refine wpList_append_own_at _ ?g0 (.tmp 117) (.tmp 121) 34 ?g1 w8.heap.size 36 i2 (.agg #[.bool false, .string ByteArray.empty]) 2 24 Tryd.underlying34 hi2 hw3 hw4 hw5 ?g2 (by decide) vl x xs ?g3 HOL.out ⟨wr.heap.size, 0, none⟩ 1 1 [.bool true, .string s] ?g4 ?g5 ?g6 ?g7 ?g8 ?g9 ?g10 ?_); (case g0 => rfl); (case g1 => rfl); (case g2 => rfl); (case g3 => rfl); (case g4 => rfl); (case g5 => rfl); (case g6 => exact cell_two_new _ _ _ _); (case g7 => simp [Value.oneCell']); (case g8 => unfold maxLen; omega); (case g9 => omega); (case g10 => simp; omega)
                           intro vl' w9 hown1 hgrow1 _ hat1
                           have HO9 := Lib.hid hown1
                           have HG9 := Lib.hid hgrow1
                           have HAT9 := Lib.hid hat1
                           have HS9 : Hid (wr.heap.size + 1 ≤ w9.heap.size) := Lib.hid (by have := hgrow1.size; simpa using this)
                           have HA9 : Hid (w9.ownsRow w8.heap.size 3 1 (Value.slice aa al.length ca) al.length (atV al)) := Lib.hid ((World.ownsRow.alloc HOA.out (.cells #[.bool true, .string s] 36)).kept HG9.out HAP.out)
                           have HB9 : Hid (Below w8.heap.size w8 w9) := Lib.hid ((HBE.out.alloc hs1 _).grown HG9.out (by simp; omega) (fun g hg => (World.ownsRow.lt HOL.out g hg).1))
                           have HAP9 : Hid ((Value.slice aa al.length ca).ownBlock = none ∨ (Value.slice aa al.length ca).ownBlock ≠ vl'.ownBlock) := Lib.hid (by
                             rcases HAT9.out with e | e
                             · rw [e]; exact HAP.out
                             · cases hv : (Value.slice aa al.length ca).ownBlock with
                               | none => exact .inl rfl
                               | some g =>
                                 right
                                 intro e2
                                 rw [e] at e2
                                 have := (World.ownsRow.lt HOA.out g hv).2
                                 simp at e2
                                 omega)
                           clear hown1 hgrow1 hat1
                           have HOL9 := Lib.hid (World.ownsRow.alloc HA9.out (.cells #[.int .i64 (x : Int)] 3)))
                        | (at_builtin; (with_reducible refine wpList_append_own_at _ ?h0 (.tmp 130) (.tmp 132) 33 ?h1 w8.heap.size 3 i0 (.int .i64 0) 1 8 Tryd.underlying33 hi0 hy0 hy1 hy2 ?h2 (by decide) (Value.slice aa al.length ca) al.length (atV al) ?h3 HOL9.out ⟨w9.heap.size, 0, none⟩ 1 1 [.int .i64 (x : Int)] ?h4 ?h5 ?h6 ?h7 ?h8 ?h9 ?h10 ?_); (case h0 => rfl); (case h1 => rfl); (case h2 => rfl); (case h3 => rfl); (case h4 => rfl); (case h5 => rfl); (case h6 => exact cell_one_new _ _ _); (case h7 => simp [Value.oneCell']); (case h8 => unfold maxLen; omega); (case h9 => omega); (case h10 => have := HS9.out; simp; omega)
                           intro va' w10 hown2 hgrow2 _ hat2
                           have HO10 := Lib.hid hown2
                           have HG10 := Lib.hid hgrow2
                           have HAT10 := Lib.hid hat2
                           clear hown2 hgrow2 hat2))
                have HB10 : Hid (Below w8.heap.size w8 w10) := Lib.hid ((HB9.out.alloc HB9.out.size _).grown HG10.out (by have := HS9.out; simp; omega) (fun g hg => (World.ownsRow.lt HA9.out g hg).1))
                have HP10 : Hid (w10.ownsRow w8.heap.size 36 2 vl' (x + 1) (pcF (pcM T q (x + 1)))) := Lib.hid (by
                  rw [HSN.out]
                  refine (World.ownsRow.alloc HO9.out (.cells #[.int .i64 (x : Int)] 3)).kept HG10.out ?_
                  cases hv : vl'.ownBlock with
                  | none => exact .inl rfl
                  | some g =>
                    right
                    rcases HAP9.out with e | e
                    · rw [e]; simp
                    · rw [hv] at e; exact fun e2 => e e2.symm)
                have HA10 : Hid (w10.ownsRow w8.heap.size 3 1 va' (atL q j (x + 1)).length (atV (atL q j (x + 1)))) := Lib.hid (by
                  rw [HAL2.out, List.length_append, atV_snoc]
                  exact HO10.out)
                have HAP10 : Hid (va'.ownBlock = none ∨ va'.ownBlock ≠ vl'.ownBlock) := Lib.hid (by
                  rcases HAT10.out with e | e
                  · rw [e]; exact HAP9.out
                  · right
                    rw [e]
                    intro e2
                    have := (World.ownsRow.lt HO9.out _ e2.symm).2
                    simp at this
                    omega)
                go_roundw
                case rel => exact ⟨x + 1, va', vl', by omega, by go_num, rfl, rfl, HA10.out, HP10.out, HAP10.out, HB10.out⟩
                case measure => simp [intOf]; omega
              · have dk : decide ((al.length : Int) < (j : Int)) = false := by simp; omega
                have HAL2 : Hid (atL q j (x + 1) = al) := Lib.hid (by rw [HALL.out]; exact atL_full (by rw [← HALL.out]; exact hfew))
                have HOL := Lib.hid (World.ownsRow.alloc HOP.out (.cells #[.bool true, .string s] 36))
                have HSN : Hid (pcF (pcM T q (x + 1)) = xs ++ [.bool true, .string s]) := Lib.hid (by rw [pcM_succ, HQX.out, pcF_snoc, HXS.out, HSS.out]; rfl)
                go_wp2_with (first
                        | (at_builtin; (with_reducible refine wpList_append_own_at _ ?g0 (.tmp 117) (.tmp 121) 34 ?g1 w8.heap.size 36 i2 (.agg #[.bool false, .string ByteArray.empty]) 2 24 Tryd.underlying34 hi2 hw3 hw4 hw5 ?g2 (by decide) vl x xs ?g3 HOL.out ⟨wr.heap.size, 0, none⟩ 1 1 [.bool true, .string s] ?g4 ?g5 ?g6 ?g7 ?g8 ?g9 ?g10 ?_); (case g0 => rfl); (case g1 => rfl); (case g2 => rfl); (case g3 => rfl); (case g4 => rfl); (case g5 => rfl); (case g6 => exact cell_two_new _ _ _ _); (case g7 => simp [Value.oneCell']); (case g8 => unfold maxLen; omega); (case g9 => omega); (case g10 => simp; omega)
                           intro vl' w9 hown1 hgrow1 _ hat1
                           have HO9 := Lib.hid hown1
                           have HG9 := Lib.hid hgrow1
                           have HAT9 := Lib.hid hat1
                           have HS9 : Hid (wr.heap.size + 1 ≤ w9.heap.size) := Lib.hid (by have := hgrow1.size; simpa using this)
                           have HA9 : Hid (w9.ownsRow w8.heap.size 3 1 (Value.slice aa al.length ca) al.length (atV al)) := Lib.hid ((World.ownsRow.alloc HOA.out (.cells #[.bool true, .string s] 36)).kept HG9.out HAP.out)
                           have HB9 : Hid (Below w8.heap.size w8 w9) := Lib.hid ((HBE.out.alloc hs1 _).grown HG9.out (by simp; omega) (fun g hg => (World.ownsRow.lt HOL.out g hg).1))
                           have HAP9 : Hid ((Value.slice aa al.length ca).ownBlock = none ∨ (Value.slice aa al.length ca).ownBlock ≠ vl'.ownBlock) := Lib.hid (by
                             rcases HAT9.out with e | e
                             · rw [e]; exact HAP.out
                             · cases hv : (Value.slice aa al.length ca).ownBlock with
                               | none => exact .inl rfl
                               | some g =>
                                 right
                                 intro e2
                                 rw [e] at e2
                                 have := (World.ownsRow.lt HOA.out g hv).2
                                 simp at e2
                                 omega)
                           clear hown1 hgrow1 hat1))
                go_roundw
                case rel => exact ⟨x + 1, (Value.slice aa al.length ca), vl', by omega, by go_num, rfl, rfl, by rw [HAL2.out]; exact HA9.out, by rw [HSN.out]; exact HO9.out, HAP9.out, HB9.out⟩
                case measure => simp [intOf]; omega
        · obtain rfl : x = R := by omega
          have hps : PiecesS wr vl (pcM T q x) := own_pieces hop (pcM_len _ _ _) (pcM_short HTS.out (by rw [HTL.out]; exact Nat.le_refl _))
          have h := decode_res (k := (j : Int)) (m := (M : Int)) hps (by rw [pcM_len]; omega) HKW.out HMW.out
          obtain ⟨d1, d2, d3⟩ := dec_M (j : Int) (M : Int) T q x
          rw [d1, d2] at h
          have hres := back_res (M := M) hK1 hKM HL.out HN.out hn2 q
          rw [← HT.out, ← HRR.out] at hres
          obtain ⟨apl, cpl, rfl, hlpl, hmpl⟩ := hps.opened
          rw [pcM_len] at h hlpl ⊢
          clear hop hap d1 d2 d3 hps HCT hi0 hy0 hy1 hy2 hi2 hw3 hw4 hw5 HQ HQN
          by_cases hc : cntB q x < j
          · obtain ⟨r1, r2⟩ := hres.1 hc
            rw [r1, r2] at h
            have hlen := (atL_cnt q j x).2 hc
            obtain ⟨aa, ca, rfl, hla, hma⟩ := own_open hoa
            have HD := Lib.hid h
            clear hres r1 r2 h hoa hc HAP
            generalize (atL q j x).length = al at *
            have dk : decide ((al : Int) < (j : Int)) = true := by simp; omega
            go_wp2_with fail
            (with_reducible refine HD.out.mono ?_)
            rintro e w9 ⟨vb, rfl, hx, hb⟩
            have HB9 := Lib.hid (HB.out.trans ((HBE.out.trans (hb.mono HBE.out.size)).mono HB.out.size))
            clear hx hb HD
            go_wp2
            go_ret
            exact ⟨rfl, HB9.out⟩
          · obtain ⟨r1, r2⟩ := hres.2 (by omega)
            rw [r1, r2] at h
            have hlen : (atL q j x).length = j := by
              have h1 := (atL_len q j x).1
              exact Nat.le_antisymm h1 (Nat.not_lt.1 (fun e => hc ((atL_cnt q j x).1 e)))
            have hlt2 : ∀ y, y ∈ atL q j x → y < x := fun y hy => by
              have := List.mem_of_mem_take hy
              exact List.mem_range.1 (List.mem_filter.1 this).1
            have HNNX := HRR.out
            obtain ⟨ga, ca, rfl, hca, hcam, hints⟩ := own_ints hoa (fun y hy => by have := hlt2 y hy; omega) j (by omega) hK1
            have htk : (atL q j x).take j = atL q j x := List.take_of_length_le (by omega)
            rw [htk] at hints
            have HGA : Hid (∀ W, Below wr.heap.size wr W → ∀ i, i < j → W.cell? ⟨ga, i, none⟩ = some (.int .i64 (((atL q j x).getD i 0 : Nat) : Int))) := Lib.hid (fun W hW i hi => by
              have h1 := World.ownsRow.cells hoa (g := ga) rfl i (.int .i64 (((atL q j x).getD i 0 : Nat) : Int)) (by
                have : i < (atL q j x).length := by omega
                simp [atV, List.getD, this])
              rw [adr_add, Nat.zero_add] at h1
              exact (hW.cell (p := ⟨ga, i, none⟩) (World.block_lt_of_cell? _ _ h1)).trans h1)
            have hIL : ((atL q j x).map fun z : Nat => (z : Int)).length = j := by rw [List.length_map, hlen]
            have hIN : InRows (j + M) ((atL q j x).map fun z : Nat => (z : Int)) := fun i hi => by
              rw [hIL] at hi
              have hj2 : i < (atL q j x).length := by omega
              have hg : ((atL q j x).map fun z : Nat => (z : Int)).getD i 0 = ((atL q j x)[i] : Int) := by simp [List.getD, hj2]
              rw [hg]
              have := hlt2 _ (List.getElem_mem hj2)
              omega
            have hthl : (thL (pcL T q x)).length = cntB q x := thL_cnt T q x
            have hX := back_X (k := j) (m := M) hKM (P := pcL T q x) (by rw [pcL_len]; omega) (by rw [hthl]; omega)
            have htw := fun {i : Nat} (hi : i < j) => top_weave (M := M) hK1 hKM HL.out HN.out hn2 q (by rw [← HRR.out]; omega) hi
            rw [← HT.out, ← HRR.out] at htw
            have hts : ∀ i, i < j → (thS (pcL T q x)).getD i ByteArray.empty = T.getD ((atL q j x).getD i 0) ByteArray.empty := fun i hi => by
              rw [thS_at T q x (by rw [hthl]; omega), thL_L]
              unfold atL
              congr 1
              simp [List.getD, hi]
            rw [thL_L] at hX
            have hX2 : Caulk.Lin.invM j (pickF (stack j) ((atL q j x).map fun z : Nat => (z : Int))) = some (backX j (pcL T q x)) := hX
            obtain ⟨X, hXe⟩ : ∃ X, X = backX j (pcL T q x) := ⟨_, rfl⟩
            rw [← hXe] at hX2 htw
            obtain ⟨TS, hTSe⟩ : ∃ TS, TS = thS (pcL T q x) := ⟨_, rfl⟩
            rw [← hTSe] at hts htw
            have HTW : Hid (∀ i, i < j → weaveS j n X TS i = D.getD i ByteArray.empty) := Lib.hid (fun i hi => htw hi)
            have HTSL := Lib.hid hts
            have hgood := stripe_good (m := M) hK1 hKM HL.out HN.out hn2
            rw [← HT.out] at hgood
            have HGOOD := Lib.hid hgood
            have hmat := HMAT.out.below HBE.out
            have HD := Lib.hid h
            have HL2 : Hid (∀ i, i < j → (atL q j x).getD i 0 < x) := Lib.hid (fun i hi => hlt2 _ (by rw [List.getD, List.getElem?_eq_getElem (by omega)]; exact List.getElem_mem _))
            obtain ⟨l, hl⟩ : ∃ l, l = atL q j x := ⟨_, rfl⟩
            rw [← hl] at hints hlen hca HGA hIL hIN hX2 HTSL HL2
            have HINT := Lib.hid hints
            have HIL := Lib.hid hIL
            have HIN := Lib.hid hIN
            have HX2 := Lib.hid hX2
            have HLEN := Lib.hid hlen
            unfold maxLen at hcam
            rw [← hl, hlen]
            rw [hlen] at hca
            clear h hres r1 r2 hc hlen hlt2 hoa htk hints hIL hIN hthl hX htw hts hX2 hXe hTSe hgood hmat hl HAP HNNX
            have dk : decide ((j : Int) < (j : Int)) = false := by simp
            go_wp2_with fail
            (with_reducible refine HD.out.mono ?_)
            rintro e w9 ⟨vb, rfl, hx, hb⟩
            have hb89 := HBE.out.trans (hb.mono HBE.out.size)
            have hmat := HMAT.out.below hb89
            have hi9 : IntsV w9 w9.heap.size (.slice (some ⟨ga, 0, none⟩) j ca) (l.map fun z : Nat => (z : Int)) := by
              obtain ⟨A', c', e, i1, i2, i3, i4⟩ := IntsV.below HINT.out hb (Nat.le_refl _)
              refine ⟨A', c', e, i1, i2, i3, ?_⟩
              rcases i4 with i4 | ⟨b, off, e2, hlt, hc⟩
              · exact .inl i4
              · exact .inr ⟨b, off, e2, Nat.lt_of_lt_of_le hlt hb.size, hc⟩
            have hrows := rows_any hmat (Nat.le_refl _) (by omega) hKM hK1 (by omega) hi9 (Nat.le_refl _) (by rw [HIL.out]; exact hK1) (by rw [HIL.out]; omega)
            have HR := Lib.hid hrows
            have HSB := Lib.hid hx
            have HB89 := Lib.hid hb89
            have HB9R := Lib.hid hb
            obtain ⟨ab, cb, rfl, hlb, hmb⟩ := hx.opened
            rw [HTL.out] at hlb HSB ⊢
            clear hx hb hb89 hmat hi9 hrows HD HINT
            go_wp2_with fail
            (with_reducible refine HR.out.mono ?_)
            rintro e w10 ⟨hyes, _⟩
            obtain ⟨v10, rfl, hg, hb⟩ := hyes HIN.out
            have hm := hg.mat
            rw [HIL.out] at hm
            have h2 := invert_any (F := pickF (stack j) (l.map fun z : Nat => (z : Int))) hm (Nat.le_refl _) hK1 (by omega)
            have H2 := Lib.hid h2
            replace HSB := Lib.hid (HSB.out.below hb)
            replace HB89 := Lib.hid (HB89.out.trans (hb.mono HB89.out.size))
            replace HB9R := Lib.hid (HB9R.out.trans (hb.mono HB9R.out.size))
            clear hyes hg hb hm h2 HR
            go_wp2_with fail
            (with_reducible refine H2.out.mono ?_)
            rintro e w11 ⟨hyes, _⟩
            obtain ⟨v11, rfl, hg, hb⟩ := hyes X HX2.out
            obtain ⟨bi, oi, ci, rfl, hri, hcmi, hreadi⟩ := MatV.reads hg.mat (Nat.le_refl _) hK1 hK1
            have HA := Lib.hid hreadi
            replace HSB := Lib.hid (HSB.out.below hb)
            replace HB89 := Lib.hid (HB89.out.trans (hb.mono HB89.out.size))
            replace HB9R := Lib.hid (HB9R.out.trans (hb.mono HB9R.out.size))
            have HSD11 := Lib.hid (HSD.out.below HB89.out)
            have HST11 := Lib.hid (HST.out.below HB89.out)
            have HBW := Lib.hid (HB.out.trans (HB89.out.mono HB.out.size))
            unfold maxLen at hcmi
            clear hyes hg hb hreadi H2
            have hxi : ((x : Int) == (j : Int) + (M : Int)) = true := by have := HRR.out; rw [beq_iff_eq]; omega
            have hxi2 : ((x : Int) != (j : Int) + (M : Int)) = false := by have := HRR.out; simp; omega
            have hmk2 := run_make_row' (P := Tryd.prog) 40 5 (.int .u8 0) 1 Tryd.underlying40 infoU8 rfl .i64 .i64 n (by omega) (by omega)
            have HCS : Hid (∀ W, Below w11.heap.size w11 W → ∀ i, i < j → W.cell? ⟨bA, oA + i, none⟩ = some (.string (D.getD i ByteArray.empty)) ∧ (∃ bb ob, ab = some ⟨bb, ob, none⟩ ∧ W.cell? ⟨bb, ob + i, none⟩ = some (.string (D.getD i ByteArray.empty))) ∧ W.cell? ⟨b4, o4 + l.getD i 0, none⟩ = some (.string (TS.getD i ByteArray.empty)) ∧ W.cell? ⟨ga, i, none⟩ = some (.int .i64 ((l.getD i 0 : Nat) : Int)) ∧ (TS.getD i ByteArray.empty).size = n) := Lib.hid (fun W hW i hi => by
              obtain ⟨x1, x2, x3, x4, _, _, x7⟩ := HSD11.out.reads (by rw [HL.out]; omega)
              obtain ⟨y1, y2, y3, y4, _, _, y7⟩ := HSB.out.reads (by have := HRR.out; rw [HTL.out]; omega)
              obtain ⟨z1, z2, z3, z4, _, _, z7⟩ := HST11.out.reads (by have := HRR.out; rw [HTL.out]; omega)
              injection x4 with x4 _ _
              injection x4 with x4
              injection x4 with x4 x5
              injection y4 with y4 _ _
              injection z4 with z4 _ _
              injection z4 with z4
              injection z4 with z4 z5
              subst x4; subst x5; subst z4; subst z5
              have hx1 : i < x := by have := HRR.out; omega
              have hTi : T.getD i ByteArray.empty = D.getD i ByteArray.empty := by rw [HT.out]; exact stripe_low HL.out hi
              have gy := (y7 W hW i (by rw [HTL.out]; exact hx1)).1
              rw [hTi] at gy
              have hli := HL2.out i hi
              have gz := z7 W hW (l.getD i 0) (by rw [HTL.out]; exact hli)
              rw [← HTSL.out i hi] at gz
              refine ⟨(x7 W hW i (by rw [HL.out]; exact hi)).1, ⟨y1, y2, y4, gy⟩, gz.1, HGA.out W (HB9R.out.trans (hW.mono HB9R.out.size)) i hi, ?_⟩
              rw [HTSL.out i hi, HT.out]
              exact stripe_size HL.out hK1 HN.out (by have := HRR.out; omega))
            have HL2N := HL2
            clear HMAT HSD HST HSD11 HST11 HB89 HB9R HGA HTSL HB HBE HIN HIL HX2
            have HB11 : Hid (Below w11.heap.size w11 w11) := Lib.hid (Below.refl _ _)
            go_wp2_with fail
            clear hxi hxi2 dk
            go_loopw [179] (fun c wr => ∃ i : Nat, i ≤ j ∧ c = .int .i64 i ∧ Below w11.heap.size w11 wr) (fun c _ => j - (intOf c).toNat)
            case atStart => exact ⟨0, by omega, rfl, HB11.out⟩
            case round =>
              clear HB11
              obtain ⟨i, hi, rfl, hbe⟩ := hrel
              have HBE := Lib.hid hbe
              clear hbe
              by_cases hlt : i < j
              · obtain ⟨wo, rfl⟩ : ∃ wo : World, wo = wr := ⟨_, rfl⟩
                obtain ⟨b3, off3, cap3, h3, hb3B, hc3, hcm3, hby⟩ := HA.out wo HBE.out i hlt
                obtain ⟨hd0, _⟩ := HCS.out wo HBE.out 0 (by omega)
                rw [Nat.add_zero] at hd0
                have hn0 := HN.out 0 (by omega)
                obtain ⟨s0, hs0⟩ : ∃ s0, s0 = D.getD 0 ByteArray.empty := ⟨_, rfl⟩
                rw [← hs0] at hd0 hn0
                have hs0b : s0.size ≤ 9223372036854775807 := by omega
                unfold maxLen at hcm3
                have hB1 := below_alloc wo (.cells (madeCells #[.int .u8 0] n) 5)
                have hR1 : Row8 (wo.alloc (.cells (madeCells #[.int .u8 0] n) 5)) wo.heap.size 0 (rowL n (fun _ => 0)) := by rw [rowL_zero]; exact row_made wo n 5
                have HB1 := Lib.hid hB1
                have HR1 := Lib.hid hR1
                have HBY : Hid (∀ W, Below wo.heap.size wo W → ∀ z, z < j → W.cell? ⟨b3, off3 + z, none⟩ = some (.int .u8 ((X i z).toNat : Int))) := Lib.hid (fun W hW z hz => by
                  have hlt3 := World.block_lt_of_cell? wo _ (hby z hz)
                  exact (hW.cell (p := ⟨b3, off3 + z, none⟩) hlt3).trans (hby z hz))
                clear hB1 hR1 hby hs0
                go_wp2
                clear hd0 hs0b hn0 h3
                go_loopw [191] (fun c wr => ∃ z : Nat, z ≤ j ∧ c = .int .i64 z ∧ Row8 wr wo.heap.size 0 (rowL n (fun b => sx z (fun y => mul (X i y) (byteAt (TS.getD y ByteArray.empty) b)))) ∧ Below wo.heap.size wo wr) (fun c _ => j - (intOf c).toNat)
                case atStart => exact ⟨0, by omega, rfl, HR1.out, HB1.out⟩
                case round =>
                  clear HR1 HB1
                  obtain ⟨z, hz, rfl, hrow8, hbe2⟩ := hrel
                  have HR8 := Lib.hid hrow8
                  have HBE2 := Lib.hid hbe2
                  have HBW2 : Hid (Below w11.heap.size w11 wr) := Lib.hid (HBE.out.trans (hbe2.mono HBE.out.size))
                  clear hrow8 hbe2
                  by_cases hlt2 : z < j
                  · have hx := HBY.out wr HBE2.out z hlt2
                    obtain ⟨_, _, hal, hat, hsz⟩ := HCS.out wr HBW2.out z hlt2
                    have hlz := HL2N.out z hlt2
                    obtain ⟨s, hs⟩ : ∃ s, s = TS.getD z ByteArray.empty := ⟨_, rfl⟩
                    rw [← hs] at hal hsz
                    obtain ⟨xx, hxx⟩ : ∃ xx, xx = X i z := ⟨_, rfl⟩
                    rw [← hxx] at hx
                    have hput := put_only wo.heap.size 0 n _ xx s (by unfold maxLen; omega) wr HR8.out
                    rw [rowL_len, putL_str _ _ _ _ hsz] at hput
                    have HP := Lib.hid hput
                    have HXX := Lib.hid hxx
                    have HSS := Lib.hid hs
                    clear hput hxx hs
                    generalize l.getD z 0 = lz at hal hat hlz
                    go_wp2_with fail
                    (with_reducible refine HP.out.mono ?_)
                    rintro e w12 ⟨rfl, hrow2, hon⟩
                    have HRN : Hid (Row8 w12 wo.heap.size 0 (rowL n (fun b => sx (z + 1) (fun y => mul (X i y) (byteAt (TS.getD y ByteArray.empty) b))))) := Lib.hid (by
                      rw [rowL_congr (g := fun b => sx z (fun y => mul (X i y) (byteAt (TS.getD y ByteArray.empty) b)) ^^^ mul xx (byteAt s b)) (fun b _ => by
                        show sx z (fun y => mul (X i y) (byteAt (TS.getD y ByteArray.empty) b)) ^^^ mul (X i z) (byteAt (TS.getD z ByteArray.empty) b) = _
                        rw [HXX.out, HSS.out])]
                      exact hrow2)
                    have HBN : Hid (Below wo.heap.size wo w12) := Lib.hid (HBE2.out.trans (hon.below (Nat.le_refl _) HBE2.out.size))
                    clear hrow2 hon HP
                    go_wp2
                    go_roundw
                    case rel => exact ⟨z + 1, by omega, by go_num, HRN.out, HBN.out⟩
                    case measure => simp [intOf]; omega
                  · obtain rfl : z = j := by omega
                    have hcv : ∀ mm, (convert 40 9 (.slice (some ⟨wo.heap.size, 0, none⟩) n n)).run Tryd.prog (wr.drewN mm) = .ok (.string (D.getD i ByteArray.empty)) (wr.drewN mm) := fun mm => by
                      have h1 := string_of_row (P := Tryd.prog) (cap := n) n (by rw [rowL_len]) (HR8.out.drewN mm) 40 9 5 Tryd.underlying40 Tryd.underlying5 Tryd.underlying9
                      rw [← HTW.out i hlt]
                      exact h1
                    obtain ⟨hdd, ⟨bb, ob, rfl, hbb⟩, _, _, _⟩ := HCS.out wr HBW2.out i hlt
                    generalize D.getD i ByteArray.empty = S at hcv hdd hbb
                    have hix : i < x := by have := HRR.out; omega
                    clear HR8
                    go_wp2_with fail
                    go_quiet (fail)
                    go_wp2
                    go_roundw
                    case rel => exact ⟨i + 1, by omega, by go_num, below_drewN HBW2.out _⟩
                    case measure => simp [intOf]; omega
              · obtain rfl : i = j := by omega
                have h := good_any (HSB.out.below HBE.out) HKW.out HMW.out
                rw [HGOOD.out] at h
                have HG := Lib.hid h
                have HBF := Lib.hid (HBW.out.trans (HBE.out.mono HBW.out.size))
                clear h
                go_wp2_with fail
                (with_reducible refine HG.out.mono ?_)
                rintro e w12 ⟨rfl, hb⟩
                have HBZ := Lib.hid (HBF.out.trans (hb.mono HBF.out.size))
                clear hb
                go_wp2
                go_ret
                exact ⟨rfl, HBZ.out⟩
theorem topSolved_any {w : World} (k : Int) (hk : (Lit.int .i64 k).wf = true) (m : Int) (hm : (Lit.int .i64 m).wf = true) {a b : Value} {D : List ByteArray} {Q : List Bool} (hD : StrsS w a D) (hQ : BoolsS w b Q) (hT : Tab w) :
    Calls Tryd.prog 3 #[.int .i64 k, .int .i64 m, a, b] w fun e w' => e = .returned (.bool true) ∧ Below w.heap.size w w' := topSolved_walk (int_of_wf hk) (int_of_wf hm) hD hQ hT
end Go.Proofs.YtpldnbfbpajbkabDoor
