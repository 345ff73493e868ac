/- The walk of RsEach. -/
import Derived.Test.YtpldnbfbpajbkabRsMath2
import Derived.Deep.RegionLaw
import Derived.Deep.Cut
import Derived.Laws.OwnMore
import Derived.Deep.AppendLies
namespace Go.Proofs.Ytpldnbfbpajbkab
open Go.RowKit
open Caulk.Lin (Fn2)

set_option maxRecDepth 100000 in
set_option maxHeartbeats 4000000 in
theorem rsEach_walk {w : World} {k m pc at' : Int} {by' : UInt8} {a : Value} {D : List ByteArray} (hkw : -9223372036854775808 ≤ k ∧ k ≤ 9223372036854775807) (hmw : -9223372036854775808 ≤ m ∧ m ≤ 9223372036854775807)
    (hpw : -9223372036854775808 ≤ pc ∧ pc ≤ 9223372036854775807) (haw : -9223372036854775808 ≤ at' ∧ at' ≤ 9223372036854775807) (hD : StrsS w a D) :
    Calls Try.prog 5 #[.int .i64 k, .int .i64 m, a, .int .i64 pc, .int .i64 at', .int .u8 (by'.toNat : Int)] w fun e w' => e = .returned (.bool true) ∧ Below w.heap.size w w' := by
  have HSD : Hid (StrsS w a D) := Lib.hid hD
  have HKW := Lib.hid hkw
  have HMW := Lib.hid hmw
  clear hD hkw hmw
  obtain ⟨hp1, hp2⟩ := hpw
  obtain ⟨ha1, ha2⟩ := haw
  obtain ⟨aA, cA, rfl, hlA, hmA⟩ := HSD.out.opened
  go_enter Try.func5, Try.ntmps5
  go_wp2_with fail
  (with_reducible refine (lives4_any _).mono ?_)
  rintro e w1 ⟨rfl, hb⟩
  replace HSD := Lib.hid (HSD.out.below hb)
  have HB := Lib.hid hb
  clear hb
  go_wp2_with fail
  (with_reducible refine (small4_any HSD.out HKW.out HMW.out).mono ?_)
  rintro e w' ⟨⟨r1, rfl⟩, rfl⟩
  cases r1 with
  | false =>
    obtain ⟨d1, e1⟩ : ∃ d, decide (pc < 0) = d := ⟨_, rfl⟩
    go_wp2
    go_ret
    exact ⟨rfl, HB.out⟩
  | true =>
  by_cases h1 : pc < 0
  case pos =>
    have e1 : decide (pc < 0) = true := decide_eq_true h1
    go_wp2
    go_ret
    exact ⟨rfl, HB.out⟩
  case neg =>
  have e1 : decide (pc < 0) = false := decide_eq_false h1
  obtain ⟨i, rfl⟩ : ∃ i : Nat, pc = (i : Int) := ⟨pc.toNat, by omega⟩
  by_cases h2 : D.length ≤ i
  case pos =>
    have e2 : decide ((D.length : Int) ≤ (i : Int)) = true := by simp; omega
    go_wp2
    go_ret
    exact ⟨rfl, HB.out⟩
  case neg =>
  have e2 : decide ((D.length : Int) ≤ (i : Int)) = false := by simp; omega
  by_cases h3 : at' < 0
  case pos =>
    have e3 : decide (at' < 0) = true := decide_eq_true h3
    go_wp2
    go_ret
    exact ⟨rfl, HB.out⟩
  case neg =>
  have e3 : decide (at' < 0) = false := decide_eq_false h3
  obtain ⟨t, rfl⟩ : ∃ t : Nat, at' = (t : Int) := ⟨at'.toNat, by omega⟩
  obtain ⟨bA, oA, kA, eA, _, _, rA⟩ := HSD.out.reads (by omega)
  injection eA with eA eA2 eA3
  subst eA; subst eA3
  clear eA2
  obtain ⟨hci, hsi⟩ := rA w1 (Below.refl _ _) i (by omega)
  obtain ⟨s, hs⟩ : ∃ s, s = D.getD i ByteArray.empty := ⟨_, rfl⟩
  rw [← hs] at hci hsi
  have HSI := Lib.hid hs
  clear hs rA
  by_cases h4 : s.size ≤ t
  case pos =>
    have e4 : decide ((s.size : Int) ≤ (t : Int)) = true := by simp; omega
    go_wp2
    go_ret
    exact ⟨rfl, HB.out⟩
  case neg =>
  have e4 : decide ((s.size : Int) ≤ (t : Int)) = false := by simp; omega
  by_cases hE : encE k m D = 0
  case neg =>
    have hz1 : (encE k m D == 0) = false := by simpa using hE
    have hz2 : (encE k m D != 0) = true := by simpa using hE
    have h := encode_res HSD.out HKW.out HMW.out
    have HE := Lib.hid h
    clear hE HSD h
    generalize encE k m D = E at *
    go_wp2_with fail
    (with_reducible refine HE.out.mono ?_)
    rintro e w2 ⟨vp, rfl, hx, hb⟩
    replace HB := Lib.hid (HB.out.trans (hb.mono HB.out.size))
    clear hx hb HE
    go_wp2
    go_ret
    exact ⟨rfl, HB.out⟩
  case pos =>
  obtain ⟨K, M, n, rfl, rfl, hK1, hKM, hlen, hn, hn2, _⟩ := enc_zero hE
  clear hE
  have hsz : s.size = n := by rw [HSI.out]; exact hn i (by omega)
  have h := encode_ok (m := M) hK1 hKM HSD.out hlen hn hn2 (alikeB_true (alike_of hlen hn hn2))
  rw [hlen] at h hlA e2 h2 ⊢
  have HE := Lib.hid h
  have HN := Lib.hid hn
  have HL := Lib.hid hlen
  clear h hn hlen
  go_wp2_with fail
  (with_reducible refine HE.out.mono ?_)
  rintro e w2 ⟨vp, rfl, hx, hb⟩
  have HNP := Lib.hid hx
  replace HSD := Lib.hid (HSD.out.below hb)
  replace HB := Lib.hid (HB.out.trans (hb.mono HB.out.size))
  obtain ⟨bp, cp, hfp, rfl, hp1, hp2, hp3, hp4, hp5, hp6⟩ := hx
  rw [weaveL_len] at hp3 hp6 ⊢
  unfold maxLen at hp4
  have hci2 : w2.cell? ⟨bA, oA + i, none⟩ = some (.string s) := (hb.cell (p := ⟨bA, oA + i, none⟩) (World.block_lt_of_cell? _ _ hci)).trans hci
  clear hb hp1 hp2 hp5 hp6 HE hci e1 e2 e3 e4 h1 h3
  have hcv := fun w' : World => run_bytes_of_string (P := Try.prog) w' 9 38 5 s Try.underlying9 Try.underlying38 Try.underlying5
  have hcv2 := hcv w2
  rw [hsz] at hcv2
  have hrow := row_of_string4 w2 s (grownCap w2 n 0 5) 5 (bytesRow s (grownCap w2 n 0 5)).size (by unfold bytesRow; simp)
  have hbel : Below w2.heap.size w2 (w2.alloc (.cells (bytesRow s (grownCap w2 n 0 5)) 5 ((bytesRow s (grownCap w2 n 0 5)).size, (bytesRow s (grownCap w2 n 0 5)).size + 1))).drew :=
    ((Below.refl _ w2).alloc (Nat.le_refl _) _).drew
  go_upto_region 9 with fail
  generalize (w2.alloc (.cells (bytesRow s (grownCap w2 n 0 5)) 5 ((bytesRow s (grownCap w2 n 0 5)).size, (bytesRow s (grownCap w2 n 0 5)).size + 1))).drew = W3 at *
  clear hcv hcv2
  generalize grownCap w2 n 0 5 = cap at *
  have ht : t < n := by omega
  have hst : s.data.toList = rowL n (byteAt s) := by
    have := list_rowL s.data.toList
    rw [show s.data.toList.length = n by rw [← hsz]; simp] at this
    exact this.symm
  rw [hst] at hrow
  have hset := hrow.set t (by rw [rowL_len]; exact ht) (bxor (byteAt s t) by')
  rw [rowL_set _ ht _, Nat.zero_add] at hset
  have hd := hrow.2 t (by rw [rowL_len]; exact ht)
  rw [rowL_getD _ ht, Nat.zero_add] at hd
  obtain ⟨hx1, hx2⟩ := hd
  have hbs : Below w2.heap.size w2 (W3.setCell ⟨w2.heap.size, t, none⟩ (.int .u8 ((bxor (byteAt s t) by').toNat : Int))) := hbel.setCell (p := ⟨w2.heap.size, t, none⟩) (Nat.le_refl _) _
  have h4x := u8_bxor (byteAt s t) by'
  have HSET := Lib.hid hset
  have HBS := Lib.hid hbs
  obtain ⟨s', hs'⟩ : ∃ s' : ByteArray, s' = ⟨(rowL n fun j => if j = t then bxor (byteAt s t) by' else byteAt s j).toArray⟩ := ⟨_, rfl⟩
  have HS' := Lib.hid hs'
  clear hset hbs hst hrow hbel hs'
  obtain ⟨x0, hx0⟩ : ∃ x0, x0 = byteAt s t := ⟨_, rfl⟩
  rw [← hx0] at hx1 h4x HSET HBS
  have HX0 := Lib.hid hx0
  clear hx0
  go_upto_region 10 with fail
  have hW4s : w2.heap.size < (W3.setCell ⟨w2.heap.size, t, none⟩ (.int .u8 ((bxor x0 by').toNat : Int))).heap.size := HSET.out.1
  generalize W3.setCell ⟨w2.heap.size, t, none⟩ (.int .u8 ((bxor x0 by').toNat : Int)) = W4 at *
  clear hx1 hx2 h4x
  replace HSD := Lib.hid (HSD.out.below HBS.out)
  obtain ⟨i1, hi1, hz3, hz4, hz5⟩ := info_parts infoString
  have hmade : (W4.alloc (.cells #[] 9)).ownsRow W4.heap.size 9 1 (.slice (some ⟨W4.heap.size, 0, none⟩) 0 0) 0 [] := World.ownsRow_made W4 #[] 0 (Nat.le_refl _) (by decide) rfl
  have HM := Lib.hid hmade
  have HBM := Lib.hid (below_alloc W4 (.cells #[] 9))
  have hsd := HSD.out.below HBM.out
  have HX1 := Lib.hid (StrsS.cellsOf hsd)
  have HX2 := Lib.hid (strs_ones D)
  have HX3 : Hid ((D.map Value.string).length = K * 1) := Lib.hid (by rw [List.length_map, HL.out, Nat.mul_one])
  obtain ⟨xs, hxs⟩ : ∃ xs, xs = D.map Value.string := ⟨_, rfl⟩
  rw [← hxs] at HX1 HX2 HX3
  have HXS := Lib.hid hxs
  have hpc : i < K := by omega
  clear hmade hxs hsd
  go_wp2_with (at_builtin; (with_reducible refine wpList_append_own_at _ ?g0 (.tmp 72) (.tmp 73) 22 ?g1 W4.heap.size 9 i1 (.string ByteArray.empty) 1 16 Try.underlying22 hi1 hz3 hz4 hz5 ?g2 (by decide) (.slice (some ⟨W4.heap.size, 0, none⟩) 0 0) 0 [] ?g3 HM.out ⟨bA, oA, none⟩ K cA xs ?g4 ?g5 ?c1 ?c2 ?c3 ?c4 ?c5 ?_); (case g0 => rfl); (case g1 => rfl); (case g2 => rfl); (case g3 => rfl); (case g4 => rfl); (case g5 => exact HX3.out); (case c1 => exact HX1.out); (case c2 => exact HX2.out); (case c3 => unfold maxLen; omega); (case c4 => omega); (case c5 => simp)
               intro v5 w5 hown1 hgrow1 _ _
               rw [List.nil_append, Nat.zero_add] at hown1
               have hb5 : Below W4.heap.size W4 w5 := HBM.out.grown hgrow1 (by simp) (fun g hg => by simp [Value.ownBlock] at hg; omega)
               have HB5 := Lib.hid hb5
               obtain ⟨g5, c5, rfl, hg5, hg5s⟩ := hown1.form (by omega)
               have HO5 := Lib.hid hown1
               have hr5 : Row8 w5 w2.heap.size 0 (rowL n fun j => if j = t then bxor x0 by' else byteAt s j) := HSET.out.below hb5 hW4s
               have hcv5 := string_of_row (P := Try.prog) (cap := cap) n (by rw [rowL_len]) hr5 38 9 5 Try.underlying38 Try.underlying5 Try.underlying9
               have hc5 := hown1.cellAt i (by omega)
               have hf5 := hown1.frozenAt i
               have hxi : xs[i]? = some (.string s) := by
                 have : i < D.length := by rw [HL.out]; exact hpc
                 rw [HXS.out, HSI.out]; simp [List.getD, this]
               rw [hxi] at hc5
               have hcm5 : K ≤ c5 ∧ c5 ≤ 9223372036854775807 := by
                 rcases hown1.2 with ⟨e, _⟩ | ⟨g, c, cur, e, _, _, a1, a2, _⟩
                 · simp at e
                 · simp at e
                   unfold maxLen at a2
                   omega
               obtain ⟨hcm6, hcm7⟩ := hcm5
               clear hown1 hgrow1 hb5 hr5 hxi)
  have hs6 : (⟨(rowL n fun j => if j = t then bxor x0 by' else byteAt s j).toArray⟩ : ByteArray).size = n := by
    show (rowL n _).toArray.size = n
    rw [List.size_toArray, rowL_len]
  have hb6 : ∀ b, b < n → byteAt (⟨(rowL n fun j => if j = t then bxor x0 by' else byteAt s j).toArray⟩ : ByteArray) b = if b = t then bxor x0 by' else byteAt s b := fun b hb => by
    conv => lhs; unfold byteAt
    exact rowL_getD _ hb
  obtain ⟨s6, e6⟩ : ∃ s6 : ByteArray, s6 = ⟨(rowL n fun j => if j = t then bxor x0 by' else byteAt s j).toArray⟩ := ⟨_, rfl⟩
  rw [← e6] at hs6 hb6 ⊢
  have hst6 := HO5.out.stored i (.string s6)
  have hW6 : Below W4.heap.size W4 (w5.setCell ⟨g5, i, none⟩ (.string s6)) := HB5.out.setCell (p := ⟨g5, i, none⟩) hg5 _
  generalize w5.setCell ⟨g5, i, none⟩ (.string s6) = W6 at *
  have hEl : (D.set i s6).length = K := by rw [List.length_set, HL.out]
  have hEg : ∀ j, j < K → (D.set i s6).getD j ByteArray.empty = if j = i then s6 else D.getD j ByteArray.empty := fun j hj => by
    have hj2 : j < D.length := by rw [HL.out]; exact hj
    by_cases e : j = i
    · subst e; rw [if_pos rfl]; simp [List.getD, hj2]
    · rw [if_neg e]; simp [List.getD, List.getElem?_set_ne (Ne.symm e)]
  have hEn : ∀ j, j < K → ((D.set i s6).getD j ByteArray.empty).size = n := fun j hj => by
    rw [hEg j hj]
    by_cases e : j = i
    · rw [if_pos e]; exact hs6
    · rw [if_neg e]; exact HN.out j hj
  have hSS : StrsS W6 (.slice (some ⟨g5, 0, none⟩) K c5) (D.set i s6) := strs_own (B := W4.heap.size) (n := K) (by
    have := hst6.1
    rw [HXS.out] at this
    rw [List.map_set]; exact this) hEl (fun z hz => by
    obtain ⟨j, hj, rfl⟩ := List.mem_iff_getElem.1 hz
    have := hEn j (by rwa [hEl] at hj)
    rw [List.getD, List.getElem?_eq_getElem hj] at this
    simp only [Option.getD_some] at this
    unfold maxLen; omega)
  have h := encode_ok (m := M) hK1 hKM hSS hEl hEn hn2 (alikeB_true (alike_of hEl hEn hn2))
  have hEB : ∀ b, b < n → ∀ j, j < K → byteAt ((D.set i s6).getD j ByteArray.empty) b = byteAt (D.getD j ByteArray.empty) b ^^^ (if j = i ∧ b = t then by' else 0) := fun b hb j hj => by
    rw [hEg j hj]
    by_cases e : j = i
    · rw [if_pos e, hb6 b hb, e, ← HSI.out]
      by_cases e2 : b = t
      · rw [if_pos e2, if_pos ⟨rfl, e2⟩, e2, HX0.out]; rfl
      · rw [if_neg e2, if_neg (fun q => e2 q.2), UInt8.xor_zero]
    · rw [if_neg e, if_neg (fun q => e q.1), UInt8.xor_zero]
  have HEB := Lib.hid hEB
  have HE6 := Lib.hid h
  have HW6 : Hid (Below w2.heap.size w2 W6) := Lib.hid (HBS.out.trans (hW6.mono HBS.out.size))
  generalize D.set i s6 = E at *
  replace HNP := Lib.hid (HNP.out.strs.below HW6.out)
  replace HB := Lib.hid (HB.out.trans (HW6.out.mono HB.out.size))
  clear hs6 hb6 e6 hst6 hW6 hEl hEg hEn hSS h hEB hcv5 hc5 hf5 HO5 HX1 HX2 HX3 HXS HM HBM HSET HBS HB5
  go_wp2_with fail
  (with_reducible refine HE6.out.mono ?_)
  rintro e w7 ⟨vq, rfl, hx, hb⟩
  have HNQ := Lib.hid hx.strs
  replace HNP := Lib.hid (HNP.out.below hb)
  replace HB := Lib.hid (HB.out.trans (hb.mono HB.out.size))
  obtain ⟨bq, cq, hfq, rfl, hq1, hq2, hq3, hq4, hq5, hq6⟩ := hx
  rw [weaveL_len] at hq3 hq6 HNQ HNP ⊢
  unfold maxLen at hq4
  clear hb hq1 hq2 hq5 hq6 HE6
  have hmm1 : ((M : Int) == (M : Int)) = true := by simp
  have hmm2 : ((M : Int) != (M : Int)) = false := by simp
  have HC : Hid (∀ r, r < M → ∀ W, Below w7.heap.size w7 W → W.cell? ⟨bp, r, none⟩ = some (.string (weaveS K n (cauF K) D r)) ∧ W.cell? ⟨bq, r, none⟩ = some (.string (weaveS K n (cauF K) E r))) := Lib.hid (fun r hr W hW => by
    obtain ⟨b1, o1, c1, e1, _, _, r1⟩ := HNP.out.reads (by rw [weaveL_len]; omega)
    obtain ⟨b2, o2, c2, e2, _, _, r2⟩ := HNQ.out.reads (by rw [weaveL_len]; omega)
    injection e1 with e1 _ _
    injection e1 with e1
    injection e1 with e1 o1'
    injection e2 with e2 _ _
    injection e2 with e2
    injection e2 with e2 o2'
    subst e1; subst e2; subst o1'; subst o2'
    have g1 := (r1 W hW r (by rw [weaveL_len]; exact hr)).1
    have g2 := (r2 W hW r (by rw [weaveL_len]; exact hr)).1
    rw [weaveL_getD _ _ hr, Nat.zero_add] at g1 g2
    exact ⟨g1, g2⟩)
  have hnn1 : ((n : Int) == (n : Int)) = true := by simp
  have hnn2 : ((n : Int) != (n : Int)) = false := by simp
  have HB7 : Hid (Below w7.heap.size w7 w7) := Lib.hid (Below.refl _ _)
  clear HNP HNQ HSD
  go_wp2_with fail
  go_loopw [98] (fun i wr => ∃ r : Nat, r ≤ M ∧ i = .int .i64 r ∧ Below w7.heap.size w7 wr) (fun i _ => M - (intOf i).toNat)
  case atStart => exact ⟨0, by omega, rfl, HB7.out⟩
  case round =>
    clear HB7 hmm1 hmm2
    obtain ⟨r, hr, rfl, hbe⟩ := hrel
    have HBE := Lib.hid hbe
    clear hbe
    by_cases hlt : r < M
    · obtain ⟨hc1, hc2⟩ := HC.out r hlt wr HBE.out
      have hX := weaveS_size K n (cauF K) D r
      have hY := weaveS_size K n (cauF K) E r
      have HAL : Hid (∀ b, b < n → (byteAt (weaveS K n (cauF K) D r) b = byteAt (weaveS K n (cauF K) E r) b ↔ (b ≠ t ∨ by' = 0))) := Lib.hid (fun b hb => each_alike hpc hb (by omega) (HEB.out b hb))
      have HCC := Lib.hid (HC.out r hlt)
      generalize weaveS K n (cauF K) D r = X at *
      generalize weaveS K n (cauF K) E r = Y at *
      have HBE0 := HBE
      go_wp2_with fail
      clear hc1 hc2
      go_loopw [121] (fun i wr => ∃ b : Nat, b ≤ n ∧ i = .int .i64 b ∧ Below w7.heap.size w7 wr) (fun i _ => n - (intOf i).toNat)
      case atStart => exact ⟨0, by omega, rfl, HBE.out⟩
      case round =>
        clear HBE0 HBE
        obtain ⟨b, hb, rfl, hbe⟩ := hrel
        have HBE := Lib.hid hbe
        clear hbe
        by_cases hlt2 : b < n
        · obtain ⟨hc1, hc2⟩ := HCC.out _ HBE.out
          have hks : b < X.size := by omega
          have hkt : b < Y.size := by omega
          have hyx : X[b] = byteAt X b := by
            unfold byteAt
            rw [List.getD, List.getElem?_eq_getElem (by simpa using hks), Option.getD_some, Array.getElem_toList]; rfl
          have hyy : Y[b] = byteAt Y b := by
            unfold byteAt
            rw [List.getD, List.getElem?_eq_getElem (by simpa using hkt), Option.getD_some, Array.getElem_toList]; rfl
          have hal := HAL.out b hlt2
          generalize byteAt X b = x at hyx hal
          generalize byteAt Y b = y at hyy hal
          obtain ⟨z1, z2⟩ := byte_zero by'
          by_cases hbt : b = t
          · have cb1 : ((b : Int) == (t : Int)) = true := by subst hbt; simp
            have cb2 : ((b : Int) != (t : Int)) = false := by subst hbt; simp
            by_cases hz : by' = 0
            · rw [decide_eq_true hz] at z1 z2
              have hxy : x = y := hal.2 (.inr hz)
              rw [← hxy] at hyy
              have cx1 : ((x.toNat : Int) == (x.toNat : Int)) = true := by simp
              have cx2 : ((x.toNat : Int) != (x.toNat : Int)) = false := by simp
              clear hal hz hxy hbt
              go_wp2_with fail
              go_quiet (fail)
              go_wp2
              go_roundw
              case rel => exact ⟨b + 1, by omega, by go_num, below_drewN HBE.out _⟩
              case measure => simp [intOf]; omega
            · rw [decide_eq_false hz] at z1 z2
              have hxy : x ≠ y := fun e => by rcases hal.1 e with h | h; exact h hbt; exact hz h
              have hne : ¬ (x.toNat : Int) = (y.toNat : Int) := fun e => hxy (UInt8.toNat_inj.1 (by omega))
              have cx1 : ((x.toNat : Int) == (y.toNat : Int)) = false := by simpa using hne
              have cx2 : ((x.toNat : Int) != (y.toNat : Int)) = true := by simpa using hne
              clear hal hz hxy hbt hne
              go_wp2_with fail
              go_quiet (fail)
              go_wp2
              go_roundw
              case rel => exact ⟨b + 1, by omega, by go_num, below_drewN HBE.out _⟩
              case measure => simp [intOf]; omega
          · have cb1 : ((b : Int) == (t : Int)) = false := by simp; omega
            have cb2 : ((b : Int) != (t : Int)) = true := by simp; omega
            have hxy : x = y := hal.2 (.inl hbt)
            rw [← hxy] at hyy
            have cx1 : ((x.toNat : Int) == (x.toNat : Int)) = true := by simp
            have cx2 : ((x.toNat : Int) != (x.toNat : Int)) = false := by simp
            clear hal hxy hbt
            go_wp2_with fail
            go_quiet (fail)
            go_wp2
            go_roundw
            case rel => exact ⟨b + 1, by omega, by go_num, below_drewN HBE.out _⟩
            case measure => simp [intOf]; omega
        · obtain rfl : b = n := by omega
          go_wp2
          go_roundw
          case rel => exact ⟨r + 1, by omega, by go_num, HBE.out⟩
          case measure => simp [intOf]; omega
    · obtain rfl : r = M := by omega
      go_wp2
      go_ret
      exact ⟨rfl, HB.out.trans (HBE.out.mono HB.out.size)⟩
theorem rsEach_any {w : World} (k : Int) (hk : (Lit.int .i64 k).wf = true) (m : Int) (hm : (Lit.int .i64 m).wf = true) {a : Value} {D : List ByteArray} (hD : StrsS w a D) (pc : Int) (hpc : (Lit.int .i64 pc).wf = true) (at' : Int) (hat : (Lit.int .i64 at').wf = true) (z : Int) (hz : (Lit.int .u8 z).wf = true) :
    Calls Try.prog 5 #[.int .i64 k, .int .i64 m, a, .int .i64 pc, .int .i64 at', .int .u8 z] w fun e w' => e = .returned (.bool true) ∧ Below w.heap.size w w' := by
  obtain ⟨x, rfl⟩ := byte_of_wf hz
  exact rsEach_walk (int_of_wf hk) (int_of_wf hm) (int_of_wf hpc) (int_of_wf hat) hD
end Go.Proofs.Ytpldnbfbpajbkab
