/- The contract of caulkref04.Decode. -/
import Derived.Test.YtpldnbfbpajbkaaRefRs
import Derived.Test.YtpldnbfbpajbkaaRsMath2
namespace Go.Proofs.Ytpldnbfbpajbkaa
open Go.RowKit
open Caulk.Lin (Fn2 stack invM)

theorem ints_below {w w' : World} {v : Value} {R : List Int} (h : IntsV w w.heap.size v R) (hb : Below w.heap.size w w') : IntsV w' w'.heap.size v R := by
  obtain ⟨A', c', e, i1, i2, i3, i4⟩ := IntsV.below h hb (Nat.le_refl _)
  refine ⟨A', c', e, i1, i2, i3, ?_⟩
  rcases i4 with i4 | ⟨b, off, e2, hlt, hc⟩
  · exact .inl i4
  · exact .inr ⟨b, off, e2, Nat.lt_of_lt_of_le hlt hb.size, hc⟩
theorem refEncode_zero {w : World} {vd : Value} {k : Nat} {D : List ByteArray} (hk : 1 ≤ k) (hkm : k + 0 ≤ 255) (hD : StrsS w vd D) (hl : D.length = k) (hal : alikeB D = true) :
    Calls Try.prog 27 #[.int .i64 (k : Int), .int .i64 0, vd] w fun e w' => e = .returned (.tuple #[.slice none 0 0, .int .i64 0]) ∧ w = w' := by
  have hck := refRsCheck_any (k : Int) 0 (by omega) (by omega) w
  rw [show rsE (k : Int) 0 = 0 from if_pos (by omega)] at hck
  have HCK := Lib.hid hck
  have hak := fits_any hD
  rw [hal] at hak
  have HAK := Lib.hid hak
  obtain ⟨A, c, rfl, hlc, hcm⟩ := hD.opened
  rw [hl] at hlc hak HAK ⊢
  have hz1 : ((k : Int) == (k : Int)) = true := by simp
  have hz2 : ((k : Int) != (k : Int)) = false := by simp
  clear hck hak hl hal hD
  go_enter Try.func27, Try.ntmps27
  go_wp2_with fail
  refine HCK.out.mono ?_
  rintro e w' ⟨rfl, rfl⟩
  go_wp2_with fail
  refine HAK.out.mono ?_
  rintro e w' ⟨rfl, rfl⟩
  go_wp2
  go_ret2
  exact ⟨rfl, rfl⟩
theorem refDecode_one {w : World} {vp : Value} {k m : Int} {P : List (Bool × ByteArray)} (hP : PiecesS w vp P) (hkw : -9223372036854775808 ≤ k ∧ k ≤ 9223372036854775807) (hmw : -9223372036854775808 ≤ m ∧ m ≤ 9223372036854775807) (h : rsE k m ≠ 0) :
    Calls Try.prog 34 #[.int .i64 k, .int .i64 m, vp] w fun e w' => e = .returned (.tuple #[.slice none 0 0, .int .i64 1]) ∧ w = w' := by
  have hck := refRsCheck_any k m hkw hmw w
  rw [show rsE k m = 1 by unfold rsE at h ⊢; split at h <;> simp_all] at hck
  obtain ⟨A, c, rfl, hlc, hcm⟩ := hP.opened
  have HCK := Lib.hid hck
  clear hck h hP
  go_enter Try.func34, Try.ntmps34
  go_wp2_with fail
  refine HCK.out.mono ?_
  rintro e w' ⟨rfl, rfl⟩
  go_wp2
  go_ret2
  exact ⟨rfl, rfl⟩
set_option maxRecDepth 10000 in
set_option maxHeartbeats 4000000 in
theorem refDecode_ok {w : World} {vp : Value} {k m : Nat} {P : List (Bool × ByteArray)} (hk : 1 ≤ k) (hkm : k + m ≤ 255) (h : PiecesS w vp P) (hmax : P.length ≤ 1000000000000) :
    Calls Try.prog 34 #[.int .i64 (k : Int), .int .i64 (m : Int), vp] w (StrRes w (decL k m P) (decE k m P)) := by
  have hck := refRsCheck_any (k : Int) (m : Int) (by omega) (by omega) w
  rw [show rsE (k : Int) (m : Int) = 0 from if_pos (by omega)] at hck
  have HCK := Lib.hid hck
  have hsm : ∀ i, i ∈ thL P → (thD P i).size ≤ maxLen := fun i hi => by
    obtain ⟨_, _, _, _, _, _, hs, _⟩ := h
    have hlt := thL_lt P i hi
    exact hs _ (by rw [List.getD, List.getElem?_eq_getElem hlt]; exact List.getElem_mem hlt)
  have HMAX := Lib.hid hsm
  clear hck hsm
  obtain ⟨q, hq⟩ : ∃ q : Nat → Bool, q = thQ P := ⟨_, rfl⟩
  obtain ⟨d, hd⟩ : ∃ d : Nat → ByteArray, d = thD P := ⟨_, rfl⟩
  have HC : Hid (∀ k, k < P.length → ∃ b off c, vp = .slice (some ⟨b, off, none⟩) P.length c ∧ ∀ W, Below w.heap.size w W → W.cell? ⟨b, off + k * 2, none⟩ = some (.bool (q k)) ∧ W.cell? ⟨b, off + k * 2 + 1, none⟩ = some (.string (d k))) := Lib.hid (fun k hk => by
    obtain ⟨A, cap, rfl, h1, h2, h3, h4, h5⟩ := h
    rcases h5 with h5 | ⟨b, off, rfl, hlt, hc⟩
    · rw [h5] at hk; simp at hk
    · refine ⟨b, off, cap, rfl, fun W hW => ?_⟩
      rw [hW.cell (p := ⟨b, off + k * 2, none⟩) hlt, hW.cell (p := ⟨b, off + k * 2 + 1, none⟩) hlt, hq, hd]
      exact hc k hk)
  obtain ⟨A, cap, rfl, hlc, hcm⟩ := h.opened
  obtain ⟨n, hn⟩ : ∃ n, n = P.length := ⟨_, rfl⟩
  rw [← hn] at HC hlc hmax ⊢
  obtain ⟨i0, hi0, hz0, hz1, hz2⟩ := info_parts infoInt
  obtain ⟨i1, hi1, hz3, hz4, hz5⟩ := info_parts infoString
  have HQE := Lib.hid hq
  have HDE := Lib.hid hd
  have HNE := Lib.hid hn
  obtain ⟨E, hE⟩ : ∃ E, E = decE k m P := ⟨_, rfl⟩
  obtain ⟨L, hL⟩ : ∃ L, L = decL k m P := ⟨_, rfl⟩
  rw [← hE, ← hL]
  have HE := Lib.hid hE
  have HL := Lib.hid hL
  clear h hq hd hn hE hL
  go_enter Try.func34, Try.ntmps34
  go_wp2_with fail
  refine HCK.out.mono ?_
  rintro e w' ⟨rfl, rfl⟩
  clear HCK
  go_wp2_with fail
  go_loopw [8, 9, 29] (fun zl za i wr => ∃ (x : Nat) (vl va : Value), x ≤ n ∧ i = .int .i64 x ∧ vl = zl ∧ va = za ∧ ThereO wr w.heap.size va vl d (thAt q x) ∧ Below w.heap.size w wr) (fun _ _ i _ => n - (intOf i).toNat)
  case atStart => exact ⟨0, .slice none 0 0, .slice none 0 0, by omega, rfl, rfl, rfl, (show ThereO w w.heap.size _ _ d [] from ⟨World.ownsRow_nil _ _ _ _, World.ownsRow_nil _ _ _ _, .inl rfl⟩), Below.refl _ _⟩
  case round =>
    obtain ⟨x, vl, va, hxn, rfl, rfl, rfl, hth, hbe⟩ := hrel
    have HTH := Lib.hid hth
    have HBE := Lib.hid hbe
    clear hth hbe
    by_cases hlt : x < n
    · obtain ⟨b, off, c, hv, hW⟩ := HC.out x hlt
      injection hv with hv1 hv2 hv3
      subst hv1; subst hv3
      obtain ⟨hc1, hc2⟩ := hW wr HBE.out
      have hs1 := HBE.out.size
      have hbl := World.block_lt_of_cell? wr _ hc1
      clear hW
      cases hqk : q x with
      | false =>
        rw [hqk] at hc1
        have hth2 : thAt q (x + 1) = thAt q x := by rw [thAt_succ, hqk]; simp
        have HT2 := Lib.hid hth2
        clear hqk hth2
        have HT3 := Lib.hid (HTH.out.below (below_alloc wr (.cells #[.bool false, .string (d x)] 48)))
        have HB3 := Lib.hid (HBE.out.alloc hs1 (.cells #[.bool false, .string (d x)] 48))
        go_wp2
        go_roundw
        case rel => exact ⟨x + 1, vl, va, by omega, by go_num, rfl, rfl, by rw [HT2.out]; exact HT3.out, HB3.out⟩
        case measure => simp [intOf]; omega
      | true =>
        rw [hqk] at hc1
        have hth2 : thAt q (x + 1) = thAt q x ++ [x] := by rw [thAt_succ, hqk]; simp
        have HT2 := Lib.hid hth2
        have hlen := thAt_len q x
        obtain ⟨p, hp⟩ : ∃ p, p = (thAt q x).length := ⟨_, rfl⟩
        rw [← hp] at hlen
        have HM := Lib.hid hp
        obtain ⟨w3, hw3⟩ : ∃ w3, w3 = (wr.alloc (.cells #[.bool true, .string (d x)] 48)).alloc (.cells #[.string (d x)] 9) := ⟨_, rfl⟩
        have hbe0 : Below wr.heap.size wr ((wr.alloc (.cells #[.bool true, .string (d x)] 48)).alloc (.cells #[.string (d x)] 9)) := ((Below.refl _ wr).alloc (Nat.le_refl _) _).alloc (by simp) _
        have HBE0 := Lib.hid hbe0
        have ho1 := (HTH.out.below hbe0).2.1
        rw [← hp] at ho1
        have HO1 := Lib.hid ho1
        have hcn := cell_one_new (wr.alloc (.cells #[.bool true, .string (d x)] 48)) (.string (d x)) 9
        rw [World.size_alloc] at hcn
        have HCN := Lib.hid hcn
        clear hqk hth2 hp hbe0 ho1 hcn hw3
        go_wp2_with (first
          | (at_builtin; (with_reducible refine wpList_append_own_at _ ?g0 (.tmp 36) (.tmp 39) 39 ?g1 w.heap.size 9 i1 (.string ByteArray.empty) 1 16 Try.underlying39 hi1 hz3 hz4 hz5 ?g2 (by decide) vl p (leftV d (thAt q x)) ?g3 HO1.out ⟨wr.heap.size + 1, 0, none⟩ 1 1 [.string (d x)] ?g4 ?g5 ?c1 ?c2 ?c3 ?c4 ?c5 ?_); (case g0 => rfl); (case g1 => rfl); (case g2 => rfl); (case g3 => rfl); (case g4 => rfl); (case g5 => rfl); (case c1 => exact HCN.out); (case c2 => simp [Value.oneCell']); (case c3 => unfold maxLen; omega); (case c4 => omega); (case c5 => simp; omega)
             intro vl' w1 hown1 hgrow1 _ hat1
             have hsz1 := hgrow1.size
             simp only [World.size_alloc] at hsz1
             have HOWN1 := Lib.hid hown1
             have HGR1 := Lib.hid hgrow1
             have HAT1 := Lib.hid hat1
             have hol : w1.ownsRow w.heap.size 3 1 va p (atV (thAt q x)) := by
               have h0 := own_below HTH.out.1 HBE0.out
               rw [← HM.out] at h0
               exact h0.kept hgrow1 HTH.out.2.2
             have HOL := Lib.hid (World.ownsRow.alloc hol (.cells #[.int .i64 (x : Int)] 3))
             have HOL0 := Lib.hid hol
             clear hown1 hgrow1 hat1 hol)
          | (at_builtin; (with_reducible refine wpList_append_own_at _ ?hg0 (.tmp 41) (.tmp 43) 24 ?hg1 w.heap.size 3 i0 (.int .i64 0) 1 8 Try.underlying24 hi0 hz0 hz1 hz2 ?hg2 (by decide) va p (atV (thAt q x)) ?hg3 HOL.out ⟨w1.heap.size, 0, none⟩ 1 1 [.int .i64 (x : Int)] ?hg4 ?hg5 ?hc1 ?hc2 ?hc3 ?hc4 ?hc5 ?_); (case hg0 => rfl); (case hg1 => rfl); (case hg2 => rfl); (case hg3 => rfl); (case hg4 => rfl); (case hg5 => rfl); (case hc1 => exact cell_one_new _ _ _); (case hc2 => simp [Value.oneCell']); (case hc3 => unfold maxLen; omega); (case hc4 => omega); (case hc5 => simp; omega)
             intro va' w2 hown2 hgrow2 _ hat2))
        have HT3 : Hid (ThereO w2 w.heap.size va' vl' d (thAt q (x + 1))) := Lib.hid (by
          rw [HT2.out]
          have hl2 : (thAt q x ++ [x]).length = p + 1 := by rw [List.length_append, ← HM.out]; rfl
          have hne : va.ownBlock = none ∨ va.ownBlock ≠ vl'.ownBlock := by
            rcases HAT1.out with e | e
            · rw [e]; exact HTH.out.2.2
            · cases hv : va.ownBlock with
              | none => exact .inl rfl
              | some g =>
                right
                rw [e]
                intro e2
                injection e2 with e2
                have := (World.ownsRow.lt HTH.out.1 g hv).2
                simp at e2
                omega
          refine ⟨?_, ?_, ?_⟩
          · rw [hl2, atV_snoc]; exact hown2
          · rw [hl2, leftV_snoc]
            have h1 := World.ownsRow.alloc HOWN1.out (.cells #[.int .i64 (x : Int)] 3)
            refine h1.kept hgrow2 ?_
            cases hv : vl'.ownBlock with
            | none => exact .inl rfl
            | some g =>
              right
              rcases hne with e | e
              · rw [e]; simp
              · rw [hv] at e; exact fun e2 => e e2.symm
          · rcases hat2 with e | e
            · rw [e]; exact hne
            · right
              rw [e]
              intro e2
              have := (World.ownsRow.lt HOWN1.out _ e2.symm).2
              simp at this
              omega)
        have HB3 : Hid (Below w.heap.size w w2) := Lib.hid (by
          have h1 : Below w.heap.size w w1 := (HBE.out.trans (HBE0.out.mono hs1)).grown HGR1.out (by simp; omega) (fun g hg => (World.ownsRow.lt HTH.out.2.1 g hg).1)
          exact (h1.alloc h1.size _).grown hgrow2 (by simp; omega) (fun g hg => (World.ownsRow.lt HOL0.out g hg).1))
        clear hown2 hgrow2 hat2
        go_roundw
        case rel => exact ⟨x + 1, vl', va', by omega, by go_num, rfl, rfl, HT3.out, HB3.out⟩
        case measure => simp [intOf]; omega
    · obtain rfl : x = n := by omega
      have e1 : thAt q x = thL P := by rw [HQE.out, HNE.out]; rfl
      have hth := HTH.out
      rw [e1, HDE.out] at hth
      have hss : StrsS wr vl (thS P) := own_strs (d := thD P) (l := thL P) hth.2.1 HMAX.out
      have HTN := Lib.hid hth
      clear hth e1 HTH hi0 hz0 hz1 hz2 HC
      by_cases hlen : x = k + m
      case neg =>
        have hz1 : ((x : Int) == (k : Int) + (m : Int)) = false := by simp; omega
        have hz2 : ((x : Int) != (k : Int) + (m : Int)) = true := by simp; omega
        have hE2 : E = 2 := by
          rw [HE.out]
          unfold decE
          rw [if_pos (show rsE (k : Int) (m : Int) = 0 from if_pos (by omega)), if_neg (fun h => hlen (by have := h.1; rw [← HNE.out] at this; omega))]
        have hL2 : L = [] := by rw [HL.out]; unfold decL; rw [if_neg (by rw [← HE.out, hE2]; decide)]
        subst hE2; subst hL2
        clear hss
        go_wp2
        go_ret2
        exact ⟨_, rfl, strsS_nil _, HBE.out⟩
      case pos =>
      have hz1 : ((x : Int) == (k : Int) + (m : Int)) = true := by simp; omega
      have hz2 : ((x : Int) != (k : Int) + (m : Int)) = false := by simp; omega
      obtain ⟨al, cl, rfl, hll, hlm⟩ := hss.opened
      have hak := fits_any hss
      have HSS := Lib.hid hss
      have HAK := Lib.hid hak
      clear hss hak
      have hsl : (thS P).length = (thL P).length := by simp [thS]
      obtain ⟨g, hg⟩ : ∃ g, g = (thL P).length := ⟨_, rfl⟩
      have HG := Lib.hid hg
      rw [hsl, ← hg] at hll HSS HAK ⊢
      have HLN := Lib.hid hlen
      have hgx : g ≤ x := by rw [hg, HNE.out]; exact thAt_len _ _
      clear hsl hg hlen
      cases hal : alikeB (thS P) with
      | false =>
        have hE2 : E = 2 := by
          rw [HE.out]
          unfold decE
          rw [if_pos (show rsE (k : Int) (m : Int) = 0 from if_pos (by omega)), if_neg (fun h => by rw [hal] at h; cases h.2)]
        have hL2 : L = [] := by rw [HL.out]; unfold decL; rw [if_neg (by rw [← HE.out, hE2]; decide)]
        subst hE2; subst hL2
        rw [hal] at HAK
        go_wp2_with fail
        (with_reducible refine HAK.out.mono ?_)
        rintro e w' ⟨rfl, rfl⟩
        go_wp2
        go_ret2
        exact ⟨_, rfl, strsS_nil _, HBE.out⟩
      | true =>
      rw [hal] at HAK
      have HAL := Lib.hid hal
      clear hal
      by_cases hgk : g < k
      · have hd1 : decide ((g : Int) < (k : Int)) = true := by simp; omega
        have hE2 : E = 10 := by
          rw [HE.out]
          unfold decE
          rw [if_pos (show rsE (k : Int) (m : Int) = 0 from if_pos (by omega)), if_pos ⟨by rw [← HNE.out]; have := HLN.out; omega, HAL.out⟩, if_pos (by rw [← HG.out]; omega)]
        have hL2 : L = [] := by rw [HL.out]; unfold decL; rw [if_neg (by rw [← HE.out, hE2]; decide)]
        subst hE2; subst hL2
        go_wp2_with fail
        (with_reducible refine HAK.out.mono ?_)
        rintro e w' ⟨rfl, rfl⟩
        go_wp2
        go_ret2
        exact ⟨_, rfl, strsS_nil _, HBE.out⟩
      · have hd1 : decide ((g : Int) < (k : Int)) = false := by simp; omega
        have hE2 : E = 0 := by
          rw [HE.out]
          unfold decE
          rw [if_pos (show rsE (k : Int) (m : Int) = 0 from if_pos (by omega)), if_pos ⟨by rw [← HNE.out]; have := HLN.out; omega, HAL.out⟩, if_neg (by rw [← HG.out]; omega)]
        have hL2 : L = decAll k m (backX k P) (thS P) := by rw [HL.out]; unfold decL; rw [if_pos (by rw [← HE.out, hE2]), Int.toNat_natCast, Int.toNat_natCast]
        have HLL := Lib.hid hL2
        subst hE2
        clear hL2
        go_wp2_with fail
        (with_reducible refine HAK.out.mono ?_)
        rintro e w' ⟨rfl, rfl⟩
        clear HAK
        have ho1 : wr.ownsRow w.heap.size 3 1 va (thL P).length (atV (thL P)) := HTN.out.1
        have hle : k ≤ g := by omega
        obtain ⟨ga, ca, rfl, hca, hcam, hints⟩ := own_ints ho1 (fun y hy => by have := thL_lt P y hy; have := HNE.out; have := HLN.out; omega) k (by rw [← HG.out]; exact hle) hk
        obtain ⟨bl, ol, cl2, el, _, _, _⟩ := HSS.out.reads (by rw [thS_len, ← HG.out]; omega)
        injection el with el el2 el3
        subst el; subst el3
        clear el2
        obtain ⟨n, hn⟩ : ∃ n, n = ((thS P).getD 0 ByteArray.empty).size := ⟨_, rfl⟩
        have hal2 := alikeB_iff.1 HAL.out
        have hn2 : n ≤ 65536 := by rw [hn]; exact (hal2 0 (by rw [thS_len, ← HG.out]; omega)).2
        have HN := Lib.hid hn
        obtain ⟨X, hX⟩ : ∃ X, X = backX k P := ⟨_, rfl⟩
        have hinv := back_X (k := k) (m := m) hkm (by rw [← HNE.out]; exact HLN.out) (by rw [← HG.out]; exact hle)
        rw [← hX] at hinv
        rw [← hX] at HLL
        have HX := Lib.hid hinv
        have HINT := Lib.hid hints
        have HAL2 := Lib.hid hal2
        have hdd : (decData k X (thS P)).map Value.string = leftV (weaveS k n X ((thS P).take k)) (List.range k) := by
          unfold decData weaveL leftV
          rw [List.map_map, ← hn]; rfl
        have HDD := Lib.hid hdd
        unfold maxLen at hcam
        rw [← HG.out] at hca
        try rw [thS_len]
        rw [← HG.out]
        clear HTN ho1 hints hn hal2 hX hinv hdd
        have hkk : 1 ≤ k := by omega
        go_wp2_with fail
        (with_reducible refine (refUnit_any k hkk (by omega) _).mono ?_)
        rintro e w1 ⟨v1, rfl, hg, hb⟩
        have HBR := Lib.hid hb
        have HGU := Lib.hid hg
        have HIL : Hid ((((thL P).take k).map fun i : Nat => (i : Int)).length = k) := Lib.hid (by simp; have := HG.out; omega)
        have HIN : Hid (InRows (k + m) (((thL P).take k).map fun i : Nat => (i : Int))) := Lib.hid (fun i hi => by
          rw [HIL.out] at hi
          have hi2 : i < (thL P).length := by have := HG.out; omega
          have hg : (((thL P).take k).map fun i : Nat => (i : Int)).getD i 0 = ((thL P)[i] : Int) := by simp [List.getD, hi, hi2]
          rw [hg]
          have := thL_lt P _ (List.getElem_mem hi2)
          have := HNE.out
          have := HLN.out
          omega)
        have HTKL : Hid (((thS P).take k).length = k) := Lib.hid (by rw [List.length_take, thS_len, ← HG.out]; omega)
        have HTKN : Hid (∀ j, j < k → (((thS P).take k).getD j ByteArray.empty).size = n) := Lib.hid (fun j hj => by
          have hj2 : j < (thS P).length := by rw [thS_len, ← HG.out]; omega
          have e : ((thS P).take k).getD j ByteArray.empty = (thS P).getD j ByteArray.empty := by simp [List.getD, hj]
          rw [e, HN.out]
          exact (HAL2.out j hj2).1)
        have HDL : Hid ((decData k X (thS P)).length = k) := Lib.hid (decData_len _ _ _)
        have HDN : Hid (∀ j, j < k → ((decData k X (thS P)).getD j ByteArray.empty).size = n) := Lib.hid (fun j hj => decData_size HN.out.symm hj)
        have HFIN : Hid (L = decData k X (thS P) ++ weaveL m k n (cauF k) (decData k X (thS P))) := Lib.hid (by rw [HLL.out]; unfold decAll; rw [HN.out])
        have hsb := HBE.out.size
        have HSR := Lib.hid hb.size
        clear hb hg
        by_cases hm0 : m = 0
        case pos =>
          subst hm0
          have HM : Hid (MatS w1 v1 (rowsL (k + 0) k (stack k))) := Lib.hid (by
            have := HGU.out.mat
            rw [rowsL_congr (g := stack k) (fun i hi j _ => (stack_unit hi).symm)] at this
            exact this)
          clear HGU
          have hm2 := refRows_any HM.out (Nat.le_refl _) (by omega) hkm hkk (by omega) (ints_below HINT.out HBR.out) (Nat.le_refl _) (by rw [HIL.out]; exact hkk) (by rw [HIL.out]; omega)
          have HROWS := Lib.hid hm2
          clear hm2
          go_wp2_with fail
          (with_reducible refine HROWS.out.mono ?_)
          rintro e w4 ⟨hyes, _⟩
          obtain ⟨v4, rfl, hg, hb⟩ := hyes HIN.out
          have hmat := hg.mat
          rw [HIL.out] at hmat
          have hiv := refInvert_any (F := pickF (stack k) (((thL P).take k).map fun i : Nat => (i : Int))) hmat (Nat.le_refl _) hkk (by omega)
          have HIV := Lib.hid hiv
          replace HBR := Lib.hid (HBR.out.trans (hb.mono HBR.out.size))
          clear hyes hg hb hmat hiv HROWS HM
          go_wp2_with fail
          (with_reducible refine HIV.out.mono ?_)
          rintro e w5 ⟨hyes, _⟩
          obtain ⟨v5, rfl, hg, hb⟩ := hyes X HX.out
          replace HBR := Lib.hid (HBR.out.trans (hb.mono HBR.out.size))
          have hs5 := HBR.out.size
          have htk := (HSS.out.below HBR.out).take k hle
          have ht := times_any (D := (thS P).take k) hg.mat hkk (by omega) hkk (by omega) htk HTKL.out HTKN.out hn2
          have HTI := Lib.hid ht
          clear hyes hg hb htk ht HIV
          go_wp2_with fail
          (with_reducible refine HTI.out.mono ?_)
          rintro e w6 ⟨v6, rfl, how, hb⟩
          have hown := how
          rw [← HDD.out] at hown
          have hds : StrsS w6 v6 (decData k X (thS P)) := strs_own hown HDL.out (fun s hs => by
            obtain ⟨i, hi, rfl⟩ := List.mem_iff_getElem.1 hs
            have hi2 : i < k := by rwa [HDL.out] at hi
            have := HDN.out i hi2
            rw [List.getD, List.getElem?_eq_getElem hi] at this
            simp only [Option.getD_some] at this
            unfold maxLen; omega)
          replace HBR := Lib.hid (HBR.out.trans (hb.mono HBR.out.size))
          have hen := refEncode_zero hkk hkm hds HDL.out (alikeB_true (alike_of HDL.out HDN.out hn2))
          obtain ⟨ad, cd, rfl, hld, hmd⟩ := hds.opened
          rw [HDL.out] at hld hen hown hds ⊢
          have HDS := Lib.hid hds
          have hs56 := hb.size
          have HEN := Lib.hid hen
          have HOW := Lib.hid hown
          have hsw := HBR.out.size
          clear hds how hown hen hb HTI
          go_wp2_with fail
          (with_reducible refine HEN.out.mono ?_)
          rintro e w7 ⟨rfl, rfl⟩
          obtain ⟨xs, hxs⟩ : ∃ xs, xs = (decData k X (thS P)).map Value.string := ⟨_, rfl⟩
          have hol := HOW.out
          rw [← hxs] at hol
          have HOL := Lib.hid hol
          clear hol hxs HOW HEN
          go_wp2_with (at_builtin; (with_reducible refine wpList_append_own_none ?g0 (.tmp 102) (.tmp 103) 39 ?g1 w5.heap.size 9 i1 1 Try.underlying39 hi1 (.slice ad k cd) k xs ?g3 HOL.out ?g4 ?_); (case g0 => rfl); (case g1 => rfl); (case g3 => rfl); (case g4 => rfl))
          go_ret2
          refine ⟨_, rfl, ?_, HBE.out.trans (HBR.out.mono HBE.out.size)⟩
          rw [HFIN.out, show weaveL 0 k n (cauF k) (decData k X (thS P)) = [] from rfl, List.append_nil]
          exact HDS.out
        case neg =>
          have hm1 : 1 ≤ m := by omega
          have hdm : decide ((0 : Int) < (m : Int)) = true := by simp; omega
          obtain ⟨pl, hp1⟩ := HGU.out.own
          have HP1 := Lib.hid hp1
          clear hp1
          go_wp2_with fail
          (with_reducible refine (refCauchy_any k m hkk hm1 hkm _).mono ?_)
          rintro e w2 ⟨v2, rfl, hg2, hb2⟩
          obtain ⟨b2, n2, rfl, hn2', hnm2, hbb2⟩ := hg2.shape
          obtain ⟨pl2, hp2⟩ := hg2.own
          have hp1' := GridP.below (pl := pl) HP1.out hb2
          obtain ⟨i2, hi2, hw3, hw4, hw5⟩ := info_parts infoRow
          have HO := Lib.hid hp1'.1
          have HX2 : Hid (∀ j u, (hdL m k pl2)[j]? = some u → w2.cell? ((⟨b2, 0, none⟩ : Addr).add j) = some u) := Lib.hid (World.ownsRow.cells hp2.1 (g := b2) rfl)
          have HX3 : Hid (∀ u, u ∈ hdL m k pl2 → u.oneCell' = true) := Lib.hid (fun u hu => by obtain ⟨i, _, rfl⟩ := List.mem_map.1 hu; rfl)
          have HX1 : Hid ((hdL m k pl2).length = m * 1) := Lib.hid (by rw [hdL_len, Nat.mul_one])
          have HMAT : Hid (∀ (v' : Value) (w3 : World), w3.ownsRow wr.heap.size 37 1 v' (k + m) (hdL k k pl ++ hdL m k pl2) → w2.grownBy w3 v1.ownBlock → MatS w3 v' (rowsL (k + m) k (stack k))) := Lib.hid (fun v' w3 ho hg3 => stack_mat hkm HP1.out hb2 hp2 hg3 ho)
          have hs2 := hb2.size
          replace HBR := Lib.hid (HBR.out.trans (hb2.mono HBR.out.size))
          have hsr := HSR.out
          unfold maxLen at hnm2
          clear hg2 hb2 hp1' hp2 hbb2
          go_wp2_with (at_builtin; (with_reducible refine wpList_append_own_at _ ?g0 (.tmp 74) (.tmp 75) 23 ?g1 wr.heap.size 37 i2 (.slice none 0 0) 1 24 Try.underlying23 hi2 hw3 hw4 hw5 ?g2 (by decide) v1 k (hdL k k pl) ?g3 HO.out ⟨b2, 0, none⟩ m n2 (hdL m k pl2) ?g4 ?g5 ?c1 ?c2 ?c3 ?c4 ?c5 ?_); (case g0 => rfl); (case g1 => rfl); (case g2 => rfl); (case g3 => rfl); (case g4 => rfl); (case g5 => exact HX1.out); (case c1 => exact HX2.out); (case c2 => exact HX3.out); (case c3 => unfold maxLen; omega); (case c4 => omega); (case c5 => omega); intro vm; intro w3; intro hown3; intro hgrow3; intro hx5; intro hat5; have HO3 := Lib.hid hown3; have HG3 := Lib.hid hgrow3; clear hown3 hgrow3 hx5 hat5)
          have HM := Lib.hid (HMAT.out vm w3 HO3.out HG3.out)
          replace HBR : Hid (Below wr.heap.size wr w3) := Lib.hid (HBR.out.grown HG3.out (by omega) (fun g hg => (World.ownsRow.lt HO.out g hg).1))
          clear HMAT HO3 HG3 HO HX1 HX2 HX3 HP1 HGU
          have hm2 := refRows_any HM.out (Nat.le_refl _) (by omega) hkm hkk (by omega) (ints_below HINT.out HBR.out) (Nat.le_refl _) (by rw [HIL.out]; exact hkk) (by rw [HIL.out]; omega)
          have HROWS := Lib.hid hm2
          clear hm2
          go_wp2_with fail
          (with_reducible refine HROWS.out.mono ?_)
          rintro e w4 ⟨hyes, _⟩
          obtain ⟨v4, rfl, hg, hb⟩ := hyes HIN.out
          have hmat := hg.mat
          rw [HIL.out] at hmat
          have hiv := refInvert_any (F := pickF (stack k) (((thL P).take k).map fun i : Nat => (i : Int))) hmat (Nat.le_refl _) hkk (by omega)
          have HIV := Lib.hid hiv
          replace HBR := Lib.hid (HBR.out.trans (hb.mono HBR.out.size))
          clear hyes hg hb hmat hiv HROWS HM
          go_wp2_with fail
          (with_reducible refine HIV.out.mono ?_)
          rintro e w5 ⟨hyes, _⟩
          obtain ⟨v5, rfl, hg, hb⟩ := hyes X HX.out
          replace HBR := Lib.hid (HBR.out.trans (hb.mono HBR.out.size))
          have hs5 := HBR.out.size
          have htk := (HSS.out.below HBR.out).take k hle
          have ht := times_any (D := (thS P).take k) hg.mat hkk (by omega) hkk (by omega) htk HTKL.out HTKN.out hn2
          have HTI := Lib.hid ht
          clear hyes hg hb htk ht HIV
          go_wp2_with fail
          (with_reducible refine HTI.out.mono ?_)
          rintro e w6 ⟨v6, rfl, how, hb⟩
          have hown := how
          rw [← HDD.out] at hown
          have hds : StrsS w6 v6 (decData k X (thS P)) := strs_own hown HDL.out (fun s hs => by
            obtain ⟨i, hi, rfl⟩ := List.mem_iff_getElem.1 hs
            have hi2 : i < k := by rwa [HDL.out] at hi
            have := HDN.out i hi2
            rw [List.getD, List.getElem?_eq_getElem hi] at this
            simp only [Option.getD_some] at this
            unfold maxLen; omega)
          replace HBR := Lib.hid (HBR.out.trans (hb.mono HBR.out.size))
          have hen := refEncode_ok (m := m) hkk hkm hds HDL.out HDN.out hn2 (alikeB_true (alike_of HDL.out HDN.out hn2))
          obtain ⟨ad, cd, rfl, hld, hmd⟩ := hds.opened
          rw [HDL.out] at hld hen hown hds ⊢
          have HDS := Lib.hid hds
          have hs56 := hb.size
          have HEN := Lib.hid hen
          have HOW := Lib.hid hown
          have hsw := HBR.out.size
          clear hds how hown hen hb HTI
          go_wp2_with fail
          (with_reducible refine HEN.out.mono ?_)
          rintro e w7 ⟨v7, rfl, hx, hb⟩
          obtain ⟨bq, oq, cq, rfl, hlq, hmq, _⟩ := hx.reads (by rw [weaveL_len]; omega)
          have hnews := StrsS.cellsOf hx
          have hones := strs_ones (weaveL m k n (cauF k) (decData k X (thS P)))
          have hnl : ((weaveL m k n (cauF k) (decData k X (thS P))).map Value.string).length = m * 1 := by rw [List.length_map, weaveL_len, Nat.mul_one]
          rw [weaveL_len] at hlq hx ⊢
          have hol := own_below HOW.out hb
          obtain ⟨xs, hxs⟩ : ∃ xs, xs = (decData k X (thS P)).map Value.string := ⟨_, rfl⟩
          obtain ⟨ys, hys⟩ : ∃ ys, ys = (weaveL m k n (cauF k) (decData k X (thS P))).map Value.string := ⟨_, rfl⟩
          rw [← hys] at hnews hones hnl
          rw [← hxs] at hol
          have HXS := Lib.hid hxs
          have HYS := Lib.hid hys
          have HNEWS := Lib.hid hnews
          have HONES := Lib.hid hones
          have HNL := Lib.hid hnl
          have HOL := Lib.hid hol
          replace HBR := Lib.hid (HBR.out.trans (hb.mono HBR.out.size))
          have hsz7 := hb.size
          clear hx hb hnews hones hnl hol hxs hys HOW HEN HSS HINT
          go_wp2_with (at_builtin; (with_reducible refine wpList_append_own_at _ ?h0 (.tmp 102) (.tmp 103) 39 ?h1 w5.heap.size 9 i1 (.string ByteArray.empty) 1 16 Try.underlying39 hi1 hz3 hz4 hz5 ?h2 (by decide) (.slice ad k cd) k xs ?h3 HOL.out ⟨bq, oq, none⟩ m cq ys ?h4 ?h5 ?d1 ?d2 ?d3 ?d4 ?d5 ?_); (case h0 => rfl); (case h1 => rfl); (case h2 => rfl); (case h3 => rfl); (case h4 => rfl); (case h5 => exact HNL.out); (case d1 => exact HNEWS.out); (case d2 => exact HONES.out); (case d3 => unfold maxLen; omega); (case d4 => omega); (case d5 => omega); intro v8; intro w8; intro hown8; intro hgrow8; intro hx8; intro hat8; have HO8 := Lib.hid hown8; have HG8 := Lib.hid hgrow8; clear hown8 hgrow8 hx8 hat8)
          have hst : decData k X (thS P) ++ weaveL m k n (cauF k) (decData k X (thS P)) = stripeL k m (decData k X (thS P)) := by unfold stripeL parL; rw [HDN.out 0 (by omega)]
          have HST : Hid (StrsS w8 v8 (stripeL k m (decData k X (thS P)))) := Lib.hid (strs_own (B := w5.heap.size) (n := k + m) (by rw [← hst, List.map_append, ← HXS.out, ← HYS.out]; exact HO8.out) (stripeL_len HDL.out) (stripe_short hkk HDL.out HDN.out hn2))
          have HB8 : Hid (Below wr.heap.size wr w8) := Lib.hid (HBR.out.grown HG8.out (by omega) (fun g hg => Nat.le_trans hs5 (World.ownsRow.lt HOL.out g hg).1))
          go_ret2
          exact ⟨_, rfl, by rw [HFIN.out, hst]; exact HST.out, HBE.out.trans (HB8.out.mono HBE.out.size)⟩
end Go.Proofs.Ytpldnbfbpajbkaa
