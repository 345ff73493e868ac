/- The contracts of caulkref04.Check and caulkref04.fits. The contract of caulkref04.times. The contracts of caulkref04.Encode and caulkref04.Good. -/
import Derived.Test.YtpldnbfbpajbkaaRsC
import Derived.Test.YtpldnbfbpajbkaaMatI
import Derived.Test.YtpldnbfbpajbkaaRsF
import Derived.StillTailTactics
import Derived.Test.YtpldnbfbpajbkaaRes
namespace Go.Proofs.Ytpldnbfbpajbkaa
open Go.RowKit

theorem refRsCheck_any (k m : Int) (hkw : -9223372036854775808 ≤ k ∧ k ≤ 9223372036854775807) (hmw : -9223372036854775808 ≤ m ∧ m ≤ 9223372036854775807) (w : World) :
    Calls Try.prog 29 #[.int .i64 k, .int .i64 m] w fun e w' => e = .returned (.int .i64 (rsE k m)) ∧ w = w' := by
  obtain ⟨hk1, hk2⟩ := hkw
  obtain ⟨hm1, hm2⟩ := hmw
  by_cases h0 : k < 1
  · have d0 : decide (k < 1) = true := decide_eq_true h0
    have he : rsE k m = 1 := if_neg (by omega)
    rw [he]
    clear he
    go_enter Try.func29, Try.ntmps29
    go_wp2
    go_ret
    exact ⟨rfl, rfl⟩
  have d0 : decide (k < 1) = false := decide_eq_false h0
  by_cases h1 : m < 0
  · have d1 : decide (m < 0) = true := decide_eq_true h1
    have he : rsE k m = 1 := if_neg (by omega)
    rw [he]
    clear he
    go_enter Try.func29, Try.ntmps29
    go_wp2
    go_ret
    exact ⟨rfl, rfl⟩
  have d1 : decide (m < 0) = false := decide_eq_false h1
  by_cases h2 : 255 < k
  · have d2 : decide ((255 : Int) < k) = true := decide_eq_true h2
    have he : rsE k m = 1 := if_neg (by omega)
    rw [he]
    clear he
    go_enter Try.func29, Try.ntmps29
    go_wp2
    go_ret
    exact ⟨rfl, rfl⟩
  have d2 : decide ((255 : Int) < k) = false := decide_eq_false h2
  by_cases h3 : 255 < m
  · have d3 : decide ((255 : Int) < m) = true := decide_eq_true h3
    have he : rsE k m = 1 := if_neg (by omega)
    rw [he]
    clear he
    go_enter Try.func29, Try.ntmps29
    go_wp2
    go_ret
    exact ⟨rfl, rfl⟩
  have d3 : decide ((255 : Int) < m) = false := decide_eq_false h3
  by_cases h4 : 255 < k + m
  · have d4 : decide ((255 : Int) < k + m) = true := decide_eq_true h4
    have he : rsE k m = 1 := if_neg (by omega)
    rw [he]
    clear he
    go_enter Try.func29, Try.ntmps29
    go_wp2
    go_ret
    exact ⟨rfl, rfl⟩
  have d4 : decide ((255 : Int) < k + m) = false := decide_eq_false h4
  have he : rsE k m = 0 := if_pos (by omega)
  rw [he]
  clear he
  go_enter Try.func29, Try.ntmps29
  go_wp2
  go_ret
  exact ⟨rfl, rfl⟩
set_option maxHeartbeats 1000000 in
theorem fits_any {w : World} {v : Value} {S : List ByteArray} (h : StrsS w v S) :
    Calls Try.prog 47 #[v] w fun e w' => e = .returned (.bool (alikeB S)) ∧ w = w' := by
  have HYES : Hid ((∀ j, j < S.length → (S.getD j ByteArray.empty).size = (S.getD 0 ByteArray.empty).size ∧ (S.getD j ByteArray.empty).size ≤ 65536) → alikeB S = true) := Lib.hid (fun h => alikeB_true h)
  have HNO : Hid (∀ j, j < S.length → ¬ ((S.getD j ByteArray.empty).size = (S.getD 0 ByteArray.empty).size ∧ (S.getD j ByteArray.empty).size ≤ 65536) → alikeB S = false) := Lib.hid (fun j hj hn => alikeB_false (fun h => hn (h j hj)))
  obtain ⟨E, hE⟩ : ∃ E, E = alikeB S := ⟨_, rfl⟩
  rw [← hE] at HYES HNO ⊢
  clear hE
  by_cases h0 : S.length = 0
  · obtain ⟨A, c, rfl, hl, hm⟩ := h.opened
    have hy := HYES.out (fun j hj => by omega)
    have hy2 := Lib.hid hy
    rw [h0]
    clear h hl HYES HNO hy h0
    go_enter Try.func47, Try.ntmps47
    go_wp2
    refine wp_loop_rounds 1 ?_
    rw [rounds_succ]
    go_wp2
    go_ret
    exact ⟨ret_bool hy2.out.symm, rfl⟩
  · obtain ⟨b, off, c, rfl, hl, hm, hr⟩ := h.reads (by omega)
    have HR := Lib.hid (hr w (Below.refl _ _))
    obtain ⟨sz, hsz⟩ : ∃ sz : Nat → ByteArray, sz = fun j => S.getD j ByteArray.empty := ⟨_, rfl⟩
    have e1 : ∀ j, S.getD j ByteArray.empty = sz j := fun j => by rw [hsz]
    simp only [e1] at HR HYES HNO
    clear h hr e1 hsz
    generalize S.length = n at *
    obtain ⟨hc0, hs0⟩ := HR.out 0 (by omega)
    rw [Nat.add_zero] at hc0
    go_enter Try.func47, Try.ntmps47
    go_wp2
    go_loop [7] (fun i => ∃ k : Nat, k ≤ n ∧ i = .int .i64 k ∧ ∀ j, j < k → (sz j).size = (sz 0).size ∧ (sz j).size ≤ 65536) (fun i => n - (intOf i).toNat)
    case atStart => exact ⟨0, by omega, rfl, fun j hj => by omega⟩
    case round =>
      obtain ⟨k, hk, rfl, hall⟩ := hrel
      have HALL := Lib.hid hall
      clear hall
      by_cases hlt : k < n
      · obtain ⟨hck, hsk⟩ := HR.out k hlt
        by_cases hsame : (sz k).size = (sz 0).size
        · have b1 : (((sz k).size : Int) == ((sz 0).size : Int)) = true := by rw [hsame]; simp
          have b2 : (((sz k).size : Int) != ((sz 0).size : Int)) = false := by rw [hsame]; simp
          by_cases hlong : 65536 < (sz k).size
          · have d1 : decide ((65536 : Int) < ((sz k).size : Int)) = true := by simp; omega
            have HN := Lib.hid (HNO.out k hlt (by omega))
            clear hsame hlong
            go_wp2
            go_ret
            exact ⟨ret_bool HN.out.symm, rfl⟩
          · have d1 : decide ((65536 : Int) < ((sz k).size : Int)) = false := by simp; omega
            have HS := Lib.hid hsame
            clear hsame
            go_wp2
            go_round
            case rel =>
              refine ⟨k + 1, by omega, by go_num, fun j hj => ?_⟩
              by_cases e : j = k
              · subst e; exact ⟨HS.out, by omega⟩
              · exact HALL.out j (by omega)
            case measure => simp [intOf]; omega
        · have b1 : (((sz k).size : Int) == ((sz 0).size : Int)) = false := by simp; omega
          have b2 : (((sz k).size : Int) != ((sz 0).size : Int)) = true := by simp; omega
          have HN := Lib.hid (HNO.out k hlt (by omega))
          clear hsame
          go_wp2
          go_ret
          exact ⟨ret_bool HN.out.symm, rfl⟩
      · obtain rfl : k = n := by omega
        have HY := Lib.hid (HYES.out HALL.out)
        go_wp2
        go_ret
        exact ⟨ret_bool HY.out.symm, rfl⟩
end Go.Proofs.Ytpldnbfbpajbkaa
namespace Go.Proofs.Ytpldnbfbpajbkaa
open Go.RowKit
open Caulk.Lin (Fn2 sx)
open Caulk.Gf (mul)

set_option maxRecDepth 10000 in
set_option maxHeartbeats 2000000 in
theorem times_any {w : World} {vr vd : Value} {r k n : Nat} {f : Fn2} {D : List ByteArray} (hR : MatS w vr (rowsL r k f)) (hr1 : 1 ≤ r) (hr : r ≤ 255) (hk1 : 1 ≤ k) (hk2 : k ≤ 255) (hD : StrsS w vd D) (hl : D.length = k) (hn : ∀ j, j < k → (D.getD j ByteArray.empty).size = n) (hn2 : n ≤ 65536) :
    Calls Try.prog 48 #[vr, vd] w fun e w' => ∃ v, e = .returned v ∧ w'.ownsRow w.heap.size 9 1 v r (leftV (weaveS k n f D) (List.range r)) ∧ Below w.heap.size w w' := by
  obtain ⟨b1, off1, cap1, rfl, hrc1, hcm1, hread1⟩ := MatV.reads hR (Nat.le_refl _) (by omega) hk1
  obtain ⟨b2, off2, cap2, rfl, hrc2, hcm2, hread2⟩ := hD.reads (by omega)
  obtain ⟨i1, hi1, hz3, hz4, hz5⟩ := info_parts infoString
  rw [hl] at *
  unfold maxLen at hcm1
  obtain ⟨dd, hdd⟩ : ∃ dd : Nat → ByteArray, dd = fun j => D.getD j ByteArray.empty := ⟨_, rfl⟩
  have e1 : ∀ j, D.getD j ByteArray.empty = dd j := fun j => by rw [hdd]
  have HDD := Lib.hid e1
  simp only [e1] at hread2 hn
  have HA := Lib.hid hread1
  have HD := Lib.hid hread2
  have HN := Lib.hid hn
  clear hdd e1
  have hmk2 := run_make_row' (P := Try.prog) 37 5 (.int .u8 0) 1 Try.underlying37 infoU8 rfl .i64 .i64 n (by omega) (by omega)
  clear hread1 hread2 hn hR hD hl
  go_enter Try.func48, Try.ntmps48
  go_wp2
  go_loopw [5, 14] (fun zo i wr => ∃ (p : Nat) (vo : Value), p ≤ r ∧ i = .int .i64 p ∧ vo = zo ∧ wr.ownsRow w.heap.size 9 1 vo p (leftV (weaveS k n f D) (List.range p)) ∧ Below w.heap.size w wr) (fun _ i _ => r - (intOf i).toNat)
  case atStart => exact ⟨0, .slice none 0 0, by omega, rfl, rfl, World.ownsRow_nil _ _ _ _, Below.refl _ _⟩
  case round =>
    obtain ⟨p, vo, hp, rfl, rfl, how, hbe⟩ := hrel
    have HOW := Lib.hid how
    have HBE := Lib.hid hbe
    clear how hbe
    by_cases hlt : p < r
    · obtain ⟨wo, rfl⟩ : ∃ wo : World, wo = wr := ⟨_, rfl⟩
      obtain ⟨b3, off3, cap3, h3, hb3B, hc3, hcm3, hby⟩ := HA.out wo HBE.out p hlt
      obtain ⟨hd0, hs0⟩ := HD.out wo HBE.out 0 hk1
      rw [Nat.add_zero] at hd0
      have hn0 := HN.out 0 hk1
      unfold maxLen at hcm3
      have hB1 := below_alloc wo (.cells (madeCells #[.int .u8 0] n) 5)
      have hR1 : Row8 (wo.alloc (.cells (madeCells #[.int .u8 0] n) 5)) wo.heap.size 0 (rowL n (fun _ => 0)) := by rw [rowL_zero]; exact row_made wo n 5
      have HB1 := Lib.hid hB1
      have HR1 := Lib.hid hR1
      have hwlt := World.block_lt_of_cell? wo _ h3
      have HBY : Hid (∀ W, Below wo.heap.size wo W → ∀ j, j < k → W.cell? ⟨b3, off3 + j, none⟩ = some (.int .u8 ((f p j).toNat : Int))) := Lib.hid (fun W hW j hj => by
        have hlt3 := World.block_lt_of_cell? wo _ (hby j hj)
        exact (hW.cell (p := ⟨b3, off3 + j, none⟩) hlt3).trans (hby j hj))
      clear hB1 hR1 hby hwlt
      go_wp2
      clear hd0 hs0 hn0 h3
      go_loopw [25] (fun i wr => ∃ q : Nat, q ≤ k ∧ i = .int .i64 q ∧ Row8 wr wo.heap.size 0 (rowL n (fun b => sx q (fun j => mul (f p j) (byteAt (D.getD j ByteArray.empty) b)))) ∧ Below wo.heap.size wo wr) (fun i _ => k - (intOf i).toNat)
      case atStart => exact ⟨0, by omega, rfl, HR1.out, HB1.out⟩
      case round =>
        clear HR1 HB1
        obtain ⟨q, hq, rfl, hrow8, hbe2⟩ := hrel
        have HR8 := Lib.hid hrow8
        have HBE2 := Lib.hid hbe2
        clear hrow8 hbe2
        by_cases hlt2 : q < k
        · have hx := HBY.out wr HBE2.out q hlt2
          go_wp2
          clear hx
          go_loopw [32] (fun i wr => ∃ b : Nat, b ≤ n ∧ i = .int .i64 b ∧ Row8 wr wo.heap.size 0 (rowL n (fun c => if c < b then sx (q + 1) (fun j => mul (f p j) (byteAt (D.getD j ByteArray.empty) c)) else sx q (fun j => mul (f p j) (byteAt (D.getD j ByteArray.empty) c)))) ∧ Below wo.heap.size wo wr) (fun i _ => n - (intOf i).toNat)
          case atStart => exact ⟨0, by omega, rfl, by rw [rowL_congr (g := fun c => sx q (fun j => mul (f p j) (byteAt (D.getD j ByteArray.empty) c))) (fun c _ => if_neg (by omega))]; exact HR8.out, HBE2.out⟩
          case round =>
            clear HR8 HBE2
            obtain ⟨b, hb, rfl, hrow, hbe3⟩ := hrel
            have HBE3 := Lib.hid hbe3
            clear hbe3
            by_cases hlt3 : b < n
            · have hbw : Below w.heap.size w wr := HBE.out.trans (HBE3.out.mono HBE.out.size)
              obtain ⟨hd, hsz⟩ := HD.out wr hbw q hlt2
              have hnq := HN.out q hlt2
              have hset := hrow.set b (by rw [rowL_len]; exact hlt3) (sx (q + 1) (fun j => mul (f p j) (byteAt (D.getD j ByteArray.empty) b)))
              rw [rowL_set _ hlt3 _, Nat.zero_add] at hset
              rw [rowL_congr (g := fun c => if c < b + 1 then sx (q + 1) (fun j => mul (f p j) (byteAt (D.getD j ByteArray.empty) c)) else sx q (fun j => mul (f p j) (byteAt (D.getD j ByteArray.empty) c))) (fun c _ => by
                by_cases e : c = b
                · subst e; rw [if_pos rfl, if_pos (by omega)]
                · rw [if_neg e]
                  by_cases e2 : c < b
                  · rw [if_pos e2, if_pos (by omega)]
                  · rw [if_neg e2, if_neg (by omega)])] at hset
              rw [show sx (q + 1) (fun j => mul (f p j) (byteAt (D.getD j ByteArray.empty) b)) = bxor (sx q (fun j => mul (f p j) (byteAt (D.getD j ByteArray.empty) b))) (mul (f p q) (byteAt (D.getD q ByteArray.empty) b)) from rfl] at hset
              have HSET := Lib.hid hset
              have hd1 := hrow.2 b (by rw [rowL_len]; exact hlt3)
              rw [rowL_getD _ hlt3, if_neg (Nat.lt_irrefl b), Nat.zero_add] at hd1
              obtain ⟨hx1, hx2⟩ := hd1
              rw [HDD.out q] at HSET
              clear hset hrow hbw
              obtain ⟨s, hs⟩ : ∃ s, s = dd q := ⟨_, rfl⟩
              rw [← hs] at hd hsz hnq HSET
              have hks : b < s.size := by omega
              have hy : s[b] = byteAt s b := by
                unfold byteAt
                rw [List.getD, List.getElem?_eq_getElem (by simpa using hks), Option.getD_some, Array.getElem_toList]; rfl
              clear hs
              generalize byteAt s b = z at hy HSET
              generalize sx q (fun j => mul (f p j) (byteAt (D.getD j ByteArray.empty) b)) = x at hx1 HSET
              obtain ⟨y, hye⟩ : ∃ y, y = f p q := ⟨_, rfl⟩
              rw [← hye] at HSET ⊢
              have h4 := u8_bxor x (mul y z)
              clear hye
              go_wp2_with fail
              go_still_tail 14, (by kernel_rfl)
              still_call (refMul_still y z _)
              repeat still_step
              refine wpStill_nil ?_
              change wpList _ _ _ _ _ wr.drew
              go_wp2
              go_roundw
              case rel => exact ⟨b + 1, by omega, by go_num, HSET.out.drew, (HBE3.out.setCell (p := ⟨wo.heap.size, b, none⟩) (Nat.le_refl _) _).drew⟩
              case measure => simp [intOf]; omega
            · obtain rfl : b = n := by omega
              have HRN : Hid (Row8 wr wo.heap.size 0 (rowL b (fun c => sx (q + 1) (fun j => mul (f p j) (byteAt (D.getD j ByteArray.empty) c))))) := Lib.hid (by
                rw [rowL_congr (g := fun c => sx (q + 1) (fun j => mul (f p j) (byteAt (D.getD j ByteArray.empty) c))) (fun c hc => if_pos hc)] at hrow
                exact hrow)
              clear hrow
              go_wp2
              go_roundw
              case rel => exact ⟨q + 1, by omega, by go_num, HRN.out, HBE3.out⟩
              case measure => simp [intOf]; omega
        · obtain rfl : q = k := by omega
          have hcv := string_of_row (P := Try.prog) (cap := n) n (by rw [rowL_len]) HR8.out 37 9 5 Try.underlying37 Try.underlying5 Try.underlying9
          have hcv2 : (convert 37 9 (.slice (some ⟨wo.heap.size, 0, none⟩) n n)).run Try.prog wr = .ok (.string (weaveS q n f D p)) wr := hcv
          clear hcv
          obtain ⟨S, hS⟩ : ∃ S, S = weaveS q n f D p := ⟨_, rfl⟩
          obtain ⟨xs, hxs⟩ : ∃ xs, xs = leftV (weaveS q n f D) (List.range p) := ⟨_, rfl⟩
          have hol := World.ownsRow.alloc (own_below HOW.out HBE2.out) (.cells #[.string (weaveS q n f D p)] 9)
          rw [← hS] at hcv2 hol
          rw [← hxs] at hol
          have HOL := Lib.hid hol
          have HS := Lib.hid hS
          have HXS := Lib.hid hxs
          clear hS hxs hol HR8
          have hszw : w.heap.size ≤ wr.heap.size := Nat.le_trans HBE.out.size HBE2.out.size
          go_wp2_with (at_builtin; (with_reducible refine wpList_append_own_at _ ?hg0 (.tmp 51) (.tmp 54) 39 ?hg1 w.heap.size 9 i1 (.string ByteArray.empty) 1 16 Try.underlying39 hi1 hz3 hz4 hz5 ?hg2 (by decide) vo p xs ?hg3 HOL.out ⟨wr.heap.size, 0, none⟩ 1 1 [.string S] ?hg4 ?hg5 ?hc1 ?hc2 ?hc3 ?hc4 ?hc5 ?_); (case hg0 => rfl); (case hg1 => rfl); (case hg2 => rfl); (case hg3 => rfl); (case hg4 => rfl); (case hg5 => rfl); (case hc1 => exact cell_one_new _ _ _); (case hc2 => simp [Value.oneCell']); (case hc3 => unfold maxLen; omega); (case hc4 => omega); (case hc5 => simp; omega); intro v5; intro w5; intro hown5; intro hgrow5; intro hx5; intro hat5; have HO5 := Lib.hid hown5; have HG5 := Lib.hid hgrow5; clear hown5 hgrow5 hx5 hat5)
          have HT : Hid (w5.ownsRow w.heap.size 9 1 v5 (p + 1) (leftV (weaveS q n f D) (List.range (p + 1)))) := Lib.hid (by rw [List.range_succ, leftV_snoc, ← HS.out, ← HXS.out]; exact HO5.out)
          have HB5 : Hid (Below w.heap.size w w5) := Lib.hid (by
            have h1 : Below w.heap.size w wr := HBE.out.trans (HBE2.out.mono HBE.out.size)
            exact (h1.alloc h1.size _).grown HG5.out (by simp; omega) (fun g hg => (World.ownsRow.lt HOL.out g hg).1))
          go_roundw
          case rel => exact ⟨p + 1, v5, by omega, by go_num, rfl, HT.out, HB5.out⟩
          case measure => simp [intOf]; omega
    · obtain rfl : p = r := by omega
      go_wp2
      go_ret
      exact ⟨_, rfl, HOW.out, HBE.out⟩
end Go.Proofs.Ytpldnbfbpajbkaa
namespace Go.Proofs.Ytpldnbfbpajbkaa
open Go.RowKit
open Caulk.Lin (Fn2)

theorem refEncode_one {w : World} {vd : Value} {k m : Int} {S : List ByteArray} (hD : StrsS w vd S) (hkw : -9223372036854775808 ≤ k ∧ k ≤ 9223372036854775807) (hmw : -9223372036854775808 ≤ m ∧ m ≤ 9223372036854775807) (h : rsE k m ≠ 0) :
    Calls Try.prog 27 #[.int .i64 k, .int .i64 m, vd] w fun e w' => e = .returned (.tuple #[.slice none 0 0, .int .i64 1]) ∧ w = w' := by
  have hck := refRsCheck_any k m hkw hmw w
  rw [show rsE k m = 1 by unfold rsE at h ⊢; split at h <;> simp_all] at hck
  obtain ⟨A, c, rfl, hlc, hcm⟩ := hD.opened
  have HCK := Lib.hid hck
  clear hck h hD
  go_enter Try.func27, Try.ntmps27
  go_wp2_with fail
  refine HCK.out.mono ?_
  rintro e w' ⟨rfl, rfl⟩
  go_wp2
  go_ret2
  exact ⟨rfl, rfl⟩
theorem refEncode_two {w : World} {vd : Value} {k m : Int} {S : List ByteArray} (hD : StrsS w vd S) (hkw : -9223372036854775808 ≤ k ∧ k ≤ 9223372036854775807) (hmw : -9223372036854775808 ≤ m ∧ m ≤ 9223372036854775807) (h0 : rsE k m = 0) (h : ¬ ((S.length : Int) = k ∧ alikeB S = true)) :
    Calls Try.prog 27 #[.int .i64 k, .int .i64 m, vd] w fun e w' => e = .returned (.tuple #[.slice none 0 0, .int .i64 2]) ∧ w = w' := by
  have hck := refRsCheck_any k m hkw hmw w
  rw [h0] at hck
  have hak := fits_any hD
  obtain ⟨A, c, rfl, hlc, hcm⟩ := hD.opened
  have HCK := Lib.hid hck
  have HAK := Lib.hid hak
  clear hck hak hD h0
  by_cases hl : (S.length : Int) = k
  · have hal : alikeB S = false := by
      cases hh : alikeB S with
      | false => rfl
      | true => exact absurd ⟨hl, hh⟩ h
    rw [hal] at HAK
    subst hl
    have hz2 : ((S.length : Int) != (S.length : Int)) = false := by simp
    clear h hal
    go_enter Try.func27, Try.ntmps27
    go_wp2_with fail
    refine HCK.out.mono ?_
    rintro e w' ⟨rfl, rfl⟩
    go_wp2_with fail
    refine HAK.out.mono ?_
    rintro e w' ⟨rfl, rfl⟩
    go_wp2
    go_ret2
    exact ⟨rfl, rfl⟩
  · have hz1 : ((S.length : Int) == k) = false := by simpa using hl
    have hz2 : ((S.length : Int) != k) = true := by simpa using hl
    clear h hl HAK
    go_enter Try.func27, Try.ntmps27
    go_wp2_with fail
    refine HCK.out.mono ?_
    rintro e w' ⟨rfl, rfl⟩
    go_wp2
    go_ret2
    exact ⟨rfl, rfl⟩
set_option maxHeartbeats 2000000 in
theorem refEncode_ok {w : World} {vd : Value} {k m n : Nat} {D : List ByteArray} (hk : 1 ≤ k) (hkm : k + m ≤ 255) (hD : StrsS w vd D) (hl : D.length = k) (hn : ∀ j, j < k → (D.getD j ByteArray.empty).size = n) (hn2 : n ≤ 65536) (hal : alikeB D = true) :
    Calls Try.prog 27 #[.int .i64 (k : Int), .int .i64 (m : Int), vd] w (StrRes w (weaveL m k n (cauF k) D) 0) := by
  have hck := refRsCheck_any (k : Int) (m : Int) (by omega) (by omega) w
  rw [show rsE (k : Int) (m : Int) = 0 from if_pos (by omega)] at hck
  have HCK := Lib.hid hck
  have hak := fits_any hD
  rw [hal] at hak
  have HAK := Lib.hid hak
  obtain ⟨A, c, rfl, hlc, hcm⟩ := hD.opened
  rw [hl] at hlc hak HAK hD ⊢
  have HD := Lib.hid hD
  have HN := Lib.hid hn
  have HL := Lib.hid hl
  have hz1 : ((k : Int) == (k : Int)) = true := by simp
  have hz2 : ((k : Int) != (k : Int)) = false := by simp
  clear hck hak hD hn hl hal
  by_cases hm : m = 0
  · subst hm
    have he : weaveL 0 k n (cauF k) D = [] := rfl
    rw [he]
    clear he
    go_enter Try.func27, Try.ntmps27
    go_wp2_with fail
    refine HCK.out.mono ?_
    rintro e w' ⟨rfl, rfl⟩
    go_wp2_with fail
    refine HAK.out.mono ?_
    rintro e w' ⟨rfl, rfl⟩
    go_wp2
    go_ret2
    exact ⟨_, rfl, strsS_nil _, Below.refl _ _⟩
  · have hz3 : ((m : Int) == 0) = false := by simp; omega
    have hcau := refCauchy_res (k : Int) (m : Int) (by omega) (by omega) w
    unfold cauE cauL at hcau
    rw [if_pos (by omega), if_pos (by omega), Int.toNat_natCast, Int.toNat_natCast] at hcau
    have HCAU := Lib.hid hcau
    clear hcau hm
    go_enter Try.func27, Try.ntmps27
    go_wp2_with fail
    refine HCK.out.mono ?_
    rintro e w' ⟨rfl, rfl⟩
    go_wp2_with fail
    refine HAK.out.mono ?_
    rintro e w' ⟨rfl, rfl⟩
    go_wp2_with fail
    refine HCAU.out.mono ?_
    rintro e w1 ⟨vc, rfl, hs, hb⟩
    have hm1 : 1 ≤ m := by simp at hz3; omega
    have ht := times_any hs hm1 (by omega) hk (by omega) (HD.out.below hb) HL.out HN.out hn2
    have HT := Lib.hid ht
    have HB := Lib.hid hb
    clear ht hb hs HCAU HD
    go_wp2_with fail
    refine HT.out.mono ?_
    rintro e w2 ⟨v, rfl, how, hb⟩
    have HO := Lib.hid how
    have HB2 : Hid (Below w.heap.size w w2) := Lib.hid (HB.out.trans (hb.mono HB.out.size))
    clear how hb HT
    go_wp2
    go_ret2
    exact ⟨_, rfl, own_strs (B := w1.heap.size) (l := List.range m) (by rw [List.length_range]; exact HO.out) (fun i _ => by rw [weaveS_size]; unfold maxLen; omega), HB2.out⟩
theorem refEncode_res {w : World} {vd : Value} {k m : Int} {S : List ByteArray} (hD : StrsS w vd S) (hkw : -9223372036854775808 ≤ k ∧ k ≤ 9223372036854775807) (hmw : -9223372036854775808 ≤ m ∧ m ≤ 9223372036854775807) :
    Calls Try.prog 27 #[.int .i64 k, .int .i64 m, vd] w (StrRes w (encL k m S) (encE k m S)) := by
  by_cases h0 : rsE k m = 0
  · by_cases h1 : (S.length : Int) = k ∧ alikeB S = true
    · have e1 : encE k m S = 0 := by unfold encE; rw [if_pos h0, if_pos h1]
      unfold encL
      rw [e1, if_pos rfl]
      have hb : 1 ≤ k ∧ 0 ≤ m ∧ k + m ≤ 255 := by
        unfold rsE at h0
        by_cases hh : 1 ≤ k ∧ 0 ≤ m ∧ k + m ≤ 255
        · exact hh
        · rw [if_neg hh] at h0; simp at h0
      obtain ⟨kn, rfl⟩ : ∃ n : Nat, k = (n : Int) := ⟨k.toNat, by omega⟩
      obtain ⟨mn, rfl⟩ : ∃ n : Nat, m = (n : Int) := ⟨m.toNat, by omega⟩
      have hA := alikeB_iff.1 h1.2
      have hl : S.length = kn := by have := h1.1; omega
      rw [Int.toNat_natCast, Int.toNat_natCast]
      exact refEncode_ok (by omega) (by omega) hD hl (fun j hj => (hA j (by omega)).1) (hA 0 (by omega)).2 h1.2
    · have e1 : encE k m S = 2 := by unfold encE; rw [if_pos h0, if_neg h1]
      unfold encL
      rw [e1, if_neg (by decide)]
      exact (refEncode_two hD hkw hmw h0 h1).mono fun _ _ ⟨a, b⟩ => by subst b; exact ⟨_, a, strsS_nil _, Below.refl _ _⟩
  · have e1 : encE k m S = 1 := by unfold encE; rw [if_neg h0]
    unfold encL
    rw [e1, if_neg (by decide)]
    exact (refEncode_one hD hkw hmw h0).mono fun _ _ ⟨a, b⟩ => by subst b; exact ⟨_, a, strsS_nil _, Below.refl _ _⟩
/-- The lists alike, element by element. -/
theorem drop_alike {S T : List ByteArray} {k m : Nat} (hS : S.length = k + m) (hT : T.length = m) : T = S.drop k ↔ ∀ i, i < m → T.getD i ByteArray.empty = S.getD (k + i) ByteArray.empty := by
  constructor
  · intro h i hi
    rw [h]; simp [List.getD, List.getElem?_drop]
  · intro h
    apply List.ext_getElem (by simp; omega)
    intro i h1 h2
    have := h i (by omega)
    rw [List.getD, List.getD, List.getElem?_eq_getElem h1, List.getElem?_eq_getElem (by simp at h2; omega)] at this
    simpa using this
set_option maxHeartbeats 2000000 in
theorem refGood_any {w : World} {vd : Value} {k m : Int} {S : List ByteArray} (hD : StrsS w vd S) (hkw : -9223372036854775808 ≤ k ∧ k ≤ 9223372036854775807) (hmw : -9223372036854775808 ≤ m ∧ m ≤ 9223372036854775807) :
    Calls Try.prog 32 #[.int .i64 k, .int .i64 m, vd] w fun e w' => e = .returned (.bool (goodB k m S)) ∧ Below w.heap.size w w' := by
  have hck := refRsCheck_any k m hkw hmw w
  by_cases h0 : rsE k m = 0
  · rw [h0] at hck
    have HCK := Lib.hid hck
    clear hck
    have hb : 1 ≤ k ∧ 0 ≤ m ∧ k + m ≤ 255 := by
      unfold rsE at h0
      by_cases hh : 1 ≤ k ∧ 0 ≤ m ∧ k + m ≤ 255
      · exact hh
      · rw [if_neg hh] at h0; simp at h0
    obtain ⟨kn, rfl⟩ : ∃ n : Nat, k = (n : Int) := ⟨k.toNat, by omega⟩
    obtain ⟨mn, rfl⟩ : ∃ n : Nat, m = (n : Int) := ⟨m.toNat, by omega⟩
    obtain ⟨hb1, hb2, hb3⟩ := hb
    by_cases h1 : (S.length : Int) = (kn : Int) + (mn : Int)
    · have hg : goodB kn mn S = if encE kn mn (S.take kn) = 0 then decide (encL kn mn (S.take kn) = S.drop kn) else false := by
        unfold goodB; rw [if_pos ⟨h0, h1⟩, Int.toNat_natCast]
      rw [hg]
      obtain ⟨b, off, cap, rfl, hlc, hcm, hr⟩ := hD.reads (by omega)
      have hl : S.length = kn + mn := by omega
      have hE := refEncode_res (hD.take kn (by omega)) hkw hmw
      have HE := Lib.hid hE
      have HR := Lib.hid hr
      have hz1 : ((S.length : Int) == (kn : Int) + (mn : Int)) = true := by rw [h1]; simp
      have hz2 : ((S.length : Int) != (kn : Int) + (mn : Int)) = false := by rw [h1]; simp
      have hTl : encE kn mn (S.take kn) = 0 → (encL kn mn (S.take kn)).length = mn := fun h => by
        unfold encL; rw [if_pos h]; unfold parL; rw [weaveL_len]; omega
      clear hE hD hg h0 h1 hr
      obtain ⟨T, hT⟩ : ∃ T, T = encL kn mn (S.take kn) := ⟨_, rfl⟩
      obtain ⟨E, hEE⟩ : ∃ E, E = encE kn mn (S.take kn) := ⟨_, rfl⟩
      rw [← hT, ← hEE] at HE ⊢
      rw [← hT, ← hEE] at hTl
      clear hT hEE
      by_cases hE0 : E = 0
      · subst hE0
        rw [if_pos rfl]
        have hTn := hTl rfl
        have HEQ := Lib.hid (drop_alike hl hTn)
        obtain ⟨R, hR⟩ : ∃ R, decide (T = S.drop kn) = R := ⟨_, rfl⟩
        rw [hR]
        have HRR := Lib.hid hR
        obtain ⟨s, hs⟩ : ∃ s : Nat → ByteArray, s = fun i => S.getD i ByteArray.empty := ⟨_, rfl⟩
        have q1 : ∀ i, S.getD i ByteArray.empty = s i := fun i => by rw [hs]
        simp only [q1] at HR HEQ
        rw [hl] at hlc HR hz1 hz2 ⊢
        have HTL := Lib.hid hTn
        clear hR hs q1 hTl hTn hl
        have hsum : ((kn + mn : Nat) : Int) = (kn : Int) + (mn : Int) := by omega
        go_enter Try.func32, Try.ntmps32
        go_wp2_with fail
        refine HCK.out.mono ?_
        rintro e w' ⟨rfl, rfl⟩
        go_wp2_with fail
        refine HE.out.mono ?_
        rintro e w1 ⟨v, rfl, hs, hb⟩
        have HS := Lib.hid hs
        have HB := Lib.hid hb
        obtain ⟨aT, cT, rfl, hlT, hmT⟩ := hs.opened
        rw [HTL.out] at hlT ⊢
        clear hs hb HE HCK
        have HC : Hid (∀ q, q < mn → ∃ b1 o1, aT = some ⟨b1, o1, none⟩ ∧ w1.cell? ⟨b1, o1 + q, none⟩ = some (.string (T.getD q ByteArray.empty)) ∧ w1.cell? ⟨b, off + (kn + q), none⟩ = some (.string (s (kn + q)))) := Lib.hid (by
          intro q hq
          obtain ⟨b1, o1, c1, e1, _, _, r1⟩ := HS.out.reads (by rw [HTL.out]; omega)
          injection e1 with e1 _ _
          exact ⟨b1, o1, e1, (r1 w1 (Below.refl _ _) q (by rw [HTL.out]; omega)).1, (HR.out w1 HB.out (kn + q) (by omega)).1⟩)
        obtain ⟨t, ht⟩ : ∃ t : Nat → ByteArray, t = fun i => T.getD i ByteArray.empty := ⟨_, rfl⟩
        have q2 : ∀ i, T.getD i ByteArray.empty = t i := fun i => by rw [ht]
        simp only [q2] at HC HEQ
        clear HS HR ht q2
        go_wp2_with fail
        go_loop [36] (fun i => ∃ q : Nat, q ≤ mn ∧ i = .int .i64 q ∧ ∀ j, j < q → t j = s (kn + j)) (fun i => mn - (intOf i).toNat)
        case atStart => exact ⟨0, by omega, rfl, fun j hj => by omega⟩
        case round =>
          obtain ⟨q, hq, rfl, hall⟩ := hrel
          have HALL := Lib.hid hall
          clear hall
          by_cases hlt : q < mn
          · obtain ⟨b1, o1, rfl, hx, hy⟩ := HC.out q hlt
            have hi1 : ((kn : Int) + (q : Int)).toNat = kn + q := by omega
            by_cases hls : t q = s (kn + q)
            · have HSQ := Lib.hid hls
              rw [hls] at hx
              clear hls
              generalize s (kn + q) = X at hx hy
              go_wp2
              go_round
              case rel =>
                refine ⟨q + 1, by omega, by go_num, fun j hj => ?_⟩
                by_cases e : j = q
                · subst e; exact HSQ.out
                · exact HALL.out j (by omega)
              case measure => simp [intOf]; omega
            · have HSQ := Lib.hid hls
              have hne2 := strs_string (Ne.symm hls)
              have hno : Hid (R = false) := Lib.hid (by rw [← HRR.out, decide_eq_false_iff_not]; exact fun h => HSQ.out (HEQ.out.1 h q hlt))
              clear hls
              generalize t q = Y at hx hne2
              generalize s (kn + q) = X at hy hne2
              go_wp2
              go_ret
              exact ⟨ret_bool hno.out.symm, HB.out⟩
          · obtain rfl : q = mn := by omega
            have hyes : Hid (R = true) := Lib.hid (by rw [← HRR.out, decide_eq_true_eq]; exact HEQ.out.2 HALL.out)
            go_wp2
            go_ret
            exact ⟨ret_bool hyes.out.symm, HB.out⟩
      · rw [if_neg hE0]
        have he1 : (E == 0) = false := by simpa using hE0
        have he2 : (E != 0) = true := by simpa using hE0
        clear hE0
        go_enter Try.func32, Try.ntmps32
        go_wp2_with fail
        refine HCK.out.mono ?_
        rintro e w' ⟨rfl, rfl⟩
        go_wp2_with fail
        refine HE.out.mono ?_
        rintro e w1 ⟨v, rfl, _, hb⟩
        have HB := Lib.hid hb
        clear hb
        go_wp2
        go_ret
        exact ⟨rfl, HB.out⟩
    · have hg : goodB kn mn S = false := by unfold goodB; rw [if_neg (fun h => h1 h.2)]
      rw [hg]
      obtain ⟨A, cap, rfl, hlc, hcm⟩ := hD.opened
      have hz1 : ((S.length : Int) == (kn : Int) + (mn : Int)) = false := by simpa using h1
      have hz2 : ((S.length : Int) != (kn : Int) + (mn : Int)) = true := by simpa using h1
      clear hD hg h0 h1
      go_enter Try.func32, Try.ntmps32
      go_wp2_with fail
      refine HCK.out.mono ?_
      rintro e w' ⟨rfl, rfl⟩
      go_wp2
      go_ret
      exact ⟨rfl, Below.refl _ _⟩
  · have h1 : rsE k m = 1 := by unfold rsE at h0 ⊢; split at h0 <;> simp_all
    rw [h1] at hck
    have HCK := Lib.hid hck
    have hg : goodB k m S = false := by unfold goodB; rw [if_neg (fun h => h0 h.1)]
    rw [hg]
    obtain ⟨A, cap, rfl, hlc, hcm⟩ := hD.opened
    clear hck hD hg h0 h1
    go_enter Try.func32, Try.ntmps32
    go_wp2_with fail
    refine HCK.out.mono ?_
    rintro e w' ⟨rfl, rfl⟩
    go_wp2
    go_ret
    exact ⟨rfl, Below.refl _ _⟩
end Go.Proofs.Ytpldnbfbpajbkaa
