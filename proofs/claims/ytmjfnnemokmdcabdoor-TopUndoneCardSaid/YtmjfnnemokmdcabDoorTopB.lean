/- The walk of TopUndone. -/
import Derived.Test.YtmjfnnemokmdcabDoorTopA
import Derived.Deep.RegionWith
import Derived.Outline
namespace Go.Proofs.YtmjfnnemokmdcabDoor
open Go.RowKit
open Caulk.Crc (W)
open Caulk.Gf (dbl mul putL scaleL)

theorem inv_zero_any (w : World) : Calls Tryd.prog 6 #[.int .u8 0] w fun e W' => e = .returned (.tuple #[.int .u8 0, .int .i64 13]) ∧ Below w.heap.size w W' := gfInv_any 0 w
theorem scale_nought_any (s : ByteArray) (hs : s.size ≤ 16384) (w : World) :
    Calls Tryd.prog 7 #[.int .u8 0, .string s] w fun e w' => e = .returned (.string ⟨(List.replicate s.size (0 : UInt8)).toArray⟩) ∧ Below w.heap.size w w' := scale_zero_any 0 rfl s hs w
theorem top_big (c : UInt8) (s : ByteArray) (A : Option Addr) (len cap : Nat) (w : World) (h : 16384 < s.size ∨ 16384 < len) (_hm : len ≤ maxLen) (hT : Tab w) :
    Calls Tryd.prog 3 #[.int .u8 (c.toNat : Int), .string s, .slice A len cap] w fun e w' => e = .returned (.bool true) ∧ Below w.heap.size w w' := by
  have HT := Lib.hid hT
  clear hT
  by_cases h1 : 16384 < s.size
  · have hd1 : decide ((16384 : Int) < (s.size : Int)) = true := by simp; omega
    go_enter Tryd.func3, Tryd.ntmps3
    go_wp2_with (go_at_call 4; refine (begins_any _ HT.out).mono ?_; rintro e w1 ⟨rfl, rfl⟩)
    go_ret
    exact ⟨rfl, Below.refl _ _⟩
  · have hd1 : decide ((16384 : Int) < (s.size : Int)) = false := by simp; omega
    have hd2 : decide ((16384 : Int) < (len : Int)) = true := by simp; omega
    unfold maxLen at _hm
    go_enter Tryd.func3, Tryd.ntmps3
    go_wp2_with (go_at_call 4; refine (begins_any _ HT.out).mono ?_; rintro e w1 ⟨rfl, rfl⟩)
    go_ret
    exact ⟨rfl, Below.refl _ _⟩
set_option maxRecDepth 100000 in
set_option maxHeartbeats 2000000 in
theorem top_small (c : UInt8) (s : ByteArray) (A : Option Addr) (len cap : Nat) (l : List UInt8) (w : World) (hs : s.size ≤ 16384) (hl : len ≤ 16384) (hin : IsBytes w A len cap l) (hT : Tab w) :
    Calls Tryd.prog 3 #[.int .u8 (c.toNat : Int), .string s, .slice A len cap] w fun e w' => e = .returned (.bool true) ∧ Below w.heap.size w w' := by
  have HT := Lib.hid hT
  have HIN := Lib.hid hin
  clear hT
  obtain ⟨i0, hi, hz0, hz1, hz2⟩ := info_parts infoU8
  obtain ⟨hlen, _, hA⟩ := hin
  have hd1 : decide ((16384 : Int) < (s.size : Int)) = false := by simp; omega
  have hd2 : decide ((16384 : Int) < (len : Int)) = false := by simp; omega
  have hmade : (w.alloc (.cells #[] 5)).ownsRow w.heap.size 5 1 (.slice (some ⟨w.heap.size, 0, none⟩) 0 0) 0 [] := World.ownsRow_made w #[] 0 (Nat.le_refl _) (by decide) rfl
  have HM := Lib.hid hmade
  have HLEN := Lib.hid hlen
  have HN : Hid (∀ ad, A = some ad → ∀ j u, (U8s l)[j]? = some u → (w.alloc (.cells #[] 5)).cell? (ad.add j) = some u) := Lib.hid (by
    intro ad had j u hu
    have hj : j < l.length := by have := (List.getElem?_eq_some_iff.1 hu).1; rw [u8s_len] at this; exact this
    rcases hA with ⟨e, _⟩ | ⟨ad', e, h0 | ⟨b, off, rfl, hbl, hc⟩⟩
    · rw [e] at had; cases had
    · omega
    · rw [e] at had; injection had with had; subst had
      rw [u8s_at l j hj] at hu
      injection hu with hu
      rw [show (⟨b, off, none⟩ : Addr).add j = ⟨b, off + j, none⟩ by unfold Addr.add; split <;> simp_all, World.cell?_alloc_lt _ _ _ hbl, hc j (by omega), hu])
  have HS := Lib.hid hs
  clear hmade hlen
  cases A with
  | none =>
    have h0 : len = 0 ∧ cap = 0 := by
      rcases hA with ⟨_, h0⟩ | ⟨ad, e, _⟩
      · exact h0
      · cases e
    obtain ⟨rfl, rfl⟩ := h0
    clear hA HN
    go_enter Tryd.func3, Tryd.ntmps3
    go_wp2_with (first
      | (go_at_call 4; refine (begins_any _ HT.out).mono ?_; rintro e w1 ⟨rfl, rfl⟩)
      | (at_builtin; (with_reducible refine wpList_append_own_none ?g0 (.tmp 21) (.tmp 22) 22 ?g1 w.heap.size 5 i0 1 Tryd.underlying22 hi (.slice (some ⟨w.heap.size, 0, none⟩) 0 0) 0 [] ?g3 HM.out ?g4 ?_)
         case g0 => rfl
         case g1 => rfl
         case g3 => rfl
         case g4 => rfl))
    have hrow : Row8 (w.alloc (.cells #[] 5)) w.heap.size 0 l := by
      have : l = [] := List.eq_nil_of_length_eq_zero HLEN.out
      subst this
      exact (OwnB.row (l := []) HM.out).1
    have hBW : Below w.heap.size w (w.alloc (.cells #[] 5)) := (Below.refl _ w).alloc (Nat.le_refl _) _
    have hsm : s.size ≤ maxLen := by unfold maxLen; omega
    have hput := put_any w.heap.size 0 0 l c s hsm _ hrow
    rw [HLEN.out] at hput
    refine hput.mono ?_
    rintro e w2 ⟨rfl, hrow2, hg2⟩
    have hB2 : Below w.heap.size w w2 := hBW.grown hg2 hBW.size (fun k hk => by injection hk with hk; omega)
    clear hput
    go_wp2_with fail
    have hput := put_any w.heap.size 0 0 (putL c l s.data.toList) c s hsm _ hrow2
    rw [Caulk.Gf.putL_len, HLEN.out, Caulk.Gf.putL_twice] at hput
    refine hput.mono ?_
    rintro e w3 ⟨rfl, hrow3, hg3⟩
    have hB3 : Below w.heap.size w w3 := hB2.grown hg3 hB2.size (fun k hk => by injection hk with hk; omega)
    clear hput hrow hrow2 hg2 hg3 hB2 hBW
    have hc1 := string_of_row (P := Tryd.prog) (cap := 0) 0 HLEN.out.symm hrow3 22 9 5 Tryd.underlying22 Tryd.underlying5 Tryd.underlying9
    have hc2 := to_string_any HIN.out hB3
    clear hrow3
    by_cases hc0 : c = 0
    · have h1 : errI c = 13 := by unfold errI; rw [if_pos hc0]
      have h2 : (c.toNat : Int) = 0 := by rw [hc0]; rfl
      have HC := Lib.hid hc0
      clear hc0
      go_wp2_with (go_at_call 6; (with_reducible refine (inv_zero_any _).mono ?_); rintro e w4 ⟨rfl, hb4⟩)
      have hB4 := hB3.trans (hb4.mono hB3.size)
      have HB4 := Lib.hid hB4
      have hmk := run_make_row' (P := Tryd.prog) 22 5 (.int .u8 0) 1 Tryd.underlying22 infoU8 rfl .i64 .i64 s.size (by omega) (by omega)
      have HCV : Hid (∀ W1 W2 : World, Row8 W1 w4.heap.size 0 (List.replicate s.size 0) → Below W1.heap.size W1 W2 → (convert 22 9 (.slice (some ⟨w4.heap.size, 0, none⟩) s.size s.size)).run Tryd.prog W2 = .ok (.string ⟨(List.replicate s.size (0 : UInt8)).toArray⟩) W2) := Lib.hid (fun W1 W2 h1 h2 => string_of_row (P := Tryd.prog) (cap := s.size) s.size (by simp) (h1.below h2 h1.1) 22 9 5 Tryd.underlying22 Tryd.underlying5 Tryd.underlying9)
      have HCA : Hid (∀ W1 : World, (convert 22 9 (.slice (some ⟨W1.heap.size, 0, none⟩) s.size s.size)).run Tryd.prog (W1.alloc (.cells (madeCells #[.int .u8 0] s.size) 5)) = .ok (.string ⟨(List.replicate s.size (0 : UInt8)).toArray⟩) (W1.alloc (.cells (madeCells #[.int .u8 0] s.size) 5))) := Lib.hid (fun W1 => string_of_row (P := Tryd.prog) (cap := s.size) s.size (by simp) (row_made W1 s.size 5) 22 9 5 Tryd.underlying22 Tryd.underlying5 Tryd.underlying9)
      have hr4 := (row_made w4 s.size 5).drew
      have HR4 := Lib.hid hr4
      have hcv1 := HCA.out w4
      have hcv2 := HCV.out _ _ hr4 (Below.refl _ _)
      have HB6 : Hid (Below w.heap.size w (w4.alloc (.cells (madeCells #[.int .u8 0] s.size) 5)).drew) := Lib.hid (hB4.alloc hB4.size _).drew
      clear hb4 hB4 hB3 hc1 hc2 hr4
      go_region_with (first
        | (go_at_call 7; (with_reducible refine (scale_nought_any s HS.out _).mono ?_); rintro e w5 ⟨rfl, hb5⟩
           have hcv3 := HCA.out w5
           have HB5 : Hid (Below w.heap.size w w5) := Lib.hid (by first | exact HB4.out.drew.trans (hb5.mono HB4.out.size) | exact HB6.out.trans (hb5.mono HB6.out.size))
           first | (have hcv4 := HCV.out _ _ HR4.out hb5) | skip))
      all_goals go_wp2
      all_goals go_ret
      all_goals first | exact ⟨rfl, HB5.out⟩ | exact ⟨rfl, HB5.out.drew⟩ | exact ⟨rfl, HB5.out.alloc HB5.out.size _⟩ | exact ⟨rfl, (HB5.out.alloc HB5.out.size _).drew⟩
    · have h1 : errI c = 0 := by unfold errI; rw [if_neg hc0]
      have HC := Lib.hid hc0
      clear hc0
      have HB := Lib.hid hB3
      have a1 : s.size ≤ maxLen := by unfold maxLen; omega
      have a2 : (s ++ sumBytes (Caulk.Crc.sum s.data.toList)).size ≤ maxLen := by unfold maxLen; rw [ByteArray.size_append]; have := sum_size (Caulk.Crc.sum s.data.toList); omega
      have hG := good_with s
      have hz : ¬ 9223372036854775807 < s.size + (sumBytes (Caulk.Crc.sum s.data.toList)).size := by have := sum_size (Caulk.Crc.sum s.data.toList); omega
      clear hB3 hsm
      go_wp2_with (first
        | (go_at_call 6; (with_reducible refine (gfInv_any c _).mono ?_); rintro e w4 ⟨rfl, hb4⟩; replace HB := Lib.hid (HB.out.trans (hb4.mono HB.out.size)); clear hb4)
        | (go_at_call 7; (with_reducible refine (scale_back_any c HC.out s HS.out _).mono ?_); rintro e w5 ⟨rfl, hb5⟩; replace HB := Lib.hid (HB.out.trans (hb5.mono HB.out.size)); clear hb5)
        | (go_at_call 7; (with_reducible refine (scale_fwd_any c s HS.out _).mono ?_); rintro e w5 ⟨rfl, hb5⟩; replace HB := Lib.hid (HB.out.trans (hb5.mono HB.out.size)); clear hb5)
        | (go_at_call 8; (with_reducible refine (crcSum_any s ?_ _ ?_).mono ?_); (assumption); (exact HT.out.below HB.out (Nat.le_refl _)); rintro e w6 ⟨rfl, rfl⟩)
        | (go_at_call 10; (with_reducible refine (crcBytes_any s ?_ _ ?_).mono ?_); (assumption); (exact HT.out.below HB.out (Nat.le_refl _)); rintro e w7 ⟨rfl, hb7⟩; replace HB := Lib.hid (HB.out.trans (hb7.mono HB.out.size)); clear hb7)
        | (go_at_call 9; (with_reducible refine (crcGood_any (s ++ sumBytes (Caulk.Crc.sum s.data.toList)) ?_ _ ?_).mono ?_); (assumption); (exact HT.out.below HB.out (Nat.le_refl _)); rintro e w8 ⟨rfl, hb8⟩; replace HB := Lib.hid (HB.out.trans (hb8.mono HB.out.size)); clear hb8))
      go_ret
      exact ⟨rfl, HB.out⟩
  | some ad =>
    go_enter Tryd.func3, Tryd.ntmps3
    go_wp2_with (first
      | (go_at_call 4; refine (begins_any _ HT.out).mono ?_; rintro e w1 ⟨rfl, rfl⟩)
      | (at_builtin; (with_reducible refine wpList_append_own _ ?g0 (.tmp 21) (.tmp 22) 22 ?g1 w.heap.size 5 i0 (.int .u8 0) 1 1 Tryd.underlying22 hi hz0 hz1 hz2 ?g2 (by decide) (.slice (some ⟨w.heap.size, 0, none⟩) 0 0) 0 [] ?g3 HM.out ad len cap (U8s l) ?g4 ?g5 ?c1 ?c2 ?c3 ?c4 ?c5 ?_)
         case g0 => rfl
         case g1 => rfl
         case g2 => rfl
         case g3 => rfl
         case g4 => rfl
         case g5 => rw [u8s_len, HLEN.out, Nat.mul_one]
         case c1 => exact HN.out ad rfl
         case c2 => exact u8s_one l
         case c3 => unfold maxLen; omega
         case c4 => omega
         case c5 => rw [World.size_alloc]; omega
         intro v' w1 hown1 hgrow hnn))
    rw [List.nil_append] at hown1
    have hown : OwnB w1 w.heap.size v' l := by unfold OwnB; rw [HLEN.out]; rw [Nat.zero_add] at hown1; exact hown1
    have hBW : Below w.heap.size w w1 := ((Below.refl _ w).alloc (Nat.le_refl _) _).grown hgrow (by rw [World.size_alloc]; omega) (fun k hk => by simp [Value.ownBlock] at hk; omega)
    obtain ⟨g, cap', rfl, hge⟩ : ∃ g cap', v' = .slice (some ⟨g, 0, none⟩) len cap' ∧ w.heap.size ≤ g := by
      rcases hown1.2 with ⟨e, _⟩ | ⟨g, cap', cur, e, hb, _⟩
      · exact absurd e (by simpa using hnn)
      · exact ⟨g, cap', by rw [e, Nat.zero_add], hb⟩
    have hrow := (OwnB.row hown).1
    clear hown hown1 hgrow hnn HM HN hA
    have hsm : s.size ≤ maxLen := by unfold maxLen; omega
    have hput := put_any g 0 cap' l c s hsm _ hrow
    rw [HLEN.out] at hput
    refine hput.mono ?_
    rintro e w2 ⟨rfl, hrow2, hg2⟩
    have hB2 : Below w.heap.size w w2 := hBW.grown hg2 hBW.size (fun k hk => by injection hk with hk; omega)
    clear hput
    go_wp2_with fail
    have hput := put_any g 0 cap' (putL c l s.data.toList) c s hsm _ hrow2
    rw [Caulk.Gf.putL_len, HLEN.out, Caulk.Gf.putL_twice] at hput
    refine hput.mono ?_
    rintro e w3 ⟨rfl, hrow3, hg3⟩
    have hB3 : Below w.heap.size w w3 := hB2.grown hg3 hB2.size (fun k hk => by injection hk with hk; omega)
    clear hput hrow hrow2 hg2 hg3 hB2 hBW
    have hc1 := string_of_row (P := Tryd.prog) (cap := cap') len HLEN.out.symm hrow3 22 9 5 Tryd.underlying22 Tryd.underlying5 Tryd.underlying9
    have hc2 := to_string_any HIN.out hB3
    clear hrow3
    by_cases hc0 : c = 0
    · have h1 : errI c = 13 := by unfold errI; rw [if_pos hc0]
      have h2 : (c.toNat : Int) = 0 := by rw [hc0]; rfl
      have HC := Lib.hid hc0
      clear hc0
      go_wp2_with (go_at_call 6; (with_reducible refine (inv_zero_any _).mono ?_); rintro e w4 ⟨rfl, hb4⟩)
      have hB4 := hB3.trans (hb4.mono hB3.size)
      have HB4 := Lib.hid hB4
      have hmk := run_make_row' (P := Tryd.prog) 22 5 (.int .u8 0) 1 Tryd.underlying22 infoU8 rfl .i64 .i64 s.size (by omega) (by omega)
      have HCV : Hid (∀ W1 W2 : World, Row8 W1 w4.heap.size 0 (List.replicate s.size 0) → Below W1.heap.size W1 W2 → (convert 22 9 (.slice (some ⟨w4.heap.size, 0, none⟩) s.size s.size)).run Tryd.prog W2 = .ok (.string ⟨(List.replicate s.size (0 : UInt8)).toArray⟩) W2) := Lib.hid (fun W1 W2 h1 h2 => string_of_row (P := Tryd.prog) (cap := s.size) s.size (by simp) (h1.below h2 h1.1) 22 9 5 Tryd.underlying22 Tryd.underlying5 Tryd.underlying9)
      have HCA : Hid (∀ W1 : World, (convert 22 9 (.slice (some ⟨W1.heap.size, 0, none⟩) s.size s.size)).run Tryd.prog (W1.alloc (.cells (madeCells #[.int .u8 0] s.size) 5)) = .ok (.string ⟨(List.replicate s.size (0 : UInt8)).toArray⟩) (W1.alloc (.cells (madeCells #[.int .u8 0] s.size) 5))) := Lib.hid (fun W1 => string_of_row (P := Tryd.prog) (cap := s.size) s.size (by simp) (row_made W1 s.size 5) 22 9 5 Tryd.underlying22 Tryd.underlying5 Tryd.underlying9)
      have hr4 := (row_made w4 s.size 5).drew
      have HR4 := Lib.hid hr4
      have hcv1 := HCA.out w4
      have hcv2 := HCV.out _ _ hr4 (Below.refl _ _)
      have HB6 : Hid (Below w.heap.size w (w4.alloc (.cells (madeCells #[.int .u8 0] s.size) 5)).drew) := Lib.hid (hB4.alloc hB4.size _).drew
      clear hb4 hB4 hB3 hc1 hc2 hr4
      go_region_with (first
        | (go_at_call 7; (with_reducible refine (scale_nought_any s HS.out _).mono ?_); rintro e w5 ⟨rfl, hb5⟩
           have hcv3 := HCA.out w5
           have HB5 : Hid (Below w.heap.size w w5) := Lib.hid (by first | exact HB4.out.drew.trans (hb5.mono HB4.out.size) | exact HB6.out.trans (hb5.mono HB6.out.size))
           first | (have hcv4 := HCV.out _ _ HR4.out hb5) | skip))
      all_goals go_wp2
      all_goals go_ret
      all_goals first | exact ⟨rfl, HB5.out⟩ | exact ⟨rfl, HB5.out.drew⟩ | exact ⟨rfl, HB5.out.alloc HB5.out.size _⟩ | exact ⟨rfl, (HB5.out.alloc HB5.out.size _).drew⟩
    · have h1 : errI c = 0 := by unfold errI; rw [if_neg hc0]
      have HC := Lib.hid hc0
      clear hc0
      have HB := Lib.hid hB3
      have a1 : s.size ≤ maxLen := by unfold maxLen; omega
      have a2 : (s ++ sumBytes (Caulk.Crc.sum s.data.toList)).size ≤ maxLen := by unfold maxLen; rw [ByteArray.size_append]; have := sum_size (Caulk.Crc.sum s.data.toList); omega
      have hG := good_with s
      have hz : ¬ 9223372036854775807 < s.size + (sumBytes (Caulk.Crc.sum s.data.toList)).size := by have := sum_size (Caulk.Crc.sum s.data.toList); omega
      clear hB3 hsm
      go_wp2_with (first
        | (go_at_call 6; (with_reducible refine (gfInv_any c _).mono ?_); rintro e w4 ⟨rfl, hb4⟩; replace HB := Lib.hid (HB.out.trans (hb4.mono HB.out.size)); clear hb4)
        | (go_at_call 7; (with_reducible refine (scale_back_any c HC.out s HS.out _).mono ?_); rintro e w5 ⟨rfl, hb5⟩; replace HB := Lib.hid (HB.out.trans (hb5.mono HB.out.size)); clear hb5)
        | (go_at_call 7; (with_reducible refine (scale_fwd_any c s HS.out _).mono ?_); rintro e w5 ⟨rfl, hb5⟩; replace HB := Lib.hid (HB.out.trans (hb5.mono HB.out.size)); clear hb5)
        | (go_at_call 8; (with_reducible refine (crcSum_any s ?_ _ ?_).mono ?_); (assumption); (exact HT.out.below HB.out (Nat.le_refl _)); rintro e w6 ⟨rfl, rfl⟩)
        | (go_at_call 10; (with_reducible refine (crcBytes_any s ?_ _ ?_).mono ?_); (assumption); (exact HT.out.below HB.out (Nat.le_refl _)); rintro e w7 ⟨rfl, hb7⟩; replace HB := Lib.hid (HB.out.trans (hb7.mono HB.out.size)); clear hb7)
        | (go_at_call 9; (with_reducible refine (crcGood_any (s ++ sumBytes (Caulk.Crc.sum s.data.toList)) ?_ _ ?_).mono ?_); (assumption); (exact HT.out.below HB.out (Nat.le_refl _)); rintro e w8 ⟨rfl, hb8⟩; replace HB := Lib.hid (HB.out.trans (hb8.mono HB.out.size)); clear hb8))
      go_ret
      exact ⟨rfl, HB.out⟩
theorem topUndone_walk (x : Int) (hx : (Lit.int .u8 x).wf = true) (s : ByteArray) (_hs : s.size ≤ maxLen) (A : Option Addr) (len cap : Nat) (l : List UInt8) (w : World) (hin : IsBytes w A len cap l) (hT : Tab w) :
    Calls Tryd.prog 3 #[.int .u8 x, .string s, .slice A len cap] w fun e w' => e = .returned (.bool true) ∧ Below w.heap.size w w' := by
  have hc := u8_of_wf hx
  generalize UInt8.ofNat x.toNat = c at hc
  subst hc
  by_cases h : 16384 < s.size ∨ 16384 < len
  · exact top_big c s A len cap w h hin.2.1 hT
  · exact top_small c s A len cap l w (by omega) (by omega) hin hT
end Go.Proofs.YtmjfnnemokmdcabDoor
