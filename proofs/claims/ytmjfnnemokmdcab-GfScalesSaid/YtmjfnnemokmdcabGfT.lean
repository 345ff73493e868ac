/- The walk of GfScales. -/
import Derived.Test.YtmjfnnemokmdcabGfS
import Derived.Test.YtmjfnnemokmdcabIsBytes
import Derived.Test.YtmjfnnemokmdcabGfM
namespace Go.Proofs.Ytmjfnnemokmdcab
open Go.RowKit
open Caulk.Gf (dbl mul putL scaleL)

theorem putL_in (c : UInt8) : ∀ (l s : List UInt8) (k : Nat), k < l.length → k < s.length → (putL c l s).getD k 0 = bxor (l.getD k 0) (mul c (s.getD k 0))
  | [], _, k, h, _ => by simp at h
  | x :: l, [], k, _, h => by simp at h
  | x :: l, y :: s, 0, _, _ => rfl
  | x :: l, y :: s, k + 1, h1, h2 => by
    simp only [putL, List.getD_cons_succ]
    exact putL_in c l s k (by simpa using h1) (by simpa using h2)
theorem putL_out (c : UInt8) : ∀ (l s : List UInt8) (k : Nat), s.length ≤ k → (putL c l s).getD k 0 = l.getD k 0
  | [], _, k, _ => by simp [putL]
  | x :: l, [], k, _ => by rw [Caulk.Gf.putL_nil]
  | x :: l, y :: s, 0, h => by simp at h
  | x :: l, y :: s, k + 1, h => by
    simp only [putL, List.getD_cons_succ]
    exact putL_out c l s k (by simpa using h)
theorem scales_big (c : UInt8) (s : ByteArray) (A : Option Addr) (len cap : Nat) (w : World) (h : 16384 < s.size ∨ 16384 < len) (_hm : len ≤ maxLen) :
    Calls Try.prog 3 #[.int .u8 (c.toNat : Int), .string s, .slice A len cap] w fun e w' => e = .returned (.bool true) ∧ Below w.heap.size w w' := by
  by_cases h1 : 16384 < s.size
  · have hd1 : decide ((16384 : Int) < (s.size : Int)) = true := by simp; omega
    go_enter Try.func3, Try.ntmps3
    go_wp2_with (go_at_call 6; refine (lives2_any _).mono ?_; rintro e w1 ⟨rfl, hb1⟩)
    go_ret
    exact ⟨rfl, hb1⟩
  · have hd1 : decide ((16384 : Int) < (s.size : Int)) = false := by simp; omega
    have hd2 : decide ((16384 : Int) < (len : Int)) = true := by simp; omega
    unfold maxLen at _hm
    go_enter Try.func3, Try.ntmps3
    go_wp2_with (go_at_call 6; refine (lives2_any _).mono ?_; rintro e w1 ⟨rfl, hb1⟩)
    go_ret
    exact ⟨rfl, hb1⟩
set_option maxRecDepth 100000 in
set_option maxHeartbeats 2000000 in
theorem scales_small (c : UInt8) (s : ByteArray) (A : Option Addr) (len cap : Nat) (l : List UInt8) (w : World) (hs : s.size ≤ 16384) (hl : len ≤ 16384) (hin : IsBytes w A len cap l) :
    Calls Try.prog 3 #[.int .u8 (c.toNat : Int), .string s, .slice A len cap] w fun e w' => e = .returned (.bool true) ∧ Below w.heap.size w w' := by
  obtain ⟨i0, hi, hz0, hz1, hz2⟩ := info_parts infoU8
  obtain ⟨hlen, _, hA⟩ := hin
  have hd1 : decide ((16384 : Int) < (s.size : Int)) = false := by simp; omega
  have hd2 : decide ((16384 : Int) < (len : Int)) = false := by simp; omega
  have hmade : (w.alloc (.cells #[] 5)).ownsRow w.heap.size 5 1 (.slice (some ⟨w.heap.size, 0, none⟩) 0 0) 0 [] := World.ownsRow_made w #[] 0 (Nat.le_refl _) (by decide) rfl
  have HM := Lib.hid hmade
  have HLEN := Lib.hid hlen
  have HTO : Hid (∀ W, Below w.heap.size w W → ∀ j, j < len → ∃ b off, A = some ⟨b, off, none⟩ ∧ W.cell? ⟨b, off + j, none⟩ = some (.int .u8 ((l.getD j 0).toNat : Int))) := Lib.hid (by
    intro W hb j hj
    rcases hA with ⟨_, h0, _⟩ | ⟨ad, rfl, h0 | ⟨b, off, rfl, hbl, hc⟩⟩
    · omega
    · omega
    · exact ⟨b, off, rfl, (hb.cell (p := ⟨b, off + j, none⟩) hbl).trans (hc j hj)⟩)
  have HN : Hid (∀ ad, A = some ad → ∀ j u, (U8s l)[j]? = some u → (w.alloc (.cells #[] 5)).cell? (ad.add j) = some u) := Lib.hid (by
    intro ad had j u hu
    have hj : j < l.length := by have := (List.getElem?_eq_some_iff.1 hu).1; rw [u8s_len] at this; exact this
    rcases hA with ⟨e, _⟩ | ⟨ad', e, h0 | ⟨b, off, rfl, hbl, hc⟩⟩
    · rw [e] at had; cases had
    · omega
    · rw [e] at had; injection had with had; subst had
      rw [u8s_at l j hj] at hu
      injection hu with hu
      rw [show (⟨b, off, none⟩ : Addr).add j = ⟨b, off + j, none⟩ by unfold Addr.add; split <;> simp_all, World.cell?_alloc_lt _ _ _ hbl, hc j (by omega), hu])
  have HLS : Hid (s.data.toList.length = s.size) := Lib.hid (by simp)
  clear hmade hlen
  cases A with
  | none =>
    have h0 : len = 0 ∧ cap = 0 := by
      rcases hA with ⟨_, h0⟩ | ⟨ad, e, _⟩
      · exact h0
      · cases e
    obtain ⟨rfl, rfl⟩ := h0
    clear hA HN
    go_enter Try.func3, Try.ntmps3
    go_wp2_with (at_builtin; (with_reducible refine wpList_append_own_none ?g0 (.tmp 20) (.tmp 21) 22 ?g1 w.heap.size 5 i0 1 Try.underlying22 hi (.slice (some ⟨w.heap.size, 0, none⟩) 0 0) 0 [] ?g3 HM.out ?g4 ?_)
                 case g0 => rfl
                 case g1 => rfl
                 case g3 => rfl
                 case g4 => rfl)
    have hrow : Row8 (w.alloc (.cells #[] 5)) w.heap.size 0 l := by
      have : l = [] := List.eq_nil_of_length_eq_zero HLEN.out
      subst this
      exact (OwnB.row (l := []) HM.out).1
    have hBW : Below w.heap.size w (w.alloc (.cells #[] 5)) := (Below.refl _ w).alloc (Nat.le_refl _) _
    have hsm : s.size ≤ maxLen := by unfold maxLen; omega
    have hput := put_any w.heap.size 0 0 l c s hsm _ hrow
    rw [HLEN.out] at hput
    refine hput.mono ?_
    rintro e w2 ⟨rfl, hrow2, hg2⟩
    have hB2 : Below w.heap.size w w2 := hBW.grown hg2 hBW.size (fun k hk => by injection hk with hk; omega)
    clear hput
    go_wp2_with fail
    refine (refScale_any c s hs _).mono ?_
    rintro e w3 ⟨rfl, hb3⟩
    have hB3 := hB2.trans (hb3.mono hB2.size)
    clear hB2 hb3 hrow2 hg2 hBW hrow
    have hss : s.size ≤ 140737488351232 := by omega
    go_wp2_with fail
    refine wp_loop_rounds 1 ?_
    rw [rounds_succ]
    go_wp2_with (first
      | (go_at_call 6; refine (lives2_any _).mono ?_; rintro e w4 ⟨rfl, hb4⟩)
      | (go_at_call 9; refine (scale_any c s hss _).mono ?_; rintro e w5 ⟨rfl, hb5⟩))
    go_ret
    exact ⟨rfl, (hB3.trans (hb4.mono hB3.size)).trans (hb5.mono (Nat.le_trans hB3.size hb4.size))⟩
  | some ad =>
    go_enter Try.func3, Try.ntmps3
    go_wp2_with (at_builtin; (with_reducible refine wpList_append_own _ ?g0 (.tmp 20) (.tmp 21) 22 ?g1 w.heap.size 5 i0 (.int .u8 0) 1 1 Try.underlying22 hi hz0 hz1 hz2 ?g2 (by decide) (.slice (some ⟨w.heap.size, 0, none⟩) 0 0) 0 [] ?g3 HM.out ad len cap (U8s l) ?g4 ?g5 ?c1 ?c2 ?c3 ?c4 ?c5 ?_)
                 case g0 => rfl
                 case g1 => rfl
                 case g2 => rfl
                 case g3 => rfl
                 case g4 => rfl
                 case g5 => rw [u8s_len, HLEN.out, Nat.mul_one]
                 case c1 => exact HN.out ad rfl
                 case c2 => exact u8s_one l
                 case c3 => unfold maxLen; omega
                 case c4 => omega
                 case c5 => rw [World.size_alloc]; omega
                 intro v' w1 hown1 hgrow hnn)
    rw [List.nil_append] at hown1
    have hown : OwnB w1 w.heap.size v' l := by unfold OwnB; rw [HLEN.out]; rw [Nat.zero_add] at hown1; exact hown1
    have hBW : Below w.heap.size w w1 := ((Below.refl _ w).alloc (Nat.le_refl _) _).grown hgrow (by rw [World.size_alloc]; omega) (fun k hk => by simp [Value.ownBlock] at hk; omega)
    obtain ⟨g, cap', rfl, hge⟩ : ∃ g cap', v' = .slice (some ⟨g, 0, none⟩) len cap' ∧ w.heap.size ≤ g := by
      rcases hown1.2 with ⟨e, _⟩ | ⟨g, cap', cur, e, hb, _⟩
      · exact absurd e (by simpa using hnn)
      · exact ⟨g, cap', by rw [e, Nat.zero_add], hb⟩
    have hrow := (OwnB.row hown).1
    clear hown hown1 hgrow hnn HM
    have hsm : s.size ≤ maxLen := by unfold maxLen; omega
    have hput := put_any g 0 cap' l c s hsm _ hrow
    rw [HLEN.out] at hput
    refine hput.mono ?_
    rintro e w2 ⟨rfl, hrow2, hg2⟩
    have hB2 : Below w.heap.size w w2 := hBW.grown hg2 hBW.size (fun k hk => by injection hk with hk; omega)
    clear hput
    go_wp2_with fail
    refine (refScale_any c s hs _).mono ?_
    rintro e w3 ⟨rfl, hb3⟩
    have hB3 := hB2.trans (hb3.mono hB2.size)
    have hrow3 := hrow2.below hb3 hrow2.1
    clear hB2 hb3 hrow2 hg2 hBW hrow
    have HR3 := Lib.hid hrow3
    clear hrow3
    have HSL : Hid ((scaleL c s.data.toList).length = s.size) := Lib.hid (by unfold scaleL; rw [List.length_map, HLS.out])
    go_wp2_with fail
    have hsl := HSL.out
    go_loop [32] (fun i => ∃ k : Nat, k ≤ len ∧ i = .int .i64 k) (fun i => len - (intOf i).toNat)
    case atStart => exact ⟨0, by omega, rfl⟩
    case round =>
      obtain ⟨k, hk, rfl⟩ := hrel
      by_cases hlt : k < len
      · obtain ⟨tb, toff, had, hc⟩ := HTO.out w3 hB3 k hlt
        injection had with had
        subst had
        have hx := (HR3.out.2 k (by rw [Caulk.Gf.putL_len, HLEN.out]; exact hlt)).1
        rw [Nat.zero_add] at hx
        by_cases hks : k < s.size
        · rw [putL_in c l _ k (by rw [HLEN.out]; exact hlt) (by rw [HLS.out]; exact hks)] at hx
          generalize l.getD k 0 = x at hx hc
          have hks2 : k < (ByteArray.mk (scaleL c s.data.toList).toArray).size := by
            show k < (scaleL c s.data.toList).toArray.size
            rw [List.size_toArray, HSL.out]; exact hks
          have hy : (ByteArray.mk (scaleL c s.data.toList).toArray)[k]'hks2 = mul c (s.data.toList.getD k 0) := by
            have h1 : k < s.data.toList.length := by rw [HLS.out]; exact hks
            show (scaleL c s.data.toList).toArray[k] = _
            rw [List.getElem_toArray]
            unfold scaleL
            rw [List.getElem_map, List.getD, List.getElem?_eq_getElem h1]; rfl
          generalize s.data.toList.getD k 0 = y at hx hy
          have h4 := u8_bxor x (mul c y)
          go_wp2
          go_round
          case rel => exact ⟨k + 1, by omega, by go_num⟩
          case measure => simp [intOf]; omega
        · rw [putL_out c l _ k (by rw [HLS.out]; omega)] at hx
          generalize l.getD k 0 = x at hx hc
          go_wp2
          go_round
          case rel => exact ⟨k + 1, by omega, by go_num⟩
          case measure => simp [intOf]; omega
      · obtain rfl : k = len := by omega
        have hss : s.size ≤ 140737488351232 := by omega
        go_wp2_with (first
          | (go_at_call 6; refine (lives2_any _).mono ?_; rintro e w4 ⟨rfl, hb4⟩)
          | (go_at_call 9; refine (scale_any c s hss _).mono ?_; rintro e w5 ⟨rfl, hb5⟩))
        go_ret
        exact ⟨rfl, (hB3.trans (hb4.mono hB3.size)).trans (hb5.mono (Nat.le_trans hB3.size hb4.size))⟩
theorem gfScales_walk (x : Int) (hx : (Lit.int .u8 x).wf = true) (s : ByteArray) (_hs : s.size ≤ maxLen) (A : Option Addr) (len cap : Nat) (l : List UInt8) (w : World) (hin : IsBytes w A len cap l) :
    Calls Try.prog 3 #[.int .u8 x, .string s, .slice A len cap] w fun e w' => e = .returned (.bool true) ∧ Below w.heap.size w w' := by
  obtain ⟨c, rfl⟩ := byte_open hx
  by_cases h : 16384 < s.size ∨ 16384 < len
  · exact scales_big c s A len cap w h hin.2.1
  · exact scales_small c s A len cap l w (by omega) (by omega) hin
end Go.Proofs.Ytmjfnnemokmdcab
