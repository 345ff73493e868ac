/- The walk of TopClusters. -/
import Derived.Test.YtmbjcphhfnemgaaDoorTopCM
import Derived.Deep.Cut
namespace Go.Proofs.YtmbjcphhfnemgaaDoor
open Go.RowKit Go.Maps
open Caulk.Crc (W)

set_option maxRecDepth 100000 in
set_option maxHeartbeats 4000000 in
theorem topClusters_walk {w : World} {s k m c a : Int} {x : UInt8} {v : Value} {Q : List Bool} (hk : W64 k) (hm : W64 m) (hc : W64 c) (ha : W64 a) (hQ : BoolsS w v Q) (hQs : Q.length ≤ 140737488351232) (hT : Tab w) :
    Calls Tryd.prog 3 #[.agg #[.int .i64 s, .int .i64 k, .int .i64 m, .int .i64 c], .int .i64 a, .int .u8 (x.toNat : Int), v] w fun e w' => e = .returned (.bool true) ∧ Below w.heap.size w w' := by
  have hBX := box_cells (w := w) s k m c 23
  have HT1 := Lib.hid (hT.alloc (.cells #[.int .i64 s, .int .i64 k, .int .i64 m, .int .i64 c] 23))
  have HB1 : Hid (Below w.heap.size w (w.alloc (.cells #[.int .i64 s, .int .i64 k, .int .i64 m, .int .i64 c] 23))) := Lib.hid ((Below.refl _ _).alloc (Nat.le_refl _) _)
  have HSZ : Hid ((w.alloc (.cells #[.int .i64 s, .int .i64 k, .int .i64 m, .int .i64 c] 23)).heap.size = w.heap.size + 1) := Lib.hid (by simp)
  have HQ := Lib.hid hQ
  obtain ⟨A0, cQ, rfl, hlQ, hmQ, _⟩ := hQ
  clear hT
  have hSec := fun W => geoSectors_any s k m c hk hm hc W
  go_enter Tryd.func3, Tryd.ntmps3
  go_wp2_with fail
  (with_reducible refine (begins_any2 _ HT1.out).mono ?_)
  rintro e w' ⟨rfl, rfl⟩
  clear HT1
  have HBX := Lib.hid hBX
  obtain ⟨b0, b1, b2, b3⟩ := hBX
  generalize w.alloc (.cells #[.int .i64 s, .int .i64 k, .int .i64 m, .int .i64 c] 23) = w1 at b0 b1 b2 b3 HBX HB1 HSZ ⊢
  by_cases ho : GeoOk s k m c
  case neg =>
    have hSec0 : ∀ W, Calls Tryd.prog 5 #[.agg #[.int .i64 s, .int .i64 k, .int .i64 m, .int .i64 c]] W fun e w' => e = .returned (.int .i64 0) ∧ Below W.heap.size W w' := fun W => by
      have := hSec W; rw [show geoSec s k m c = 0 from if_neg ho] at this; exact this
    clear hSec ho hk hm hc HBX
    go_wp2_with (go_at_call 5; refine (hSec0 _).mono ?_; rintro e w2 ⟨rfl, hb2⟩)
    go_ret
    exact ⟨rfl, HB1.out.trans (hb2.mono (by rw [HSZ.out]; omega))⟩
  case pos =>
  obtain ⟨h0, h7, h4, hc2, p1, p2, hM, hM0⟩ := geoOk_b ho
  obtain ⟨C, rfl⟩ : ∃ C : Nat, c = (C : Int) := ⟨c.toNat, by omega⟩
  obtain ⟨T, hTw⟩ : ∃ T : Nat, tw s = (T : Int) := ⟨(tw s).toNat, by omega⟩
  rw [hTw] at p1 p2 hM hM0
  obtain ⟨N, hN⟩ : ∃ N : Nat, N = C * T := ⟨_, rfl⟩
  have hNi : (C : Int) * (T : Int) = (N : Int) := by rw [hN]; exact (Int.natCast_mul C T).symm
  have hSec1 : ∀ W, Calls Tryd.prog 5 #[.agg #[.int .i64 s, .int .i64 k, .int .i64 m, .int .i64 (C : Int)]] W fun e w' => e = .returned (.int .i64 (N : Int)) ∧ Below W.heap.size W w' := fun W => by
    have := hSec W; rw [show geoSec s k m C = (N : Int) by unfold geoSec; rw [if_pos ho, hTw, hNi]] at this; exact this
  have hN4 : 4 ≤ N := by rw [hN]; calc 4 ≤ C := by omega
    _ = C * 1 := by omega
    _ ≤ C * T := Nat.mul_le_mul_left _ (by omega)
  clear hSec
  have g1 : decide ((N : Int) < 1) = false := decide_eq_false (by omega)
  by_cases hbig : 256 < N
  case pos =>
    have g2 : decide ((256 : Int) < (N : Int)) = true := decide_eq_true (by omega)
    clear ho hk hm hc HBX hN hNi hM hM0
    go_wp2_with (go_at_call 5; refine (hSec1 _).mono ?_; rintro e w2 ⟨rfl, hb2⟩)
    go_ret
    exact ⟨rfl, HB1.out.trans (hb2.mono (by rw [HSZ.out]; omega))⟩
  case neg =>
  have g2 : decide ((256 : Int) < (N : Int)) = false := decide_eq_false (by omega)
  have hNw := fun W => devNew_ex N (by omega) (by omega) W
  have hmk : ∀ w : World, (Instr.makeSlice 31 (.int .i64 512) (.int .i64 512)).run Tryd.prog w = .ok (.slice (some ⟨w.heap.size, 0, none⟩) 512 512) (w.alloc (.cells (madeCells #[.int .u8 0] 512) 5)) := run_make_row' (P := Tryd.prog) 31 5 (.int .u8 0) 1 Tryd.underlying31 infoU8 rfl .i64 .i64 512 (by omega) (by omega)
  have HO := Lib.hid ho
  have HNI := Lib.hid hNi
  have HNN := Lib.hid hN
  clear ho hN hNi hM hM0
  go_wp2_with (first
    | (go_at_call 5; refine (hSec1 _).mono ?_; rintro e w2 ⟨rfl, hb2⟩)
    | (go_at_call 6; refine (hNw _).mono ?_; rintro e w3 ⟨h, rfl, hd3, hab3, hb3⟩; have HAB3 := Lib.hid hab3; clear hab3; have HD3 := Lib.hid hd3; have HB3 := Lib.hid hb3; clear hd3 hb3))
  clear hSec1 hNw hmk g1 g2 b0 b1 b2 b3
  have HB4 : Hid (Below w1.heap.size w1 (w3.alloc (.cells (madeCells #[.int .u8 0] 512) 5))) := Lib.hid ((hb2.trans (HB3.out.mono hb2.size)).trans (((Below.refl _ _).alloc (Nat.le_refl _) _).mono (Nat.le_trans hb2.size HB3.out.size)))
  have HR4 := Lib.hid (row_made w3 512 5)
  have HD4 := Lib.hid (HD3.out.alloc (.cells (madeCells #[.int .u8 0] 512) 5))
  have HNE : Hid (∀ k, h.S k → k ≠ w3.heap.size) := Lib.hid (fun k hk => by have := HD3.out.S_lt k hk; omega)
  have HGE : Hid (w1.heap.size ≤ w3.heap.size) := Lib.hid (Nat.le_trans hb2.size HB3.out.size)
  have HAB : Hid (h.above w1.heap.size) := Lib.hid (by have h1 := HAB3.out; have h2 := hb2.size; obtain ⟨q1, q2, q3, q4⟩ := h1; exact ⟨by omega, by omega, by omega, by omega⟩)
  clear HD3 HB3 HAB3 hb2
  generalize w3.alloc (.cells (madeCells #[.int .u8 0] 512) 5) = w4 at HB4 HR4 HD4 ⊢
  generalize w3.heap.size = bb at HR4 HNE HGE ⊢
  clear w3 w2
  go_wp2_with fail
  go_loopw [48] (fun ix wr => ∃ (j : Nat) (l : List UInt8), j ≤ 512 ∧ ix = .int .i64 (j : Int) ∧ l.length = 512 ∧ (∀ q, q < j → l.getD q 0 = x) ∧ Row8 wr bb 0 l ∧ Ap (fun k => k = bb) w4 wr) (fun ix _ => 512 - (intOf ix).toNat)
  case atStart => exact ⟨0, List.replicate 512 0, by omega, rfl, List.length_replicate .., (fun q hq => by omega), HR4.out, Ap.refl _⟩
  case round =>
    obtain ⟨j, l, hj, rfl, hl, hlq, hrow, hap⟩ := hrel
    have HAP := Lib.hid hap
    have HROW := Lib.hid hrow
    have HLQ := Lib.hid hlq
    clear hrow hap hlq HR4
    by_cases hlt : j < 512
    · have hcell := (HROW.out.2 j (by omega)).1
      have hfz := (HROW.out.2 j (by omega)).2
      rw [Nat.zero_add] at hcell hfz
      generalize l.getD j 0 = y at hcell
      go_wp2
      go_roundw
      case rel => exact ⟨j + 1, l.set j x, by omega, by go_num, by rw [List.length_set]; exact hl, (fun q hq => by
          by_cases e : q = j
          · subst e; simp [List.getD, hl, hlt]
          · have := HLQ.out q (by omega)
            simp only [List.getD] at this ⊢
            rw [List.getElem?_set_ne (Ne.symm e)]; exact this), (by have := HROW.out.set j (by omega) x; rw [Nat.zero_add] at this; exact this), HAP.out.setCell (p := ⟨bb, j, none⟩) (.inl rfl) _⟩
      case measure => simp [intOf]; omega
    · obtain rfl : j = 512 := by omega
      obtain rfl : l = List.replicate 512 x := List.ext_getElem (by rw [hl, List.length_replicate]) (fun q hq _ => by
        have := HLQ.out q (by omega)
        rw [List.getD, List.getElem?_eq_getElem hq] at this
        rw [List.getElem_replicate]; exact this)
      have HBW : Hid (Below w1.heap.size w1 wr) := Lib.hid (HB4.out.trans (HAP.out.below HB4.out.size (fun k hk => by rw [hk]; exact HGE.out)))
      have HDW : Hid (DevAt wr h (cM N (fun _ => blankB) (fun _ => none) 0)) := Lib.hid (HD4.out.ap HAP.out (fun k hk e => HNE.out k hk e))
      have HRW := Lib.hid HROW.out
      clear HAP HROW HLQ HD4 HB4 hl hlt hj
      have hlt1 : w.heap.size < wr.heap.size := by have := HBW.out.size; have := HSZ.out; omega
      obtain ⟨b0, b1, b2, b3⟩ := box_below HBX.out HBW.out (by rw [HSZ.out]; omega)
      have HBR : Hid (_ ∧ _ ∧ _ ∧ _) := Lib.hid ⟨b0, b1, b2, b3⟩
      obtain ⟨Z, hZ⟩ : ∃ Z : Nat, Z = 512 * T := ⟨_, rfl⟩
      have hZi : (Z : Int) / 512 = (T : Int) := by omega
      have hSize : ∀ W, Calls Tryd.prog 8 #[.agg #[.int .i64 s, .int .i64 k, .int .i64 m, .int .i64 (C : Int)]] W fun e w' => e = .returned (.int .i64 (Z : Int)) ∧ Below W.heap.size W w' := fun W => by
        have := geoSize_any s k m C hk hm hc W; rw [show geoSz s k m C = (Z : Int) by unfold geoSz; rw [if_pos HO.out, hTw, hZ]; omega] at this; exact this
      clear hZ
      by_cases hin : 0 ≤ a ∧ a < (C : Int)
      case neg =>
        have hF : ∀ W, Calls Tryd.prog 7 #[.agg #[.int .i64 s, .int .i64 k, .int .i64 m, .int .i64 (C : Int)], .int .i64 a] W fun e w' => e = .returned (.tuple #[.int .i64 0, .int .i64 1]) ∧ Below W.heap.size W w' := fun W => by
          have := geoFirst_any s k m C a hk hm hc W
          rw [show geoFv s k m C a = 0 from if_neg (fun h => hin h.2), show geoFe s k m C a = 1 by unfold geoFe; rw [if_pos HO.out, if_neg hin]] at this; exact this
        clear hk hm hc ha
        by_cases hneg : a < 0
        case pos =>
          have e1 : decide (a < 0) = true := decide_eq_true hneg
          clear hin hneg
          go_wp2_with (first
            | (go_at_call 7; refine (hF _).mono ?_; rintro e w5 ⟨rfl, hb5⟩; obtain ⟨c0, c1, c2, c3⟩ := box_below HBR.out hb5 hlt1; have hlt5 := Nat.lt_of_lt_of_le hlt1 hb5.size; have HB5 := Lib.hid hb5; clear hb5 b0 b1 b2 b3)
            | (go_at_call 8; refine (hSize _).mono ?_; rintro e w6 ⟨rfl, hb6⟩; have HB6 := Lib.hid hb6; clear hb6))
          go_ret
          exact ⟨rfl, HB1.out.trans ((HBW.out.trans ((HB5.out.trans (HB6.out.mono HB5.out.size)).mono HBW.out.size)).mono HB1.out.size)⟩
        case neg =>
          have e1 : decide (a < 0) = false := decide_eq_false hneg
          have e2 : decide ((C : Int) ≤ a) = true := decide_eq_true (by omega)
          clear hin hneg
          go_wp2_with (first
            | (go_at_call 7; refine (hF _).mono ?_; rintro e w5 ⟨rfl, hb5⟩; obtain ⟨c0, c1, c2, c3⟩ := box_below HBR.out hb5 hlt1; have HC5 : Hid (_ ∧ _ ∧ _ ∧ _) := Lib.hid ⟨c0, c1, c2, c3⟩; have hlt5 := Nat.lt_of_lt_of_le hlt1 hb5.size; have HB5 := Lib.hid hb5; clear hb5 b0 b1 b2 b3)
            | (go_at_call 8; refine (hSize _).mono ?_; rintro e w6 ⟨rfl, hb6⟩; obtain ⟨d0, d1, d2, d3⟩ := box_below HC5.out hb6 hlt5; have HB6 := Lib.hid hb6; clear hb6 c0 c1 c2 c3))
          go_ret
          exact ⟨rfl, HB1.out.trans ((HBW.out.trans ((HB5.out.trans (HB6.out.mono HB5.out.size)).mono HBW.out.size)).mono HB1.out.size)⟩
      case pos =>
      obtain ⟨A, rfl⟩ : ∃ A : Nat, a = (A : Int) := ⟨a.toNat, by omega⟩
      obtain ⟨F, hF0⟩ : ∃ F : Nat, F = A * T := ⟨_, rfl⟩
      have hAC : A < C := by omega
      have hFT : F + T ≤ N := by
        have h := Nat.mul_le_mul_right T (show A + 1 ≤ C by omega)
        rw [Nat.succ_mul, ← hF0, ← HNN.out] at h; exact h
      have hF : ∀ W, Calls Tryd.prog 7 #[.agg #[.int .i64 s, .int .i64 k, .int .i64 m, .int .i64 (C : Int)], .int .i64 (A : Int)] W fun e w' => e = .returned (.tuple #[.int .i64 (F : Int), .int .i64 0]) ∧ Below W.heap.size W w' := fun W => by
        have := geoFirst_any s k m C A hk hm hc W
        rw [show geoFv s k m C A = (F : Int) by unfold geoFv; rw [if_pos ⟨HO.out, hin⟩, hTw, hF0]; exact (Int.natCast_mul A T).symm, show geoFe s k m C A = 0 by unfold geoFe; rw [if_pos HO.out, if_pos hin]] at this; exact this
      have hCl : ∀ (q : Nat), q < N → ∀ W, Calls Tryd.prog 12 #[.agg #[.int .i64 s, .int .i64 k, .int .i64 m, .int .i64 (C : Int)], .int .i64 (q : Int)] W fun e w' => e = .returned (.tuple #[.int .i64 ((q / T : Nat) : Int), .int .i64 0]) ∧ Below W.heap.size W w' := fun q hq W => by
        have := geoCluster_any s k m C q hk hm hc W
        have h1 : (0 : Int) ≤ (q : Int) ∧ (q : Int) < (C : Int) * tw s := by rw [hTw, HNI.out]; omega
        rw [show geoCv s k m C q = ((q / T : Nat) : Int) by unfold geoCv; rw [if_pos ⟨HO.out, h1⟩, hTw]; exact (Int.natCast_ediv q T).symm, show geoCe s k m C q = 0 by unfold geoCe; rw [if_pos HO.out, if_pos h1]] at this; exact this
      have HCL := Lib.hid hCl
      have HF0 := Lib.hid hF0
      clear hCl hk hm hc ha hin hF0
      go_wp2_with (first
        | (go_at_call 7; refine (hF _).mono ?_; rintro e w5 ⟨rfl, hb5⟩; obtain ⟨c0, c1, c2, c3⟩ := box_below HBR.out hb5 hlt1; have hlt5 := Nat.lt_of_lt_of_le hlt1 hb5.size; have HB5 := Lib.hid hb5; clear hb5 b0 b1 b2 b3)
        | (go_at_call 8; refine (hSize _).mono ?_; rintro e w6 ⟨rfl, hb6⟩; have HB6 := Lib.hid hb6; clear hb6))
      have HB7 : Hid (Below wr.heap.size wr w6) := Lib.hid (HB5.out.trans (HB6.out.mono HB5.out.size))
      clear HB5 HB6 c0 c1 c2 c3 hlt5 hF hSize HBR
      have HSL : Hid (∀ k, h.S k → k < wr.heap.size) := Lib.hid HDW.out.S_lt
      have HD6 := Lib.hid (HDW.out.below HB7.out)
      have HR6 := Lib.hid (HRW.out.below HB7.out HRW.out.1)
      have hbw6 : Below w1.heap.size w1 w6 := HBW.out.trans (HB7.out.mono HBW.out.size)
      have HB6 := Lib.hid hbw6
      clear hbw6 HB7 HDW HRW HBW
      obtain ⟨L, hL⟩ : ∃ L : List UInt8, L = List.replicate 512 x := ⟨_, rfl⟩
      have hLl : L.length = 512 := by rw [hL]; exact List.length_replicate ..
      rw [← hL] at HR6
      clear hL
      obtain ⟨S, hS⟩ : ∃ S : ByteArray, S = ⟨L.toArray⟩ := ⟨_, rfl⟩
      have HSL2 : Hid (S.data.toList = L) := Lib.hid (by rw [hS])
      have HSS : Hid (S.size = 512) := Lib.hid (by rw [hS]; show L.toArray.size = 512; rw [List.size_toArray, hLl])
      have HCV : Hid (∀ W, Row8 W bb 0 L → (convert 31 9 (.slice (some ⟨bb, 0, none⟩) 512 512)).run Tryd.prog W = .ok (.string S) W) := Lib.hid (fun W hW => by
        rw [hS]; exact string_of_row 512 hLl.symm hW 31 9 5 Tryd.underlying31 Tryd.underlying5 Tryd.underlying9)
      have HS := Lib.hid hS
      clear hS
      have hNEb : ¬ h.S bb := fun e => HNE.out bb e rfl
      have HNB := Lib.hid hNEb
      clear hNEb
      go_loopw [80] (fun ix wa => ∃ j : Nat, j ≤ T ∧ ix = .int .i64 (j : Int) ∧ DevAt wa h (cM N (fun _ => blankB) (frM F L j) j) ∧ Ap h.S w6 wa) (fun ix _ => T - (intOf ix).toNat)
      case atStart => exact ⟨0, by omega, rfl, by rw [fr_zero]; exact HD6.out, Ap.refl _⟩
      case round =>
        obtain ⟨j, hj, rfl, hd, hap⟩ := hrel
        have HAP := Lib.hid hap
        have HD := Lib.hid hd
        clear hd hap
        by_cases hlt : j < T
        · obtain ⟨g, hg⟩ : ∃ g : Nat, g = F + j := ⟨_, rfl⟩
          have hgi : (F : Int) + (j : Int) = (g : Int) := by omega
          have hgN : g < N := by omega
          have hcv := HCV.out wr (HR6.out.ap HAP.out HNB.out)
          have hW : Calls Tryd.prog 9 #[.pointer (some ⟨h.b, 0, none⟩), .int .i64 (g : Int), .string S] wr fun e w' => e = .returned (.int .i64 0) ∧ DevAt w' h (cM N (fun _ => blankB) (frM F L (j + 1)) (j + 1)) ∧ Ap h.S wr w' := by
            have h := devWrite_any HD.out (g : Int) S (by show j < _; omega)
            obtain ⟨q1, q2⟩ := cM_write (n := N) (su := fun _ => blankB) (fr := frM F L j) (wr := j) (a := g) (s := S) hgN HSS.out
            rw [q1, q2, HSL2.out, hg, fr_step] at h
            rw [hg]
            exact h
          clear hg
          go_wp2_with (go_at_call 9; refine hW.mono ?_; rintro e wb ⟨rfl, hd2, ha2⟩)
          go_roundw
          case rel => exact ⟨j + 1, by omega, by go_num, hd2, HAP.out.trans ha2⟩
          case measure => simp [intOf]; omega
        · obtain rfl : j = T := by omega
          have hFl : Calls Tryd.prog 10 #[.pointer (some ⟨h.b, 0, none⟩)] wr fun e w' => e = .returned (.int .i64 0) ∧ DevAt w' h (cM N (suM F j L) (fun _ => none) j) ∧ Ap h.S wr w' := by
            have h := devFlush_any HD.out
            rw [cM_flush.1, cM_flush.2] at h
            exact h
          have hmk : ∀ w : World, (Instr.makeSlice 31 (.int .i64 512) (.int .i64 512)).run Tryd.prog w = .ok (.slice (some ⟨w.heap.size, 0, none⟩) 512 512) (w.alloc (.cells (madeCells #[.int .u8 0] 512) 5)) := run_make_row' (P := Tryd.prog) 31 5 (.int .u8 0) 1 Tryd.underlying31 infoU8 rfl .i64 .i64 512 (by omega) (by omega)
          obtain ⟨Z0, hZ0⟩ : ∃ Z0 : ByteArray, Z0 = ⟨blankB.toArray⟩ := ⟨_, rfl⟩
          have HZ1 : Hid (Z0.data.toList = blankB) := Lib.hid (by rw [hZ0])
          have HZ2 : Hid (Z0.size = 512) := Lib.hid (by rw [hZ0]; show blankB.toArray.size = 512; rw [List.size_toArray, blankB_len])
          have hcz : ∀ W : World, (convert 31 9 (.slice (some ⟨W.heap.size, 0, none⟩) 512 512)).run Tryd.prog (W.alloc (.cells (madeCells #[.int .u8 0] 512) 5)) = .ok (.string Z0) (W.alloc (.cells (madeCells #[.int .u8 0] 512) 5)) := fun W => by
            rw [hZ0]; exact string_of_row 512 blankB_len.symm (row_made W 512 5) 31 9 5 Tryd.underlying31 Tryd.underlying5 Tryd.underlying9
          have HZ0 := Lib.hid hZ0
          clear hZ0
          have hWz : ∀ W, DevAt W h (cM N (suM F j L) (fun _ => none) j) → Calls Tryd.prog 9 #[.pointer (some ⟨h.b, 0, none⟩), .int .i64 (F : Int), .string Z0] W fun e w' => e = .returned (.int .i64 0) ∧ DevAt w' h (cM N (suM F j L) (upd (fun _ => none) F (some blankB)) (j + 1)) ∧ Ap h.S W w' := fun W hd => by
            have h := devWrite_any hd (F : Int) Z0 (by show j < _; omega)
            obtain ⟨q1, q2⟩ := cM_write (n := N) (su := suM F j L) (fr := fun _ => none) (wr := j) (a := F) (s := Z0) (by omega) HZ2.out
            rw [q1, q2, HZ1.out] at h
            exact h
          have hCr : ∀ W v', DevAt W h (cM N (suM F j L) (upd (fun _ => none) F (some blankB)) (j + 1)) → BoolsAt W h v' (false :: Q) → Calls Tryd.prog 11 #[.pointer (some ⟨h.b, 0, none⟩), v'] W fun e w' => e = .returned (.tuple #[]) ∧ DevAt w' h (cM N (suM F j L) (fun _ => none) (j + 1)) ∧ Ap h.S W w' := fun W v' hd hb => by
            have h := devCrash_any hd hb
            rw [cM_crash (by omega)] at h
            exact h
          have HFIN : Hid (∀ W, Below w1.heap.size w1 W → ∀ W', Ap h.S W W' → Below w1.heap.size w1 W') := Lib.hid (fun W hW W' hA => hW.trans (hA.below hW.size (DH.above_S HAB.out)))
          have HBR : Hid (Below w1.heap.size w1 wr) := Lib.hid (HFIN.out _ HB6.out _ HAP.out)
          have HRR := Lib.hid (HR6.out.ap HAP.out HNB.out)
          clear hj hlt HAP
          go_wp2_with (first
            | (go_at_call 10; refine hFl.mono ?_; rintro e w7 ⟨rfl, hd7, ha7⟩; have HD7 := Lib.hid (hd7.alloc (.cells (madeCells #[.int .u8 0] 512) 5)); have HB7 := Lib.hid ((HFIN.out _ HBR.out _ ha7).trans (((Below.refl w7.heap.size w7).alloc (Nat.le_refl _) (.cells (madeCells #[.int .u8 0] 512) 5)).mono (HFIN.out _ HBR.out _ ha7).size)); have HR7 := Lib.hid ((HRR.out.ap ha7 HNB.out).alloc (.cells (madeCells #[.int .u8 0] 512) 5)); clear hd7 ha7)
            | (go_at_call 9; refine (hWz _ HD7.out).mono ?_; rintro e w8 ⟨rfl, hd8, ha8⟩; have HD8 := Lib.hid hd8; have HB8 := Lib.hid (HFIN.out _ HB7.out _ ha8); have HR8 := Lib.hid (HR7.out.ap ha8 HNB.out); clear hd8 ha8; have hq8 := HQ.out.below (HB1.out.trans (HB8.out.mono HB1.out.size)) (Nat.le_refl _))
            | (at_builtin; refine wpList_app_bools rfl (.tmp 101) (.tmp 102) rfl rfl _ rfl hq8 hQs ?_; intro vb wb hnb hbb; have HNW := Lib.hid hnb; have HDB := Lib.hid (HD8.out.below hbb); have HBB := Lib.hid (HB8.out.trans (hbb.mono HB8.out.size)); have HRB := Lib.hid (HR8.out.below hbb HR8.out.1); have HSB : Hid (∀ k, h.S k → k < w8.heap.size) := Lib.hid HD8.out.S_lt; clear hnb hbb hq8)
            | (go_at_call 11; refine (hCr _ _ HDB.out (HNW.out.at HSB.out)).mono ?_; rintro e w9 ⟨rfl, hd9, ha9⟩; have HD9 := Lib.hid hd9; have HB9 := Lib.hid (HFIN.out _ HBB.out _ ha9); have HR9 := Lib.hid (HRB.out.ap ha9 HNB.out); clear hd9 ha9))
          have hlt0 : w.heap.size < w1.heap.size := by have := HSZ.out; omega
          have hNI := HNI.out
          have HR9' := HR9.out
          have HRL := Lib.hid HR9'
          clear HR9' hWz hFl hCr HFIN HBR HRR HD7 HB7 HR7 HD8 HB8 HR8 HNW HDB HBB HRB HSB HR9 HD6 HR6
          go_loopw [106] (fun ix wc => ∃ q : Nat, q ≤ N ∧ ix = .int .i64 (q : Int) ∧ Below w9.heap.size w9 wc) (fun ix _ => N - (intOf ix).toNat)
          case atStart => exact ⟨0, by omega, rfl, Below.refl _ _⟩
          case round =>
            obtain ⟨q, hq, rfl, hbq⟩ := hrel
            have hlt9 : w.heap.size < wr.heap.size := by have h1 := hbq.size; have h2 := HB9.out.size; omega
            obtain ⟨b0, b1, b2, b3⟩ := box_below HBX.out (HB9.out.trans (hbq.mono HB9.out.size)) hlt0
            have HBQ := Lib.hid hbq
            clear hbq
            by_cases hqN : q < N
            · obtain ⟨y, hy⟩ : ∃ y : Nat, y = q / j := ⟨_, rfl⟩
              have hCl := HCL.out q hqN
              rw [← hy] at hCl
              have hin := clu_in (A := A) (T := j) (q := q) (by omega)
              rw [← hy, ← HF0.out] at hin
              have hRd : ∀ W, Below w9.heap.size w9 W → Calls Tryd.prog 13 #[.pointer (some ⟨h.b, 0, none⟩), .int .i64 (q : Int)] W fun e w' => e = .returned (.tuple #[.string ⟨(suM F j L q).toArray⟩, .int .i64 0]) ∧ Below W.heap.size W w' := fun W hW => by
                have h := devRead_any (HD9.out.below hW) (q : Int)
                rw [(cM_read hqN).1, (cM_read hqN).2] at h
                exact h
              clear hNI hy
              by_cases e : y = A
              · subst e
                have hsu : (⟨(suM F j L q).toArray⟩ : ByteArray) = S := by
                  have hi := hin.1 rfl
                  rw [HS.out]; unfold suM inC; rw [if_pos (by simpa using hi)]
                rw [hsu] at hRd
                clear hsu hin
                go_wp2_with (first
                  | (go_at_call 12; refine (hCl _).mono ?_; rintro e w10 ⟨rfl, hb10⟩; have HB10 := Lib.hid (HBQ.out.trans (hb10.mono HBQ.out.size)); clear hb10)
                  | (go_at_call 13; refine (hRd _ HB10.out).mono ?_; rintro e w11 ⟨rfl, hb11⟩; have HB11 := Lib.hid (HB10.out.trans (hb11.mono HB10.out.size)); clear hb11; have hcb : ∀ o : Obj, (convert 31 9 (.slice (some ⟨bb, 0, none⟩) 512 512)).run Tryd.prog (w11.alloc o) = .ok (.string S) (w11.alloc o) := fun o => HCV.out _ ((HRL.out.below HB11.out HRL.out.1).alloc o)))
                go_roundw
                case rel => exact ⟨q + 1, by omega, by go_num, HB11.out.trans (((Below.refl _ _).alloc (Nat.le_refl _) _).mono HB11.out.size)⟩
                case measure => simp [intOf]; omega
              · have he : ((y : Int) == (A : Int)) = false := by rw [beq_eq_false_iff_ne]; omega
                have hsu : (⟨(suM F j L q).toArray⟩ : ByteArray) = Z0 := by
                  have hi := fun g => e (hin.2 g)
                  rw [HZ0.out]; unfold suM inC; rw [if_neg (by simpa using hi)]
                rw [hsu] at hRd
                clear hsu hin e
                go_wp2_with (first
                  | (go_at_call 12; refine (hCl _).mono ?_; rintro e w10 ⟨rfl, hb10⟩; have HB10 := Lib.hid (HBQ.out.trans (hb10.mono HBQ.out.size)); clear hb10)
                  | (go_at_call 13; refine (hRd _ HB10.out).mono ?_; rintro e w11 ⟨rfl, hb11⟩; have HB11 := Lib.hid (HB10.out.trans (hb11.mono HB10.out.size)); clear hb11))
                go_roundw
                case rel => exact ⟨q + 1, by omega, by go_num, HB11.out.trans (((Below.refl _ _).alloc (Nat.le_refl _) _).mono HB11.out.size)⟩
                case measure => simp [intOf]; omega
            · obtain rfl : q = N := by omega
              have HFB := Lib.hid (HB1.out.trans ((HB9.out.trans (HBQ.out.mono HB9.out.size)).mono HB1.out.size))
              clear HCL HF0 HNN hq hqN
              go_wp2
              go_ret
              exact ⟨rfl, HFB.out⟩
end Go.Proofs.YtmbjcphhfnemgaaDoor
