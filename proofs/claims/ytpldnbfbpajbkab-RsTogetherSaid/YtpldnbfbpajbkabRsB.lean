/- The contract of rs.weave. -/
import Derived.Test.YtpldnbfbpajbkabRsA
import Derived.Test.YtpldnbfbpajbkabInvD
namespace Go.Proofs.Ytpldnbfbpajbkab
open Go.RowKit
open Caulk.Lin (Fn2 sx stack)
open Caulk.Gf (mul putL)

theorem infoStr : (Try.prog.info? 9).map (fun i => (i.zero, i.size, i.bytes)) = some (some (.string ByteArray.empty), 1, 16) := by kernel_rfl
def byteAt (s : ByteArray) (b : Nat) : UInt8 := s.data.toList.getD b 0
/-- A row's sum of its elements times the bytes. -/
def weaveF (k : Nat) (f : Fn2) (D : List ByteArray) (i : Nat) : Nat → UInt8 := fun b => sx k (fun j => mul (f i j) (byteAt (D.getD j ByteArray.empty) b))
def weaveS (k n : Nat) (f : Fn2) (D : List ByteArray) (i : Nat) : ByteArray := ⟨(rowL n (weaveF k f D i)).toArray⟩
def weaveL (r k n : Nat) (f : Fn2) (D : List ByteArray) : List ByteArray := (List.range r).map (weaveS k n f D)
/-- Strings in new memory are answered. -/
def NewStrs (w' : World) (B : Nat) (v : Value) (L : List ByteArray) : Prop :=
  ∃ b c hf, v = .slice (some ⟨b, 0, none⟩) L.length c ∧ B ≤ b ∧ w'.rowIs b 9 c hf ∧ L.length ≤ c ∧ c ≤ maxLen ∧ (∀ s, s ∈ L → s.size ≤ maxLen) ∧ ∀ i, i < L.length → hf i = .string (L.getD i ByteArray.empty)
theorem NewStrs.strs {w : World} {B : Nat} {v : Value} {L : List ByteArray} (h : NewStrs w B v L) : StrsS w v L := by
  obtain ⟨b, c, hf, rfl, h1, h2, h3, h4, h5, h6⟩ := h
  exact ⟨_, c, rfl, by simp, h3, h4, h5, .inr ⟨b, 0, rfl, h2.lt, fun j hj => by rw [Nat.zero_add, h2.cell (by omega), h6 j hj]⟩⟩
theorem NewStrs.below {w w' : World} {B : Nat} {v : Value} {L : List ByteArray} (h : NewStrs w B v L) (hb : Below w.heap.size w w') : NewStrs w' B v L := by
  obtain ⟨b, c, hf, rfl, h1, h2, h3, h4, h5, h6⟩ := h
  exact ⟨b, c, hf, rfl, h1, h2.of_block (hb.block b h2.lt), h3, h4, h5, h6⟩
def GotStrs (w : World) (L : List ByteArray) (e : Ending) (w' : World) : Prop := ∃ v, e = .returned v ∧ NewStrs w' w.heap.size v L ∧ Below w.heap.size w w'
theorem putL_str (c : UInt8) (n : Nat) (g : Nat → UInt8) (s : ByteArray) (h : s.size = n) : putL c (rowL n g) s.data.toList = rowL n (fun b => g b ^^^ mul c (byteAt s b)) := by
  have hl : s.data.toList.length = n := by simpa using h
  have e : s.data.toList = rowL n (byteAt s) := by
    have := list_rowL s.data.toList
    rw [hl] at this
    exact this.symm
  conv => lhs; rw [e]
  exact putL_rowL c n n g (byteAt s) (Nat.le_refl _)
theorem weaveL_len (r k n : Nat) (f : Fn2) (D : List ByteArray) : (weaveL r k n f D).length = r := by simp [weaveL]
theorem weaveL_getD {r k n i : Nat} (f : Fn2) (D : List ByteArray) (h : i < r) : (weaveL r k n f D).getD i ByteArray.empty = weaveS k n f D i := by simp [weaveL, List.getD, h]
theorem weaveS_size (k n : Nat) (f : Fn2) (D : List ByteArray) (i : Nat) : (weaveS k n f D i).size = n := by
  show (rowL n (weaveF k f D i)).toArray.size = n
  rw [List.size_toArray, rowL_len]
set_option maxHeartbeats 2000000 in
theorem weave_any {w : World} {vr vd : Value} {r k n : Nat} {f : Fn2} {D : List ByteArray} (hR : MatS w vr (rowsL r k f)) (hr : r ≤ 255) (hk1 : 1 ≤ k) (hk2 : k ≤ 255) (hD : StrsS w vd D) (hl : D.length = k) (hn : ∀ j, j < k → (D.getD j ByteArray.empty).size = n) (hn2 : n ≤ 65536) :
    Calls Try.prog 16 #[vr, vd] w (GotStrs w (weaveL r k n f D)) := by
  have hmk := run_make_row' (P := Try.prog) 22 9 (.string ByteArray.empty) 16 Try.underlying22 infoStr rfl .i64 .i64 r (by omega) (by omega)
  have hB0 := below_alloc w (.cells (madeCells #[.string ByteArray.empty] r) 9)
  have hL0 := World.rowIs_made w (.string ByteArray.empty) r 9
  have HSZ : Hid (∀ s, s ∈ weaveL r k n f D → s.size ≤ maxLen) := Lib.hid (fun s hs => by
    obtain ⟨i, _, rfl⟩ := List.mem_map.1 hs
    rw [weaveS_size]; unfold maxLen; omega)
  by_cases h0 : r = 0
  · subst h0
    obtain ⟨A, cap, rfl, _, hlc, hcm, _⟩ := hR
    rw [rowsL_len] at *
    unfold maxLen at hcm
    have HB := Lib.hid hB0
    have HL := Lib.hid hL0
    have hmk0 : ∀ w : World, (Instr.makeSlice 22 (.int .i64 0) (.int .i64 0)).run Try.prog w = .ok (.slice (some ⟨w.heap.size, 0, none⟩) 0 0) (w.alloc (.cells (madeCells #[.string ByteArray.empty] 0) 9)) := hmk
    clear hB0 hL0 hD hn hmk
    go_enter Try.func16, Try.ntmps16
    go_wp2
    refine wp_loop_rounds 1 ?_
    rw [rounds_succ]
    go_wp2
    go_ret
    exact ⟨_, rfl, ⟨w.heap.size, 0, _, rfl, Nat.le_refl _, HL.out, Nat.le_refl _, Nat.zero_le _, HSZ.out, fun i hi => by rw [weaveL_len] at hi; omega⟩, HB.out⟩
  · obtain ⟨b1, off1, cap1, rfl, hrc1, hcm1, hread1⟩ := MatV.reads hR (Nat.le_refl _) (by omega) hk1
    obtain ⟨b2, off2, cap2, rfl, hrc2, hcm2, hread2⟩ := hD.reads (by omega)
    rw [hl] at *
    unfold maxLen at hcm1
    obtain ⟨dd, hdd⟩ : ∃ dd : Nat → ByteArray, dd = fun j => D.getD j ByteArray.empty := ⟨_, rfl⟩
    have e1 : ∀ j, D.getD j ByteArray.empty = dd j := fun j => by rw [hdd]
    have HDD := Lib.hid e1
    simp only [e1] at hread2 hn
    have HA := Lib.hid hread1
    have HD := Lib.hid hread2
    have HN := Lib.hid hn
    clear hdd e1
    have HB0 := Lib.hid hB0
    have HL0 := Lib.hid hL0
    have hmk2 := run_make_row' (P := Try.prog) 38 5 (.int .u8 0) 1 Try.underlying38 infoU8 rfl .i64 .i64 n (by omega) (by omega)
    clear hread1 hread2 hn hR hD hB0 hL0 hl
    go_enter Try.func16, Try.ntmps16
    go_wp2
    go_loopw [16] (fun i wr => ∃ p : Nat, p ≤ r ∧ i = .int .i64 p ∧ wr.rowIs w.heap.size 9 r (fun i => if i < p then .string (weaveS k n f D i) else .string ByteArray.empty) ∧ Below w.heap.size w wr) (fun i _ => r - (intOf i).toNat)
    case atStart => exact ⟨0, by omega, rfl, HL0.out.congr (fun i _ => by rw [if_neg (by omega)]), HB0.out⟩
    case round =>
      clear HB0 HL0 hmk
      obtain ⟨p, hp, rfl, hrow, hbe⟩ := hrel
      have HROW := Lib.hid hrow
      have HBE := Lib.hid hbe
      clear hrow hbe
      by_cases hlt : p < r
      · obtain ⟨wo, rfl⟩ : ∃ wo : World, wo = wr := ⟨_, rfl⟩
        obtain ⟨b3, off3, cap3, h3, hb3B, hc3, hcm3, hby⟩ := HA.out wo HBE.out p hlt
        obtain ⟨hd0, hs0⟩ := HD.out wo HBE.out 0 hk1
        rw [Nat.add_zero] at hd0
        have hn0 := HN.out 0 hk1
        unfold maxLen at hcm3
        have hB1 := below_alloc wo (.cells (madeCells #[.int .u8 0] n) 5)
        have hR1 : Row8 (wo.alloc (.cells (madeCells #[.int .u8 0] n) 5)) wo.heap.size 0 (rowL n (fun _ => 0)) := by rw [rowL_zero]; exact row_made wo n 5
        have HB1 := Lib.hid hB1
        have HR1 := Lib.hid hR1
        have hwlt := World.block_lt_of_cell? wo _ h3
        have HBY : Hid (∀ W, Below wo.heap.size wo W → ∀ j, j < k → W.cell? ⟨b3, off3 + j, none⟩ = some (.int .u8 ((f p j).toNat : Int))) := Lib.hid (fun W hW j hj => by
          have hlt3 := World.block_lt_of_cell? wo _ (hby j hj)
          exact (hW.cell (p := ⟨b3, off3 + j, none⟩) hlt3).trans (hby j hj))
        clear hB1 hR1 hby hwlt
        go_wp2
        clear hd0 hs0 hn0 h3
        go_loopw [28] (fun i wr => ∃ q : Nat, q ≤ k ∧ i = .int .i64 q ∧ Row8 wr wo.heap.size 0 (rowL n (fun b => sx q (fun j => mul (f p j) (byteAt (D.getD j ByteArray.empty) b)))) ∧ Below wo.heap.size wo wr) (fun i _ => k - (intOf i).toNat)
        case atStart => exact ⟨0, by omega, rfl, HR1.out, HB1.out⟩
        case round =>
          clear HR1 HB1
          obtain ⟨q, hq, rfl, hrow8, hbe2⟩ := hrel
          have HR8 := Lib.hid hrow8
          have HBE2 := Lib.hid hbe2
          have HBW : Hid (Below w.heap.size w wr) := Lib.hid (HBE.out.trans (hbe2.mono HBE.out.size))
          clear hrow8 hbe2
          by_cases hlt2 : q < k
          · have hx := HBY.out wr HBE2.out q hlt2
            obtain ⟨x, hxe⟩ : ∃ x, x = f p q := ⟨_, rfl⟩
            rw [← hxe] at hx
            obtain ⟨e1, e2⟩ := byte_zero x
            by_cases hx0 : x = 0
            · rw [decide_eq_true hx0] at e1 e2
              have HRN : Hid (Row8 wr wo.heap.size 0 (rowL n (fun b => sx (q + 1) (fun j => mul (f p j) (byteAt (D.getD j ByteArray.empty) b))))) := Lib.hid (by
                rw [rowL_congr (g := fun b => sx q (fun j => mul (f p j) (byteAt (D.getD j ByteArray.empty) b))) (fun b _ => by
                  show sx q (fun j => mul (f p j) (byteAt (D.getD j ByteArray.empty) b)) ^^^ mul (f p q) (byteAt (D.getD q ByteArray.empty) b) = _
                  rw [← hxe, hx0, Caulk.Gf.mul_zeroL, UInt8.xor_zero])]
                exact HR8.out)
              clear hx0 hxe
              go_wp2
              go_roundw
              case rel => exact ⟨q + 1, by omega, by go_num, HRN.out, HBE2.out⟩
              case measure => simp [intOf]; omega
            · rw [decide_eq_false hx0] at e1 e2
              obtain ⟨hd, hsz⟩ := HD.out wr HBW.out q hlt2
              have hnq := HN.out q hlt2
              obtain ⟨s, hs⟩ : ∃ s, s = dd q := ⟨_, rfl⟩
              rw [← hs] at hd hsz hnq
              have hput := put_only wo.heap.size 0 n _ x s (by unfold maxLen; omega) wr HR8.out
              rw [rowL_len, putL_str _ _ _ _ hnq] at hput
              have HP := Lib.hid hput
              have HXE := Lib.hid hxe
              have HSE := Lib.hid hs
              clear hput hx0 hxe hs hnq
              go_wp2_with fail
              refine HP.out.mono ?_
              rintro e w2 ⟨rfl, hrow2, hon⟩
              have HRN : Hid (Row8 w2 wo.heap.size 0 (rowL n (fun b => sx (q + 1) (fun j => mul (f p j) (byteAt (D.getD j ByteArray.empty) b))))) := Lib.hid (by
                rw [rowL_congr (g := fun b => sx q (fun j => mul (f p j) (byteAt (D.getD j ByteArray.empty) b)) ^^^ mul x (byteAt s b)) (fun b _ => by
                  show sx q (fun j => mul (f p j) (byteAt (D.getD j ByteArray.empty) b)) ^^^ mul (f p q) (byteAt (D.getD q ByteArray.empty) b) = _
                  rw [HXE.out, HSE.out, ← HDD.out q])]
                exact hrow2)
              have HBN : Hid (Below wo.heap.size wo w2) := Lib.hid (HBE2.out.trans (hon.below (Nat.le_refl _) HBE2.out.size))
              clear hrow2 hon
              go_wp2
              go_roundw
              case rel => exact ⟨q + 1, by omega, by go_num, HRN.out, HBN.out⟩
              case measure => simp [intOf]; omega
          · obtain rfl : q = k := by omega
            have hcv := string_of_row (P := Try.prog) (cap := n) n (by rw [rowL_len]) HR8.out 38 9 5 Try.underlying38 Try.underlying5 Try.underlying9
            have hrw := HROW.out.of_block (HBE2.out.block w.heap.size HROW.out.lt)
            have hcell := hrw.cell (i := p) hlt
            have hfro := hrw.frozen p
            have HNEW : Hid ((wr.setCell ⟨w.heap.size, p, none⟩ (.string (weaveS q n f D p))).rowIs w.heap.size 9 r (fun i => if i < p + 1 then .string (weaveS q n f D i) else .string ByteArray.empty)) := Lib.hid ((hrw.set p _).congr (fun i _ => by
              by_cases e : i = p
              · subst e; rw [if_pos rfl, if_pos (by omega)]
              · rw [if_neg e]
                by_cases e2 : i < p
                · rw [if_pos e2, if_pos (by omega)]
                · rw [if_neg e2, if_neg (by omega)]))
            have HBN : Hid (Below w.heap.size w (wr.setCell ⟨w.heap.size, p, none⟩ (.string (weaveS q n f D p)))) := Lib.hid (HBW.out.setCell (p := ⟨w.heap.size, p, none⟩) (Nat.le_refl _) _)
            clear hrw
            obtain ⟨S, hS⟩ : ∃ S, S = weaveS q n f D p := ⟨_, rfl⟩
            rw [← hS] at HNEW HBN
            rw [show (ByteArray.mk (rowL n (fun b => sx q (fun j => mul (f p j) (byteAt (D.getD j ByteArray.empty) b)))).toArray) = S from hS.symm] at hcv
            clear hS
            go_wp2
            go_roundw
            case rel => exact ⟨p + 1, by omega, by go_num, HNEW.out, HBN.out⟩
            case measure => simp [intOf]; omega
      · obtain rfl : p = r := by omega
        go_wp2
        go_ret
        exact ⟨_, rfl, ⟨w.heap.size, p, _, by rw [weaveL_len]; rfl, Nat.le_refl _, HROW.out, by rw [weaveL_len]; exact Nat.le_refl _, by unfold maxLen; omega, HSZ.out, fun i hi => by rw [weaveL_len] at hi; rw [weaveL_getD f D hi, if_pos hi]⟩, HBE.out⟩
end Go.Proofs.Ytpldnbfbpajbkab
