/- The contracts of matrix.Mul and caulkref03.Mul. -/
import Derived.Test.YtpldnbfbpajbkaaMatH
import Derived.Test.YtpldnbfbpajbkaaGfK
import Derived.StillTailTactics
namespace Go.Proofs.Ytpldnbfbpajbkaa
open Go.RowKit
open Caulk.Lin (Fn2 sx)
open Caulk.Gf (mul putL)

/-- The product. -/
def mulF (n : Nat) (f g : Fn2) : Fn2 := fun i j => sx n (fun t => mul (f i t) (g t j))
theorem size_rowL (k : Nat) (f : Nat → UInt8) : (ByteArray.mk (rowL k f).toArray).size = k := by
  show (rowL k f).toArray.size = k
  rw [List.size_toArray, rowL_len]

set_option maxHeartbeats 2000000 in
theorem mul_any {w : World} {B C r n k : Nat} {va vb : Value} {f g : Fn2} (hA : MatV w B va (rowsL r n f)) (hB : B ≤ w.heap.size) (hM : MatV w C vb (rowsL n k g)) (hC : C ≤ w.heap.size)
    (hr1 : 1 ≤ r) (hr2 : r ≤ 255) (hn1 : 1 ≤ n) (hn2 : n ≤ 255) (hk1 : 1 ≤ k) (hk2 : k ≤ 255) :
    Calls Try.prog 11 #[va, vb] w (GotGridOK w r k (mulF n f g)) := by
  have hc1 := check_any hA
  have hc2 := check_any hM
  rw [ckE_yes (right_rowsL hr1 hr2 hn1 hn2)] at hc1
  rw [ckE_yes (right_rowsL hn1 hn2 hk1 hk2)] at hc2
  have HC1 := Lib.hid hc1
  have HC2 := Lib.hid hc2
  clear hc1 hc2
  have HMV := Lib.hid hM
  obtain ⟨b1, off1, cap1, rfl, hrc1, hcm1, hread1⟩ := hA.reads hB hr1 hn1
  obtain ⟨b2, off2, cap2, rfl, hrc2, hcm2, hread2⟩ := hM.reads hC hn1 hk1
  unfold maxLen at hcm1 hcm2
  have HA := Lib.hid hread1
  have HG := Lib.hid hread2
  clear hread1 hread2 hM hA
  obtain ⟨b3, off3, cap3, h03, _, hc3, hcm3, _⟩ := HA.out w (Below.refl _ _) 0 hr1
  obtain ⟨b4, off4, cap4, h04, _, hc4, hcm4, _⟩ := HG.out w (Below.refl _ _) 0 hn1
  rw [Nat.add_zero] at h03 h04
  unfold maxLen at hcm3 hcm4
  have hne : ((n : Int) != (n : Int)) = false := by simp
  go_enter Try.func11, Try.ntmps11
  go_wp2_with fail
  refine HC1.out.mono ?_
  rintro e w' ⟨rfl, rfl⟩
  go_wp2_with fail
  refine HC2.out.mono ?_
  rintro e w' ⟨rfl, rfl⟩
  go_wp2_with fail
  refine (blank_any r k hr2 hk1 (by omega) _).mono ?_
  rintro e w1 ⟨vg, rfl, hg, hb⟩
  obtain ⟨bg, cg, rfl, hnc, hcgm, hbb⟩ := hg.shape
  have HGR := Lib.hid hg
  have HB := Lib.hid hb
  clear hg hb h03 h04 hne
  unfold maxLen at hcgm
  go_wp2
  go_loopw [35] (fun i wr => ∃ p : Nat, p ≤ n ∧ i = .int .i64 p ∧ Grid wr w.heap.size (.slice (some ⟨bg, 0, none⟩) r cg) r k (mulF p f g) ∧ Below w.heap.size w wr) (fun i _ => n - (intOf i).toNat)
  case atStart => exact ⟨0, by omega, rfl, HGR.out, HB.out⟩
  case round =>
    clear HGR HB
    obtain ⟨p, hp, rfl, hgr, hbe⟩ := hrel
    have HGR := Lib.hid hgr
    have HBE := Lib.hid hbe
    clear hgr hbe
    by_cases hlt : p < n
    · obtain ⟨wo, rfl⟩ : ∃ wo : World, wo = wr := ⟨_, rfl⟩
      obtain ⟨b5, off5, cap5, h5, h5b, hc5, hcm5, hby5⟩ := HG.out wo HBE.out p hlt
      have hcv : (convert 37 9 (.slice (some ⟨b5, off5, none⟩) k cap5)).run Try.prog wo = .ok (.string ⟨(rowL k (g p)).toArray⟩) wo :=
        RowV.string (B := wo.heap.size) ⟨_, _, by rw [rowL_len], by simp, by rw [rowL_len]; exact hc5, hcm5, .inr ⟨b5, off5, rfl, Nat.lt_of_lt_of_le h5b (Nat.le_trans hC HBE.out.size), fun j hj => by rw [rowL_len] at hj; rw [hby5 j hj, rowL_getD _ hj]⟩⟩
      clear hby5
      obtain ⟨S, hS⟩ : ∃ S, S = ByteArray.mk (rowL k (g p)).toArray := ⟨_, rfl⟩
      rw [← hS] at hcv
      have HS := Lib.hid hS
      clear hS
      go_wp2
      clear hcv h5
      go_loopw [44] (fun i wr => ∃ q : Nat, q ≤ r ∧ i = .int .i64 q ∧ Grid wr w.heap.size (.slice (some ⟨bg, 0, none⟩) r cg) r k (fun i j => if i < q then mulF (p + 1) f g i j else mulF p f g i j) ∧ Below w.heap.size w wr) (fun i _ => r - (intOf i).toNat)
      case atStart => exact ⟨0, by omega, rfl, HGR.out.congr (fun i _ j _ => by rw [if_neg (by omega)]), HBE.out⟩
      case round =>
        clear HGR HBE
        obtain ⟨q, hq, rfl, hgr, hbe⟩ := hrel
        have HGR := Lib.hid hgr
        have HBE := Lib.hid hbe
        clear hgr hbe
        by_cases hlt2 : q < r
        · obtain ⟨b6, off6, cap6, h6, _, hc6, hcm6, hby6⟩ := HA.out wr HBE.out q hlt2
          have hx := hby6 p hlt
          obtain ⟨b7, off7, cap7, h7, _, hc7, hcm7, hBb, hnb, hrow, hset⟩ := HGR.out.at q hlt2
          have hs := size_rowL k (g p)
          rw [show rowL k ((fun i j => if i < q then mulF (p + 1) f g i j else mulF p f g i j) q) = rowL k (mulF p f g q) from rowL_congr (fun j _ => if_neg (by omega))] at hrow
          have hput := put_only b7 off7 cap7 _ (f q p) S (by rw [HS.out, hs]; unfold maxLen; omega) wr.drew hrow.drew
          rw [rowL_len] at hput
          have HP := Lib.hid hput
          have HROW := Lib.hid hrow
          have HSET := Lib.hid hset
          have HDR := fun w' (h : Only wr.drew w' b7 off7 (off7 + k)) => (Only.of_below (Below.refl _ wr).drew hrow.1 off7 (off7 + k)).trans h
          have HD := Lib.hid HDR
          clear hput hs hset hrow hby6 HDR
          obtain ⟨x, hxe⟩ : ∃ x, x = f q p := ⟨_, rfl⟩
          have HXE := Lib.hid hxe
          rw [← hxe] at hx HP
          clear hxe
          go_wp2_with fail
          go_still_tail 12, (by kernel_rfl)
          change wpList _ _ _ _ _ wr.drew
          go_wp2_with fail
          refine HP.out.mono ?_
          rintro e w2 ⟨rfl, hrow2, hon⟩
          have hon2 := HD.out w2 hon
          rw [HS.out, HXE.out, show (ByteArray.mk (rowL k (g p)).toArray).data.toList = rowL k (g p) from rfl, putL_rowL _ _ _ _ _ (Nat.le_refl _)] at hrow2
          have hgn := (HSET.out w2 (mulF (p + 1) f g q) hon2 hrow2).congr (g := fun i j => if i < q + 1 then mulF (p + 1) f g i j else mulF p f g i j) (fun i _ j _ => by
            by_cases e : i = q
            · subst e; rw [if_pos rfl, if_pos (by omega)]
            · rw [if_neg e]
              by_cases e2 : i < q
              · rw [if_pos e2, if_pos (by omega)]
              · rw [if_neg e2, if_neg (by omega)])
          have HGN := Lib.hid hgn
          have HBN : Hid (Below w.heap.size w w2) := Lib.hid (HBE.out.trans (hon2.below hBb HBE.out.size))
          clear hrow2 hon hon2 hgn
          go_wp2
          go_roundw
          case rel => exact ⟨q + 1, by omega, by go_num, HGN.out, HBN.out⟩
          case measure => simp [intOf]; omega
        · obtain rfl : q = r := by omega
          have HGN : Hid (Grid wr w.heap.size (.slice (some ⟨bg, 0, none⟩) q cg) q k (mulF (p + 1) f g)) := Lib.hid (HGR.out.congr (fun i hi j _ => if_pos hi))
          go_wp2
          go_roundw
          case rel => exact ⟨p + 1, by omega, by go_num, HGN.out, HBE.out⟩
          case measure => simp [intOf]; omega
    · obtain rfl : p = n := by omega
      go_wp2
      go_ret2
      exact ⟨_, rfl, HGR.out, HBE.out⟩
theorem refMul_still (a b : UInt8) (w : World) :
    Calls Try.prog 38 #[.int .u8 (a.toNat : Int), .int .u8 (b.toNat : Int)] w fun e w' => e = .returned (.int .u8 ((mul a b).toNat : Int)) ∧ w' = w :=
  (refMul_any a b w).mono fun _ _ ⟨h1, h2⟩ => ⟨h1, h2.symm⟩
set_option maxHeartbeats 2000000 in
theorem refMatMul_any {w : World} {B C r n k : Nat} {va vb : Value} {f g : Fn2} (hA : MatV w B va (rowsL r n f)) (hB : B ≤ w.heap.size) (hM : MatV w C vb (rowsL n k g)) (hC : C ≤ w.heap.size)
    (hr1 : 1 ≤ r) (hr2 : r ≤ 255) (hn1 : 1 ≤ n) (hn2 : n ≤ 255) (hk1 : 1 ≤ k) (hk2 : k ≤ 255) :
    Calls Try.prog 12 #[va, vb] w (GotGridOK w r k (mulF n f g)) := by
  have hc1 := refCheck_any hA
  have hc2 := refCheck_any hM
  rw [ckE_yes (right_rowsL hr1 hr2 hn1 hn2)] at hc1
  rw [ckE_yes (right_rowsL hn1 hn2 hk1 hk2)] at hc2
  have HC1 := Lib.hid hc1
  have HC2 := Lib.hid hc2
  clear hc1 hc2
  have HMV := Lib.hid hM
  obtain ⟨b1, off1, cap1, rfl, hrc1, hcm1, hread1⟩ := hA.reads hB hr1 hn1
  obtain ⟨b2, off2, cap2, rfl, hrc2, hcm2, hread2⟩ := hM.reads hC hn1 hk1
  unfold maxLen at hcm1 hcm2
  have HA := Lib.hid hread1
  have HG := Lib.hid hread2
  clear hread1 hread2 hM hA
  obtain ⟨b3, off3, cap3, h03, _, hc3, hcm3, _⟩ := HA.out w (Below.refl _ _) 0 hr1
  obtain ⟨b4, off4, cap4, h04, _, hc4, hcm4, _⟩ := HG.out w (Below.refl _ _) 0 hn1
  rw [Nat.add_zero] at h03 h04
  unfold maxLen at hcm3 hcm4
  have hne : ((n : Int) != (n : Int)) = false := by simp
  go_enter Try.func12, Try.ntmps12
  go_wp2_with fail
  refine HC1.out.mono ?_
  rintro e w' ⟨rfl, rfl⟩
  go_wp2_with fail
  refine HC2.out.mono ?_
  rintro e w' ⟨rfl, rfl⟩
  go_wp2_with fail
  refine (zero_any r k hr2 hr1 (by omega) _).mono ?_
  rintro e w1 ⟨vg, rfl, hg, hb⟩
  obtain ⟨bg, cg, rfl, hnc, hcgm, hbb⟩ := hg.shape
  have HGR := Lib.hid hg
  have HB := Lib.hid hb
  clear hg hb h03 h04 hne
  unfold maxLen at hcgm
  go_wp2
  go_loopw [34] (fun i wr => ∃ p : Nat, p ≤ r ∧ i = .int .i64 p ∧ Grid wr w.heap.size (.slice (some ⟨bg, 0, none⟩) r cg) r k (fun i j => if i < p then mulF n f g i j else 0) ∧ Below w.heap.size w wr) (fun i _ => r - (intOf i).toNat)
  case atStart => exact ⟨0, by omega, rfl, HGR.out.congr (fun i _ j _ => by rw [if_neg (by omega)]), HB.out⟩
  case round =>
    clear HGR HB
    obtain ⟨p, hp, rfl, hgr, hbe⟩ := hrel
    have HGR := Lib.hid hgr
    have HBE := Lib.hid hbe
    clear hgr hbe
    by_cases hlt : p < r
    · obtain ⟨wo, rfl⟩ : ∃ wo : World, wo = wr := ⟨_, rfl⟩
      obtain ⟨bh, oh, ch, hh, _⟩ := HGR.out.at p hlt
      go_wp2
      clear hh
      go_loopw [42] (fun i wr => ∃ q : Nat, q ≤ k ∧ i = .int .i64 q ∧ Grid wr w.heap.size (.slice (some ⟨bg, 0, none⟩) r cg) r k (fun i j => if i < p ∨ (i = p ∧ j < q) then mulF n f g i j else 0) ∧ Below w.heap.size w wr) (fun i _ => k - (intOf i).toNat)
      case atStart => exact ⟨0, by omega, rfl, HGR.out.congr (fun i _ j _ => by by_cases e : i < p <;> simp [e]), HBE.out⟩
      case round =>
        clear HGR HBE
        obtain ⟨q, hq, rfl, hgr, hbe⟩ := hrel
        have HGR := Lib.hid hgr
        have HBE := Lib.hid hbe
        clear hgr hbe
        by_cases hlt2 : q < k
        · obtain ⟨wo, rfl⟩ : ∃ wo : World, wo = wr := ⟨_, rfl⟩
          go_wp2
          go_loopw [47] (fun i wr => ∃ t : Nat, t ≤ n ∧ i = .int .i64 t ∧ Grid wr w.heap.size (.slice (some ⟨bg, 0, none⟩) r cg) r k (fun i j => if i = p ∧ j = q then mulF t f g i j else if i < p ∨ (i = p ∧ j < q) then mulF n f g i j else 0) ∧ Below w.heap.size w wr) (fun i _ => n - (intOf i).toNat)
          case atStart =>
            refine ⟨0, by omega, rfl, HGR.out.congr (fun i _ j _ => ?_), HBE.out⟩
            by_cases e : i = p ∧ j = q
            · rw [if_pos e, if_neg (by omega)]; rfl
            · rw [if_neg e]
          case round =>
            clear HGR HBE
            obtain ⟨t, ht, rfl, hgr, hbe⟩ := hrel
            have HBE := Lib.hid hbe
            clear hbe
            by_cases hlt3 : t < n
            · obtain ⟨b5, off5, cap5, h5, _, hc5, hcm5, hby5⟩ := HA.out wr HBE.out p hlt
              obtain ⟨b6, off6, cap6, h6, _, hc6, hcm6, hby6⟩ := HG.out wr HBE.out t hlt3
              have hx5 := hby5 t hlt3
              have hx6 := hby6 q hlt2
              obtain ⟨b7, off7, cap7, hc1, hc2, hfz, hBb, hbl, hnb, hset⟩ := hgr.byte p q hlt hlt2
              rw [if_pos ⟨rfl, rfl⟩] at hc2
              have HGN : Hid (Grid (wr.drew.setCell ⟨b7, off7 + q, none⟩ (.int .u8 ((bxor (mulF t f g p q) (mul (f p t) (g t q))).toNat : Int))) w.heap.size (.slice (some ⟨bg, 0, none⟩) r cg) r k (fun i j => if i = p ∧ j = q then mulF (t + 1) f g i j else if i < p ∨ (i = p ∧ j < q) then mulF n f g i j else 0)) := Lib.hid ((hset _).congr (fun i _ j _ => by
                by_cases e : i = p ∧ j = q
                · obtain ⟨rfl, rfl⟩ := e
                  rw [if_pos ⟨rfl, rfl⟩, if_pos ⟨rfl, rfl⟩]; rfl
                · rw [if_neg e, if_neg e, if_neg e]))
              clear hgr hset hby5 hby6
              generalize mulF t f g p q = x at hc2 HGN
              generalize f p t = y at hx5 HGN
              generalize g t q = z at hx6 HGN
              have h4 := u8_bxor x (mul y z)
              go_wp2_with fail
              go_still_tail 24, (by kernel_rfl)
              still_call (refMul_still y z _)
              repeat still_step
              refine wpStill_nil ?_
              change wpList _ _ _ _ _ wr.drew
              go_wp2
              go_roundw
              case rel => exact ⟨t + 1, by omega, by go_num, HGN.out, (HBE.out.drew.setCell (p := ⟨b7, off7 + q, none⟩) hBb _)⟩
              case measure => simp [intOf]; omega
            · obtain rfl : t = n := by omega
              have HGN : Hid (Grid wr w.heap.size (.slice (some ⟨bg, 0, none⟩) r cg) r k (fun i j => if i < p ∨ (i = p ∧ j < q + 1) then mulF t f g i j else 0)) := Lib.hid (hgr.congr (fun i _ j _ => by
                by_cases e : i = p ∧ j = q
                · rw [if_pos e, if_pos (by omega)]
                · rw [if_neg e]
                  by_cases e2 : i < p ∨ (i = p ∧ j < q)
                  · rw [if_pos e2, if_pos (by omega)]
                  · rw [if_neg e2, if_neg (by omega)]))
              clear hgr
              go_wp2
              go_roundw
              case rel => exact ⟨q + 1, by omega, by go_num, HGN.out, HBE.out⟩
              case measure => simp [intOf]; omega
        · obtain rfl : q = k := by omega
          have HGN : Hid (Grid wr w.heap.size (.slice (some ⟨bg, 0, none⟩) r cg) r q (fun i j => if i < p + 1 then mulF n f g i j else 0)) := Lib.hid (HGR.out.congr (fun i _ j hj => by
            by_cases e : i < p + 1
            · rw [if_pos e, if_pos (by omega)]
            · rw [if_neg e, if_neg (by omega)]))
          go_wp2
          go_roundw
          case rel => exact ⟨p + 1, by omega, by go_num, HGN.out, HBE.out⟩
          case measure => simp [intOf]; omega
    · obtain rfl : p = r := by omega
      have HGN : Hid (Grid wr w.heap.size (.slice (some ⟨bg, 0, none⟩) p cg) p k (mulF n f g)) := Lib.hid (HGR.out.congr (fun i hi j _ => if_pos hi))
      go_wp2
      go_ret2
      exact ⟨_, rfl, HGN.out, HBE.out⟩
end Go.Proofs.Ytpldnbfbpajbkaa
