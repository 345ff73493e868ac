/- The contract of matrix.Rows. -/
import Derived.Test.YtpldnbfbpajbkabDoorMatG
import Derived.BigRegion
namespace Go.Proofs.YtpldnbfbpajbkabDoor
open Go.RowKit
open Caulk.Lin (Fn2)

/-- These rows, in that order. -/
def pickF (F : Fn2) (R : List Int) : Fn2 := fun i j => F (R.getD i 0).toNat j
/-- All numbers are rows' numbers. -/
def InRows (r : Nat) (R : List Int) : Prop := ∀ i, i < R.length → 0 ≤ R.getD i 0 ∧ R.getD i 0 < (r : Int)
/-- What Rows answers. -/
def RowsPost (w : World) (r k : Nat) (F : Fn2) (R : List Int) (e : Ending) (w' : World) : Prop :=
  (InRows r R → GotGridOK w R.length k (pickF F R) e w') ∧ (¬ InRows r R → e = .returned (.tuple #[.slice none 0 0, .int .i64 1]) ∧ Below w.heap.size w w')

set_option maxHeartbeats 1000000 in
theorem rows_any {w : World} {B C r k : Nat} {v u : Value} {F : Fn2} {R : List Int} (hM : MatV w B v (rowsL r k F)) (hB : B ≤ w.heap.size) (hr1 : 1 ≤ r) (hr2 : r ≤ 255) (hk1 : 1 ≤ k) (hk2 : k ≤ 255)
    (hR : IntsV w C u R) (hC : C ≤ w.heap.size) (hn1 : 1 ≤ R.length) (hn2 : R.length ≤ 255) :
    Calls Tryd.prog 9 #[v, u] w (RowsPost w r k F R) := by
  have hck : ckE (rowsL r k F) = 0 := ckE_yes (right_rowsL hr1 hr2 hk1 hk2)
  have HC := fun (x : World) (hx : Below w.heap.size w x) => check_any (hM.below hx hB)
  rw [hck] at HC
  have HCK := Lib.hid HC
  clear HC hck
  obtain ⟨b, off, cap, rfl, hrc, hcm, hread⟩ := hM.reads hB hr1 hk1
  obtain ⟨b2, off2, cap2, rfl, hrc2, hcm2, hread2⟩ := hR.reads hC hn1
  unfold maxLen at hcm hcm2
  have HA := Lib.hid hread
  have HR := Lib.hid hread2
  clear hread hread2 hM hR
  obtain ⟨n, hn⟩ : ∃ n, n = R.length := ⟨_, rfl⟩
  have HN := Lib.hid hn
  rw [← hn] at hn1 hn2 hrc2 HR ⊢
  clear hn
  obtain ⟨b', off', cap', h0, _, hc', hcm', _⟩ := HA.out w (Below.refl _ _) 0 hr1
  rw [Nat.add_zero] at h0
  unfold maxLen at hcm'
  have hd1 : decide ((n : Int) < 1) = false := by simp; omega
  have hd2 : decide ((255 : Int) < (n : Int)) = false := by simp; omega
  go_enter Tryd.func9, Tryd.ntmps9
  go_wp2_with fail
  refine (HCK.out w (Below.refl _ _)).mono ?_
  rintro e w' ⟨rfl, rfl⟩
  go_wp2_with fail
  refine (blank_any n k (by omega) hk1 (by omega) _).mono ?_
  rintro e w1 ⟨vg, rfl, hg, hb⟩
  obtain ⟨bg, cg, rfl, hnc, hcgm, hbb⟩ := hg.shape
  have HG := Lib.hid hg
  have HB := Lib.hid hb
  clear hg hb h0
  unfold maxLen at hcgm
  go_wp2
  go_loopw [32] (fun i wr => ∃ p : Nat, p ≤ n ∧ i = .int .i64 p ∧ Grid wr w.heap.size (.slice (some ⟨bg, 0, none⟩) n cg) n k (fun i j => if i < p then pickF F R i j else 0) ∧ (∀ i, i < p → 0 ≤ R.getD i 0 ∧ R.getD i 0 < (r : Int)) ∧ Below w.heap.size w wr) (fun i _ => n - (intOf i).toNat)
  case atStart => exact ⟨0, by omega, rfl, HG.out.congr (fun i _ j _ => by rw [if_neg (by omega)]), fun i hi => by omega, HB.out⟩
  case round =>
    clear HG HB
    obtain ⟨p, hp, rfl, hgr, hall, hbe⟩ := hrel
    have HGR := Lib.hid hgr
    have HALL := Lib.hid hall
    have HBE := Lib.hid hbe
    clear hgr hall hbe
    by_cases hlt : p < n
    · obtain ⟨hx, hxl, hxh⟩ := HR.out wr HBE.out p hlt
      obtain ⟨x, hxe⟩ : ∃ x, R.getD p 0 = x := ⟨_, rfl⟩
      rw [hxe] at hx hxl hxh
      by_cases hin : 0 ≤ x ∧ x < (r : Int)
      · obtain ⟨q, rfl⟩ : ∃ q : Nat, x = (q : Int) := ⟨x.toNat, by omega⟩
        have hqr : q < r := by omega
        obtain ⟨b3, off3, cap3, h3, _, hc3, hcm3, hby⟩ := HA.out wr HBE.out q hqr
        obtain ⟨b4, off4, cap4, h4, _, hc4, hcm4, hBb, hnb, hrow, hset⟩ := HGR.out.at p hlt
        have hcp := fun ty => run_copy_rows (w := wr.drew) (cap := cap4) (cap2 := cap3) hrow.drew hby ty
        have hon : Only wr (wr.drew.setCells b4 off4 (U8s (rowL k (F q)))) b4 off4 (off4 + k) := (Only.of_below (Below.refl _ wr).drew hrow.1 _ _).trans (Only.setCells _ _ _ (Nat.le_refl _) (by rw [u8s_len, rowL_len]; exact Nat.le_refl _) hrow.1)
        have hgs := hset _ (F q) hon (hrow.drew.setCells (by rw [rowL_len, rowL_len]))
        have HS : Hid (Grid (wr.drew.setCells b4 off4 (U8s (rowL k (F q)))) w.heap.size (.slice (some ⟨bg, 0, none⟩) n cg) n k (fun i j => if i < p + 1 then pickF F R i j else 0)) := Lib.hid (hgs.congr (fun i _ j _ => by
          by_cases e : i = p
          · subst e
            rw [if_pos rfl, if_pos (by omega)]
            unfold pickF
            rw [hxe]; rfl
          · rw [if_neg e]
            by_cases e2 : i < p
            · rw [if_pos e2, if_pos (by omega)]
            · rw [if_neg e2, if_neg (by omega)]))
        have HBS : Hid (Below w.heap.size w (wr.drew.setCells b4 off4 (U8s (rowL k (F q))))) := Lib.hid (HBE.out.trans (hon.below hBb HBE.out.size))
        have HXE := Lib.hid hxe
        have hq1 : decide ((q : Int) < 0) = false := by simp
        clear hxe hset hrow hon hgs hby hin
        go_wp2_with fail
        go_region
        go_wp2
        go_roundw
        case rel =>
          refine ⟨p + 1, by omega, by go_num, HS.out, fun i hi => ?_, HBS.out⟩
          by_cases e : i = p
          · subst e; rw [HXE.out]; omega
          · exact HALL.out i (by omega)
        case measure => simp [intOf]; omega
      · have HNO : Hid (¬ InRows r R) := Lib.hid (fun h => hin (by have := h p (by rw [← HN.out]; exact hlt); rw [hxe] at this; exact this))
        clear hxe
        by_cases hx0 : x < 0
        · have hq1 : decide (x < 0) = true := by simpa using hx0
          clear hin
          go_wp2
          go_ret2
          exact ⟨fun h => absurd h HNO.out, fun _ => ⟨rfl, HBE.out⟩⟩
        · have hq1 : decide (x < 0) = false := by simpa using hx0
          have hx1 : (r : Int) ≤ x := by omega
          have hq2 : decide ((r : Int) ≤ x) = true := by simpa using hx1
          clear hin
          go_wp2
          go_ret2
          exact ⟨fun h => absurd h HNO.out, fun _ => ⟨rfl, HBE.out⟩⟩
    · obtain rfl : p = n := by omega
      have HOUT : Hid (Grid wr w.heap.size (.slice (some ⟨bg, 0, none⟩) p cg) p k (pickF F R)) := Lib.hid (HGR.out.congr (fun i hi j _ => by rw [if_pos hi]))
      go_wp2
      go_ret2
      exact ⟨fun _ => ⟨_, rfl, by rw [← HN.out]; exact HOUT.out, HBE.out⟩, fun h => absurd (fun i hi => HALL.out i (by rw [HN.out]; exact hi)) h⟩
theorem rows_form {w : World} {B : Nat} {v u : Value} {M : List (List UInt8)} (hM : MatV w B v M) (h : ¬ RightM M) :
    Calls Tryd.prog 9 #[v, u] w fun e w' => e = .returned (.tuple #[.slice none 0 0, .int .i64 2]) ∧ w = w' := by
  have HC := check_any hM
  rw [ckE_no h] at HC
  go_enter Tryd.func9, Tryd.ntmps9
  go_wp2_with fail
  refine HC.mono ?_
  rintro e w' ⟨rfl, rfl⟩
  clear HC
  go_wp2
  go_ret2
  exact ⟨rfl, rfl⟩
theorem rows_len {w : World} {B r k : Nat} {v : Value} {F : Fn2} {A : Option Addr} {n cap : Nat} (hM : MatV w B v (rowsL r k F)) (hr1 : 1 ≤ r) (hr2 : r ≤ 255) (hk1 : 1 ≤ k) (hk2 : k ≤ 255) (h : n < 1 ∨ 255 < n) :
    Calls Tryd.prog 9 #[v, .slice A n cap] w fun e w' => e = .returned (.tuple #[.slice none 0 0, .int .i64 1]) ∧ w = w' := by
  have HC := check_any hM
  rw [ckE_yes (right_rowsL hr1 hr2 hk1 hk2)] at HC
  by_cases h1 : n < 1
  · have hd : decide ((n : Int) < 1) = true := by simp; omega
    clear h
    go_enter Tryd.func9, Tryd.ntmps9
    go_wp2_with fail
    refine HC.mono ?_
    rintro e w' ⟨rfl, rfl⟩
    clear HC
    go_wp2
    go_ret2
    exact ⟨rfl, rfl⟩
  · have hd : decide ((n : Int) < 1) = false := by simp; omega
    have hd2 : decide ((255 : Int) < (n : Int)) = true := by simp; omega
    clear h
    go_enter Tryd.func9, Tryd.ntmps9
    go_wp2_with fail
    refine HC.mono ?_
    rintro e w' ⟨rfl, rfl⟩
    clear HC
    go_wp2
    go_ret2
    exact ⟨rfl, rfl⟩
end Go.Proofs.YtpldnbfbpajbkabDoor
