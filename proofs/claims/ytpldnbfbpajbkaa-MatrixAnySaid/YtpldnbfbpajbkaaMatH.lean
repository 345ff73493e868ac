/- The contract of matrix.Rows. -/
import Derived.Test.YtpldnbfbpajbkaaMatG
import Derived.BigRegion
namespace Go.Proofs.Ytpldnbfbpajbkaa
open Go.RowKit
open Caulk.Lin (Fn2)

/-- These rows, in that order. -/
def pickF (F : Fn2) (R : List Int) : Fn2 := fun i j => F (R.getD i 0).toNat j
/-- All numbers are rows' numbers. -/
def InRows (r : Nat) (R : List Int) : Prop := ∀ i, i < R.length → 0 ≤ R.getD i 0 ∧ R.getD i 0 < (r : Int)
/-- What Rows answers. -/
def RowsPost (w : World) (r k : Nat) (F : Fn2) (R : List Int) (e : Ending) (w' : World) : Prop :=
  (InRows r R → GotGridOK w R.length k (pickF F R) e w') ∧ (¬ InRows r R → e = .returned (.tuple #[.slice none 0 0, .int .i64 1]) ∧ Below w.heap.size w w')

set_option maxHeartbeats 1000000 in
theorem rows_any {w : World} {B C r k : Nat} {v u : Value} {F : Fn2} {R : List Int} (hM : MatV w B v (rowsL r k F)) (hB : B ≤ w.heap.size) (hr1 : 1 ≤ r) (hr2 : r ≤ 255) (hk1 : 1 ≤ k) (hk2 : k ≤ 255)
    (hR : IntsV w C u R) (hC : C ≤ w.heap.size) (hn1 : 1 ≤ R.length) (hn2 : R.length ≤ 255) :
    Calls Try.prog 13 #[v, u] w (RowsPost w r k F R) := by
  have hck : ckE (rowsL r k F) = 0 := ckE_yes (right_rowsL hr1 hr2 hk1 hk2)
  have HC := fun (x : World) (hx : Below w.heap.size w x) => check_any (hM.below hx hB)
  rw [hck] at HC
  have HCK := Lib.hid HC
  clear HC hck
  obtain ⟨b, off, cap, rfl, hrc, hcm, hread⟩ := hM.reads hB hr1 hk1
  obtain ⟨b2, off2, cap2, rfl, hrc2, hcm2, hread2⟩ := hR.reads hC hn1
  unfold maxLen at hcm hcm2
  have HA := Lib.hid hread
  have HR := Lib.hid hread2
  clear hread hread2 hM hR
  obtain ⟨n, hn⟩ : ∃ n, n = R.length := ⟨_, rfl⟩
  have HN := Lib.hid hn
  rw [← hn] at hn1 hn2 hrc2 HR ⊢
  clear hn
  obtain ⟨b', off', cap', h0, _, hc', hcm', _⟩ := HA.out w (Below.refl _ _) 0 hr1
  rw [Nat.add_zero] at h0
  unfold maxLen at hcm'
  have hd1 : decide ((n : Int) < 1) = false := by simp; omega
  have hd2 : decide ((255 : Int) < (n : Int)) = false := by simp; omega
  go_enter Try.func13, Try.ntmps13
  go_wp2_with fail
  refine (HCK.out w (Below.refl _ _)).mono ?_
  rintro e w' ⟨rfl, rfl⟩
  go_wp2_with fail
  refine (blank_any n k (by omega) hk1 (by omega) _).mono ?_
  rintro e w1 ⟨vg, rfl, hg, hb⟩
  obtain ⟨bg, cg, rfl, hnc, hcgm, hbb⟩ := hg.shape
  have HG := Lib.hid hg
  have HB := Lib.hid hb
  clear hg hb h0
  unfold maxLen at hcgm
  go_wp2
  go_loopw [32] (fun i wr => ∃ p : Nat, p ≤ n ∧ i = .int .i64 p ∧ Grid wr w.heap.size (.slice (some ⟨bg, 0, none⟩) n cg) n k (fun i j => if i < p then pickF F R i j else 0) ∧ (∀ i, i < p → 0 ≤ R.getD i 0 ∧ R.getD i 0 < (r : Int)) ∧ Below w.heap.size w wr) (fun i _ => n - (intOf i).toNat)
  case atStart => exact ⟨0, by omega, rfl, HG.out.congr (fun i _ j _ => by rw [if_neg (by omega)]), fun i hi => by omega, HB.out⟩
  case round =>
    clear HG HB
    obtain ⟨p, hp, rfl, hgr, hall, hbe⟩ := hrel
    have HGR := Lib.hid hgr
    have HALL := Lib.hid hall
    have HBE := Lib.hid hbe
    clear hgr hall hbe
    by_cases hlt : p < n
    · obtain ⟨hx, hxl, hxh⟩ := HR.out wr HBE.out p hlt
      obtain ⟨x, hxe⟩ : ∃ x, R.getD p 0 = x := ⟨_, rfl⟩
      rw [hxe] at hx hxl hxh
      by_cases hin : 0 ≤ x ∧ x < (r : Int)
      · obtain ⟨q, rfl⟩ : ∃ q : Nat, x = (q : Int) := ⟨x.toNat, by omega⟩
        have hqr : q < r := by omega
        obtain ⟨b3, off3, cap3, h3, _, hc3, hcm3, hby⟩ := HA.out wr HBE.out q hqr
        obtain ⟨b4, off4, cap4, h4, _, hc4, hcm4, hBb, hnb, hrow, hset⟩ := HGR.out.at p hlt
        have hcp := fun ty => run_copy_rows (w := wr.drew) (cap := cap4) (cap2 := cap3) hrow.drew hby ty
        have hon : Only wr (wr.drew.setCells b4 off4 (U8s (rowL k (F q)))) b4 off4 (off4 + k) := (Only.of_below (Below.refl _ wr).drew hrow.1 _ _).trans (Only.setCells _ _ _ (Nat.le_refl _) (by rw [u8s_len, rowL_len]; exact Nat.le_refl _) hrow.1)
        have hgs := hset _ (F q) hon (hrow.drew.setCells (by rw [rowL_len, rowL_len]))
        have HS : Hid (Grid (wr.drew.setCells b4 off4 (U8s (rowL k (F q)))) w.heap.size (.slice (some ⟨bg, 0, none⟩) n cg) n k (fun i j => if i < p + 1 then pickF F R i j else 0)) := Lib.hid (hgs.congr (fun i _ j _ => by
          by_cases e : i = p
          · subst e
            rw [if_pos rfl, if_pos (by omega)]
            unfold pickF
            rw [hxe]; rfl
          · rw [if_neg e]
            by_cases e2 : i < p
            · rw [if_pos e2, if_pos (by omega)]
            · rw [if_neg e2, if_neg (by omega)]))
        have HBS : Hid (Below w.heap.size w (wr.drew.setCells b4 off4 (U8s (rowL k (F q))))) := Lib.hid (HBE.out.trans (hon.below hBb HBE.out.size))
        have HXE := Lib.hid hxe
        have hq1 : decide ((q : Int) < 0) = false := by simp
        clear hxe hset hrow hon hgs hby hin
        go_wp2_with fail
        go_region
        go_wp2
        go_roundw
        case rel =>
          refine ⟨p + 1, by omega, by go_num, HS.out, fun i hi => ?_, HBS.out⟩
          by_cases e : i = p
          · subst e; rw [HXE.out]; omega
          · exact HALL.out i (by omega)
        case measure => simp [intOf]; omega
      · have HNO : Hid (¬ InRows r R) := Lib.hid (fun h => hin (by have := h p (by rw [← HN.out]; exact hlt); rw [hxe] at this; exact this))
        clear hxe
        by_cases hx0 : x < 0
        · have hq1 : decide (x < 0) = true := by simpa using hx0
          clear hin
          go_wp2
          go_ret2
          exact ⟨fun h => absurd h HNO.out, fun _ => ⟨rfl, HBE.out⟩⟩
        · have hq1 : decide (x < 0) = false := by simpa using hx0
          have hx1 : (r : Int) ≤ x := by omega
          have hq2 : decide ((r : Int) ≤ x) = true := by simpa using hx1
          clear hin
          go_wp2
          go_ret2
          exact ⟨fun h => absurd h HNO.out, fun _ => ⟨rfl, HBE.out⟩⟩
    · obtain rfl : p = n := by omega
      have HOUT : Hid (Grid wr w.heap.size (.slice (some ⟨bg, 0, none⟩) p cg) p k (pickF F R)) := Lib.hid (HGR.out.congr (fun i hi j _ => by rw [if_pos hi]))
      go_wp2
      go_ret2
      exact ⟨fun _ => ⟨_, rfl, by rw [← HN.out]; exact HOUT.out, HBE.out⟩, fun h => absurd (fun i hi => HALL.out i (by rw [HN.out]; exact hi)) h⟩
theorem rows_form {w : World} {B : Nat} {v u : Value} {M : List (List UInt8)} (hM : MatV w B v M) (h : ¬ RightM M) :
    Calls Try.prog 13 #[v, u] w fun e w' => e = .returned (.tuple #[.slice none 0 0, .int .i64 2]) ∧ w = w' := by
  have HC := check_any hM
  rw [ckE_no h] at HC
  go_enter Try.func13, Try.ntmps13
  go_wp2_with fail
  refine HC.mono ?_
  rintro e w' ⟨rfl, rfl⟩
  clear HC
  go_wp2
  go_ret2
  exact ⟨rfl, rfl⟩
theorem rows_len {w : World} {B r k : Nat} {v : Value} {F : Fn2} {A : Option Addr} {n cap : Nat} (hM : MatV w B v (rowsL r k F)) (hr1 : 1 ≤ r) (hr2 : r ≤ 255) (hk1 : 1 ≤ k) (hk2 : k ≤ 255) (h : n < 1 ∨ 255 < n) :
    Calls Try.prog 13 #[v, .slice A n cap] w fun e w' => e = .returned (.tuple #[.slice none 0 0, .int .i64 1]) ∧ w = w' := by
  have HC := check_any hM
  rw [ckE_yes (right_rowsL hr1 hr2 hk1 hk2)] at HC
  by_cases h1 : n < 1
  · have hd : decide ((n : Int) < 1) = true := by simp; omega
    clear h
    go_enter Try.func13, Try.ntmps13
    go_wp2_with fail
    refine HC.mono ?_
    rintro e w' ⟨rfl, rfl⟩
    clear HC
    go_wp2
    go_ret2
    exact ⟨rfl, rfl⟩
  · have hd : decide ((n : Int) < 1) = false := by simp; omega
    have hd2 : decide ((255 : Int) < (n : Int)) = true := by simp; omega
    clear h
    go_enter Try.func13, Try.ntmps13
    go_wp2_with fail
    refine HC.mono ?_
    rintro e w' ⟨rfl, rfl⟩
    clear HC
    go_wp2
    go_ret2
    exact ⟨rfl, rfl⟩
theorem refRows_form {w : World} {B : Nat} {v u : Value} {M : List (List UInt8)} (hM : MatV w B v M) (h : ¬ RightM M) :
    Calls Try.prog 14 #[v, u] w fun e w' => e = .returned (.tuple #[.slice none 0 0, .int .i64 2]) ∧ w = w' := by
  have HC := refCheck_any hM
  rw [ckE_no h] at HC
  go_enter Try.func14, Try.ntmps14
  go_wp2_with fail
  refine HC.mono ?_
  rintro e w' ⟨rfl, rfl⟩
  clear HC
  go_wp2
  go_ret2
  exact ⟨rfl, rfl⟩
theorem refRows_len {w : World} {B r k : Nat} {v : Value} {F : Fn2} {A : Option Addr} {n cap : Nat} (hM : MatV w B v (rowsL r k F)) (hr1 : 1 ≤ r) (hr2 : r ≤ 255) (hk1 : 1 ≤ k) (hk2 : k ≤ 255) (h : n < 1 ∨ 255 < n) :
    Calls Try.prog 14 #[v, .slice A n cap] w fun e w' => e = .returned (.tuple #[.slice none 0 0, .int .i64 1]) ∧ w = w' := by
  have HC := refCheck_any hM
  rw [ckE_yes (right_rowsL hr1 hr2 hk1 hk2)] at HC
  by_cases h1 : n < 1
  · have hd : decide ((n : Int) < 1) = true := by simp; omega
    clear h
    go_enter Try.func14, Try.ntmps14
    go_wp2_with fail
    refine HC.mono ?_
    rintro e w' ⟨rfl, rfl⟩
    clear HC
    go_wp2
    go_ret2
    exact ⟨rfl, rfl⟩
  · have hd : decide ((n : Int) < 1) = false := by simp; omega
    have hd2 : decide ((255 : Int) < (n : Int)) = true := by simp; omega
    clear h
    go_enter Try.func14, Try.ntmps14
    go_wp2_with fail
    refine HC.mono ?_
    rintro e w' ⟨rfl, rfl⟩
    clear HC
    go_wp2
    go_ret2
    exact ⟨rfl, rfl⟩
set_option maxHeartbeats 1000000 in
theorem refRows_any {w : World} {B C r k : Nat} {v u : Value} {F : Fn2} {R : List Int} (hM : MatV w B v (rowsL r k F)) (hB : B ≤ w.heap.size) (hr1 : 1 ≤ r) (hr2 : r ≤ 255) (hk1 : 1 ≤ k) (hk2 : k ≤ 255)
    (hR : IntsV w C u R) (hC : C ≤ w.heap.size) (hn1 : 1 ≤ R.length) (hn2 : R.length ≤ 255) :
    Calls Try.prog 14 #[v, u] w (RowsPost w r k F R) := by
  have hck : ckE (rowsL r k F) = 0 := ckE_yes (right_rowsL hr1 hr2 hk1 hk2)
  have HC := fun (x : World) (hx : Below w.heap.size w x) => refCheck_any (hM.below hx hB)
  rw [hck] at HC
  have HCK := Lib.hid HC
  clear HC hck
  obtain ⟨b, off, cap, rfl, hrc, hcm, hread⟩ := hM.reads hB hr1 hk1
  obtain ⟨b2, off2, cap2, rfl, hrc2, hcm2, hread2⟩ := hR.reads hC hn1
  unfold maxLen at hcm hcm2
  have HA := Lib.hid hread
  have HR := Lib.hid hread2
  clear hread hread2 hM hR
  obtain ⟨n, hn⟩ : ∃ n, n = R.length := ⟨_, rfl⟩
  have HN := Lib.hid hn
  rw [← hn] at hn1 hn2 hrc2 HR ⊢
  clear hn
  obtain ⟨b', off', cap', h0, _, hc', hcm', _⟩ := HA.out w (Below.refl _ _) 0 hr1
  rw [Nat.add_zero] at h0
  unfold maxLen at hcm'
  have hd1 : decide ((n : Int) < 1) = false := by simp; omega
  have hd2 : decide ((255 : Int) < (n : Int)) = false := by simp; omega
  go_enter Try.func14, Try.ntmps14
  go_wp2_with fail
  refine (HCK.out w (Below.refl _ _)).mono ?_
  rintro e w' ⟨rfl, rfl⟩
  clear h0
  go_wp2
  go_loopw [6, 22] (fun z i wr => ∃ (p : Nat) (vz : Value) (pl : Nat → Nat × Nat × Nat), p ≤ n ∧ i = .int .i64 p ∧ vz = z ∧ GridP wr w.heap.size vz p k (pickF F R) pl ∧ (∀ i, i < p → 0 ≤ R.getD i 0 ∧ R.getD i 0 < (r : Int)) ∧ Below w.heap.size w wr) (fun _ i _ => n - (intOf i).toNat)
  case atStart => exact ⟨0, .slice none 0 0, fun _ => (0, 0, 0), by omega, rfl, rfl, ⟨World.ownsRow_nil _ _ _ _, fun i hi => by omega, fun i j hi => by omega⟩, fun i hi => by omega, Below.refl _ _⟩
  case round =>
    obtain ⟨p, vz, pl, hp, rfl, rfl, hgr, hall, hbe⟩ := hrel
    have HGR := Lib.hid hgr
    have HALL := Lib.hid hall
    have HBE := Lib.hid hbe
    clear hgr hall hbe
    by_cases hlt : p < n
    · obtain ⟨hx, hxl, hxh⟩ := HR.out wr HBE.out p hlt
      obtain ⟨x, hxe⟩ : ∃ x, R.getD p 0 = x := ⟨_, rfl⟩
      rw [hxe] at hx hxl hxh
      by_cases hin : 0 ≤ x ∧ x < (r : Int)
      · obtain ⟨q, rfl⟩ : ∃ q : Nat, x = (q : Int) := ⟨x.toNat, by omega⟩
        have hqr : q < r := by omega
        obtain ⟨b3, off3, cap3, h3, _, hc3, hcm3, hby⟩ := HA.out wr HBE.out q hqr
        have HXE := Lib.hid hxe
        have hsz := HBE.out.size
        have hmade : (wr.alloc (.cells #[] 5)).ownsRow wr.heap.size 5 1 (.slice (some ⟨wr.heap.size, 0, none⟩) 0 0) 0 [] := World.ownsRow_made wr #[] 0 (Nat.le_refl _) (by decide) rfl
        have HM := Lib.hid hmade
        have HNEWS : Hid (∀ j u, (U8s (rowL k (F q)))[j]? = some u → (wr.alloc (.cells #[] 5)).cell? ((⟨b3, off3, none⟩ : Addr).add j) = some u) := Lib.hid (fun j u hu => by
          have hj : j < k := by have := (List.getElem?_eq_some_iff.1 hu).1; rw [u8s_len, rowL_len] at this; exact this
          rw [u8s_at _ j (by rw [rowL_len]; exact hj), rowL_getD (F q) hj] at hu
          injection hu with hu
          have hlt3 := World.block_lt_of_cell? wr _ (hby j hj)
          rw [show (⟨b3, off3, none⟩ : Addr).add j = ⟨b3, off3 + j, none⟩ by unfold Addr.add; split <;> simp_all, World.cell?_alloc_lt _ _ _ hlt3, hby j hj, hu])
        have h3' := (World.cell?_alloc_lt wr (.cells #[] 5) ⟨b, off + q, none⟩ (World.block_lt_of_cell? wr _ h3)).trans h3
        have hq1 : decide ((q : Int) < 0) = false := by simp
        have hq2 : decide ((r : Int) ≤ (q : Int)) = false := by simp; omega
        obtain ⟨i0, hi0, hz0, hz1, hz2⟩ := info_parts infoU8
        obtain ⟨i1, hi1, hz3, hz4, hz5⟩ := info_parts infoRow
        have hrk : ((U8s (rowL k (F q))).length = k * 1) := by rw [u8s_len, rowL_len, Nat.mul_one]
        have HRK := Lib.hid hrk
        clear hxe hby hin hmade hrk
        go_wp2_with (first
          | (at_builtin
             (with_reducible refine wpList_append_own_at _ ?g0 (.tmp 35) (.tmp 39) 37 ?g1 wr.heap.size 5 i0 (.int .u8 0) 1 1 Try.underlying37 hi0 hz0 hz1 hz2 ?g2 (by decide) (.slice (some ⟨wr.heap.size, 0, none⟩) 0 0) 0 [] ?g3 HM.out ⟨b3, off3, none⟩ k cap3 (U8s (rowL k (F q))) ?g4 ?g5 ?c1 ?c2 ?c3 ?c4 ?c5 ?_)
             case g0 => rfl
             case g1 => rfl
             case g2 => rfl
             case g3 => rfl
             case g4 => rfl
             case g5 => exact HRK.out
             case c1 => exact HNEWS.out
             case c2 => exact u8s_one _
             case c3 => unfold maxLen; omega
             case c4 => omega
             case c5 => simp
             intro v1 w1 hown1 hgrow1 hnn1 hat1
             obtain ⟨g, cg, rfl, hgb, hgc, hgm, hrow1⟩ : ∃ g cg, v1 = .slice (some ⟨g, 0, none⟩) k cg ∧ wr.heap.size ≤ g ∧ k ≤ cg ∧ cg ≤ maxLen ∧ Row8 w1 g 0 (rowL k (F q)) := by
               rw [Nat.zero_add, List.nil_append] at hown1
               rcases hown1.2 with ⟨_, e⟩ | ⟨g, cg, cur, rfl, hb, hh, hn, hm, hs, ht⟩
               · omega
               · exact ⟨g, cg, rfl, hb, hn, hm, (OwnB.row (l := rowL k (F q)) (base := wr.heap.size) (by unfold OwnB; rw [rowL_len]; exact hown1)).1⟩
             have hb1 : Below wr.heap.size wr w1 := ((Below.refl _ wr).alloc (Nat.le_refl _) _).grown hgrow1 (by simp) (fun j hj => by simp [Value.ownBlock] at hj; omega)
             have hb2 : Below wr.heap.size wr (w1.alloc (.cells #[.slice (some ⟨g, 0, none⟩) k cg] 37)) := hb1.alloc hb1.size _
             have HO := Lib.hid (HGR.out.below hb2).1
             have HR2 := Lib.hid (hrow1.alloc (.cells #[.slice (some ⟨g, 0, none⟩) k cg] 37))
             have HB2 := Lib.hid hb2
             have hs1 := hb1.size
             clear hown1 hgrow1 hnn1 hat1 hrow1 hb1 hb2)
          | (at_builtin
             (with_reducible refine wpList_append_own_at _ ?hg0 (.tmp 34) (.tmp 41) 23 ?hg1 w.heap.size 37 i1 (.slice none 0 0) 1 24 Try.underlying23 hi1 hz3 hz4 hz5 ?hg2 (by decide) vz p (hdL p k pl) ?hg3 HO.out ⟨w1.heap.size, 0, none⟩ 1 1 [.slice (some ⟨g, 0, none⟩) k cg] ?hg4 ?hg5 ?hc1 ?hc2 ?hc3 ?hc4 ?hc5 ?_)
             case hg0 => rfl
             case hg1 => rfl
             case hg2 => rfl
             case hg3 => rfl
             case hg4 => rfl
             case hg5 => rfl
             case hc1 => exact cell_one_new _ _ _
             case hc2 => simp [Value.oneCell']
             case hc3 => unfold maxLen; omega
             case hc4 => omega
             case hc5 => simp; omega
             intro v2 w2 hown2 hgrow2 _ hat2))
        have hg1 := gridP_more HGR.out hgc hgm HB2.out hsz hgb HR2.out hgrow2 hown2 hat2
        have hB1 : Below w.heap.size w w2 := (HBE.out.trans (HB2.out.mono hsz)).grown hgrow2 (by simp; omega) (fun j hj => (World.ownsRow.lt HO.out j hj).1)
        clear hown2 hgrow2 hat2
        go_roundw
        case rel =>
          have e : (fun i => if i = p then F q else pickF F R i) = pickF F R := by
            funext i
            by_cases e : i = p
            · subst e; rw [if_pos rfl]; funext j; unfold pickF; rw [HXE.out]; rfl
            · rw [if_neg e]
          rw [e] at hg1
          refine ⟨p + 1, v2, _, by omega, by go_num, rfl, hg1, fun i hi => ?_, hB1⟩
          by_cases e : i = p
          · subst e; rw [HXE.out]; omega
          · exact HALL.out i (by omega)
        case measure => simp [intOf]; omega
      · have HNO : Hid (¬ InRows r R) := Lib.hid (fun h => hin (by have := h p (by rw [← HN.out]; exact hlt); rw [hxe] at this; exact this))
        clear hxe
        by_cases hx0 : x < 0
        · have hq1 : decide (x < 0) = true := by simpa using hx0
          clear hin
          go_wp2
          go_ret2
          exact ⟨fun h => absurd h HNO.out, fun _ => ⟨rfl, HBE.out⟩⟩
        · have hq1 : decide (x < 0) = false := by simpa using hx0
          have hx1 : (r : Int) ≤ x := by omega
          have hq2 : decide ((r : Int) ≤ x) = true := by simpa using hx1
          clear hin
          go_wp2
          go_ret2
          exact ⟨fun h => absurd h HNO.out, fun _ => ⟨rfl, HBE.out⟩⟩
    · obtain rfl : p = n := by omega
      have HOUT : Hid (Grid wr w.heap.size vz p k (pickF F R)) := Lib.hid (GridO.grid ⟨pl, HGR.out⟩ (by omega))
      go_wp2
      go_ret2
      exact ⟨fun _ => ⟨_, rfl, by rw [← HN.out]; exact HOUT.out, HBE.out⟩, fun h => absurd (fun i hi => HALL.out i (by rw [HN.out]; exact hi)) h⟩
end Go.Proofs.Ytpldnbfbpajbkaa
