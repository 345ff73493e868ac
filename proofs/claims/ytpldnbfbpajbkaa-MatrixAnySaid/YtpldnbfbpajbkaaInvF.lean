/- The contract of caulkref03.Invert. -/
import Derived.Test.YtpldnbfbpajbkaaInvE
namespace Go.Proofs.Ytpldnbfbpajbkaa
open Go.RowKit
open Caulk.Lin (Fn2 sx swp scl elm pv stp gjN wide0 invM)
open Caulk.Gf (mul putL scaleL)

/-- The two grids of the document's own inverse: the left and the right half of W. -/
def Two (w : World) (B U ba bb ca cb n : Nat) (fa fb : Fn2) : Prop :=
  Grid w B (.slice (some ⟨ba, 0, none⟩) n ca) n n fa ∧ BoundH w U (.slice (some ⟨ba, 0, none⟩) n ca) n ∧ Grid w U (.slice (some ⟨bb, 0, none⟩) n cb) n n fb ∧ B ≤ U ∧ U ≤ w.heap.size
theorem Two.congr {w : World} {B U ba bb ca cb n : Nat} {fa fb ga gb : Fn2} (h : Two w B U ba bb ca cb n fa fb) (h1 : ∀ i, i < n → ∀ j, j < n → fa i j = ga i j) (h2 : ∀ i, i < n → ∀ j, j < n → fb i j = gb i j) : Two w B U ba bb ca cb n ga gb :=
  ⟨h.1.congr h1, h.2.1, h.2.2.1.congr h2, h.2.2.2⟩
theorem Two.drew {w : World} {B U ba bb ca cb n : Nat} {fa fb : Fn2} (h : Two w B U ba bb ca cb n fa fb) : Two w.drew B U ba bb ca cb n fa fb := h
/-- A byte of the left half. -/
theorem Two.left {w : World} {B U ba bb ca cb n : Nat} {fa fb : Fn2} (h : Two w B U ba bb ca cb n fa fb) (i j : Nat) (hi : i < n) (hj : j < n) :
    ∃ b' off' cap', w.cell? ⟨ba, i, none⟩ = some (.slice (some ⟨b', off', none⟩) n cap') ∧ w.cell? ⟨b', off' + j, none⟩ = some (.int .u8 ((fa i j).toNat : Int)) ∧ w.frozen? ⟨b', off' + j, none⟩ = false ∧ B ≤ b' ∧
      ∀ x : UInt8, Two (w.setCell ⟨b', off' + j, none⟩ (.int .u8 (x.toNat : Int))) B U ba bb ca cb n (fun i' j' => if i' = i ∧ j' = j then x else fa i' j') fb := by
  obtain ⟨h1, h2, h3, h4, h5⟩ := h
  obtain ⟨b', off', cap', a1, a2, a3, a4, a5, a6, a7⟩ := h1.byte i j hi hj
  exact ⟨b', off', cap', a1, a2, a3, a4, fun x => ⟨a7 x, h2.set (p := ⟨b', off' + j, none⟩) a6 _, h3.setBelow (p := ⟨b', off' + j, none⟩) (h2.head.2 i hi _ _ _ _ a1) _, h4, by rw [World.size_setCell]; exact h5⟩⟩
/-- A byte of the right half. -/
theorem Two.right {w : World} {B U ba bb ca cb n : Nat} {fa fb : Fn2} (h : Two w B U ba bb ca cb n fa fb) (i j : Nat) (hi : i < n) (hj : j < n) :
    ∃ b' off' cap', w.cell? ⟨bb, i, none⟩ = some (.slice (some ⟨b', off', none⟩) n cap') ∧ w.cell? ⟨b', off' + j, none⟩ = some (.int .u8 ((fb i j).toNat : Int)) ∧ w.frozen? ⟨b', off' + j, none⟩ = false ∧ B ≤ b' ∧
      ∀ x : UInt8, Two (w.setCell ⟨b', off' + j, none⟩ (.int .u8 (x.toNat : Int))) B U ba bb ca cb n fa (fun i' j' => if i' = i ∧ j' = j then x else fb i' j') := by
  obtain ⟨h1, h2, h3, h4, h5⟩ := h
  obtain ⟨b', off', cap', a1, a2, a3, a4, a5, a6, a7⟩ := h3.byte i j hi hj
  refine ⟨b', off', cap', a1, a2, a3, Nat.le_trans h4 a4, fun x => ?_⟩
  have hb : Below U w (w.setCell ⟨b', off' + j, none⟩ (.int .u8 (x.toNat : Int))) := (Below.refl U w).setCell (p := ⟨b', off' + j, none⟩) a4 _
  have hu := h1.under h2 hb
  exact ⟨hu.1, hu.2, a7 x, h4, Nat.le_trans h5 hb.size⟩
/-- Two heads of the left half exchanged. -/
theorem Two.swapL {w : World} {B U ba bb ca cb n : Nat} {fa fb : Fn2} (h : Two w B U ba bb ca cb n fa fb) (i j : Nat) (hi : i < n) (hj : j < n) :
    ∃ a1 c1 a2 c2, w.cell? ⟨ba, i, none⟩ = some (.slice (some a1) n c1) ∧ w.frozen? ⟨ba, i, none⟩ = false ∧ w.cell? ⟨ba, j, none⟩ = some (.slice (some a2) n c2) ∧ w.frozen? ⟨ba, j, none⟩ = false ∧ B ≤ ba ∧
      Two ((w.setCell ⟨ba, i, none⟩ (.slice (some a2) n c2)).setCell ⟨ba, j, none⟩ (.slice (some a1) n c1)) B U ba bb ca cb n (swp fa i j) fb := by
  obtain ⟨h1, h2, h3, h4, h5⟩ := h
  obtain ⟨x, y, g1, g2, g3, g4, ⟨a1, c1, rfl⟩, ⟨a2, c2, rfl⟩, g5, g6, g7⟩ := h1.swap i j hi hj
  exact ⟨a1, c1, a2, c2, g1, g2, g3, g4, g5, g7 w rfl, h2.swap hi hj g1 g3, (h3.setBelow (p := ⟨ba, i, none⟩) h2.head.1 _).setBelow (p := ⟨ba, j, none⟩) h2.head.1 _, h4, by rw [World.size_setCell, World.size_setCell]; exact h5⟩
/-- Two heads of the right half exchanged. -/
theorem Two.swapR {w : World} {B U ba bb ca cb n : Nat} {fa fb : Fn2} (h : Two w B U ba bb ca cb n fa fb) (i j : Nat) (hi : i < n) (hj : j < n) :
    ∃ a1 c1 a2 c2, w.cell? ⟨bb, i, none⟩ = some (.slice (some a1) n c1) ∧ w.frozen? ⟨bb, i, none⟩ = false ∧ w.cell? ⟨bb, j, none⟩ = some (.slice (some a2) n c2) ∧ w.frozen? ⟨bb, j, none⟩ = false ∧ B ≤ bb ∧
      Two ((w.setCell ⟨bb, i, none⟩ (.slice (some a2) n c2)).setCell ⟨bb, j, none⟩ (.slice (some a1) n c1)) B U ba bb ca cb n fa (swp fb i j) := by
  obtain ⟨h1, h2, h3, h4, h5⟩ := h
  obtain ⟨x, y, g1, g2, g3, g4, ⟨a1, c1, rfl⟩, ⟨a2, c2, rfl⟩, g5, g6, g7⟩ := h3.swap i j hi hj
  have hb : Below U w ((w.setCell ⟨bb, i, none⟩ (.slice (some a2) n c2)).setCell ⟨bb, j, none⟩ (.slice (some a1) n c1)) := ((Below.refl U w).setCell (p := ⟨bb, i, none⟩) g5 _).setCell (p := ⟨bb, j, none⟩) g5 _
  have hu := h1.under h2 hb
  exact ⟨a1, c1, a2, c2, g1, g2, g3, g4, Nat.le_trans h4 g5, hu.1, hu.2, g7 w rfl, h4, Nat.le_trans h5 hb.size⟩

set_option maxRecDepth 100000 in
set_option maxHeartbeats 4000000 in
theorem refInvert_any {w : World} {B n : Nat} {v : Value} {F : Fn2} (hM : MatV w B v (rowsL n n F)) (hB : B ≤ w.heap.size) (hn1 : 1 ≤ n) (hn2 : n ≤ 255) :
    Calls Try.prog 23 #[v] w (InvPost w n F) := by
  have hck := refCheck_any hM
  rw [ckE_yes (right_rowsL hn1 hn2 hn1 hn2)] at hck
  have HMV := Lib.hid hM
  obtain ⟨b1, off1, cap1, rfl, hrc1, hcm1, hread1⟩ := hM.reads hB hn1 hn1
  unfold maxLen at hcm1
  obtain ⟨b2, off2, cap2, h2, _, hc2, hcm2, _⟩ := hread1 w (Below.refl _ _) 0 hn1
  rw [Nat.add_zero] at h2
  unfold maxLen at hcm2
  have HCK := Lib.hid hck
  clear hck hread1 hM
  have hne1 : ((n : Int) == (n : Int)) = true := by simp
  have hne : ((n : Int) != (n : Int)) = false := by simp
  go_enter Try.func23, Try.ntmps23
  go_wp2_with fail
  refine HCK.out.mono ?_
  rintro e w' ⟨rfl, rfl⟩
  go_wp2_with fail
  refine (refunit_any n hn1 hn2 _).mono ?_
  rintro e w1 ⟨vu, rfl, hgu, hbu⟩
  have hmm := refMatMul_any (HMV.out.below hbu hB) (Nat.le_trans hB hbu.size) hgu.mat (Nat.le_refl _) hn1 hn2 hn1 hn2 hn1 hn2
  have HMM := Lib.hid hmm
  have HBU := Lib.hid hbu
  clear hmm hbu hgu h2 hne hne1 HCK
  go_wp2_with fail
  refine HMM.out.mono ?_
  rintro e w2 ⟨va, rfl, hga, hba⟩
  obtain ⟨ba, ca, rfl, hnca, hcam, hbba⟩ := hga.shape
  unfold maxLen at hcam
  have HGA := Lib.hid (hga.congr (g := F) (fun i _ j hj => mulF_unit hj))
  have HBA : Hid (Below w.heap.size w w2) := Lib.hid (HBU.out.trans (hba.mono HBU.out.size))
  have hs1 := HBU.out.size
  clear hga hba HMM
  go_wp2_with fail
  refine (refunit_any n hn1 hn2 _).mono ?_
  rintro e w3 ⟨vb, rfl, hgb, hbb⟩
  obtain ⟨bb, cb, rfl, hncb, hcbm, hbbb⟩ := hgb.shape
  unfold maxLen at hcbm
  have hT : Two w3 w.heap.size w2.heap.size ba bb ca cb n F unitF := by
    have hu := (HGA.out.lower hs1).under HGA.out.boundH hbb
    exact ⟨hu.1, hu.2, hgb, HBA.out.size, hbb.size⟩
  have HT : Hid (Two w3 w.heap.size w2.heap.size ba bb ca cb n (fun r c => wide0 n F r c) (fun r c => wide0 n F r (n + c))) := Lib.hid (hT.congr (fun i _ j hj => by unfold wide0; rw [if_pos hj]) (fun i _ j _ => by
    have hw : wide0 n F i (n + j) = if n + j = n + i then 1 else 0 := if_neg (by omega)
    rw [hw]
    unfold unitF
    by_cases e : i = j
    · rw [if_pos e, if_pos (by omega)]
    · rw [if_neg e, if_neg (by omega)]))
  have HB3 : Hid (Below w.heap.size w w3) := Lib.hid (HBA.out.trans (hbb.mono HBA.out.size))
  obtain ⟨U, hU⟩ : ∃ U, U = w2.heap.size := ⟨_, rfl⟩
  rw [← hU] at HT
  clear hT hgb hbb hU HGA HBA HBU
  go_wp2
  go_loopw [8] (fun i wr => ∃ (c : Nat) (W : Fn2), c ≤ n ∧ i = .int .i64 c ∧ gjN n (wide0 n F) c = some W ∧ Two wr w.heap.size U ba bb ca cb n (fun r j => W r j) (fun r j => W r (n + j)) ∧ Below w.heap.size w wr) (fun i _ => n - (intOf i).toNat)
  case atStart => exact ⟨0, _, by omega, rfl, rfl, HT.out, HB3.out⟩
  case round =>
    clear HT HB3
    obtain ⟨c, W, hc, rfl, hgj, htw, hbe⟩ := hrel
    have HGJ := Lib.hid hgj
    have HTW := Lib.hid htw
    have HBE := Lib.hid hbe
    clear htw hbe hgj
    by_cases hlt : c < n
    · obtain ⟨wo, rfl⟩ : ∃ wo : World, wo = wr := ⟨_, rfl⟩
      go_wp2
      go_loop [9] (fun i => ∃ p : Nat, c ≤ p ∧ p ≤ n ∧ i = .int .i64 p ∧ ∀ j, c ≤ j → j < p → W j c = 0) (fun i => n - (intOf i).toNat)
      case atStart => exact ⟨c, Nat.le_refl _, by omega, rfl, fun j h1 h2 => by omega⟩
      case round =>
        obtain ⟨p, hp1, hp2, rfl, hz⟩ := hrel
        have HZ := Lib.hid hz
        clear hz
        by_cases hlt2 : p < n
        · obtain ⟨b5, off5, cap5, hh5, hx5, _, _, _⟩ := HTW.out.left p c hlt2 hlt
          obtain ⟨x, hx⟩ : ∃ x, x = W p c := ⟨_, rfl⟩
          rw [← hx] at hx5
          obtain ⟨e1, e2⟩ := byte_zero x
          have HX := Lib.hid hx
          clear hx
          by_cases hx0 : x = 0
          · rw [decide_eq_true hx0] at e1 e2
            have HX0 := Lib.hid hx0
            clear hx0
            go_wp2
            go_round
            case rel =>
              refine ⟨p + 1, by omega, by omega, by go_num, fun j h1 h2 => ?_⟩
              by_cases e : j = p
              · subst e; rw [← HX.out]; exact HX0.out
              · exact HZ.out j h1 (by omega)
            case measure => simp [intOf]; omega
          · rw [decide_eq_false hx0] at e1 e2
            have hpn1 : ((p : Int) == (n : Int)) = false := by simp; omega
            have hpv : pv W c (n - c) c = p := Caulk.Lin.pv_unique hp1 (by omega) HZ.out (fun _ => by rw [← HX.out]; exact hx0)
            have hst : stp n W c = some (elm (scl (swp W c p) c (invB x)) c) := by
              unfold stp
              rw [hpv, if_pos hlt2, ← HX.out]
              unfold invB
              rw [if_neg hx0]
            have HST := Lib.hid hst
            have HX0 := Lib.hid hx0
            clear hx0 hpv hst
            go_wp2
            clear hh5 hx5
            obtain ⟨a1, k1, a2, k2, g1, g2, g3, g4, g5, gT⟩ := HTW.out.swapL c p hlt hlt2
            obtain ⟨v2, hv2⟩ := cell?_setCell_some (w := wo) (p := ⟨ba, c, none⟩) (x := .slice (some a2) n k2) (q := ⟨ba, p, none⟩) (v := .slice (some a2) n k2) g3
            have hb1 : Below w.heap.size w ((wo.setCell ⟨ba, c, none⟩ (.slice (some a2) n k2)).setCell ⟨ba, p, none⟩ (.slice (some a1) n k1)).drew := ((HBE.out.setCell (p := ⟨ba, c, none⟩) g5 _).setCell (p := ⟨ba, p, none⟩) g5 _).drew
            have HG := Lib.hid gT.drew
            have HB1 := Lib.hid hb1
            clear gT hb1
            go_region
            clear g1 g2 g3 g4 hv2
            generalize ((wo.setCell ⟨ba, c, none⟩ (.slice (some a2) n k2)).setCell ⟨ba, p, none⟩ (.slice (some a1) n k1)).drew = W1 at *
            obtain ⟨a3, k3, a4, k4, g1, g2, g3, g4, g5, gT⟩ := HG.out.swapR c p hlt hlt2
            obtain ⟨v3, hv3⟩ := cell?_setCell_some (w := W1) (p := ⟨bb, c, none⟩) (x := .slice (some a4) n k4) (q := ⟨bb, p, none⟩) (v := .slice (some a4) n k4) g3
            have hb1 : Below w.heap.size w ((W1.setCell ⟨bb, c, none⟩ (.slice (some a4) n k4)).setCell ⟨bb, p, none⟩ (.slice (some a3) n k3)).drew := ((HB1.out.setCell (p := ⟨bb, c, none⟩) g5 _).setCell (p := ⟨bb, p, none⟩) g5 _).drew
            have HG2 := Lib.hid (gT.drew.congr (ga := fun r j => swp W c p r j) (gb := fun r j => swp W c p r (n + j)) (fun r _ j _ => by unfold swp; split <;> (try split) <;> rfl) (fun r _ j _ => by unfold swp; split <;> (try split) <;> rfl))
            have HB2 := Lib.hid hb1
            clear gT hb1 HG HB1
            go_wp2
            go_region
            clear g1 g2 g3 g4 hv3
            generalize ((W1.setCell ⟨bb, c, none⟩ (.slice (some a4) n k4)).setCell ⟨bb, p, none⟩ (.slice (some a3) n k3)).drew = W2 at *
            obtain ⟨b6, off6, cap6, h6, hx6, _, _, _⟩ := HG2.out.left c c hlt hlt
            have hsw : swp W c p c c = x := by rw [HX.out]; simp [swp]
            rw [hsw] at hx6
            clear hsw
            go_wp2_with fail
            refine (refInv_any x _).mono ?_
            rintro e w4 ⟨rfl, rfl⟩
            clear h6 hx6
            generalize invB x = y at *
            generalize swp W c p = V0 at *
            go_wp2
            go_loopw [12] (fun i wr => ∃ q : Nat, q ≤ n ∧ i = .int .i64 q ∧ Two wr w.heap.size U ba bb ca cb n (fun r j => if r = c ∧ j < q then scl V0 c y r j else V0 r j) (fun r j => if r = c ∧ j < q then scl V0 c y r (n + j) else V0 r (n + j)) ∧ Below w.heap.size w wr) (fun i _ => n - (intOf i).toNat)
            case atStart => exact ⟨0, by omega, rfl, HG2.out.congr (fun r _ j _ => by rw [if_neg (by omega)]) (fun r _ j _ => by rw [if_neg (by omega)]), HB2.out⟩
            case round =>
              clear HG2 HB2
              obtain ⟨q, hq, rfl, htw, hbe⟩ := hrel
              have HBE := Lib.hid hbe
              clear hbe
              by_cases hlt3 : q < n
              · obtain ⟨b7, off7, cap7, h7, hx7, hz7, hB7, hs7⟩ := htw.left c q hlt hlt3
                rw [if_neg (by omega)] at hx7
                have HT7 := Lib.hid (hs7 (mul (V0 c q) y)).drew
                have HB7 : Hid (Below w.heap.size w (wr.setCell ⟨b7, off7 + q, none⟩ (.int .u8 ((mul (V0 c q) y).toNat : Int))).drew) := Lib.hid (HBE.out.setCell (p := ⟨b7, off7 + q, none⟩) hB7 _).drew
                clear hs7 htw
                obtain ⟨z, hz⟩ : ∃ z, z = V0 c q := ⟨_, rfl⟩
                rw [← hz] at hx7 HT7 HB7
                have HZ2 := Lib.hid hz
                clear hz
                go_wp2_with fail
                go_still_tail 15, (by kernel_rfl)
                still_call (refMul_still z y _)
                repeat still_step
                refine wpStill_nil ?_
                change wpList _ _ _ _ _ wr.drew
                go_wp2
                clear h7 hx7 hz7
                generalize (wr.setCell ⟨b7, off7 + q, none⟩ (.int .u8 ((mul z y).toNat : Int))).drew = W5 at *
                obtain ⟨b8, off8, cap8, h8, hx8, hz8, hB8, hs8⟩ := HT7.out.right c q hlt hlt3
                rw [if_neg (by omega)] at hx8
                have HT8 := Lib.hid (hs8 (mul (V0 c (n + q)) y)).drew
                have HB8 : Hid (Below w.heap.size w (W5.setCell ⟨b8, off8 + q, none⟩ (.int .u8 ((mul (V0 c (n + q)) y).toNat : Int))).drew) := Lib.hid (HB7.out.setCell (p := ⟨b8, off8 + q, none⟩) hB8 _).drew
                clear hs8 HT7 HB7
                obtain ⟨z2, hz2⟩ : ∃ z2, z2 = V0 c (n + q) := ⟨_, rfl⟩
                rw [← hz2] at hx8 HT8 HB8
                have HZ3 := Lib.hid hz2
                clear hz2
                go_still_tail 15, (by kernel_rfl)
                still_call (refMul_still z2 y _)
                repeat still_step
                refine wpStill_nil ?_
                change wpList _ _ _ _ _ W5.drew
                go_wp2
                go_roundw
                case rel =>
                  refine ⟨q + 1, by omega, by go_num, HT8.out.congr (fun r _ j _ => ?_) (fun r _ j _ => ?_), HB8.out⟩
                  · by_cases e : r = c ∧ j = q
                    · obtain ⟨rfl, rfl⟩ := e
                      rw [if_pos ⟨rfl, rfl⟩, if_pos ⟨rfl, Nat.lt_succ_self _⟩, HZ2.out]
                      unfold scl; rw [if_pos rfl, Caulk.Gf.mul_comm]
                    · rw [if_neg e]
                      by_cases e2 : r = c ∧ j < q
                      · rw [if_pos e2, if_pos (by omega)]
                      · rw [if_neg e2, if_neg (by omega)]
                  · by_cases e : r = c ∧ j = q
                    · obtain ⟨rfl, rfl⟩ := e
                      rw [if_pos ⟨rfl, rfl⟩, if_pos ⟨rfl, Nat.lt_succ_self _⟩, HZ3.out]
                      unfold scl; rw [if_pos rfl, Caulk.Gf.mul_comm]
                    · rw [if_neg e]
                      by_cases e2 : r = c ∧ j < q
                      · rw [if_pos e2, if_pos (by omega)]
                      · rw [if_neg e2, if_neg (by omega)]
                case measure => simp [intOf]; omega
              · obtain rfl : q = n := by omega
                have HT9 : Hid (Two wr w.heap.size U ba bb ca cb q (fun r j => scl V0 c y r j) (fun r j => scl V0 c y r (q + j))) := Lib.hid (htw.congr (fun r _ j hj => by
                  by_cases e : r = c
                  · rw [if_pos ⟨e, hj⟩]
                  · rw [if_neg (fun h => e h.1)]; unfold scl; rw [if_neg e]) (fun r _ j hj => by
                  by_cases e : r = c
                  · rw [if_pos ⟨e, hj⟩]
                  · rw [if_neg (fun h => e h.1)]; unfold scl; rw [if_neg e]))
                clear htw
                generalize scl V0 c y = V at *
                go_wp2
                go_loopw [13] (fun i wr => ∃ s : Nat, s ≤ q ∧ i = .int .i64 s ∧ Two wr w.heap.size U ba bb ca cb q (fun r j => if r < s then elm V c r j else V r j) (fun r j => if r < s then elm V c r (q + j) else V r (q + j)) ∧ Below w.heap.size w wr) (fun i _ => q - (intOf i).toNat)
                case atStart => exact ⟨0, by omega, rfl, HT9.out.congr (fun r _ j _ => by rw [if_neg (by omega)]) (fun r _ j _ => by rw [if_neg (by omega)]), HBE.out⟩
                case round =>
                  clear HT9 HBE
                  obtain ⟨s, hs, rfl, htw, hbe⟩ := hrel
                  have HTS := Lib.hid htw
                  have HBE := Lib.hid hbe
                  clear hbe htw
                  by_cases hlt4 : s < q
                  · obtain ⟨b9, off9, cap9, h9, hx9, _, _, _⟩ := HTS.out.left s c hlt4 hlt
                    rw [if_neg (Nat.lt_irrefl s)] at hx9
                    obtain ⟨z, hz⟩ : ∃ z, z = V s c := ⟨_, rfl⟩
                    rw [← hz] at hx9
                    have HZ4 := Lib.hid hz
                    clear hz
                    by_cases hsc : s = c
                    · have d1 : ((s : Int) == (c : Int)) = true := by rw [hsc]; simp
                      have d2 : ((s : Int) != (c : Int)) = false := by rw [hsc]; simp
                      have HTN := Lib.hid (HTS.out.congr (ga := fun r j => if r < s + 1 then elm V c r j else V r j) (gb := fun r j => if r < s + 1 then elm V c r (q + j) else V r (q + j)) (fun r _ j _ => by
                        by_cases e : r = s
                        · rw [if_neg (by omega), if_pos (by omega)]; unfold elm; rw [if_pos (e.trans hsc)]
                        · by_cases e2 : r < s
                          · rw [if_pos e2, if_pos (by omega)]
                          · rw [if_neg e2, if_neg (by omega)]) (fun r _ j _ => by
                        by_cases e : r = s
                        · rw [if_neg (by omega), if_pos (by omega)]; unfold elm; rw [if_pos (e.trans hsc)]
                        · by_cases e2 : r < s
                          · rw [if_pos e2, if_pos (by omega)]
                          · rw [if_neg e2, if_neg (by omega)]))
                      clear hsc
                      go_wp2
                      refine wp_loop_rounds 1 ?_
                      rw [rounds_succ]
                      go_wp2
                      go_roundw
                      case rel => exact ⟨s + 1, by omega, by go_num, HTN.out, HBE.out⟩
                      case measure => simp [intOf]; omega
                    · have d1 : ((s : Int) == (c : Int)) = false := by simp; omega
                      have d2 : ((s : Int) != (c : Int)) = true := by simp; omega
                      have HSC := Lib.hid hsc
                      clear hsc
                      obtain ⟨wi, rfl⟩ : ∃ wi : World, wi = wr := ⟨_, rfl⟩
                      go_wp2
                      clear h9 hx9
                      go_loopw [15] (fun i wr => ∃ t : Nat, t ≤ q ∧ i = .int .i64 t ∧ Two wr w.heap.size U ba bb ca cb q (fun r j => if r < s ∨ (r = s ∧ j < t) then elm V c r j else V r j) (fun r j => if r < s ∨ (r = s ∧ j < t) then elm V c r (q + j) else V r (q + j)) ∧ Below w.heap.size w wr) (fun i _ => q - (intOf i).toNat)
                      case atStart =>
                        refine ⟨0, by omega, rfl, HTS.out.congr (fun r _ j _ => ?_) (fun r _ j _ => ?_), HBE.out⟩
                        · by_cases e : r < s
                          · rw [if_pos e, if_pos (by omega)]
                          · rw [if_neg e, if_neg (by omega)]
                        · by_cases e : r < s
                          · rw [if_pos e, if_pos (by omega)]
                          · rw [if_neg e, if_neg (by omega)]
                      case round =>
                        clear HTS HBE
                        obtain ⟨t, ht, rfl, htw, hbe⟩ := hrel
                        have HBE := Lib.hid hbe
                        clear hbe
                        by_cases hlt5 : t < q
                        · obtain ⟨b7, off7, cap7, h7, hx7, hz7, hB7, hs7⟩ := htw.left s t hlt4 hlt5
                          rw [if_neg (by omega)] at hx7
                          obtain ⟨b10, off10, cap10, h10, hx10, _, _, _⟩ := htw.left c t hlt hlt5
                          have hvc : (if c < s ∨ (c = s ∧ t < t) then elm V c c t else V c t) = V c t := by
                            split
                            · unfold elm; rw [if_pos rfl]
                            · rfl
                          rw [hvc] at hx10
                          have HT7 := Lib.hid (hs7 (bxor (V s t) (mul (V s c) (V c t)))).drew
                          have HB7 : Hid (Below w.heap.size w (wr.setCell ⟨b7, off7 + t, none⟩ (.int .u8 ((bxor (V s t) (mul (V s c) (V c t))).toNat : Int))).drew) := Lib.hid (HBE.out.setCell (p := ⟨b7, off7 + t, none⟩) hB7 _).drew
                          clear hs7 htw hvc
                          rw [← HZ4.out] at HT7 HB7
                          obtain ⟨xa, hxa⟩ : ∃ xa, xa = V s t := ⟨_, rfl⟩
                          obtain ⟨xb, hxb⟩ : ∃ xb, xb = V c t := ⟨_, rfl⟩
                          rw [← hxa] at hx7 HT7 HB7
                          rw [← hxb] at hx10 HT7 HB7
                          have HXA := Lib.hid hxa
                          have HXB := Lib.hid hxb
                          have h4 := u8_bxor xa (mul z xb)
                          clear hxa hxb
                          go_wp2_with fail
                          go_still_tail 18, (by kernel_rfl)
                          still_call (refMul_still z xb _)
                          repeat still_step
                          refine wpStill_nil ?_
                          change wpList _ _ _ _ _ wr.drew
                          go_wp2
                          clear h7 hx7 hz7 h10 hx10 h4
                          generalize (wr.setCell ⟨b7, off7 + t, none⟩ (.int .u8 ((bxor xa (mul z xb)).toNat : Int))).drew = W5 at *
                          obtain ⟨b8, off8, cap8, h8, hx8, hz8, hB8, hs8⟩ := HT7.out.right s t hlt4 hlt5
                          rw [if_neg (by omega)] at hx8
                          obtain ⟨b11, off11, cap11, h11, hx11, _, _, _⟩ := HT7.out.right c t hlt hlt5
                          have hvc : (if c < s ∨ (c = s ∧ t < t) then elm V c c (q + t) else V c (q + t)) = V c (q + t) := by
                            split
                            · unfold elm; rw [if_pos rfl]
                            · rfl
                          rw [hvc] at hx11
                          have HT8 := Lib.hid (hs8 (bxor (V s (q + t)) (mul z (V c (q + t))))).drew
                          have HB8 : Hid (Below w.heap.size w (W5.setCell ⟨b8, off8 + t, none⟩ (.int .u8 ((bxor (V s (q + t)) (mul z (V c (q + t)))).toNat : Int))).drew) := Lib.hid (HB7.out.setCell (p := ⟨b8, off8 + t, none⟩) hB8 _).drew
                          clear hs8 HT7 HB7 hvc
                          obtain ⟨ya, hya⟩ : ∃ ya, ya = V s (q + t) := ⟨_, rfl⟩
                          obtain ⟨yb, hyb⟩ : ∃ yb, yb = V c (q + t) := ⟨_, rfl⟩
                          rw [← hya] at hx8 HT8 HB8
                          rw [← hyb] at hx11 HT8 HB8
                          have HYA := Lib.hid hya
                          have HYB := Lib.hid hyb
                          have h4 := u8_bxor ya (mul z yb)
                          clear hya hyb
                          go_still_tail 18, (by kernel_rfl)
                          still_call (refMul_still z yb _)
                          repeat still_step
                          refine wpStill_nil ?_
                          change wpList _ _ _ _ _ W5.drew
                          go_wp2
                          go_roundw
                          case rel =>
                            refine ⟨t + 1, by omega, by go_num, HT8.out.congr (fun r _ j _ => ?_) (fun r _ j _ => ?_), HB8.out⟩
                            · by_cases e : r = s ∧ j = t
                              · obtain ⟨rfl, rfl⟩ := e
                                rw [if_pos ⟨rfl, rfl⟩, if_pos (.inr ⟨rfl, Nat.lt_succ_self _⟩), HXA.out, HXB.out, HZ4.out]
                                unfold elm bxor; rw [if_neg HSC.out]
                              · rw [if_neg e]
                                by_cases e2 : r < s ∨ (r = s ∧ j < t)
                                · rw [if_pos e2, if_pos (by omega)]
                                · rw [if_neg e2, if_neg (by omega)]
                            · by_cases e : r = s ∧ j = t
                              · obtain ⟨rfl, rfl⟩ := e
                                rw [if_pos ⟨rfl, rfl⟩, if_pos (.inr ⟨rfl, Nat.lt_succ_self _⟩), HYA.out, HYB.out, HZ4.out]
                                unfold elm bxor; rw [if_neg HSC.out]
                              · rw [if_neg e]
                                by_cases e2 : r < s ∨ (r = s ∧ j < t)
                                · rw [if_pos e2, if_pos (by omega)]
                                · rw [if_neg e2, if_neg (by omega)]
                          case measure => simp [intOf]; omega
                        · obtain rfl : t = q := by omega
                          have HTN := Lib.hid (htw.congr (ga := fun r j => if r < s + 1 then elm V c r j else V r j) (gb := fun r j => if r < s + 1 then elm V c r (t + j) else V r (t + j)) (fun r _ j hj => by
                            by_cases e : r < s + 1
                            · rw [if_pos e, if_pos (by omega)]
                            · rw [if_neg e, if_neg (by omega)]) (fun r _ j hj => by
                            by_cases e : r < s + 1
                            · rw [if_pos e, if_pos (by omega)]
                            · rw [if_neg e, if_neg (by omega)]))
                          clear htw
                          go_wp2
                          go_roundw
                          case rel => exact ⟨s + 1, by omega, by go_num, HTN.out, HBE.out⟩
                          case measure => simp [intOf]; omega
                  · obtain rfl : s = q := by omega
                    have HTN := Lib.hid (HTS.out.congr (ga := fun r j => elm V c r j) (gb := fun r j => elm V c r (s + j)) (fun r hr j _ => by rw [if_pos hr]) (fun r hr j _ => by rw [if_pos hr]))
                    have HGN : Hid (gjN s (wide0 s F) (c + 1) = some (elm V c)) := Lib.hid (by simp only [gjN]; rw [HGJ.out]; exact HST.out)
                    go_wp2
                    go_roundw
                    case rel => exact ⟨c + 1, _, by omega, by go_num, HGN.out, HTN.out, HBE.out⟩
                    case measure => simp [intOf]; omega
        · obtain rfl : p = n := by omega
          have hpn1 : ((p : Int) == (p : Int)) = true := by simp
          have hpv : pv W c (p - c) c = p := Caulk.Lin.pv_unique hp1 (by omega) HZ.out (fun h => by omega)
          have hst : stp p W c = none := by unfold stp; rw [hpv, if_neg (Nat.lt_irrefl p)]
          have HNO := Lib.hid (inv_no HGJ.out hst hlt)
          clear hpv hst
          go_wp2
          go_ret2
          exact ⟨fun X hX => absurd (hX.symm.trans HNO.out) (by simp), fun _ => ⟨rfl, HBE.out⟩⟩
    · obtain rfl : c = n := by omega
      have HY := Lib.hid (inv_yes HGJ.out)
      have HGF := Lib.hid (HTW.out.2.2.1.lower HTW.out.2.2.2.1)
      clear HGJ
      go_wp2
      go_ret2
      exact ⟨fun X hX => by
        obtain rfl := Option.some.inj (hX.symm.trans HY.out)
        exact ⟨_, rfl, HGF.out, HBE.out⟩, fun h => absurd (h.symm.trans HY.out) (by simp)⟩
end Go.Proofs.Ytpldnbfbpajbkaa
