/- The contract of matrix.settle. -/
import Derived.Test.YtpldnbfbpajbkabDoorInvB
import Derived.BigRegion
namespace Go.Proofs.YtpldnbfbpajbkabDoor
open Go.RowKit
open Caulk.Lin (Fn2 sx swp scl elm pv stp gjN wide0 invM)
open Caulk.Gf (mul putL scaleL)

/-- What settle answers, and makes. -/
def SettlePost (w : World) (B : Nat) (v : Value) (n k : Nat) (W : Fn2) (c : Nat) (e : Ending) (w' : World) : Prop :=
  (∀ V, stp n W c = some V → e = .returned (.int .i64 0) ∧ Grid w' B v n k V ∧ Below B w w') ∧ (stp n W c = none → e = .returned (.int .i64 13) ∧ Below B w w')
theorem scaleL_rowL (c : UInt8) (k : Nat) (f : Nat → UInt8) : scaleL c (rowL k f) = rowL k (fun j => mul c (f j)) := by
  unfold scaleL rowL; rw [List.map_map]; rfl
theorem settle_yes {n c : Nat} {W : Fn2} (hc : c < n) (h : W (pvq n W c) c ≠ 0) : pvq n W c < n ∧ stp n W c = some (elm (scl (swp W c (pvq n W c)) c (invB (W (pvq n W c) c))) c) := by
  have hs := Caulk.Lin.pv_spec W c (n - c) c
  have hq : pvq n W c < n ∧ pv W c (n - c) c < n ∧ pvq n W c = pv W c (n - c) c := by
    unfold pvq at h ⊢
    by_cases e : pv W c (n - c) c < n
    · rw [if_pos e]; exact ⟨e, e, rfl⟩
    · rw [if_neg e] at h
      exact absurd (hs.2.2.1 c (Nat.le_refl _) (by omega)) h
  refine ⟨hq.1, ?_⟩
  unfold stp
  rw [if_pos hq.2.1, ← hq.2.2]
  unfold invB
  rw [if_neg h]
theorem settle_no {n c : Nat} {W : Fn2} (hc : c < n) (h : W (pvq n W c) c = 0) : pvq n W c < n ∧ stp n W c = none := by
  have hs := Caulk.Lin.pv_spec W c (n - c) c
  unfold pvq at h ⊢
  by_cases e : pv W c (n - c) c < n
  · rw [if_pos e] at h
    exact absurd h (hs.2.2.2 (by omega))
  · rw [if_neg e]
    unfold stp
    exact ⟨hc, if_neg e⟩

set_option maxHeartbeats 2000000 in
theorem settle_any {w : World} {B b cap n k : Nat} {W : Fn2} (hg : Grid w B (.slice (some ⟨b, 0, none⟩) n cap) n k W) (hB : B ≤ w.heap.size) (c : Nat) (hc : c < n) (hck : c < k) (hn : n ≤ 255) (hk : k ≤ 510) :
    Calls Tryd.prog 24 #[.slice (some ⟨b, 0, none⟩) n cap, .int .i64 (c : Int)] w (SettlePost w B (.slice (some ⟨b, 0, none⟩) n cap) n k W c) := by
  have hcm : cap ≤ 9223372036854775807 := by
    obtain ⟨b2, n2, e, _, hm, _⟩ := hg.shape
    injection e with _ _ e3
    subst e3; unfold maxLen at hm; omega
  obtain ⟨q, hq⟩ : ∃ q, q = pvq n W c := ⟨_, rfl⟩
  have hpiv := pivot_any hg c hc hck hn hk
  rw [← hq] at hpiv
  have hqn : q < n := by
    rw [hq]
    by_cases e : W (pvq n W c) c = 0
    · exact (settle_no hc e).1
    · exact (settle_yes hc e).1
  have HQ := Lib.hid hq
  obtain ⟨hx, hy, hc1, hf1, hc2, hf2, ⟨a1, k1, rfl⟩, ⟨a2, k2, rfl⟩, hBb, hbl, hsw⟩ := hg.swap c q hc hqn
  have HSW := Lib.hid hsw
  have HPV := Lib.hid hpiv
  obtain ⟨v2, hv2⟩ := cell?_setCell_some (w := w) (p := ⟨b, c, none⟩) (x := .slice (some a2) k k2) (q := ⟨b, q, none⟩) (v := .slice (some a2) k k2) hc2
  clear hg hq hsw hpiv
  go_enter Tryd.func24, Tryd.ntmps24
  go_wp2_with fail
  refine HPV.out.mono ?_
  rintro e w' ⟨rfl, rfl⟩
  clear HPV
  go_wp2
  go_region
  have hg1 := HSW.out w rfl
  have hb1 : Below B w ((w.setCell ⟨b, c, none⟩ (.slice (some a2) k k2)).setCell ⟨b, q, none⟩ (.slice (some a1) k k1)).drew := ((Below.refl B w).setCell (p := ⟨b, c, none⟩) hBb _).setCell (p := ⟨b, q, none⟩) hBb _ |>.drew
  have hs1 : B ≤ ((w.setCell ⟨b, c, none⟩ (.slice (some a2) k k2)).setCell ⟨b, q, none⟩ (.slice (some a1) k k1)).drew.heap.size := Nat.le_trans hB hb1.size
  replace hg1 : Grid ((w.setCell ⟨b, c, none⟩ (.slice (some a2) k k2)).setCell ⟨b, q, none⟩ (.slice (some a1) k k1)).drew B (.slice (some ⟨b, 0, none⟩) n cap) n k (swp W c q) := hg1.drew
  clear HSW hv2 hc1 hf1 hc2 hf2
  generalize ((w.setCell ⟨b, c, none⟩ (.slice (some a2) k k2)).setCell ⟨b, q, none⟩ (.slice (some a1) k k1)).drew = W1 at *
  have HG1 := Lib.hid hg1
  have HB1 := Lib.hid hb1
  clear hg1 hb1
  obtain ⟨b5, off5, cap5, hh5, hx5, hz5, hB5, hl5, hn5, hset5⟩ := HG1.out.byte c c hc hck
  have hsw : swp W c q c = W q := by simp [swp]
  rw [hsw] at hx5
  have HSWP := Lib.hid hsw
  obtain ⟨x, hx⟩ : ∃ x, x = W q c := ⟨_, rfl⟩
  rw [← hx] at hx5
  clear hset5 hsw
  by_cases hx0 : x = 0
  · have hst : stp n W c = none := (settle_no hc (by rw [← HQ.out, ← hx]; exact hx0)).2
    have HE : errI x = 13 := by unfold errI; rw [if_pos hx0]
    have HST := Lib.hid hst
    clear hx hx0 hst
    go_wp2_with fail
    refine (gfInv_any x _).mono ?_
    rintro e w2 ⟨rfl, hb2⟩
    have HB2 : Hid (Below B w w2) := Lib.hid (HB1.out.trans (hb2.mono hs1))
    clear hb2
    go_wp2
    go_ret
    exact ⟨fun V hV => absurd (hV.symm.trans HST.out) (by simp), fun _ => ⟨rfl, HB2.out⟩⟩
  · have hst := (settle_yes hc (by rw [← HQ.out, ← hx]; exact hx0)).2
    rw [← HQ.out, ← hx] at hst
    have HE : errI x = 0 := by unfold errI; rw [if_neg hx0]
    have HST := Lib.hid hst
    clear hx hx0 hst
    go_wp2_with fail
    refine (gfInv_any x _).mono ?_
    rintro e w2 ⟨rfl, hb2⟩
    generalize invB x = y at *
    obtain ⟨b6, off6, cap6, h6, hf6, hc6, hcm6, hB6, hnb6, hrow6, _⟩ := (HG1.out.below hb2).at c hc
    rw [HSWP.out] at hrow6
    have hcv : (convert 40 9 (.slice (some ⟨b6, off6, none⟩) k cap6)).run Tryd.prog w2 = .ok (.string ⟨(rowL k (W q)).toArray⟩) w2 :=
      RowV.string (B := w2.heap.size) ⟨_, _, by rw [rowL_len], by simp, by rw [rowL_len]; exact hc6, hcm6, .inr ⟨b6, off6, rfl, hrow6.1, fun j hj => (hrow6.2 j hj).1⟩⟩
    obtain ⟨S, hS⟩ : ∃ S, S = ByteArray.mk (rowL k (W q)).toArray := ⟨_, rfl⟩
    have hsc := scale_any y S (by rw [hS, size_rowL]; omega)
    rw [hS, show (ByteArray.mk (rowL k (W q)).toArray).data.toList = rowL k (W q) from rfl, scaleL_rowL] at hsc
    rw [← hS] at hcv hsc
    have HSC := Lib.hid hsc
    have HB2 := Lib.hid hb2
    clear hS hsc hrow6 hh5 hx5 hz5 hb2
    go_wp2_with fail
    refine (HSC.out _).mono ?_
    rintro e w3 ⟨rfl, hb3⟩
    obtain ⟨b7, off7, cap7, h7, hf7, hc7, hcm7, hB7, hnb7, hrow7, hset7⟩ := ((HG1.out.below HB2.out).below hb3).at c hc
    obtain ⟨T, hT⟩ : ∃ T, T = ByteArray.mk (rowL k (fun j => mul y (W q j))).toArray := ⟨_, rfl⟩
    have hts : T.size = k := by rw [hT, size_rowL]
    have hcp := fun ty => run_copy_str (cap := cap7) hrow7 hts ty
    have htl : T.data.toList = rowL k (fun j => mul y (W q j)) := by rw [hT]
    rw [htl] at hcp
    have hon : Only w3 (w3.setCells b7 off7 (U8s (rowL k (fun j => mul y (W q j))))) b7 off7 (off7 + k) := Only.setCells _ _ _ (Nat.le_refl _) (by rw [u8s_len, rowL_len]; omega) hrow7.1
    have hg4 := hset7 _ _ hon (hrow7.setCells (by rw [rowL_len, rowL_len]))
    have hB3 : Below B w w3 := HB1.out.trans ((HB2.out.mono hs1).trans (hb3.mono (Nat.le_trans hs1 HB2.out.size)))
    have hb4 : Below B w (w3.setCells b7 off7 (U8s (rowL k (fun j => mul y (W q j))))) := hB3.trans (hon.below hB7 (Nat.le_trans hB hB3.size))
    rw [← hT]
    generalize w3.setCells b7 off7 (U8s (rowL k (fun j => mul y (W q j)))) = W4 at hcp hg4 hb4
    have HTL := Lib.hid htl
    have HTS := Lib.hid hts
    have HB4 := Lib.hid hb4
    have HG4 : Hid (Grid W4 B (.slice (some ⟨b, 0, none⟩) n cap) n k (scl (swp W c q) c y)) := Lib.hid (hg4.congr (fun i _ j _ => by
      unfold scl
      by_cases e : i = c
      · subst e; rw [if_pos rfl, if_pos rfl, HSWP.out]
      · rw [if_neg e, if_neg e]))
    clear hT hts htl hset7 hrow7 hon hg4 hb4 hb3 hB3 HB2 HB1 HSC hcv h6 hf6
    go_wp2
    clear hcp h7
    have hrowc : rowL k (fun j => mul y (W q j)) = rowL k (scl (swp W c q) c y c) := rowL_congr (fun j _ => by unfold scl; rw [if_pos rfl, HSWP.out])
    rw [hrowc] at HTL
    clear hrowc HSWP HG1 HE
    generalize scl (swp W c q) c y = V at *
    have hs4 := HB4.out.size
    go_loopw [57] (fun i wr => ∃ p : Nat, p ≤ n ∧ i = .int .i64 p ∧ Grid wr B (.slice (some ⟨b, 0, none⟩) n cap) n k (fun r => if r < p then elm V c r else V r) ∧ Below B w wr) (fun i _ => n - (intOf i).toNat)
    case atStart => exact ⟨0, by omega, rfl, HG4.out.congr (fun i _ j _ => by rw [if_neg (by omega)]), HB4.out⟩
    case round =>
      clear HG4 HB4
      obtain ⟨p, hp, rfl, hgr, hbe⟩ := hrel
      have HGR := Lib.hid hgr
      have HBE := Lib.hid hbe
      clear hgr hbe
      by_cases hlt : p < n
      · obtain ⟨b8, off8, cap8, hh8, hx8, hz8, hB8, hl8, hn8, _⟩ := HGR.out.byte p c hlt hck
        rw [if_neg (Nat.lt_irrefl p)] at hx8
        obtain ⟨z, hz⟩ : ∃ z, z = V p c := ⟨_, rfl⟩
        rw [← hz] at hx8
        obtain ⟨e1, e2⟩ := byte_zero z
        have HZ := Lib.hid hz
        clear hz
        by_cases hpc : p = c
        · have HPC := Lib.hid hpc
          have d1 : ((p : Int) == (c : Int)) = true := by rw [hpc]; simp
          have d2 : ((p : Int) != (c : Int)) = false := by rw [hpc]; simp
          have HGN : Hid (Grid wr B (.slice (some ⟨b, 0, none⟩) n cap) n k (fun r => if r < p + 1 then elm V c r else V r)) := Lib.hid (HGR.out.congr (fun i _ j _ => by
            by_cases e : i = p
            · subst e; rw [if_neg (Nat.lt_irrefl i), if_pos (Nat.lt_succ_self i)]; unfold elm; rw [if_pos hpc]
            · by_cases e2 : i < p
              · rw [if_pos e2, if_pos (by omega)]
              · rw [if_neg e2, if_neg (by omega)]))
          clear hpc e1 e2
          go_wp2
          go_roundw
          case rel => exact ⟨p + 1, by omega, by go_num, HGN.out, HBE.out⟩
          case measure => simp [intOf]; omega
        · have d1 : ((p : Int) == (c : Int)) = false := by simp; omega
          have d2 : ((p : Int) != (c : Int)) = true := by simp; omega
          by_cases hz0 : z = 0
          · rw [decide_eq_true hz0] at e1 e2
            have HGN : Hid (Grid wr B (.slice (some ⟨b, 0, none⟩) n cap) n k (fun r => if r < p + 1 then elm V c r else V r)) := Lib.hid (HGR.out.congr (fun i _ j _ => by
              by_cases e : i = p
              · subst e; rw [if_neg (Nat.lt_irrefl i), if_pos (Nat.lt_succ_self i)]; unfold elm; rw [if_neg hpc, ← HZ.out, hz0, Caulk.Gf.mul_zeroL, UInt8.xor_zero]
              · by_cases e2 : i < p
                · rw [if_pos e2, if_pos (by omega)]
                · rw [if_neg e2, if_neg (by omega)]))
            clear hz0 hpc
            go_wp2
            go_roundw
            case rel => exact ⟨p + 1, by omega, by go_num, HGN.out, HBE.out⟩
            case measure => simp [intOf]; omega
          · rw [decide_eq_false hz0] at e1 e2
            obtain ⟨b9, off9, cap9, h9, hf9, hc9, hcm9, hB9, hnb9, hrow9, hset9⟩ := HGR.out.at p hlt
            rw [if_neg (Nat.lt_irrefl p)] at hrow9
            have hx9 := (hrow9.2 c (by rw [rowL_len]; exact hck)).1
            rw [rowL_getD _ hck, ← HZ.out] at hx9
            have hput := put_only b9 off9 cap9 _ z T (by rw [HTS.out]; unfold maxLen; omega) wr hrow9
            rw [rowL_len, HTL.out, putL_rowL _ _ _ _ _ (Nat.le_refl _)] at hput
            have HP := Lib.hid hput
            have HPC := Lib.hid hpc
            have HSET := Lib.hid hset9
            clear hput hset9 hrow9 hz0 hpc hh8 hf9 hx8 hz8
            go_wp2_with fail
            refine HP.out.mono ?_
            rintro e w5 ⟨rfl, hrow5, hon5⟩
            have HGN : Hid (Grid w5 B (.slice (some ⟨b, 0, none⟩) n cap) n k (fun r => if r < p + 1 then elm V c r else V r)) := Lib.hid ((HSET.out w5 _ hon5 hrow5).congr (fun i _ j _ => by
              by_cases e : i = p
              · subst e; rw [if_pos rfl, if_pos (Nat.lt_succ_self i)]; unfold elm; rw [if_neg HPC.out, ← HZ.out]
              · rw [if_neg e]
                by_cases e2 : i < p
                · rw [if_pos e2, if_pos (by omega)]
                · rw [if_neg e2, if_neg (by omega)]))
            have HBN : Hid (Below B w w5) := Lib.hid (HBE.out.trans (hon5.below hB9 (Nat.le_trans hB HBE.out.size)))
            clear hrow5 hon5 HSET HP
            go_wp2
            go_roundw
            case rel => exact ⟨p + 1, by omega, by go_num, HGN.out, HBN.out⟩
            case measure => simp [intOf]; omega
      · obtain rfl : p = n := by omega
        have HGN : Hid (Grid wr B (.slice (some ⟨b, 0, none⟩) p cap) p k (elm V c)) := Lib.hid (HGR.out.congr (fun i hi j _ => by rw [if_pos hi]))
        go_wp2
        go_ret
        exact ⟨fun V' hV' => by
          obtain rfl := Option.some.inj (hV'.symm.trans HST.out)
          exact ⟨rfl, HGN.out, HBE.out⟩, fun h => absurd (h.symm.trans HST.out) (by simp)⟩
end Go.Proofs.YtpldnbfbpajbkabDoor
