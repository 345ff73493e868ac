/- The contract of matrix.Invert. -/
import Derived.Test.YtpldnbfbpajbkabDoorInvC
namespace Go.Proofs.YtpldnbfbpajbkabDoor
open Go.RowKit
open Caulk.Lin (Fn2 sx swp scl elm pv stp gjN wide0 invM)
open Caulk.Gf (mul putL scaleL)

/-- What Invert answers of a square matrix. -/
def InvPost (w : World) (n : Nat) (F : Fn2) (e : Ending) (w' : World) : Prop :=
  (∀ X, invM n F = some X → GotGridOK w n n X e w') ∧ (invM n F = none → e = .returned (.tuple #[.slice none 0 0, .int .i64 13]) ∧ Below w.heap.size w w')
theorem gjN_none_mono {n : Nat} {W : Fn2} {k : Nat} (h : gjN n W k = none) : ∀ m, gjN n W (k + m) = none
  | 0 => h
  | m + 1 => by show (gjN n W (k + m)).bind _ = none; rw [gjN_none_mono h m]; rfl
theorem inv_no {n p : Nat} {F W : Fn2} (h : gjN n (wide0 n F) p = some W) (hs : stp n W p = none) (hp : p < n) : invM n F = none := by
  have h1 : gjN n (wide0 n F) (p + 1) = none := by simp only [gjN]; rw [h]; exact hs
  have h2 := gjN_none_mono h1 (n - (p + 1))
  rw [show p + 1 + (n - (p + 1)) = n by omega] at h2
  unfold invM; rw [h2]; rfl
theorem inv_yes {n : Nat} {F W : Fn2} (h : gjN n (wide0 n F) n = some W) : invM n F = some (fun r c => W r (n + c)) := by
  unfold invM; rw [h]; rfl

set_option maxHeartbeats 2000000 in
theorem invert_any {w : World} {B n : Nat} {v : Value} {F : Fn2} (hM : MatV w B v (rowsL n n F)) (hB : B ≤ w.heap.size) (hn1 : 1 ≤ n) (hn2 : n ≤ 255) :
    Calls Tryd.prog 10 #[v] w (InvPost w n F) := by
  have hck := check_any hM
  rw [ckE_yes (right_rowsL hn1 hn2 hn1 hn2)] at hck
  have hwu := withUnit_any hM hB hn1 hn2
  obtain ⟨b1, off1, cap1, rfl, hrc1, hcm1, hread1⟩ := hM.reads hB hn1 hn1
  unfold maxLen at hcm1
  obtain ⟨b2, off2, cap2, h2, _, hc2, hcm2, _⟩ := hread1 w (Below.refl _ _) 0 hn1
  rw [Nat.add_zero] at h2
  unfold maxLen at hcm2
  have HCK := Lib.hid hck
  have HWU := Lib.hid hwu
  clear hck hwu hread1 hM
  have hne1 : ((n : Int) == (n : Int)) = true := by simp
  have hne : ((n : Int) != (n : Int)) = false := by simp
  go_enter Tryd.func10, Tryd.ntmps10
  go_wp2_with fail
  refine HCK.out.mono ?_
  rintro e w' ⟨rfl, rfl⟩
  go_wp2_with fail
  refine HWU.out.mono ?_
  rintro e w1 ⟨vg, rfl, hg, hb⟩
  obtain ⟨bg, cg, rfl, hnc, hcgm, hbb⟩ := hg.shape
  unfold maxLen at hcgm
  have HGR := Lib.hid hg
  have HB := Lib.hid hb
  clear hg hb h2 hne hne1 HCK HWU
  obtain ⟨m, hm⟩ : ∃ m, m = n + n := ⟨_, rfl⟩
  rw [← hm] at HGR
  have HM := Lib.hid hm
  have hmn : n < m := by omega
  have hm5 : m ≤ 510 := by omega
  clear hm
  go_wp2
  go_loopw [27] (fun i wr => ∃ (p : Nat) (W : Fn2), p ≤ n ∧ i = .int .i64 p ∧ gjN n (wide0 n F) p = some W ∧ Grid wr w.heap.size (.slice (some ⟨bg, 0, none⟩) n cg) n m W ∧ Below w.heap.size w wr) (fun i _ => n - (intOf i).toNat)
  case atStart => exact ⟨0, _, by omega, rfl, rfl, HGR.out, HB.out⟩
  case round =>
    clear HGR HB
    obtain ⟨p, W, hp, rfl, hgj, hgr, hbe⟩ := hrel
    have HGJ := Lib.hid hgj
    have HGR := Lib.hid hgr
    have HBE := Lib.hid hbe
    clear hgr hbe hgj
    by_cases hlt : p < n
    · have hset := settle_any HGR.out HBE.out.size p hlt (by omega) hn2 hm5
      have HSET := Lib.hid hset
      clear hset
      cases hst : stp n W p with
      | none =>
        have HNO := Lib.hid (inv_no HGJ.out hst hlt)
        have HST := Lib.hid hst
        clear hst
        go_wp2_with fail
        refine HSET.out.mono ?_
        rintro e w2 ⟨_, hno⟩
        obtain ⟨rfl, hb2⟩ := hno HST.out
        have HB2 : Hid (Below w.heap.size w w2) := Lib.hid (HBE.out.trans hb2)
        clear hb2 hno
        go_wp2
        go_ret2
        exact ⟨fun X hX => absurd (hX.symm.trans HNO.out) (by simp), fun _ => ⟨rfl, HB2.out⟩⟩
      | some V =>
        have HST := Lib.hid hst
        clear hst
        go_wp2_with fail
        refine HSET.out.mono ?_
        rintro e w2 ⟨hyes, _⟩
        obtain ⟨rfl, hg2, hb2⟩ := hyes V HST.out
        have HG2 := Lib.hid hg2
        have HB2 : Hid (Below w.heap.size w w2) := Lib.hid (HBE.out.trans hb2)
        have HGJ2 : Hid (gjN n (wide0 n F) (p + 1) = some V) := Lib.hid (by simp only [gjN]; rw [HGJ.out]; exact HST.out)
        clear hb2 hyes hg2
        go_wp2
        go_roundw
        case rel => exact ⟨p + 1, V, by omega, by go_num, HGJ2.out, HG2.out, HB2.out⟩
        case measure => simp [intOf]; omega
    · obtain rfl : p = n := by omega
      have HY := Lib.hid (inv_yes HGJ.out)
      clear HGJ
      obtain ⟨wo, rfl⟩ : ∃ wo : World, wo = wr := ⟨_, rfl⟩
      have hmr := HGR.out.mat.reads (Nat.le_refl _) hn1 (by omega)
      obtain ⟨bx, ox, cx, hvx, hcx1, hcx2, hread⟩ := hmr
      injection hvx with hv1 hv2 hv3
      injection hv1 with hv1
      injection hv1 with hv4 hv5
      subst hv4; subst hv5; subst hv3
      have HRD := Lib.hid hread
      clear hread HGR
      go_wp2_with fail
      refine (blank_any p p hn2 hn1 (by omega) _).mono ?_
      rintro e w3 ⟨vi, rfl, hgi, hbi⟩
      obtain ⟨bi, ci, rfl, hni, hcim, hbb2⟩ := hgi.shape
      unfold maxLen at hcim
      have HGI := Lib.hid hgi
      have HBI := Lib.hid hbi
      clear hgi hbi
      go_wp2
      go_loopw [42] (fun i wr => ∃ q : Nat, q ≤ p ∧ i = .int .i64 q ∧ Grid wr wo.heap.size (.slice (some ⟨bi, 0, none⟩) p ci) p p (fun i j => if i < q then W i (p + j) else 0) ∧ Below wo.heap.size wo wr) (fun i _ => p - (intOf i).toNat)
      case atStart => exact ⟨0, by omega, rfl, HGI.out.congr (fun i _ j _ => by rw [if_neg (by omega)]), HBI.out⟩
      case round =>
        clear HGI HBI
        obtain ⟨q, hq, rfl, hgr, hbe⟩ := hrel
        have HGR := Lib.hid hgr
        have HBE2 := Lib.hid hbe
        clear hgr hbe
        by_cases hlt2 : q < p
        · obtain ⟨b3, off3, cap3, h3, _, hc3, hcm3, hby⟩ := HRD.out wr HBE2.out q hlt2
          obtain ⟨b4, off4, cap4, h4, hf4, hc4, hcm4, hBb, hnb, hrow, hset⟩ := HGR.out.at q hlt2
          rw [Nat.zero_add] at h3
          unfold maxLen at hcm3
          have hcp : ∀ ty, (Builtin.copy_ #[40, 40] ty #[.slice (some ⟨b4, off4, none⟩) p cap4, .slice (some ⟨b3, off3 + p, none⟩) (m - p) (cap3 - p)]).run Tryd.prog wr.drew = .ok (goInt p) (wr.drew.setCells b4 off4 (U8s (rowL p (fun j => W q (p + j))))) := fun ty => by
            rw [show m - p = p by have := HM.out; omega]
            exact run_copy_rows (w := wr.drew) (cap := cap4) (cap2 := cap3 - p) (b2 := b3) (off2 := off3 + p) (k := p) (g := fun j => W q (p + j)) hrow.drew (fun j hj => by
              have := hby (p + j) (by have := HM.out; omega)
              rw [Nat.add_assoc]; exact this) ty
          have hon : Only wr (wr.drew.setCells b4 off4 (U8s (rowL p (fun j => W q (p + j))))) b4 off4 (off4 + p) := (Only.of_below (Below.refl _ wr).drew hrow.1 _ _).trans (Only.setCells _ _ _ (Nat.le_refl _) (by rw [u8s_len, rowL_len]; omega) hrow.1)
          have hgs := hset _ _ hon (hrow.drew.setCells (by rw [rowL_len, rowL_len]))
          have hbs : Below wo.heap.size wo (wr.drew.setCells b4 off4 (U8s (rowL p (fun j => W q (p + j))))) := HBE2.out.trans (hon.below hBb HBE2.out.size)
          generalize wr.drew.setCells b4 off4 (U8s (rowL p (fun j => W q (p + j)))) = W5 at hcp hgs hbs
          have HGS : Hid (Grid W5 wo.heap.size (.slice (some ⟨bi, 0, none⟩) p ci) p p (fun i j => if i < q + 1 then W i (p + j) else 0)) := Lib.hid (hgs.congr (fun i _ j _ => by
            by_cases e : i = q
            · subst e; rw [if_pos rfl, if_pos (by omega)]
            · rw [if_neg e]
              by_cases e2 : i < q
              · rw [if_pos e2, if_pos (by omega)]
              · rw [if_neg e2, if_neg (by omega)]))
          have HBS := Lib.hid hbs
          have hmc : m ≤ cap3 := hc3
          clear hgs hbs hon hset hrow hby
          go_wp2_with fail
          go_region
          go_wp2
          go_roundw
          case rel => exact ⟨q + 1, by omega, by go_num, HGS.out, HBS.out⟩
          case measure => simp [intOf]; omega
        · obtain rfl : q = p := by omega
          have HGS : Hid (Grid wr wo.heap.size (.slice (some ⟨bi, 0, none⟩) q ci) q q (fun i j => W i (q + j))) := Lib.hid (HGR.out.congr (fun i hi j _ => by rw [if_pos hi]))
          have HBF : Hid (Below w.heap.size w wr) := Lib.hid (HBE.out.trans (HBE2.out.mono HBE.out.size))
          go_wp2
          go_ret2
          exact ⟨fun X hX => by
            obtain rfl := Option.some.inj (hX.symm.trans HY.out)
            exact ⟨_, rfl, HGS.out.lower HBE.out.size, HBF.out⟩, fun h => absurd (h.symm.trans HY.out) (by simp)⟩
end Go.Proofs.YtpldnbfbpajbkabDoor
