/- References: RefsAsks, where lives answers true. -/
import Derived.Test.YthhbaccbhfngbaaRefE
import Derived.Deep.RegionHeld3
import Derived.Deep.DeepCutAuto
namespace Go.Proofs.Ythhbaccbhfngbaa
open Go.RowKit

set_option maxHeartbeats 16000000 in
set_option maxRecDepth 100000 in
theorem refsAsks_walk {w : World} {v u : Value} {L : List RF} {S : List Int} (s m k : Int) (hlives : ∀ W : World, Calls Try.prog 7 #[] W fun e w' => e = .returned (.bool true) ∧ Below W.heap.size W w')
    (hv : RefS w v L) (hwf : RfWf L) (hu : IdxS w u S) (hsw : ∀ x ∈ S, -9223372036854775808 ≤ x ∧ x ≤ 9223372036854775807) :
    Calls Try.prog 4 #[v, .agg #[.int .i64 s, .int .i64 m], u, .int .i64 k] w fun e w' => e = .returned (.bool true) ∧ Below w.heap.size w w' := by
  obtain ⟨BX, hBX⟩ : ∃ BX, BX = w.alloc (.cells #[.int .i64 s, .int .i64 m] 36) := ⟨_, rfl⟩
  have hh := heap_alloc_new w (.cells #[.int .i64 s, .int .i64 m] 36)
  rw [← hBX] at hh
  have hb0 : Below w.heap.size w BX := by rw [hBX]; exact below_new w _
  have hszb : w.heap.size < BX.heap.size := by rw [hBX]; simp
  have HC : Hid (∀ W, Below BX.heap.size BX W → W.cell? ⟨w.heap.size, 0, none⟩ = some (.int .i64 s) ∧ W.cell? ⟨w.heap.size, 1, none⟩ = some (.int .i64 m)) := Lib.hid (fun W hb => by
    have h2 := (hb.block w.heap.size hszb).trans hh
    exact ⟨by rw [cell_of_row _ _ _ _ _ (0, 0) h2]; rfl, by rw [cell_of_row _ _ _ _ _ (0, 0) h2]; rfl⟩)
  have HV0 := Lib.hid (hv.below hb0 (Nat.le_refl _))
  have HU0 := Lib.hid (hu.below hb0 (Nat.le_refl _))
  have HBW := Lib.hid hb0
  have HWF := Lib.hid hwf
  have HSW := Lib.hid hsw
  obtain ⟨A, c1, rfl, k1, k2, -⟩ := hv
  obtain ⟨B, c2, rfl, l1, l2, -⟩ := hu
  have hL : ∀ W, Below BX.heap.size BX W → Calls Try.prog 7 #[] W fun e w' => e = .returned (.bool true) ∧ Below W.heap.size W w' := fun W _ => hlives W
  clear hwf hsw hh hszb hb0 k1 k2 l1 l2 hlives
  have HB0 : Hid (Below BX.heap.size BX BX) := Lib.hid (Below.refl _ _)
  have HBD : Hid (Below BX.heap.size BX BX.drew) := Lib.hid ((Below.refl _ _).drew)
  by_cases hbig : 200 < L.length ∨ 200 < S.length
  · go_enter Try.func4, Try.ntmps4
    go_upto_region 1 with fail
    rw [← hBX]
    clear hBX
    by_cases h1 : 200 < L.length
    · have d1 : decide ((200 : Int) < (L.length : Int)) = true := decide_eq_true (by omega)
      clear hbig h1
      go_wp2_with (go_at_call 7; (with_reducible refine (hL _ (by first | exact HB0.out | exact HBD.out)).mono ?_); rintro e w2 ⟨rfl, hb⟩; have HB2 : Hid (Below BX.heap.size BX w2) := Lib.hid (by first | exact hb | exact HBD.out.trans (hb.mono HBD.out.size)); clear hb)
      go_ret
      exact ⟨rfl, HBW.out.trans (HB2.out.mono HBW.out.size)⟩
    · have d1 : decide ((200 : Int) < (L.length : Int)) = false := decide_eq_false (by omega)
      have d2 : decide ((200 : Int) < (S.length : Int)) = true := decide_eq_true (by omega)
      clear hbig h1
      go_wp2_with (go_at_call 7; (with_reducible refine (hL _ (by first | exact HB0.out | exact HBD.out)).mono ?_); rintro e w2 ⟨rfl, hb⟩; have HB2 : Hid (Below BX.heap.size BX w2) := Lib.hid (by first | exact hb | exact HBD.out.trans (hb.mono HBD.out.size)); clear hb)
      go_ret
      exact ⟨rfl, HBW.out.trans (HB2.out.mono HBW.out.size)⟩
  · have hl1 : L.length ≤ 200 := by omega
    have hl2 : S.length ≤ 200 := by omega
    have d1 : decide ((200 : Int) < (L.length : Int)) = false := decide_eq_false (by omega)
    have d2 : decide ((200 : Int) < (S.length : Int)) = false := decide_eq_false (by omega)
    have hV0 : ∀ W, Below BX.heap.size BX W → RefS W (.slice A L.length c1) L := fun W hb => HV0.out.below hb (Nat.le_refl _)
    have hU0 : ∀ W, Below BX.heap.size BX W → IdxS W (.slice B S.length c2) S := fun W hb => HU0.out.below hb (Nat.le_refl _)
    have hN := fun W (hb : Below BX.heap.size BX W) => refN_any (hV0 W hb) s m
    have hM := fun W (hb : Below BX.heap.size BX W) => docN_any (hV0 W hb) s m
    have hV := fun W (hb : Below BX.heap.size BX W) => refLive_any (hV0 W hb) s
    have hU := fun W (hb : Below BX.heap.size BX W) => docLive_any (hV0 W hb) s
    have hE := fun W (hb : Below BX.heap.size BX W) => refDead_any (hV0 W hb) HWF.out (by omega) (hU0 W hb) HSW.out (by omega)
    have hF := fun W (hb : Below BX.heap.size BX W) => docDead_any (hV0 W hb) (hU0 W hb) (by omega)
    have hP := fun W (hb : Below BX.heap.size BX W) => refSparse_any (hV0 W hb) HWF.out (by omega) k
    have hQ := fun W (hb : Below BX.heap.size BX W) => docSparse_any (hV0 W hb) (by omega) k
    generalize hln : L.length = n1 at hL hN hM hV hU hE hF hP hQ d1
    generalize hsn : S.length = n2 at hE hF d2
    clear hbig hl1 hl2 hV0 hU0 hln hsn
    generalize nOf s m L = xn at hN hM
    generalize (liveOf s L : Int) = xl at hV hU
    generalize deadOf L S = xd at hE hF
    generalize spU L k = xs at hP hQ
    go_enter Try.func4, Try.ntmps4
    go_upto_region 1 with fail
    rw [← hBX]
    clear hBX
    go_upto_region 3 with fail
    obtain ⟨c0, c1'⟩ := HC.out BX HB0.out
    obtain ⟨d0, d1'⟩ := HC.out BX.drew HBD.out
    generalize w.heap.size = bx at HC c0 c1' d0 d1' ⊢
    clear d1 d2
    go_cut [8] (fun s8 wx => s8 = .bool true ∧ Below BX.heap.size BX wx)
    case first =>
      go_region_held3 (fun W => W.cell? ⟨bx, 0, none⟩ = some (.int .i64 s) ∧ W.cell? ⟨bx, 1, none⟩ = some (.int .i64 m)) (first | with_reducible exact HC.out _ HB0.out | with_reducible exact HC.out _ HBD.out | with_reducible exact HC.out _ HBL.out | with_reducible exact HC.out _ HBN.out | with_reducible exact HC.out _ HBM.out | with_reducible exact HC.out _ HBV.out | with_reducible exact HC.out _ HBU.out | with_reducible exact HC.out _ HBE.out | with_reducible exact HC.out _ HBF.out | with_reducible exact HC.out _ HBS.out | with_reducible exact HC.out _ HBP.out | with_reducible exact HC.out _ HBQ.out | with_reducible exact HC.out _ HBT.out)
        (first
        | (go_at_call 7; (with_reducible refine (hL _ (by first | exact HBD.out | exact HB0.out)).mono ?_); rintro e wl ⟨rfl, hb⟩; have HBL : Hid (Below BX.heap.size BX wl) := Lib.hid (by first | exact HBD.out.trans (hb.mono HBD.out.size) | exact HB0.out.trans (hb.mono HB0.out.size)); obtain ⟨l0, l1⟩ := HC.out wl HBL.out; clear hb)
        | (go_at_call 14; (with_reducible refine (hN _ (by first | exact HBL.out | exact HBM.out)).mono ?_); rintro e wn ⟨rfl, hb⟩; have HBN : Hid (Below BX.heap.size BX wn) := Lib.hid (by first | exact HBL.out.trans (hb.mono HBL.out.size) | exact HBM.out.trans (hb.mono HBM.out.size)); obtain ⟨n0, n1⟩ := HC.out wn HBN.out; clear hb)
        | (go_at_call 15; (with_reducible refine (hM _ (by first | exact HBL.out | exact HBN.out)).mono ?_); rintro e wm ⟨rfl, hb⟩; have HBM : Hid (Below BX.heap.size BX wm) := Lib.hid (by first | exact HBL.out.trans (hb.mono HBL.out.size) | exact HBN.out.trans (hb.mono HBN.out.size)); obtain ⟨m0, m1⟩ := HC.out wm HBM.out; clear hb)
        | (go_at_call 16; (with_reducible refine (hV _ (by first | exact HBN.out | exact HBM.out | exact HBU.out)).mono ?_); rintro e wv ⟨rfl, hb⟩; have HBV : Hid (Below BX.heap.size BX wv) := Lib.hid (by first | exact HBN.out.trans (hb.mono HBN.out.size) | exact HBM.out.trans (hb.mono HBM.out.size) | exact HBU.out.trans (hb.mono HBU.out.size)); obtain ⟨v0, v1⟩ := HC.out wv HBV.out; clear hb)
        | (go_at_call 17; (with_reducible refine (hU _ (by first | exact HBN.out | exact HBM.out | exact HBV.out)).mono ?_); rintro e wu ⟨rfl, hb⟩; have HBU : Hid (Below BX.heap.size BX wu) := Lib.hid (by first | exact HBN.out.trans (hb.mono HBN.out.size) | exact HBM.out.trans (hb.mono HBM.out.size) | exact HBV.out.trans (hb.mono HBV.out.size)); obtain ⟨u0, u1⟩ := HC.out wu HBU.out; clear hb)
        | (go_at_call 18; (with_reducible refine (hE _ (by first | exact HBV.out | exact HBU.out | exact HBF.out)).mono ?_); rintro e we ⟨xe, rfl, hve, hb⟩; have HVe := Lib.hid hve; have HWe := Lib.hid hb; have HBE : Hid (Below BX.heap.size BX we) := Lib.hid (by first | exact HBV.out.trans (hb.mono HBV.out.size) | exact HBU.out.trans (hb.mono HBU.out.size) | exact HBF.out.trans (hb.mono HBF.out.size)); obtain ⟨e0, e1⟩ := HC.out we HBE.out; clear hb hve)
        | (go_at_call 19; (with_reducible refine (hF _ (by first | exact HBV.out | exact HBU.out | exact HBE.out)).mono ?_); rintro e wf ⟨xf, rfl, hvf, hb⟩; have HVf := Lib.hid hvf; have HWf := Lib.hid hb; have HBF : Hid (Below BX.heap.size BX wf) := Lib.hid (by first | exact HBV.out.trans (hb.mono HBV.out.size) | exact HBU.out.trans (hb.mono HBU.out.size) | exact HBE.out.trans (hb.mono HBE.out.size)); obtain ⟨f0, f1⟩ := HC.out wf HBF.out; clear hb hvf)
        | (go_at_call 20; (with_reducible refine (hP _ (by first | exact HBS.out | exact HBQ.out)).mono ?_); rintro e wp ⟨xp, rfl, hvp, hb⟩; have HVp := Lib.hid hvp; have HWp := Lib.hid hb; have HBP : Hid (Below BX.heap.size BX wp) := Lib.hid (by first | exact HBS.out.trans (hb.mono HBS.out.size) | exact HBQ.out.trans (hb.mono HBQ.out.size)); obtain ⟨p0, p1⟩ := HC.out wp HBP.out; clear hb hvp)
        | (go_at_call 21; (with_reducible refine (hQ _ (by first | exact HBS.out | exact HBP.out)).mono ?_); rintro e wq ⟨xq, rfl, hvq, hb⟩; have HVq := Lib.hid hvq; have HWq := Lib.hid hb; have HBQ : Hid (Below BX.heap.size BX wq) := Lib.hid (by first | exact HBS.out.trans (hb.mono HBS.out.size) | exact HBP.out.trans (hb.mono HBP.out.size)); obtain ⟨q0, q1⟩ := HC.out wq HBQ.out; clear hb hvq)
        | (go_at_call 13; (with_reducible refine (idxSame_any (by first | exact HVp.out | exact HVp.out.below HWq.out (Nat.le_refl _)) (by first | exact HVq.out | exact HVq.out.below HWp.out (Nat.le_refl _))).mono ?_); rintro e wt ⟨rfl, hb⟩; have HBT : Hid (Below BX.heap.size BX wt) := Lib.hid (by first | exact HBP.out.trans (hb.mono HBP.out.size) | exact HBQ.out.trans (hb.mono HBQ.out.size)); obtain ⟨t0, t1⟩ := HC.out wt HBT.out; clear hb)
        | (go_at_call 13; (with_reducible refine (idxSame_any (by first | exact HVe.out | exact HVe.out.below HWf.out (Nat.le_refl _)) (by first | exact HVf.out | exact HVf.out.below HWe.out (Nat.le_refl _))).mono ?_); rintro e ws ⟨rfl, hb⟩; have HBS : Hid (Below BX.heap.size BX ws) := Lib.hid (by first | exact HBE.out.trans (hb.mono HBE.out.size) | exact HBF.out.trans (hb.mono HBF.out.size)); obtain ⟨s0, s1⟩ := HC.out ws HBS.out; clear hb))
      all_goals go_wp2_with fail
      all_goals go_meet
      all_goals exact ⟨by simp, HBT.out⟩
    case rest =>
      obtain ⟨rfl, hb⟩ := hcut
      have HB := Lib.hid hb
      clear hb
      go_wp2
      go_ret
      exact ⟨rfl, HBW.out.trans (HB.out.mono HBW.out.size)⟩
end Go.Proofs.Ythhbaccbhfngbaa
