/- Spans: SpanMerges. -/
import Derived.Test.YtdcpgjkaimekbaaSpnW
namespace Go.Proofs.Ytdcpgjkaimekbaa
open Go.RowKit

def smlB (L : List Int) : Bool := L.all (fun b => decide (b ≤ 1099511627776)) && decide (L.length ≤ 300)
set_option maxRecDepth 100000 in
set_option maxHeartbeats 2000000 in
theorem small_any {w : World} {v : Value} {L : List Int} (hv : IdxS w v L) :
    Calls Try.prog 28 #[v] w fun e w' => e = .returned (.bool (smlB L)) ∧ Below w.heap.size w w' := by
  obtain ⟨A, cap, rfl, hc1, hc2, hc3⟩ := hv
  have HC3 := Lib.hid hc3
  clear hc3
  have HNO : Hid ((∃ j, j < L.length ∧ 1099511627776 < L.getD j 0) → smlB L = false) := Lib.hid (fun ⟨j, hj, h⟩ => by
    unfold smlB
    rw [Bool.and_eq_false_iff]
    left
    rw [List.all_eq_false]
    refine ⟨L.getD j 0, ?_, by simpa using h⟩
    rw [List.getD, List.getElem?_eq_getElem hj]; exact List.getElem_mem _)
  have HYES : Hid ((∀ j, j < L.length → L.getD j 0 ≤ 1099511627776) → smlB L = decide (L.length ≤ 300)) := Lib.hid (fun h => by
    unfold smlB
    rw [show L.all (fun b => decide (b ≤ 1099511627776)) = true from List.all_eq_true.2 (fun x hx => by
      obtain ⟨j, hj, rfl⟩ := List.mem_iff_getElem.1 hx
      have := h j hj
      rw [List.getD, List.getElem?_eq_getElem hj] at this
      simpa using this)]
    rfl)
  go_enter Try.func28, Try.ntmps28
  go_wp2
  go_loopw [7] (fun ix wr => ∃ (j : Nat), j ≤ L.length ∧ ix = .int .i64 (j : Int) ∧ (∀ i, i < j → L.getD i 0 ≤ 1099511627776) ∧ Below w.heap.size w wr) (fun ix _ => L.length - (intOf ix).toNat)
  case atStart => exact ⟨0, Nat.zero_le _, rfl, (fun i h => absurd h (by omega)), Below.refl _ _⟩
  case round =>
    obtain ⟨j, hj, rfl, hp, hB⟩ := hrel
    have HB := Lib.hid hB
    have HP := Lib.hid hp
    clear hB hp
    by_cases hlt : j < L.length
    · obtain ⟨b, off, rfl, hb, hcell⟩ := HC3.out.resolve_left (by intro e; rw [e] at hlt; simp at hlt)
      have q0 : wr.cell? ⟨b, off + j, none⟩ = some (.int .i64 (L.getD j 0)) := (HB.out.cell (p := ⟨b, off + j, none⟩) hb).trans (hcell j hlt)
      have HN : Hid (1099511627776 < L.getD j 0 → smlB L = false) := Lib.hid (fun h => HNO.out ⟨j, hlt, h⟩)
      have HS : Hid (L.getD j 0 ≤ 1099511627776 → ∀ i, i < j + 1 → L.getD i 0 ≤ 1099511627776) := Lib.hid (fun h i hi => by
        by_cases e : i = j
        · rw [e]; exact h
        · exact HP.out i (by omega))
      have hw1 := wrap_nx hlt hc1 hc2
      generalize L.getD j 0 = x at q0 HN HS
      clear hcell hb
      by_cases hx : 1099511627776 < x
      · have d1 : decide ((1099511627776 : Int) < x) = true := decide_eq_true hx
        have HE := Lib.hid (HN.out hx)
        go_wp2
        go_ret
        rw [HE.out]
        exact ⟨rfl, HB.out⟩
      · have d1 : decide ((1099511627776 : Int) < x) = false := decide_eq_false hx
        have HE := Lib.hid (HS.out (by omega))
        go_wp2
        try rw [hw1]
        clear hw1 q0 d1
        go_roundw
        case rel => exact ⟨j + 1, hlt, by go_num, HE.out, HB.out⟩
        case measure => simp [intOf]; omega
    · obtain rfl : j = L.length := by omega
      have HE := Lib.hid (HYES.out HP.out)
      have HD : Hid (decide ((L.length : Int) ≤ (300 : Int)) = decide (L.length ≤ 300)) := Lib.hid (by
        by_cases h : L.length ≤ 300
        · rw [decide_eq_true h]; exact decide_eq_true (by omega)
        · rw [decide_eq_false h]; exact decide_eq_false (by omega))
      go_wp2
      go_ret
      rw [HE.out]
      first
        | exact ⟨rfl, HB.out⟩
        | exact ⟨by rw [← HD.out]; rfl, HB.out⟩
theorem smlB_iff (L : List Int) : smlB L = true ↔ (∀ b ∈ L, b ≤ 1099511627776) ∧ L.length ≤ 300 := by unfold smlB; simp
theorem idxS_wf {w : World} {v : Value} {L : List Int} (h : IdxS w v L) : ∃ A cap, v = .slice A L.length cap ∧ L.length ≤ cap ∧ cap ≤ maxLen := by
  obtain ⟨A, cap, hv, h1, h2, _⟩ := h; exact ⟨A, cap, hv, h1, h2⟩
set_option maxRecDepth 100000 in
set_option maxHeartbeats 8000000 in
theorem spanMerges_walk {w : World} {vb vl vp vq : Value} {L : List Int} {R : List RG} {P : List SP} {Q : List ByteArray} (hL : IdxS w vb L) (hLo : ∀ b ∈ L, -9223372036854775808 ≤ b) (hR : RgsS w vl R) (hreach : R.length * 16 ≤ 140737488351232) (s : Int) (hP : SpnS w vp P) (hQ : StrL w vq Q) (was : ByteArray) (hwas : was.size ≤ 140737488351232) :
    Calls Try.prog 6 #[vb, vl, .int .i64 s, vp, vq, .string was] w fun e w' => e = .returned (.bool true) ∧ Below w.heap.size w w' := by
  have hS := small_any hL
  have hLv := spnLives_any
  obtain ⟨Ab, cb, rfl, hcb1, hcb2⟩ := idxS_wf hL
  obtain ⟨Al, cl, rfl⟩ := hR.form
  obtain ⟨Ap, cp, rfl⟩ := hP.form
  obtain ⟨Aq, cq, hvq, hcq1, hcq2, hq3⟩ := id hQ
  subst hvq
  cases hs : smlB L
  · rw [hs] at hS
    clear hs hq3
    go_enter Try.func6, Try.ntmps6
    go_wp2_with (first
      | (go_at_call 28; (with_reducible refine hS.mono ?_); rintro e w1 ⟨rfl, hb1⟩)
      | (go_at_call 22; (with_reducible refine (hLv _).mono ?_); rintro e w2 ⟨rfl, hb2⟩))
    go_ret
    exact ⟨rfl, hb1.trans (hb2.mono hb1.size)⟩
  rw [hs] at hS
  by_cases hq : 100 < Q.length
  · have d0 : decide ((100 : Int) < (Q.length : Int)) = true := decide_eq_true (by omega)
    have d0' : decide (100 < Q.length) = true := decide_eq_true hq
    clear hs hq3 hq
    go_enter Try.func6, Try.ntmps6
    go_wp2_with (first
      | (go_at_call 28; (with_reducible refine hS.mono ?_); rintro e w1 ⟨rfl, hb1⟩)
      | (go_at_call 22; (with_reducible refine (hLv _).mono ?_); rintro e w2 ⟨rfl, hb2⟩))
    go_ret
    exact ⟨rfl, hb1.trans (hb2.mono hb1.size)⟩
  have d0 : decide ((100 : Int) < (Q.length : Int)) = false := decide_eq_false (by omega)
  have d0' : decide (100 < Q.length) = false := decide_eq_false hq
  obtain ⟨hsm1, hsm2⟩ := (smlB_iff L).1 hs
  have hbnd : ∀ b ∈ L, -9223372036854775808 ≤ b ∧ b ≤ 1099511627776 := fun b hb => ⟨hLo b hb, hsm1 b hb⟩
  have hB1 := fun (W : World) (h : Below w.heap.size w W) => spanBlocks_any R _ W (hR.below h (Nat.le_refl _)) hreach
  have hB2 := fun (W : World) (h : Below w.heap.size w W) => rBlocks_any R _ W (hR.below h (Nat.le_refl _))
  have hJ1 := fun (W : World) (h : Below w.heap.size w W) => spanJoin_any s P Q _ _ W (hP.below h (Nat.le_refl _)) (hQ.below h (Nat.le_refl _)) (by omega)
  have hJ2 := fun (W : World) (h : Below w.heap.size w W) => rJoin_any s P Q _ _ W (hP.below h (Nat.le_refl _)) (hQ.below h (Nat.le_refl _)) (by omega)
  have hM1 := fun (W : World) (h : Below w.heap.size w W) => spanMerge_any L _ W (hL.below h (Nat.le_refl _)) (by omega) hbnd
  have hM2 := fun (W : World) (h : Below w.heap.size w W) => rMerge_any L _ W (hL.below h (Nat.le_refl _)) (by omega) hbnd
  have HO1 : Hid (∀ (x : SP) (y : ByteArray) (W : World), _) := Lib.hid (fun x y W => spanOver_any was y x W hwas)
  have HO2 : Hid (∀ (x : SP) (y : ByteArray) (W : World), _) := Lib.hid (fun x y W => rOver_any was y x W hwas)
  have HPC := Lib.hid hP
  have HQC := Lib.hid hq3
  generalize blkE R = be at hB1 hB2
  generalize blkL R = bl at hB1 hB2
  generalize merL (dedU L) = ml at hM1 hM2
  generalize joiE s P Q = je at hJ1 hJ2
  obtain ⟨js, hjs⟩ : ∃ js : ByteArray, js = ⟨(joiL s P Q).toArray⟩ := ⟨_, rfl⟩
  rw [← hjs] at hJ1 hJ2
  have hql : Q.length ≤ 100 := by omega
  clear hs hq hsm1 hsm2 hbnd hjs hR hreach hP hQ hq3 hL hLo hwas hcq1 hcq2
  go_enter Try.func6, Try.ntmps6
  go_wp2_with (go_at_call 28; (with_reducible refine hS.mono ?_); rintro e w1 ⟨rfl, hb1⟩; have HB1 := Lib.hid hb1; clear hb1 hS d0 d0')
  (with_reducible refine (hB1 _ HB1.out).mono ?_)
  rintro e w2 ⟨x2, rfl, hx2, hb2⟩
  have HX2 := Lib.hid hx2
  have HB2 := Lib.hid (HB1.out.trans (hb2.mono HB1.out.size))
  obtain ⟨A2, c2, rfl, _⟩ := idxS_wf hx2
  clear hx2 hb2 hB1
  go_wp2_with fail
  (with_reducible refine (hB2 _ HB2.out).mono ?_)
  rintro e w3 ⟨x3, rfl, hx3, hb3⟩
  have HX3 := Lib.hid hx3
  have HX2' := Lib.hid (HX2.out.below hb3 (Nat.le_refl _))
  have HB3 := Lib.hid (HB2.out.trans (hb3.mono HB2.out.size))
  obtain ⟨A3, c3, rfl, _⟩ := idxS_wf hx3
  clear hx3 hb3 hB2 HX2
  go_wp2_with fail
  (with_reducible refine (hJ1 _ HB3.out).mono ?_)
  rintro e w4 ⟨rfl, hb4⟩
  have HX24 := Lib.hid (HX2'.out.below hb4 (Nat.le_refl _))
  have HX34 := Lib.hid (HX3.out.below hb4 (Nat.le_refl _))
  have HB4 := Lib.hid (HB3.out.trans (hb4.mono HB3.out.size))
  clear hb4 hJ1 HX2' HX3
  go_wp2_with fail
  (with_reducible refine (hJ2 _ HB4.out).mono ?_)
  rintro e w5 ⟨rfl, hb5⟩
  have HX25 := Lib.hid (HX24.out.below hb5 (Nat.le_refl _))
  have HX35 := Lib.hid (HX34.out.below hb5 (Nat.le_refl _))
  have HB5 := Lib.hid (HB4.out.trans (hb5.mono HB4.out.size))
  clear hb5 hJ2 HX24 HX34
  by_cases hpq : 0 < P.length ∧ 0 < Q.length
  case neg =>
    by_cases hp0 : 0 < P.length
    · have e1 : decide ((0 : Int) < (P.length : Int)) = true := decide_eq_true (by omega)
      have e1' : decide (0 < P.length) = true := decide_eq_true hp0
      have e2 : decide ((0 : Int) < (Q.length : Int)) = false := decide_eq_false (by omega)
      have e2' : decide (0 < Q.length) = false := decide_eq_false (by omega)
      go_wp2_with fail
      (with_reducible refine (hLv _).mono ?_)
      rintro e wl ⟨rfl, hbl⟩
      have HXL := Lib.hid (HX25.out.below hbl (Nat.le_refl _))
      have HYL := Lib.hid (HX35.out.below hbl (Nat.le_refl _))
      have HBL := Lib.hid (HB5.out.trans (hbl.mono HB5.out.size))
      clear hbl
      go_wp2_with fail
      (with_reducible refine (hM1 _ HBL.out).mono ?_)
      rintro e wm ⟨xm, rfl, hxm, hbm⟩
      have HM := Lib.hid hxm
      have HXM := Lib.hid (HXL.out.below hbm (Nat.le_refl _))
      have HYM := Lib.hid (HYL.out.below hbm (Nat.le_refl _))
      have HBM := Lib.hid (HBL.out.trans (hbm.mono HBL.out.size))
      obtain ⟨Am, cm, rfl⟩ := hxm.form
      clear hxm hbm HXL HYL HBL
      go_wp2_with fail
      (with_reducible refine (hM2 _ HBM.out).mono ?_)
      rintro e wn ⟨xn, rfl, hxn, hbn⟩
      have HN := Lib.hid hxn
      have HMN := Lib.hid (HM.out.below hbn (Nat.le_refl _))
      have HXN := Lib.hid (HXM.out.below hbn (Nat.le_refl _))
      have HYN := Lib.hid (HYM.out.below hbn (Nat.le_refl _))
      have HBN := Lib.hid (HBM.out.trans (hbn.mono HBM.out.size))
      obtain ⟨An, cn, rfl⟩ := hxn.form
      clear hxn hbn HXM HYM HBM HM
      go_wp2_with fail
      have hS1 := rSame_any ml ml _ _ _ HMN.out HN.out
      rw [show decide (ml = ml) = true from decide_eq_true rfl] at hS1
      (with_reducible refine hS1.mono ?_)
      rintro e wo ⟨rfl, hbo⟩
      have HXO := Lib.hid (HXN.out.below hbo (Nat.le_refl _))
      have HYO := Lib.hid (HYN.out.below hbo (Nat.le_refl _))
      have HBO := Lib.hid (HBN.out.trans (hbo.mono HBN.out.size))
      clear hbo hS1 HXN HYN HBN HMN HN
      go_wp2_with fail
      have hS2 := idxSame_any HXO.out HYO.out
      rw [show decide (bl = bl) = true from decide_eq_true rfl] at hS2
      (with_reducible refine hS2.mono ?_)
      rintro e wp ⟨rfl, hbp⟩
      have HBP := Lib.hid (HBO.out.trans (hbp.mono HBO.out.size))
      have t1 : (be == be) = true := by simp
      have t2 : (je == je) = true := by simp
      clear hbp hS2 HXO HYO HBO
      go_wp2_with fail
      go_ret
      exact ⟨rfl, HBP.out⟩
    · have e1 : decide ((0 : Int) < (P.length : Int)) = false := decide_eq_false (by omega)
      have e1' : decide (0 < P.length) = false := decide_eq_false hp0
      go_wp2_with fail
      (with_reducible refine (hLv _).mono ?_)
      rintro e wl ⟨rfl, hbl⟩
      have HXL := Lib.hid (HX25.out.below hbl (Nat.le_refl _))
      have HYL := Lib.hid (HX35.out.below hbl (Nat.le_refl _))
      have HBL := Lib.hid (HB5.out.trans (hbl.mono HB5.out.size))
      clear hbl
      go_wp2_with fail
      (with_reducible refine (hM1 _ HBL.out).mono ?_)
      rintro e wm ⟨xm, rfl, hxm, hbm⟩
      have HM := Lib.hid hxm
      have HXM := Lib.hid (HXL.out.below hbm (Nat.le_refl _))
      have HYM := Lib.hid (HYL.out.below hbm (Nat.le_refl _))
      have HBM := Lib.hid (HBL.out.trans (hbm.mono HBL.out.size))
      obtain ⟨Am, cm, rfl⟩ := hxm.form
      clear hxm hbm HXL HYL HBL
      go_wp2_with fail
      (with_reducible refine (hM2 _ HBM.out).mono ?_)
      rintro e wn ⟨xn, rfl, hxn, hbn⟩
      have HN := Lib.hid hxn
      have HMN := Lib.hid (HM.out.below hbn (Nat.le_refl _))
      have HXN := Lib.hid (HXM.out.below hbn (Nat.le_refl _))
      have HYN := Lib.hid (HYM.out.below hbn (Nat.le_refl _))
      have HBN := Lib.hid (HBM.out.trans (hbn.mono HBM.out.size))
      obtain ⟨An, cn, rfl⟩ := hxn.form
      clear hxn hbn HXM HYM HBM HM
      go_wp2_with fail
      have hS1 := rSame_any ml ml _ _ _ HMN.out HN.out
      rw [show decide (ml = ml) = true from decide_eq_true rfl] at hS1
      (with_reducible refine hS1.mono ?_)
      rintro e wo ⟨rfl, hbo⟩
      have HXO := Lib.hid (HXN.out.below hbo (Nat.le_refl _))
      have HYO := Lib.hid (HYN.out.below hbo (Nat.le_refl _))
      have HBO := Lib.hid (HBN.out.trans (hbo.mono HBN.out.size))
      clear hbo hS1 HXN HYN HBN HMN HN
      go_wp2_with fail
      have hS2 := idxSame_any HXO.out HYO.out
      rw [show decide (bl = bl) = true from decide_eq_true rfl] at hS2
      (with_reducible refine hS2.mono ?_)
      rintro e wp ⟨rfl, hbp⟩
      have HBP := Lib.hid (HBO.out.trans (hbp.mono HBO.out.size))
      have t1 : (be == be) = true := by simp
      have t2 : (je == je) = true := by simp
      clear hbp hS2 HXO HYO HBO
      go_wp2_with fail
      go_ret
      exact ⟨rfl, HBP.out⟩
  case pos =>
    have e1 : decide ((0 : Int) < (P.length : Int)) = true := decide_eq_true (by omega)
    have e1' : decide (0 < P.length) = true := decide_eq_true hpq.1
    have e2 : decide ((0 : Int) < (Q.length : Int)) = true := decide_eq_true (by omega)
    have e2' : decide (0 < Q.length) = true := decide_eq_true hpq.2
    obtain ⟨g1, g2⟩ := id hpq
    obtain ⟨_, _, hv1, _, _, hp3⟩ := HPC.out
    injection hv1 with e3 _ _
    subst e3
    obtain ⟨b, off, rfl, hb, hcell⟩ := hp3.resolve_left (by intro e; rw [e] at hpq; simp at hpq)
    obtain ⟨b2, off2, rfl, hb2, hcell2⟩ := HQC.out.resolve_left (by intro e; rw [e] at hpq; simp at hpq)
    have hcA : ∀ q u, (P.getD 0 SP.zero).cells[q]? = some u → w.cell? ⟨b, off + q, none⟩ = some u := fun q u hu => by have h := hcell 0 hpq.1 q u hu; rwa [Nat.zero_mul, Nat.add_zero] at h
    have hcB : w.cell? ⟨b2, off2, none⟩ = some (.string (Q.getD 0 ⟨#[]⟩)) := by have h := hcell2 0 hpq.2 0 (.string (Q.getD 0 ⟨#[]⟩)) rfl; rw [Nat.zero_mul] at h; exact h
    have hO1 := HO1.out (P.getD 0 SP.zero) (Q.getD 0 ⟨#[]⟩)
    have hO2 := HO2.out (P.getD 0 SP.zero) (Q.getD 0 ⟨#[]⟩)
    generalize P.getD 0 SP.zero = px at hcA hO1 hO2
    generalize Q.getD 0 ⟨#[]⟩ = qx at hcB hO1 hO2
    generalize ovE was px qx = oe at hO1 hO2
    obtain ⟨os, hos⟩ : ∃ os : ByteArray, os = ⟨(ovL was px qx).toArray⟩ := ⟨_, rfl⟩
    rw [← hos] at hO1 hO2
    obtain ⟨pb, pf, pt⟩ := px
    unfold spV at hO1 hO2
    dsimp only at hO1 hO2
    have p0 := hcA 0 _ rfl
    have p1 := hcA 1 _ rfl
    have p2 := hcA 2 _ rfl
    rw [Nat.add_zero] at p0
    dsimp only at p0 p1 p2
    have HCL : Hid (∀ W, Below w.heap.size w W → W.cell? ⟨b, off, none⟩ = some (.int .i64 pb) ∧ W.cell? ⟨b, off + 1, none⟩ = some (.int .i64 pf) ∧ W.cell? ⟨b, off + 2, none⟩ = some (.int .i64 pt) ∧ W.cell? ⟨b2, off2, none⟩ = some (.string qx)) := Lib.hid (fun W h => ⟨(h.cell (p := ⟨b, off, none⟩) hb).trans p0, (h.cell (p := ⟨b, off + 1, none⟩) hb).trans p1, (h.cell (p := ⟨b, off + 2, none⟩) hb).trans p2, (h.cell (p := ⟨b2, off2, none⟩) hb2).trans hcB⟩)
    clear hos hcA hcell hcell2 hp3 p0 p1 p2 hcB HO1 HO2 hpq hb hb2 HPC HQC
    go_upto_region 8 with fail
    have HDR := Lib.hid (HCL.out w5.drew HB5.out.drew)
    go_region_held3 (fun W => W.cell? ⟨b, off, none⟩ = some (.int .i64 pb) ∧ W.cell? ⟨b, off + 1, none⟩ = some (.int .i64 pf) ∧ W.cell? ⟨b, off + 2, none⟩ = some (.int .i64 pt) ∧ W.cell? ⟨b2, off2, none⟩ = some (.string qx)) (first | exact HDR.out | exact HDR6.out)
      (first | (go_at_call 33; refine (hO1 _).mono ?_; rintro e w6 ⟨rfl, hb6⟩; have HB6 : Hid (Below w.heap.size w w6) := Lib.hid (HB5.out.drew.trans (hb6.mono HB5.out.size)); have HDR6 := Lib.hid (HCL.out w6 HB6.out); have HX26 := Lib.hid (HX25.out.below ((Below.drew (Below.refl _ w5)).trans hb6) (Nat.le_refl _)); have HX36 := Lib.hid (HX35.out.below ((Below.drew (Below.refl _ w5)).trans hb6) (Nat.le_refl _)); clear hb6))
    go_upto_region 9 with fail
    have HDR7 := Lib.hid (HCL.out w6.drew HB6.out.drew)
    go_region_held3 (fun W => W.cell? ⟨b, off, none⟩ = some (.int .i64 pb) ∧ W.cell? ⟨b, off + 1, none⟩ = some (.int .i64 pf) ∧ W.cell? ⟨b, off + 2, none⟩ = some (.int .i64 pt) ∧ W.cell? ⟨b2, off2, none⟩ = some (.string qx)) (first | exact HDR7.out | exact HDR8.out)
      (first | (go_at_call 34; refine (hO2 _).mono ?_; rintro e w7 ⟨rfl, hb7⟩; have HB7 : Hid (Below w.heap.size w w7) := Lib.hid (HB6.out.drew.trans (hb7.mono HB6.out.size)); have HDR8 := Lib.hid (HCL.out w7 HB7.out); have HX27 := Lib.hid (HX26.out.below ((Below.drew (Below.refl _ w6)).trans hb7) (Nat.le_refl _)); have HX37 := Lib.hid (HX36.out.below ((Below.drew (Below.refl _ w6)).trans hb7) (Nat.le_refl _)); clear hb7))
    have t3 : (oe == oe) = true := by simp
    have t4 : (oe != oe) = false := by simp
    clear HDR HDR6 HDR7 HDR8 HCL HX25 HX35 HX26 HX36 HB5 HB6
    go_wp2_with fail
    (with_reducible refine (hLv _).mono ?_)
    rintro e wl ⟨rfl, hbl⟩
    have HXL := Lib.hid (HX27.out.below hbl (Nat.le_refl _))
    have HYL := Lib.hid (HX37.out.below hbl (Nat.le_refl _))
    have HBL := Lib.hid (HB7.out.trans (hbl.mono HB7.out.size))
    clear hbl
    go_wp2_with fail
    (with_reducible refine (hM1 _ HBL.out).mono ?_)
    rintro e wm ⟨xm, rfl, hxm, hbm⟩
    have HM := Lib.hid hxm
    have HXM := Lib.hid (HXL.out.below hbm (Nat.le_refl _))
    have HYM := Lib.hid (HYL.out.below hbm (Nat.le_refl _))
    have HBM := Lib.hid (HBL.out.trans (hbm.mono HBL.out.size))
    obtain ⟨Am, cm, rfl⟩ := hxm.form
    clear hxm hbm HXL HYL HBL
    go_wp2_with fail
    (with_reducible refine (hM2 _ HBM.out).mono ?_)
    rintro e wn ⟨xn, rfl, hxn, hbn⟩
    have HN := Lib.hid hxn
    have HMN := Lib.hid (HM.out.below hbn (Nat.le_refl _))
    have HXN := Lib.hid (HXM.out.below hbn (Nat.le_refl _))
    have HYN := Lib.hid (HYM.out.below hbn (Nat.le_refl _))
    have HBN := Lib.hid (HBM.out.trans (hbn.mono HBM.out.size))
    obtain ⟨An, cn, rfl⟩ := hxn.form
    clear hxn hbn HXM HYM HBM HM
    go_wp2_with fail
    have hS1 := rSame_any ml ml _ _ _ HMN.out HN.out
    rw [show decide (ml = ml) = true from decide_eq_true rfl] at hS1
    (with_reducible refine hS1.mono ?_)
    rintro e wo ⟨rfl, hbo⟩
    have HXO := Lib.hid (HXN.out.below hbo (Nat.le_refl _))
    have HYO := Lib.hid (HYN.out.below hbo (Nat.le_refl _))
    have HBO := Lib.hid (HBN.out.trans (hbo.mono HBN.out.size))
    clear hbo hS1 HXN HYN HBN HMN HN
    go_wp2_with fail
    have hS2 := idxSame_any HXO.out HYO.out
    rw [show decide (bl = bl) = true from decide_eq_true rfl] at hS2
    (with_reducible refine hS2.mono ?_)
    rintro e wp ⟨rfl, hbp⟩
    have HBP := Lib.hid (HBO.out.trans (hbp.mono HBO.out.size))
    have t1 : (be == be) = true := by simp
    have t2 : (je == je) = true := by simp
    clear hbp hS2 HXO HYO HBO
    go_wp2_with fail
    go_ret
    exact ⟨rfl, HBP.out⟩
end Go.Proofs.Ytdcpgjkaimekbaa
