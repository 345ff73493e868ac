/- The document's answers for devices: Erase, Fuse, Read. -/
import Derived.Test.YtmbjcphhfnemgaaRdB
namespace Go.Proofs.Ytmbjcphhfnemgaa
open Go.RowKit Go.Maps

set_option maxRecDepth 10000 in
set_option maxHeartbeats 1000000 in
theorem refErase_any {w : World} {v : Value} {M : DM} (k : RefAt w v M) (hN : Nrm M) (a : Int) :
    Calls Try.prog 53 #[v, .int .i64 a] w fun e w' => ∃ v', e = .returned (.tuple #[v', .int .i64 (eraseE M a)]) ∧ RefAt w' v' (eraseM M a) ∧ Below w.heap.size w w' := by
  obtain ⟨n, su, fr, bd, wr, dn, lf⟩ := M
  obtain ⟨b, cap, rfl, h1, h2, h3⟩ := k
  obtain ⟨n1, n2, l1, l2⟩ := hN
  dsimp only at n1 n2 l1 l2 h1 h3
  have hblt := h3.1
  obtain ⟨W0, hW, hX, hR, hB⟩ := start2 w (.slice (some ⟨b, 0, none⟩) n cap) (.bool dn) (.int .i64 lf) (.int .i64 (wr : Int)) 30
  have HL := Lib.hid (h3.below hB)
  have HB := Lib.hid hB
  have HX := Lib.hid hX
  have HR := Lib.hid hR
  have HNE : Hid (b < w.heap.size) := Lib.hid hblt
  clear h3 hB hblt
  obtain ⟨_, x0, x1, x2, x3, fx0, fx1, fx2, fx3⟩ := hX
  obtain ⟨_, r0, r1, r2, r3, f0, f1, f2, f3⟩ := hR
  have hH := fun W => refHas_any (w := W) (A := some ⟨b, 0, none⟩) (n := n) (cap := cap) (off := dn) (left := lf) (wr := (wr : Int)) a
  by_cases e2 : hasB n a = false
  · rw [e2] at hH
    have q1 : eraseE ⟨n, su, fr, bd, wr, dn, lf⟩ a = 1 := by unfold eraseE; rw [if_neg (by rw [e2]; simp)]
    have q2 : eraseM ⟨n, su, fr, bd, wr, dn, lf⟩ a = ⟨n, su, fr, bd, wr, dn, lf⟩ := by unfold eraseM; rw [if_neg (by rw [e2]; simp)]
    rw [q1, q2]
    clear q1 q2 e2
    go_enter Try.func53, Try.ntmps53
    go_upto_region 1 with fail
    rw [← hW]
    clear hW
    go_wp2_with (go_at_call 72; refine (hH _).mono ?_; rintro e w1 ⟨rfl, hb1⟩; have HX1 := Lib.hid (HX.out.below hb1); have HR1 := Lib.hid (HR.out.below hb1); have HL1 := Lib.hid (HL.out.below hb1); have HB1 := Lib.hid (HB.out.trans (hb1.mono HB.out.size)); obtain ⟨_, p0, p1, p2, p3, _, g1, g2, g3⟩ := HX1.out; obtain ⟨_, t0, t1, t2, t3, k0, k1, k2, k3⟩ := HR1.out; clear hb1)
    obtain ⟨y0, y1, y2, y3, hG, hBB⟩ := stored HR1.out HB1.out (by omega) HL1.out (by have := HNE.out; omega) (.slice (some ⟨b, 0, none⟩) n cap) (.bool dn) (.int .i64 lf) (.int .i64 (wr : Int))
    refine bodyPost_ret (v := .tuple #[.agg #[.slice (some ⟨b, 0, none⟩) n cap, .bool dn, .int .i64 lf, .int .i64 (wr : Int)], .int .i64 1]) (by simp [results, Try.results53, go_sem, y0, y1, y2, y3]) rfl ?_
    exact ⟨_, rfl, ⟨b, cap, rfl, h1, h2, hG⟩, hBB⟩
  have e2' : hasB n a = true := by simpa using e2
  rw [e2'] at hH
  obtain ⟨i, hi, rfl⟩ : ∃ i : Nat, i < n ∧ a = (i : Int) := by
    unfold hasB at e2'
    have h := of_decide_eq_true e2'
    exact ⟨a.toNat, by omega, by omega⟩
  have q1 : eraseE ⟨n, su, fr, bd, wr, dn, lf⟩ (i : Int) = 0 := by unfold eraseE; rw [if_pos e2']
  have q2 : eraseM ⟨n, su, fr, bd, wr, dn, lf⟩ (i : Int) = ⟨n, su, fr, upd bd i true, wr, dn, lf⟩ := by unfold eraseM; rw [if_pos e2']; rfl
  rw [q1, q2]
  have HM : Hid (∀ j, j < n → sM ⟨n, su, fr, upd bd i true, wr, dn, lf⟩ j = upd (sM ⟨n, su, fr, bd, wr, dn, lf⟩) i ⟨⟨(su i).toArray⟩, ⟨((fr i).getD []).toArray⟩, (fr i).isSome, true⟩ j) := Lib.hid (by
    intro j _
    unfold upd sM
    by_cases e : j = i
    · subst e; simp
    · simp [e])
  have HI := Lib.hid hi
  clear q1 q2 e2 e2' hi
  go_enter Try.func53, Try.ntmps53
  go_upto_region 1 with fail
  rw [← hW]
  clear hW
  go_upto_region 3 with (go_at_call 72; refine (hH _).mono ?_; rintro e w1 ⟨rfl, hb1⟩; have HX1 := Lib.hid (HX.out.below hb1); have HR1 := Lib.hid (HR.out.below hb1); have HL1 := Lib.hid (HL.out.below hb1); have HB1 := Lib.hid (HB.out.trans (hb1.mono HB.out.size)); obtain ⟨_, p0, p1, p2, p3, _, g1, g2, g3⟩ := HX1.out; obtain ⟨_, t0, t1, t2, t3, k0, k1, k2, k3⟩ := HR1.out; clear hb1)
  have hi := HI.out
  obtain ⟨g0, g1, g2, g3⟩ := HL1.out.2.1 i hi
  dsimp only [sM] at g0 g1 g2 g3
  clear x0 x1 x2 x3 fx0 fx1 fx2 fx3 r0 r1 r2 r3 f0 f1 f2 f3 HX HR HL HB
  go_upto_region 5 with fail
  have HX4 := Lib.hid (HX1.out.below (below1 w1 (.cells #[.string ⟨(su i).toArray⟩, .string ⟨((fr i).getD []).toArray⟩, .bool (fr i).isSome, .bool true] 75)))
  have HR4 := Lib.hid (HR1.out.below (below1 w1 (.cells #[.string ⟨(su i).toArray⟩, .string ⟨((fr i).getD []).toArray⟩, .bool (fr i).isSome, .bool true] 75)))
  have HB4 := Lib.hid (HB1.out.trans ((below1 w1 (.cells #[.string ⟨(su i).toArray⟩, .string ⟨((fr i).getD []).toArray⟩, .bool (fr i).isSome, .bool true] 75)).mono HB1.out.size))
  have HK4 : Hid (RG (w1.alloc (.cells #[.string ⟨(su i).toArray⟩, .string ⟨((fr i).getD []).toArray⟩, .bool (fr i).isSome, .bool true] 75)) (.agg #[.slice (some ⟨b, 0, none⟩) n cap, .bool dn, .int .i64 lf, .int .i64 (wr : Int)]) n (sM ⟨n, su, fr, bd, wr, dn, lf⟩) dn lf wr) := Lib.hid ⟨b, cap, rfl, h1, h2, HL1.out.below (below1 _ _)⟩
  have HS4 := Lib.hid (Bx.new w1 (.string ⟨(su i).toArray⟩) (.string ⟨((fr i).getD []).toArray⟩) (.bool (fr i).isSome) (.bool true) 75)
  clear HX1 HR1 HL1 HB1 p0 p1 p2 p3 g0 g1 g2 g3 t0 t1 t2 t3 k0 k1 k2 k3
  generalize w1.alloc (.cells #[.string ⟨(su i).toArray⟩, .string ⟨((fr i).getD []).toArray⟩, .bool (fr i).isSome, .bool true] 75) = w4 at HX4 HR4 HB4 HK4 HS4 ⊢
  generalize w1.heap.size = bs at HS4 ⊢
  obtain ⟨_, p0, p1, p2, p3, _, _, _, _⟩ := HX4.out
  obtain ⟨_, s0, s1, s2, s3, _, _, _, _⟩ := HS4.out
  go_wp2_with (go_at_call 73; refine (refWith_any HK4.out n2 i HI.out ⟨⟨(su i).toArray⟩, ⟨((fr i).getD []).toArray⟩, (fr i).isSome, true⟩).mono ?_; rintro e w5 ⟨v5, rfl, hk5, hb5⟩; obtain ⟨g, c, rfl, hgc, hcm, hgb, hG5⟩ := hk5; have HGB := Lib.hid hgb; clear hgb; have HG5 := Lib.hid hG5; have HR5 := Lib.hid (HR4.out.below hb5); have HB5 := Lib.hid (HB4.out.trans (hb5.mono HB4.out.size)); obtain ⟨_, t0, t1, t2, t3, k0, k1, k2, k3⟩ := HR5.out; clear hb5 hG5)
  have hgne : g ≠ w.heap.size + 1 := fun e => by have h1 := HGB.out; have h2 := HR4.out.lt; omega
  obtain ⟨y0, y1, y2, y3, hG, hBB⟩ := stored HR5.out HB5.out (by omega) HG5.out hgne (.slice (some ⟨g, 0, none⟩) n c) (.bool dn) (.int .i64 lf) (.int .i64 (wr : Int))
  refine bodyPost_ret (v := .tuple #[.agg #[.slice (some ⟨g, 0, none⟩) n c, .bool dn, .int .i64 lf, .int .i64 (wr : Int)], .int .i64 0]) (by simp [results, Try.results53, go_sem, y0, y1, y2, y3]) rfl ?_
  exact ⟨_, rfl, RG.congr ⟨g, c, rfl, hgc, hcm, hG⟩ HM.out, hBB⟩
set_option maxRecDepth 10000 in
set_option maxHeartbeats 1000000 in
theorem refFuse_any {w : World} {v : Value} {M : DM} (k : RefAt w v M) (hN : Nrm M) (x : Int) :
    Calls Try.prog 52 #[v, .int .i64 x] w fun e w' => ∃ v', e = .returned v' ∧ RefAt w' v' { M with left := if 0 ≤ x then x else -1 } ∧ Below w.heap.size w w' := by
  obtain ⟨n, su, fr, bd, wr, dn, lf⟩ := M
  obtain ⟨b, cap, rfl, h1, h2, h3⟩ := k
  obtain ⟨n1, n2, l1, l2⟩ := hN
  dsimp only at n1 n2 l1 l2 h1 h3
  have hblt := h3.1
  obtain ⟨W0, hW, hX, hR, hB⟩ := start2 w (.slice (some ⟨b, 0, none⟩) n cap) (.bool dn) (.int .i64 lf) (.int .i64 (wr : Int)) 30
  have HL := Lib.hid (h3.below hB)
  have HB := Lib.hid hB
  have HX := Lib.hid hX
  have HR := Lib.hid hR
  have HNE : Hid (b < w.heap.size) := Lib.hid hblt
  clear h3 hB hblt
  obtain ⟨_, x0, x1, x2, x3, fx0, fx1, fx2, fx3⟩ := hX
  obtain ⟨_, r0, r1, r2, r3, f0, f1, f2, f3⟩ := hR
  obtain ⟨L, hL⟩ : ∃ L : Int, L = if 0 ≤ x then x else -1 := ⟨_, rfl⟩
  have hLm : max x (-1) = L := by rw [hL]; split <;> omega
  have e1 : (DM.mk n su fr bd wr dn (if 0 ≤ x then x else -1)) = ⟨n, su, fr, bd, wr, dn, L⟩ := by rw [hL]
  dsimp only
  rw [e1]
  clear e1 hL
  go_enter Try.func52, Try.ntmps52
  go_upto_region 1 with fail
  rw [← hW]
  clear hW
  go_upto_region 2 with fail
  have HX2 := Lib.hid (HX.out.set2 (.int .i64 L))
  have A2 := ap_put W0 w.heap.size 2 (.int .i64 L)
  have HR2 := Lib.hid (HR.out.ap A2 (fun e => by omega))
  have HL2 := Lib.hid (HL.out.ap A2 (fun e => by have := HNE.out; omega))
  have HB2 := Lib.hid (HB.out.trans (A2.below (B := w.heap.size) HB.out.size (fun k e => by omega)))
  clear A2 x0 x1 x2 x3 fx0 fx1 fx2 fx3 r0 r1 r2 r3 f0 f1 f2 f3 hLm
  generalize W0.setCell ⟨w.heap.size, 2, none⟩ (.int .i64 L) = w2 at HX2 HR2 HL2 HB2 ⊢
  obtain ⟨_, p0, p1, p2, p3, _, _, _, _⟩ := HX2.out
  obtain ⟨_, t0, t1, t2, t3, k0, k1, k2, k3⟩ := HR2.out
  go_wp2_with fail
  obtain ⟨y0, y1, y2, y3, hG, hBB⟩ := stored HR2.out HB2.out (by omega) HL2.out (by have := HNE.out; omega) (.slice (some ⟨b, 0, none⟩) n cap) (.bool dn) (.int .i64 L) (.int .i64 (wr : Int))
  refine bodyPost_ret (v := .agg #[.slice (some ⟨b, 0, none⟩) n cap, .bool dn, .int .i64 L, .int .i64 (wr : Int)]) (by simp [results, Try.results52, go_sem, y0, y1, y2, y3]) rfl ?_
  exact ⟨_, rfl, ⟨b, cap, rfl, h1, h2, hG⟩, hBB⟩

set_option maxRecDepth 10000 in
set_option maxHeartbeats 1000000 in
theorem refRead_any {w : World} {v : Value} {M : DM} (k : RefAt w v M) (a : Int) :
    Calls Try.prog 55 #[v, .int .i64 a] w fun e w' => e = .returned (.tuple #[.string ⟨(readV M a).toArray⟩, .int .i64 (readE M a)]) ∧ Below w.heap.size w w' := by
  obtain ⟨n, su, fr, bd, wr, dn, lf⟩ := M
  obtain ⟨b, cap, rfl, h1, h2, h3⟩ := k
  dsimp only at h1 h3
  have hblt := h3.1
  have HB := Lib.hid (below1 w (.cells #[.slice (some ⟨b, 0, none⟩) n cap, .bool dn, .int .i64 lf, .int .i64 (wr : Int)] 30))
  have HX := Lib.hid (Bx.new w (.slice (some ⟨b, 0, none⟩) n cap) (.bool dn) (.int .i64 lf) (.int .i64 (wr : Int)) 30)
  have HL := Lib.hid (h3.below HB.out)
  obtain ⟨W0, hW⟩ : ∃ W0 : World, W0 = w.alloc (.cells #[.slice (some ⟨b, 0, none⟩) n cap, .bool dn, .int .i64 lf, .int .i64 (wr : Int)] 30) := ⟨_, rfl⟩
  rw [← hW] at HB HX HL
  clear h3 hblt
  obtain ⟨_, x0, x1, x2, x3, _, _, _, _⟩ := HX.out
  have hH := fun W => refHas_any (w := W) (A := some ⟨b, 0, none⟩) (n := n) (cap := cap) (off := dn) (left := lf) (wr := (wr : Int)) a
  by_cases e1 : dn = true
  · subst e1
    have q1 : readE ⟨n, su, fr, bd, wr, true, lf⟩ a = 12 := rfl
    have q2 : readV ⟨n, su, fr, bd, wr, true, lf⟩ a = [] := by unfold readV; rw [q1, if_neg (by omega)]
    rw [q1, q2, emptyStr]
    go_enter Try.func55, Try.ntmps55
    go_upto_region 1 with fail
    rw [← hW]
    clear hW
    go_wp2_with fail
    go_ret2
    exact ⟨rfl, HB.out⟩
  have e1' : dn = false := by simpa using e1
  subst e1'
  clear e1
  by_cases e2 : hasB n a = false
  · rw [e2] at hH
    have q1 : readE ⟨n, su, fr, bd, wr, false, lf⟩ a = 1 := by unfold readE; rw [if_neg (by simp), if_pos e2]
    have q2 : readV ⟨n, su, fr, bd, wr, false, lf⟩ a = [] := by unfold readV; rw [q1, if_neg (by omega)]
    rw [q1, q2, emptyStr]
    clear q1 q2 e2
    go_enter Try.func55, Try.ntmps55
    go_upto_region 1 with fail
    rw [← hW]
    clear hW
    go_wp2_with (go_at_call 72; refine (hH _).mono ?_; rintro e w1 ⟨rfl, hb1⟩; have HX1 := Lib.hid (HX.out.below hb1); have HL1 := Lib.hid (HL.out.below hb1); have HB1 := Lib.hid (HB.out.trans (hb1.mono HB.out.size)); obtain ⟨_, p0, p1, p2, p3, _, _, _, _⟩ := HX1.out; clear hb1)
    go_ret2
    exact ⟨rfl, HB1.out⟩
  have e2' : hasB n a = true := by simpa using e2
  rw [e2'] at hH
  obtain ⟨i, hi, rfl⟩ : ∃ i : Nat, i < n ∧ a = (i : Int) := by
    unfold hasB at e2'
    have h := of_decide_eq_true e2'
    exact ⟨a.toNat, by omega, by omega⟩
  have HI := Lib.hid hi
  have qE : readE ⟨n, su, fr, bd, wr, false, lf⟩ (i : Int) = (match fr i with | some _ => 0 | none => if bd i = true then 9 else 0) := by
    unfold readE; rw [if_neg (by simp), if_neg (by rw [show (DM.mk n su fr bd wr false lf).n = n from rfl, e2']; simp)]; rfl
  have qV : readV ⟨n, su, fr, bd, wr, false, lf⟩ (i : Int) = if readE ⟨n, su, fr, bd, wr, false, lf⟩ (i : Int) = 0 then (match fr i with | some l => l | none => su i) else [] := rfl
  rw [qV, qE]
  obtain ⟨g0, g1, g2, g3⟩ := HL.out.2.1 i hi
  dsimp only [sM] at g0 g1 g2 g3
  clear qE qV e2 e2' g0 g1 g2 g3 hi
  cases hf : fr i with
  | some l =>
    rw [if_pos rfl]
    go_enter Try.func55, Try.ntmps55
    go_upto_region 1 with fail
    rw [← hW]
    clear hW
    go_upto_region 5 with (go_at_call 72; refine (hH _).mono ?_; rintro e w1 ⟨rfl, hb1⟩; have HX1 := Lib.hid (HX.out.below hb1); have HL1 := Lib.hid (HL.out.below hb1); have HB1 := Lib.hid (HB.out.trans (hb1.mono HB.out.size)); obtain ⟨_, p0, p1, p2, p3, _, _, _, _⟩ := HX1.out; clear hb1)
    have hi := HI.out
    obtain ⟨g0, g1, g2, g3⟩ := HL1.out.2.1 i hi
    dsimp only [sM] at g0 g1 g2 g3
    rw [hf] at g1 g2
    go_wp2_with fail
    go_ret2
    exact ⟨rfl, HB1.out.trans ((below1 _ _).mono HB1.out.size)⟩
  | none =>
    cases hb : bd i with
    | true =>
      simp only [if_true]
      rw [if_neg (by omega), emptyStr]
      -- hb
      go_enter Try.func55, Try.ntmps55
      go_upto_region 1 with fail
      rw [← hW]
      clear hW
      go_upto_region 5 with (go_at_call 72; refine (hH _).mono ?_; rintro e w1 ⟨rfl, hb1⟩; have HX1 := Lib.hid (HX.out.below hb1); have HL1 := Lib.hid (HL.out.below hb1); have HB1 := Lib.hid (HB.out.trans (hb1.mono HB.out.size)); obtain ⟨_, p0, p1, p2, p3, _, _, _, _⟩ := HX1.out; clear hb1)
      have hi := HI.out
      obtain ⟨g0, g1, g2, g3⟩ := HL1.out.2.1 i hi
      dsimp only [sM] at g0 g1 g2 g3
      rw [hf] at g1 g2
      rw [hb] at g3
      go_wp2_with fail
      go_ret2
      exact ⟨rfl, HB1.out.trans ((below1 _ _).mono HB1.out.size)⟩
    | false =>
      simp only [Bool.false_eq_true, if_false, if_true]
      -- hb
      go_enter Try.func55, Try.ntmps55
      go_upto_region 1 with fail
      rw [← hW]
      clear hW
      go_upto_region 5 with (go_at_call 72; refine (hH _).mono ?_; rintro e w1 ⟨rfl, hb1⟩; have HX1 := Lib.hid (HX.out.below hb1); have HL1 := Lib.hid (HL.out.below hb1); have HB1 := Lib.hid (HB.out.trans (hb1.mono HB.out.size)); obtain ⟨_, p0, p1, p2, p3, _, _, _, _⟩ := HX1.out; clear hb1)
      have hi := HI.out
      obtain ⟨g0, g1, g2, g3⟩ := HL1.out.2.1 i hi
      dsimp only [sM] at g0 g1 g2 g3
      rw [hf] at g1 g2
      rw [hb] at g3
      go_wp2_with fail
      go_ret2
      exact ⟨rfl, HB1.out.trans ((below1 _ _).mono HB1.out.size)⟩
end Go.Proofs.Ytmbjcphhfnemgaa
