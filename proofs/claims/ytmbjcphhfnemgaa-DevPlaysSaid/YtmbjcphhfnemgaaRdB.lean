/- The document's answers for devices: Write, Erase, Fuse, Read. -/
import Derived.Test.YtmbjcphhfnemgaaRdA
namespace Go.Proofs.Ytmbjcphhfnemgaa
open Go.RowKit Go.Maps

/-- A sector of the model, as the document's answers have it. -/
def sM (M : DM) (i : Nat) : SM := ⟨⟨(M.sure i).toArray⟩, ⟨((M.fresh i).getD []).toArray⟩, (M.fresh i).isSome, M.bad i⟩
def RefAt (W : World) (v : Value) (M : DM) : Prop := RG W v M.n (sM M) M.down M.left M.writes
theorem RG.congr {W : World} {v : Value} {n : Nat} {f g : Nat → SM} {off : Bool} {left : Int} {wr : Nat} (k : RG W v n f off left wr) (h : ∀ i, i < n → g i = f i) : RG W v n g off left wr := by
  obtain ⟨b, cap, hv, h1, h2, h3, h4, h5⟩ := k
  exact ⟨b, cap, hv, h1, h2, h3, fun i hi => by rw [h i hi]; exact h4 i hi, h5⟩
/-- What a plain model keeps to. -/
structure Nrm (M : DM) : Prop where
  n1 : 1 ≤ M.n
  n2 : M.n ≤ 64
  l1 : -1 ≤ M.left
  l2 : M.left ≤ 9223372036854775807
/-- A box, and a result's place. -/
theorem start2 (w : World) (v0 v1 v2 v3 : Value) (t : Nat) : ∃ W0 : World, W0 = (w.alloc (.cells #[v0, v1, v2, v3] t)).alloc (.cells #[.slice none 0 0, .bool false, .int .i64 0, .int .i64 0] t) ∧
    Bx W0 w.heap.size v0 v1 v2 v3 ∧ Bx W0 (w.heap.size + 1) (.slice none 0 0) (.bool false) (.int .i64 0) (.int .i64 0) ∧ Below w.heap.size w W0 := by
  refine ⟨_, rfl, (Bx.new w v0 v1 v2 v3 t).below (below1 _ _), ?_, (below1 _ _).trans ((below1 _ _).mono (by simp))⟩
  have h := Bx.new (w.alloc (.cells #[v0, v1, v2, v3] t)) (.slice none 0 0) (.bool false) (.int .i64 0) (.int .i64 0) t
  rw [show (w.alloc (.cells #[v0, v1, v2, v3] t)).heap.size = w.heap.size + 1 by simp] at h
  exact h
/-- The result, stored. -/
theorem stored {w W : World} {br : Nat} {z0 z1 z2 z3 : Value} (hz : Bx W br z0 z1 z2 z3) (hb : Below w.heap.size w W) (hB : w.heap.size ≤ br) {b n : Nat} {f : Nat → SM} (hR : RowS W b n f) (hne : b ≠ br) (u0 u1 u2 u3 : Value) :
    ((((W.setCell ⟨br, 0, none⟩ u0).setCell ⟨br, 1, none⟩ u1).setCell ⟨br, 2, none⟩ u2).setCell ⟨br, 3, none⟩ u3).cell? ⟨br, 0, none⟩ = some u0 ∧
    ((((W.setCell ⟨br, 0, none⟩ u0).setCell ⟨br, 1, none⟩ u1).setCell ⟨br, 2, none⟩ u2).setCell ⟨br, 3, none⟩ u3).cell? ⟨br, 1, none⟩ = some u1 ∧
    ((((W.setCell ⟨br, 0, none⟩ u0).setCell ⟨br, 1, none⟩ u1).setCell ⟨br, 2, none⟩ u2).setCell ⟨br, 3, none⟩ u3).cell? ⟨br, 2, none⟩ = some u2 ∧
    ((((W.setCell ⟨br, 0, none⟩ u0).setCell ⟨br, 1, none⟩ u1).setCell ⟨br, 2, none⟩ u2).setCell ⟨br, 3, none⟩ u3).cell? ⟨br, 3, none⟩ = some u3 ∧
    RowS ((((W.setCell ⟨br, 0, none⟩ u0).setCell ⟨br, 1, none⟩ u1).setCell ⟨br, 2, none⟩ u2).setCell ⟨br, 3, none⟩ u3) b n f ∧
    Below w.heap.size w ((((W.setCell ⟨br, 0, none⟩ u0).setCell ⟨br, 1, none⟩ u1).setCell ⟨br, 2, none⟩ u2).setCell ⟨br, 3, none⟩ u3) := by
  have h := hz.put u0 u1 u2 u3
  have a := ap_put4 W br u0 u1 u2 u3
  exact ⟨h.c0, h.c1, h.c2, h.c3, hR.ap a hne, hb.trans (a.below hb.size (fun k e => by omega))⟩
set_option maxRecDepth 10000 in
set_option maxHeartbeats 1000000 in
theorem refWrite_any {w : World} {v : Value} {M : DM} (k : RefAt w v M) (hN : Nrm M) (hw : M.writes < 100000) (a : Int) (s : ByteArray) :
    Calls Try.prog 49 #[v, .int .i64 a, .string s] w fun e w' => ∃ v', e = .returned (.tuple #[v', .int .i64 (writeE M a s)]) ∧ RefAt w' v' (writeM M a s) ∧ Below w.heap.size w w' := by
  obtain ⟨n, su, fr, bd, wr, dn, lf⟩ := M
  obtain ⟨b, cap, rfl, h1, h2, h3⟩ := k
  obtain ⟨n1, n2, l1, l2⟩ := hN
  dsimp only at n1 n2 l1 l2 h1 h3 hw
  have hblt := h3.1
  obtain ⟨W0, hW, hX, hR, hB⟩ := start2 w (.slice (some ⟨b, 0, none⟩) n cap) (.bool dn) (.int .i64 lf) (.int .i64 (wr : Int)) 30
  have HL := Lib.hid (h3.below hB)
  have HB := Lib.hid hB
  have HX := Lib.hid hX
  have HR := Lib.hid hR
  have HNE : Hid (b < w.heap.size) := Lib.hid hblt
  have hH := fun W => refHas_any (w := W) (A := some ⟨b, 0, none⟩) (n := n) (cap := cap) (off := dn) (left := lf) (wr := (wr : Int)) a
  clear h3 hB hblt
  obtain ⟨_, x0, x1, x2, x3, _, fx1, fx2, fx3⟩ := hX
  obtain ⟨_, r0, r1, r2, r3, f0, f1, f2, f3⟩ := hR
  by_cases e1 : dn = true
  · subst e1
    have q1 : writeE ⟨n, su, fr, bd, wr, true, lf⟩ a s = 12 := rfl
    have q2 : writeM ⟨n, su, fr, bd, wr, true, lf⟩ a s = ⟨n, su, fr, bd, wr, true, lf⟩ := by unfold writeM; rw [q1, if_neg (by omega), if_pos (.inl rfl)]
    rw [q1, q2]
    go_enter Try.func49, Try.ntmps49
    go_upto_region 1 with fail
    rw [← hW]
    clear hW
    go_wp2_with fail
    obtain ⟨y0, y1, y2, y3, hG, hBB⟩ := stored HR.out HB.out (by omega) HL.out (by have := HNE.out; omega) (.slice (some ⟨b, 0, none⟩) n cap) (.bool true) (.int .i64 lf) (.int .i64 (wr : Int))
    refine bodyPost_ret (v := .tuple #[.agg #[.slice (some ⟨b, 0, none⟩) n cap, .bool true, .int .i64 lf, .int .i64 (wr : Int)], .int .i64 12]) (by simp [results, Try.results49, go_sem, y0, y1, y2, y3]) rfl ?_
    exact ⟨_, rfl, ⟨b, cap, rfl, h1, h2, hG⟩, hBB⟩
  have e1' : dn = false := by simpa using e1
  subst e1'
  clear e1
  by_cases e2 : hasB n a = false
  · rw [e2] at hH
    have q1 : writeE ⟨n, su, fr, bd, wr, false, lf⟩ a s = 1 := by unfold writeE; rw [if_neg (by simp), if_pos e2]
    have q2 : writeM ⟨n, su, fr, bd, wr, false, lf⟩ a s = ⟨n, su, fr, bd, wr, false, lf⟩ := by unfold writeM; rw [q1, if_neg (by omega), if_pos (.inr (.inl e2))]
    rw [q1, q2]
    clear q1 q2 e2
    go_enter Try.func49, Try.ntmps49
    go_upto_region 1 with fail
    rw [← hW]
    clear hW
    go_wp2_with (go_at_call 72; refine (hH _).mono ?_; rintro e w1 ⟨rfl, hb1⟩; have HX1 := Lib.hid (HX.out.below hb1); have HR1 := Lib.hid (HR.out.below hb1); have HL1 := Lib.hid (HL.out.below hb1); have HB1 := Lib.hid (HB.out.trans (hb1.mono HB.out.size)); obtain ⟨_, p0, p1, p2, p3, _, g1, g2, g3⟩ := HX1.out; obtain ⟨_, t0, t1, t2, t3, k0, k1, k2, k3⟩ := HR1.out; clear hb1)
    obtain ⟨y0, y1, y2, y3, hG, hBB⟩ := stored HR1.out HB1.out (by omega) HL1.out (by have := HNE.out; omega) (.slice (some ⟨b, 0, none⟩) n cap) (.bool false) (.int .i64 lf) (.int .i64 (wr : Int))
    refine bodyPost_ret (v := .tuple #[.agg #[.slice (some ⟨b, 0, none⟩) n cap, .bool false, .int .i64 lf, .int .i64 (wr : Int)], .int .i64 1]) (by simp [results, Try.results49, go_sem, y0, y1, y2, y3]) rfl ?_
    exact ⟨_, rfl, ⟨b, cap, rfl, h1, h2, hG⟩, hBB⟩
  have e2' : hasB n a = true := by simpa using e2
  rw [e2'] at hH
  obtain ⟨i, hi, rfl⟩ : ∃ i : Nat, i < n ∧ a = (i : Int) := by
    unfold hasB at e2'
    have h := of_decide_eq_true e2'
    exact ⟨a.toNat, by omega, by omega⟩
  clear e2
  by_cases e3 : s.size = 512
  case neg =>
    have d3 : ((s.size : Int) != 512) = true := bne_iff_ne.2 (by omega)
    have q1 : writeE ⟨n, su, fr, bd, wr, false, lf⟩ (i : Int) s = 2 := by unfold writeE; rw [if_neg (by simp), if_neg (by rw [show (DM.mk n su fr bd wr false lf).n = n from rfl, e2']; simp), if_pos e3]
    have q2 : writeM ⟨n, su, fr, bd, wr, false, lf⟩ (i : Int) s = ⟨n, su, fr, bd, wr, false, lf⟩ := by unfold writeM; rw [q1, if_neg (by omega), if_pos (.inr (.inr e3))]
    rw [q1, q2]
    clear q1 q2 e2' e3
    go_enter Try.func49, Try.ntmps49
    go_upto_region 1 with fail
    rw [← hW]
    clear hW
    go_wp2_with (go_at_call 72; refine (hH _).mono ?_; rintro e w1 ⟨rfl, hb1⟩; have HX1 := Lib.hid (HX.out.below hb1); have HR1 := Lib.hid (HR.out.below hb1); have HL1 := Lib.hid (HL.out.below hb1); have HB1 := Lib.hid (HB.out.trans (hb1.mono HB.out.size)); obtain ⟨_, p0, p1, p2, p3, _, g1, g2, g3⟩ := HX1.out; obtain ⟨_, t0, t1, t2, t3, k0, k1, k2, k3⟩ := HR1.out; clear hb1)
    obtain ⟨y0, y1, y2, y3, hG, hBB⟩ := stored HR1.out HB1.out (by omega) HL1.out (by have := HNE.out; omega) (.slice (some ⟨b, 0, none⟩) n cap) (.bool false) (.int .i64 lf) (.int .i64 (wr : Int))
    refine bodyPost_ret (v := .tuple #[.agg #[.slice (some ⟨b, 0, none⟩) n cap, .bool false, .int .i64 lf, .int .i64 (wr : Int)], .int .i64 2]) (by simp [results, Try.results49, go_sem, y0, y1, y2, y3]) rfl ?_
    exact ⟨_, rfl, ⟨b, cap, rfl, h1, h2, hG⟩, hBB⟩
  case pos =>
  have d3 : ((s.size : Int) != 512) = false := bne_eq_false_iff_eq.2 (by omega)
  have qE : writeE ⟨n, su, fr, bd, wr, false, lf⟩ (i : Int) s = burnE ⟨n, su, fr, bd, wr, false, lf⟩ := by unfold writeE; rw [if_neg (by simp), if_neg (by rw [show (DM.mk n su fr bd wr false lf).n = n from rfl, e2']; simp), if_neg (by omega)]
  by_cases e4 : lf = 0
  · subst e4
    have q1 : writeE ⟨n, su, fr, bd, wr, false, 0⟩ (i : Int) s = 12 := by rw [qE]; rfl
    have q2 : writeM ⟨n, su, fr, bd, wr, false, 0⟩ (i : Int) s = ⟨n, su, fr, bd, wr, true, 0⟩ := by
      unfold writeM; rw [q1, if_neg (by omega), if_neg (by rw [show (DM.mk n su fr bd wr false 0).n = n from rfl, e2']; simp [e3])]; rfl
    rw [q1, q2]
    clear q1 q2 qE e2' e3
    go_enter Try.func49, Try.ntmps49
    go_upto_region 1 with fail
    rw [← hW]
    clear hW
    go_upto_region 9 with (go_at_call 72; refine (hH _).mono ?_; rintro e w1 ⟨rfl, hb1⟩; have HX1 := Lib.hid (HX.out.below hb1); have HR1 := Lib.hid (HR.out.below hb1); have HL1 := Lib.hid (HL.out.below hb1); have HB1 := Lib.hid (HB.out.trans (hb1.mono HB.out.size)); obtain ⟨_, p0, p1, p2, p3, _, g1, g2, g3⟩ := HX1.out; obtain ⟨_, t0, t1, t2, t3, k0, k1, k2, k3⟩ := HR1.out; clear hb1)
    have HX2 := Lib.hid (HX1.out.set1 (.bool true))
    have A2 := ap_put w1 w.heap.size 1 (.bool true)
    have HR2 := Lib.hid (HR1.out.ap A2 (fun e => by omega))
    have HL2 := Lib.hid (HL1.out.ap A2 (fun e => by have := HNE.out; omega))
    have HB2 := Lib.hid (HB1.out.trans (A2.below (B := w.heap.size) HB1.out.size (fun k e => by omega)))
    clear A2 p0 p1 p2 p3 g1 g2 g3 t0 t1 t2 t3 k0 k1 k2 k3
    generalize w1.setCell ⟨w.heap.size, 1, none⟩ (.bool true) = w2 at HX2 HR2 HL2 HB2 ⊢
    obtain ⟨_, p0, p1, p2, p3, _, _, _, _⟩ := HX2.out
    obtain ⟨_, t0, t1, t2, t3, k0, k1, k2, k3⟩ := HR2.out
    go_wp2_with fail
    obtain ⟨y0, y1, y2, y3, hG, hBB⟩ := stored HR2.out HB2.out (by omega) HL2.out (by have := HNE.out; omega) (.slice (some ⟨b, 0, none⟩) n cap) (.bool true) (.int .i64 0) (.int .i64 (wr : Int))
    refine bodyPost_ret (v := .tuple #[.agg #[.slice (some ⟨b, 0, none⟩) n cap, .bool true, .int .i64 0, .int .i64 (wr : Int)], .int .i64 12]) (by simp [results, Try.results49, go_sem, y0, y1, y2, y3]) rfl ?_
    exact ⟨_, rfl, ⟨b, cap, rfl, h1, h2, hG⟩, hBB⟩
  have HI := Lib.hid hi
  obtain ⟨g0, g1, g2, g3⟩ := HL.out.2.1 i hi
  clear g0 g1 g2 g3
  have hM : ∀ L : Int, ∀ j, j < n → sM ⟨n, su, upd fr i (some s.data.toList), bd, wr + 1, false, L⟩ j = upd (sM ⟨n, su, fr, bd, wr, false, lf⟩) i ⟨⟨(su i).toArray⟩, s, true, bd i⟩ j := by
    intro L j _
    unfold upd sM
    by_cases e : j = i
    · subst e; simp
    · simp [e]
  have HM := Lib.hid hM
  clear hM
  have hd4 : (lf == 0) = false := beq_eq_false_iff_ne.2 e4
  by_cases e5 : 0 < lf
  · have q0 : burnE ⟨n, su, fr, bd, wr, false, lf⟩ = 0 := by unfold burnE; rw [if_neg e4]
    have q1 : writeE ⟨n, su, fr, bd, wr, false, lf⟩ (i : Int) s = 0 := by rw [qE, q0]
    have q2 : writeM ⟨n, su, fr, bd, wr, false, lf⟩ (i : Int) s = ⟨n, su, upd fr i (some s.data.toList), bd, wr + 1, false, lf - 1⟩ := by
      unfold writeM; rw [q1, if_pos rfl]; unfold burnM; rw [if_neg e4, if_pos e5]; rfl
    rw [q1, q2]
    have d5 : decide (0 < lf) = true := decide_eq_true e5
    have hl1 : -9223372036854775808 ≤ lf - 1 ∧ lf - 1 ≤ 9223372036854775807 := by omega
    clear q0 q1 q2 qE e2' e3 e4 e5 hi
    go_enter Try.func49, Try.ntmps49
    go_upto_region 1 with fail
    rw [← hW]
    clear hW
    go_upto_region 12 with (go_at_call 72; refine (hH _).mono ?_; rintro e w1 ⟨rfl, hb1⟩; have HX1 := Lib.hid (HX.out.below hb1); have HR1 := Lib.hid (HR.out.below hb1); have HL1 := Lib.hid (HL.out.below hb1); have HB1 := Lib.hid (HB.out.trans (hb1.mono HB.out.size)); obtain ⟨_, p0, p1, p2, p3, _, g1, g2, g3⟩ := HX1.out; obtain ⟨_, t0, t1, t2, t3, k0, k1, k2, k3⟩ := HR1.out; clear hb1)
    have HX2 := Lib.hid (HX1.out.set2 (.int .i64 (lf - 1)))
    have A2 := ap_put w1 w.heap.size 2 (.int .i64 (lf - 1))
    have HR2 := Lib.hid (HR1.out.ap A2 (fun e => by omega))
    have HL2 := Lib.hid (HL1.out.ap A2 (fun e => by have := HNE.out; omega))
    have HB2 := Lib.hid (HB1.out.trans (A2.below (B := w.heap.size) HB1.out.size (fun k e => by omega)))
    have hi := HI.out
    clear A2 p0 p1 p2 p3 g1 g2 g3 t0 t1 t2 t3 k0 k1 k2 k3
    generalize w1.setCell ⟨w.heap.size, 2, none⟩ (.int .i64 (lf - 1)) = w2 at HX2 HR2 HL2 HB2 ⊢
    obtain ⟨_, p0, p1, p2, p3, g0, g1, g2, g3⟩ := HX2.out
    obtain ⟨_, t0, t1, t2, t3, k0, k1, k2, k3⟩ := HR2.out
    go_upto_region 13 with fail
    have HX3 := Lib.hid (HX2.out.set3 (.int .i64 ((wr : Int) + 1)))
    have A3 := ap_put w2 w.heap.size 3 (.int .i64 ((wr : Int) + 1))
    have HR3 := Lib.hid (HR2.out.ap A3 (fun e => by omega))
    have HL3 := Lib.hid (HL2.out.ap A3 (fun e => by have := HNE.out; omega))
    have HB3 := Lib.hid (HB2.out.trans (A3.below (B := w.heap.size) HB2.out.size (fun k e => by omega)))
    clear A3 p0 p1 p2 p3 g1 g2 g3 t0 t1 t2 t3 k0 k1 k2 k3 HX2 HR2 HL2 HB2
    generalize w2.setCell ⟨w.heap.size, 3, none⟩ (.int .i64 ((wr : Int) + 1)) = w3 at HX3 HR3 HL3 HB3 ⊢
    obtain ⟨_, p0, p1, p2, p3, _, _, _, _⟩ := HX3.out
    obtain ⟨g0, g1, g2, g3⟩ := HL3.out.2.1 i hi
    dsimp only [sM] at g0 g1 g2 g3
    go_upto_region 16 with fail
    have HX4 := Lib.hid (HX3.out.below (below1 w3 (.cells #[.string ⟨(su i).toArray⟩, .string s, .bool true, .bool (bd i)] 75)))
    have HR4 := Lib.hid (HR3.out.below (below1 w3 (.cells #[.string ⟨(su i).toArray⟩, .string s, .bool true, .bool (bd i)] 75)))
    have HB4 := Lib.hid (HB3.out.trans ((below1 w3 (.cells #[.string ⟨(su i).toArray⟩, .string s, .bool true, .bool (bd i)] 75)).mono HB3.out.size))
    have HK4 : Hid (RG (w3.alloc (.cells #[.string ⟨(su i).toArray⟩, .string s, .bool true, .bool (bd i)] 75)) (.agg #[.slice (some ⟨b, 0, none⟩) n cap, .bool false, .int .i64 (lf - 1), .int .i64 ((wr : Int) + 1)]) n (sM ⟨n, su, fr, bd, wr, false, lf⟩) false (lf - 1) (wr + 1)) := Lib.hid ⟨b, cap, rfl, h1, h2, HL3.out.below (below1 _ _)⟩
    have HS4 := Lib.hid (Bx.new w3 (.string ⟨(su i).toArray⟩) (.string s) (.bool true) (.bool (bd i)) 75)
    clear HX3 HR3 HL3 HB3 p0 p1 p2 p3 g0 g1 g2 g3
    generalize w3.alloc (.cells #[.string ⟨(su i).toArray⟩, .string s, .bool true, .bool (bd i)] 75) = w4 at HX4 HR4 HB4 HK4 HS4 ⊢
    generalize w3.heap.size = bs at HS4 ⊢
    obtain ⟨_, p0, p1, p2, p3, _, _, _, _⟩ := HX4.out
    obtain ⟨_, s0, s1, s2, s3, _, _, _, _⟩ := HS4.out
    go_wp2_with (go_at_call 73; refine (refWith_any HK4.out n2 i HI.out ⟨⟨(su i).toArray⟩, s, true, bd i⟩).mono ?_; rintro e w5 ⟨v5, rfl, hk5, hb5⟩; obtain ⟨g, c, rfl, hgc, hcm, hgb, hG5⟩ := hk5; have HGB := Lib.hid hgb; clear hgb; have HG5 := Lib.hid hG5; have HR5 := Lib.hid (HR4.out.below hb5); have HB5 := Lib.hid (HB4.out.trans (hb5.mono HB4.out.size)); obtain ⟨_, t0, t1, t2, t3, k0, k1, k2, k3⟩ := HR5.out; clear hb5 hG5)
    have hgne : g ≠ w.heap.size + 1 := fun e => by have h1 := HGB.out; have h2 := HR4.out.lt; omega
    obtain ⟨y0, y1, y2, y3, hG, hBB⟩ := stored HR5.out HB5.out (by omega) HG5.out hgne (.slice (some ⟨g, 0, none⟩) n c) (.bool false) (.int .i64 (lf - 1)) (.int .i64 ((wr : Int) + 1))
    refine bodyPost_ret (v := .tuple #[.agg #[.slice (some ⟨g, 0, none⟩) n c, .bool false, .int .i64 (lf - 1), .int .i64 ((wr : Int) + 1)], .int .i64 0]) (by simp [results, Try.results49, go_sem, y0, y1, y2, y3]) rfl ?_
    exact ⟨_, rfl, RG.congr ⟨g, c, rfl, hgc, hcm, hG⟩ (HM.out _), hBB⟩
  · have q0 : burnE ⟨n, su, fr, bd, wr, false, lf⟩ = 0 := by unfold burnE; rw [if_neg e4]
    have q1 : writeE ⟨n, su, fr, bd, wr, false, lf⟩ (i : Int) s = 0 := by rw [qE, q0]
    have q2 : writeM ⟨n, su, fr, bd, wr, false, lf⟩ (i : Int) s = ⟨n, su, upd fr i (some s.data.toList), bd, wr + 1, false, lf⟩ := by
      unfold writeM; rw [q1, if_pos rfl]; unfold burnM; rw [if_neg e4, if_neg e5]; rfl
    rw [q1, q2]
    have d5 : decide (0 < lf) = false := decide_eq_false e5
    clear q0 q1 q2 qE e2' e3 e4 e5 hi
    go_enter Try.func49, Try.ntmps49
    go_upto_region 1 with fail
    rw [← hW]
    clear hW
    go_upto_region 13 with (go_at_call 72; refine (hH _).mono ?_; rintro e w1 ⟨rfl, hb1⟩; have HX1 := Lib.hid (HX.out.below hb1); have HR1 := Lib.hid (HR.out.below hb1); have HL1 := Lib.hid (HL.out.below hb1); have HB1 := Lib.hid (HB.out.trans (hb1.mono HB.out.size)); obtain ⟨_, p0, p1, p2, p3, _, g1, g2, g3⟩ := HX1.out; obtain ⟨_, t0, t1, t2, t3, k0, k1, k2, k3⟩ := HR1.out; clear hb1)
    have hi := HI.out
    have HX2 := HX1
    have HR2 := HR1
    have HL2 := HL1
    have HB2 := HB1
    generalize hw2 : w1 = w2 at *
    clear hw2
    have HX3 := Lib.hid (HX2.out.set3 (.int .i64 ((wr : Int) + 1)))
    have A3 := ap_put w2 w.heap.size 3 (.int .i64 ((wr : Int) + 1))
    have HR3 := Lib.hid (HR2.out.ap A3 (fun e => by omega))
    have HL3 := Lib.hid (HL2.out.ap A3 (fun e => by have := HNE.out; omega))
    have HB3 := Lib.hid (HB2.out.trans (A3.below (B := w.heap.size) HB2.out.size (fun k e => by omega)))
    clear A3 p0 p1 p2 p3 g1 g2 g3 t0 t1 t2 t3 k0 k1 k2 k3 HX2 HR2 HL2 HB2
    generalize w2.setCell ⟨w.heap.size, 3, none⟩ (.int .i64 ((wr : Int) + 1)) = w3 at HX3 HR3 HL3 HB3 ⊢
    obtain ⟨_, p0, p1, p2, p3, _, _, _, _⟩ := HX3.out
    obtain ⟨g0, g1, g2, g3⟩ := HL3.out.2.1 i hi
    dsimp only [sM] at g0 g1 g2 g3
    go_upto_region 16 with fail
    have HX4 := Lib.hid (HX3.out.below (below1 w3 (.cells #[.string ⟨(su i).toArray⟩, .string s, .bool true, .bool (bd i)] 75)))
    have HR4 := Lib.hid (HR3.out.below (below1 w3 (.cells #[.string ⟨(su i).toArray⟩, .string s, .bool true, .bool (bd i)] 75)))
    have HB4 := Lib.hid (HB3.out.trans ((below1 w3 (.cells #[.string ⟨(su i).toArray⟩, .string s, .bool true, .bool (bd i)] 75)).mono HB3.out.size))
    have HK4 : Hid (RG (w3.alloc (.cells #[.string ⟨(su i).toArray⟩, .string s, .bool true, .bool (bd i)] 75)) (.agg #[.slice (some ⟨b, 0, none⟩) n cap, .bool false, .int .i64 (lf), .int .i64 ((wr : Int) + 1)]) n (sM ⟨n, su, fr, bd, wr, false, lf⟩) false (lf) (wr + 1)) := Lib.hid ⟨b, cap, rfl, h1, h2, HL3.out.below (below1 _ _)⟩
    have HS4 := Lib.hid (Bx.new w3 (.string ⟨(su i).toArray⟩) (.string s) (.bool true) (.bool (bd i)) 75)
    clear HX3 HR3 HL3 HB3 p0 p1 p2 p3 g0 g1 g2 g3
    generalize w3.alloc (.cells #[.string ⟨(su i).toArray⟩, .string s, .bool true, .bool (bd i)] 75) = w4 at HX4 HR4 HB4 HK4 HS4 ⊢
    generalize w3.heap.size = bs at HS4 ⊢
    obtain ⟨_, p0, p1, p2, p3, _, _, _, _⟩ := HX4.out
    obtain ⟨_, s0, s1, s2, s3, _, _, _, _⟩ := HS4.out
    go_wp2_with (go_at_call 73; refine (refWith_any HK4.out n2 i HI.out ⟨⟨(su i).toArray⟩, s, true, bd i⟩).mono ?_; rintro e w5 ⟨v5, rfl, hk5, hb5⟩; obtain ⟨g, c, rfl, hgc, hcm, hgb, hG5⟩ := hk5; have HGB := Lib.hid hgb; clear hgb; have HG5 := Lib.hid hG5; have HR5 := Lib.hid (HR4.out.below hb5); have HB5 := Lib.hid (HB4.out.trans (hb5.mono HB4.out.size)); obtain ⟨_, t0, t1, t2, t3, k0, k1, k2, k3⟩ := HR5.out; clear hb5 hG5)
    have hgne : g ≠ w.heap.size + 1 := fun e => by have h1 := HGB.out; have h2 := HR4.out.lt; omega
    obtain ⟨y0, y1, y2, y3, hG, hBB⟩ := stored HR5.out HB5.out (by omega) HG5.out hgne (.slice (some ⟨g, 0, none⟩) n c) (.bool false) (.int .i64 (lf)) (.int .i64 ((wr : Int) + 1))
    refine bodyPost_ret (v := .tuple #[.agg #[.slice (some ⟨g, 0, none⟩) n c, .bool false, .int .i64 (lf), .int .i64 ((wr : Int) + 1)], .int .i64 0]) (by simp [results, Try.results49, go_sem, y0, y1, y2, y3]) rfl ?_
    exact ⟨_, rfl, RG.congr ⟨g, c, rfl, hgc, hcm, hG⟩ (HM.out _), hBB⟩
end Go.Proofs.Ytmbjcphhfnemgaa
