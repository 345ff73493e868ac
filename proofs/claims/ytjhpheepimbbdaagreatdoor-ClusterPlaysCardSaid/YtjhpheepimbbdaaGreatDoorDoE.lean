/- The kinds of calls: a flush. -/
import Derived.Test.YtjhpheepimbbdaaGreatDoorDoR
namespace Go.Proofs.YtjhpheepimbbdaaGreatDoor
open Go.RowKit Go.Maps

set_option maxRecDepth 10000 in
set_option maxHeartbeats 4000000 in
theorem do8_flush {w : World} {p : Nat} {h : DH} {M : DM} (d : DevAt w h M) {v0 v1 v2 v3 : Value} (r : RefAt w (.agg #[v0, v1, v2, v3]) M) (bp : P5 w p (.pointer (some ⟨h.b, 0, none⟩)) v0 v1 v2 v3) (np : ¬ h.S p) (hN : Nrm M) (hw : M.writes < 90000) (s k m c pos num by' : Int) (hk : W64 k) (hm : W64 m) (hc : W64 c) (text : ByteArray) (ht : text.size ≤ 140737488355328) :
    Calls Tryz.prog 7 #[.pointer (some ⟨p, 0, none⟩), .agg #[.int .i64 s, .int .i64 k, .int .i64 m, .int .i64 c], .agg #[.int .i64 5, .int .i64 pos, .string text, .int .i64 num, .int .u32 by']] w fun e w' => Out8 w p h M e w' := by
  have hF1 := fun W => cluFill_any s k m c hk hm hc text ht W
  have hF2 := fun W => refFill_any s k m c hk hm text ht W
  generalize fiV s k m c text = F at hF1 hF2
  generalize fiE s k m c text = e1 at hF1 hF2
  have _ := hw
  have HN0 := Lib.hid hN.n1
  obtain ⟨M2, hM2⟩ : ∃ M2 : DM, M2 = flushM M := ⟨_, rfl⟩
  have HNM : Hid (Nrm M2) := Lib.hid (by rw [hM2]; exact (nrm_flush hN).1)
  have HNN : Hid (M2.n = M.n) := Lib.hid (by rw [hM2]; exact (nrm_flush hN).2.1)
  have HWW : Hid (M2.writes ≤ M.writes + 128) := Lib.hid (by rw [hM2]; have := (nrm_flush hN).2.2; omega)
  have hRef : ∀ W, RefAt W (.agg #[v0, v1, v2, v3]) M → Calls Tryz.prog 25 #[.agg #[v0, v1, v2, v3]] W fun e w' => ∃ g nn cg bb ll wc, e = .returned (.tuple #[.agg #[.slice (some ⟨g, 0, none⟩) nn cg, .bool bb, .int .i64 ll, .int .i64 wc], .int .i64 (flushE M)]) ∧ RefAt w' (.agg #[.slice (some ⟨g, 0, none⟩) nn cg, .bool bb, .int .i64 ll, .int .i64 wc]) M2 ∧ Below W.heap.size W w' := fun W hr => by
    rw [hM2]
    refine (refFlush_any hr hN).mono ?_
    rintro e w' ⟨v', rfl, hr', hb'⟩
    obtain ⟨g, cg, rfl, q1, q2, q3⟩ := hr'
    exact ⟨g, _, cg, _, _, _, rfl, ⟨g, cg, rfl, q1, q2, q3⟩, hb'⟩
  have hDev : ∀ W, DevAt W h M → Calls Tryz.prog 26 #[.pointer (some ⟨h.b, 0, none⟩)] W fun e w' => e = .returned (.int .i64 (flushE M)) ∧ DevAt w' h M2 ∧ Ap h.S W w' := fun W hd => by rw [hM2]; exact devFlush_any hd
  generalize (flushE M) = ee at hRef hDev
  clear hM2
  have hDQ := DQ.start d r bp np s k m c 5 pos text num by' 23 40
  obtain ⟨W0, hW⟩ : ∃ W0 : World, W0 = ((w.alloc (.cells #[.int .i64 s, .int .i64 k, .int .i64 m, .int .i64 c] 23)).alloc (.cells #[.int .i64 5, .int .i64 pos, .string text, .int .i64 num, .int .u32 by'] 40)) := ⟨_, rfl⟩
  rw [← hW] at hDQ
  have HQ0 := Lib.hid hDQ
  clear d r bp np hN hw hk hm hc ht hDQ
  go_enter Tryz.func7, Tryz.ntmps7
  go_upto_region 1 with fail
  rw [← hW]
  clear hW
  obtain ⟨_, _, _, _, _, g0, g1, g2, g3, a0, a1, a2, a3, a4⟩ := HQ0.out.cells
  go_upto_region 3 with (first
    | (go_at_call 12; with_reducible refine (hF1 _).mono ?_; rintro e w1 ⟨rfl, hb1⟩; have HQ1 := Lib.hid (HQ0.out.below hb1); clear hb1 g0 g1 g2 g3 a0 a1 a2 a3 a4; obtain ⟨_, _, _, _, _, g0, g1, g2, g3, a0, a1, a2, a3, a4⟩ := HQ1.out.cells)
    | (go_at_call 17; with_reducible refine (hF2 _).mono ?_; rintro e w2 ⟨rfl, hb2⟩; have HQ2 := Lib.hid (HQ1.out.below hb2); clear hb2 g0 g1 g2 g3 a0 a1 a2 a3 a4 HQ0 HQ1; obtain ⟨p0, p1, p2, p3, p4, g0, g1, g2, g3, a0, a1, a2, a3, a4⟩ := HQ2.out.cells))
  clear hF1 hF2
  go_upto_region 28 with (go_at_call 25; (with_reducible refine (hRef _ HQ2.out.r).mono ?_); rintro e w3 ⟨g, nn, cg, bb, ll, wc, rfl, hr1, hb1⟩; have HR1 := Lib.hid hr1; have HZ1 := Lib.hid (HQ2.out.below hb1); clear hb1 hr1 p0 p1 p2 p3 p4 g0 g1 g2 g3 a0 a1 a2 a3 a4)
  have HD := Lib.hid (DB.of HZ1.out HR1.out)
  generalize hw3 : w3.alloc (.cells #[.slice (some ⟨g, 0, none⟩) nn cg, .bool bb, .int .i64 ll, .int .i64 wc] 32) = w4 at HD ⊢
  generalize w3.heap.size = bt at HD ⊢
  clear hw3
  obtain ⟨_, t0, t1, t2, t3, _, _, _, _⟩ := HD.out.tb
  obtain ⟨_, p0, p1, p2, p3, p4, f1, f2, f3, f4⟩ := HD.out.q.bp
  go_upto_region 29 with fail
  have HE := Lib.hid (DQ.store HD.out.q HD.out.r HNM.out.n1)
  unfold put5 at HE
  generalize (((w4.setCell ⟨p, 1, none⟩ (.slice (some ⟨g, 0, none⟩) nn cg)).setCell ⟨p, 2, none⟩ (.bool bb)).setCell ⟨p, 3, none⟩ (.int .i64 ll)).setCell ⟨p, 4, none⟩ (.int .i64 wc) = w5 at HE ⊢
  clear t0 t1 t2 t3 p0 p1 p2 p3 p4 f1 f2 f3 f4 HD
  obtain ⟨p0, p1, p2, p3, p4, g0, g1, g2, g3, a0, a1, a2, a3, a4⟩ := HE.out.cells
  go_wp2_with (go_at_call 26; (with_reducible refine (hDev _ HE.out.d).mono ?_); rintro e w6 ⟨rfl, hd6, ha6⟩; have HF6 := Lib.hid (HE.out.dev HNM.out.n1 hd6 ha6); clear hd6 ha6)
  refine bodyPost_ret (v := .bool true) (by simp [results, Tryz.results7, go_sem]) rfl ?_
  exact HF6.out.out HNM.out HNN.out HWW.out
end Go.Proofs.YtjhpheepimbbdaaGreatDoor
