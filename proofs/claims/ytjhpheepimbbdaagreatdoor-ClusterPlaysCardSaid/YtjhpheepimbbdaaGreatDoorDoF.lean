/- The kinds of calls: a crash. -/
import Derived.Test.YtjhpheepimbbdaaGreatDoorDoR
namespace Go.Proofs.YtjhpheepimbbdaaGreatDoor
open Go.RowKit Go.Maps

set_option maxRecDepth 10000 in
set_option maxHeartbeats 4000000 in
theorem do8_crash {w : World} {p : Nat} {h : DH} {M : DM} (d : DevAt w h M) {v0 v1 v2 v3 : Value} (r : RefAt w (.agg #[v0, v1, v2, v3]) M) (bp : P5 w p (.pointer (some ⟨h.b, 0, none⟩)) v0 v1 v2 v3) (np : ¬ h.S p) (hN : Nrm M) (hw : M.writes < 90000) (s k m c pos num by' : Int) (hk : W64 k) (hm : W64 m) (hc : W64 c) (text : ByteArray) (ht : text.size ≤ 140737488355328) :
    Calls Tryz.prog 7 #[.pointer (some ⟨p, 0, none⟩), .agg #[.int .i64 s, .int .i64 k, .int .i64 m, .int .i64 c], .agg #[.int .i64 7, .int .i64 pos, .string text, .int .i64 num, .int .u32 by']] w fun e w' => Out8 w p h M e w' := by
  have hF1 := fun W => cluFill_any s k m c hk hm hc text ht W
  have hF2 := fun W => refFill_any s k m c hk hm text ht W
  generalize fiV s k m c text = F at hF1 hF2
  generalize fiE s k m c text = e1 at hF1 hF2
  have _ := hw
  have HN0 := Lib.hid hN.n1
  obtain ⟨M2, hM2⟩ : ∃ M2 : DM, M2 = crashM M [] := ⟨_, rfl⟩
  have HNM : Hid (Nrm M2) := Lib.hid (by rw [hM2]; exact ⟨hN.n1, hN.n2, Int.le_refl _, (by show (-1 : Int) ≤ _; omega)⟩)
  have HNN : Hid (M2.n = M.n) := Lib.hid (by first | (rw [hM2]; done) | (rw [hM2]; rfl))
  have HWW : Hid (M2.writes ≤ M.writes + 128) := Lib.hid (by rw [hM2]; show M.writes ≤ _; omega)
  have hRef : ∀ W, RefAt W (.agg #[v0, v1, v2, v3]) M → Calls Tryz.prog 29 #[.agg #[v0, v1, v2, v3], .slice none 0 0] W fun e w' => ∃ g nn cg bb ll wc, e = .returned (.agg #[.slice (some ⟨g, 0, none⟩) nn cg, .bool bb, .int .i64 ll, .int .i64 wc]) ∧ RefAt w' (.agg #[.slice (some ⟨g, 0, none⟩) nn cg, .bool bb, .int .i64 ll, .int .i64 wc]) M2 ∧ Below W.heap.size W w' := fun W hr => by
    rw [hM2]
    refine (refCrash_any hr hN (Q := []) ⟨none, 0, rfl, Nat.le_refl _, Nat.zero_le _, .inl rfl⟩).mono ?_
    rintro e w' ⟨v', rfl, hr', hb'⟩
    obtain ⟨g, cg, rfl, q1, q2, q3⟩ := hr'
    exact ⟨g, _, cg, _, _, _, rfl, ⟨g, cg, rfl, q1, q2, q3⟩, hb'⟩
  have hDev : ∀ W, DevAt W h M → Calls Tryz.prog 30 #[.pointer (some ⟨h.b, 0, none⟩), .slice none 0 0] W fun e w' => e = .returned (.tuple #[]) ∧ DevAt w' h M2 ∧ Ap h.S W w' := fun W hd => by rw [hM2]; exact devCrash_any hd (Q := []) ⟨none, 0, rfl, Nat.le_refl _, by omega, .inl rfl⟩
  clear hM2
  have hDQ := DQ.start d r bp np s k m c 7 pos text num by' 23 40
  obtain ⟨W0, hW⟩ : ∃ W0 : World, W0 = ((w.alloc (.cells #[.int .i64 s, .int .i64 k, .int .i64 m, .int .i64 c] 23)).alloc (.cells #[.int .i64 7, .int .i64 pos, .string text, .int .i64 num, .int .u32 by'] 40)) := ⟨_, rfl⟩
  rw [← hW] at hDQ
  have HQ0 := Lib.hid hDQ
  clear d r bp np hN hw hk hm hc ht hDQ
  go_enter Tryz.func7, Tryz.ntmps7
  go_upto_region 1 with fail
  rw [← hW]
  clear hW
  obtain ⟨_, _, _, _, _, g0, g1, g2, g3, a0, a1, a2, a3, a4⟩ := HQ0.out.cells
  go_upto_region 3 with (first
    | (go_at_call 12; with_reducible refine (hF1 _).mono ?_; rintro e w1 ⟨rfl, hb1⟩; have HQ1 := Lib.hid (HQ0.out.below hb1); clear hb1 g0 g1 g2 g3 a0 a1 a2 a3 a4; obtain ⟨_, _, _, _, _, g0, g1, g2, g3, a0, a1, a2, a3, a4⟩ := HQ1.out.cells)
    | (go_at_call 17; with_reducible refine (hF2 _).mono ?_; rintro e w2 ⟨rfl, hb2⟩; have HQ2 := Lib.hid (HQ1.out.below hb2); clear hb2 g0 g1 g2 g3 a0 a1 a2 a3 a4 HQ0 HQ1; obtain ⟨p0, p1, p2, p3, p4, g0, g1, g2, g3, a0, a1, a2, a3, a4⟩ := HQ2.out.cells))
  clear hF1 hF2
  obtain ⟨_, _, _, _, _, _, f1, f2, f3, f4⟩ := HQ2.out.bp
  go_upto_region 36 with (go_at_call 29; (with_reducible refine (hRef _ HQ2.out.r).mono ?_); rintro e w3 ⟨g, nn, cg, bb, ll, wc, rfl, hr1, hb1⟩; have HR1 := Lib.hid hr1; have HZ1 := Lib.hid (HQ2.out.below hb1); clear hb1 hr1 p0 p1 p2 p3 p4 g0 g1 g2 g3 a0 a1 a2 a3 a4 f1 f2 f3 f4; obtain ⟨_, p0, p1, p2, p3, p4, f1, f2, f3, f4⟩ := HZ1.out.bp)
  have HE := Lib.hid (DQ.store HZ1.out HR1.out HNM.out.n1)
  unfold put5 at HE
  generalize (((w3.setCell ⟨p, 1, none⟩ (.slice (some ⟨g, 0, none⟩) nn cg)).setCell ⟨p, 2, none⟩ (.bool bb)).setCell ⟨p, 3, none⟩ (.int .i64 ll)).setCell ⟨p, 4, none⟩ (.int .i64 wc) = w5 at HE ⊢
  clear p0 p1 p2 p3 p4 f1 f2 f3 f4
  obtain ⟨p0, p1, p2, p3, p4, g0, g1, g2, g3, a0, a1, a2, a3, a4⟩ := HE.out.cells
  go_wp2_with (go_at_call 30; (with_reducible refine (hDev _ HE.out.d).mono ?_); rintro e w6 ⟨rfl, hd6, ha6⟩; have HF6 := Lib.hid (HE.out.dev HNM.out.n1 hd6 ha6); clear hd6 ha6)
  refine bodyPost_ret (v := .bool true) (by simp [results, Tryz.results7, go_sem]) rfl ?_
  exact HF6.out.out HNM.out HNN.out HWW.out
end Go.Proofs.YtjhpheepimbbdaaGreatDoor
