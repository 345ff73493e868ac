/- The kinds of calls: a fuse. -/
import Derived.Test.YtjhpheepimbbdaaGreatDoorDoR
namespace Go.Proofs.YtjhpheepimbbdaaGreatDoor
open Go.RowKit Go.Maps

set_option maxRecDepth 10000 in
set_option maxHeartbeats 4000000 in
theorem do8_fuse {w : World} {p : Nat} {h : DH} {M : DM} (d : DevAt w h M) {v0 v1 v2 v3 : Value} (r : RefAt w (.agg #[v0, v1, v2, v3]) M) (bp : P5 w p (.pointer (some ⟨h.b, 0, none⟩)) v0 v1 v2 v3) (np : ¬ h.S p) (hN : Nrm M) (hw : M.writes < 90000) (s k m c pos num by' : Int) (hk : W64 k) (hm : W64 m) (hc : W64 c) (text : ByteArray) (ht : text.size ≤ 140737488355328) (hnum : W64 num) :
    Calls Tryz.prog 7 #[.pointer (some ⟨p, 0, none⟩), .agg #[.int .i64 s, .int .i64 k, .int .i64 m, .int .i64 c], .agg #[.int .i64 6, .int .i64 pos, .string text, .int .i64 num, .int .u32 by']] w fun e w' => Out8 w p h M e w' := by
  have hF1 := fun W => cluFill_any s k m c hk hm hc text ht W
  have hF2 := fun W => refFill_any s k m c hk hm text ht W
  generalize fiV s k m c text = F at hF1 hF2
  generalize fiE s k m c text = e1 at hF1 hF2
  have _ := hw
  have HN0 := Lib.hid hN.n1
  obtain ⟨M2, hM2⟩ : ∃ M2 : DM, M2 = { M with left := if 0 ≤ num then num else -1 } := ⟨_, rfl⟩
  have HNM : Hid (Nrm M2) := Lib.hid (by rw [hM2]; exact ⟨hN.n1, hN.n2, (by show -1 ≤ (if 0 ≤ num then num else -1); split <;> omega), (by show (if 0 ≤ num then num else -1) ≤ _; have := hnum.2; split <;> omega)⟩)
  have HNN : Hid (M2.n = M.n) := Lib.hid (by first | (rw [hM2]; done) | (rw [hM2]; rfl))
  have HWW : Hid (M2.writes ≤ M.writes + 128) := Lib.hid (by rw [hM2]; show M.writes ≤ _; omega)
  have hRef : ∀ W, RefAt W (.agg #[v0, v1, v2, v3]) M → Calls Tryz.prog 27 #[.agg #[v0, v1, v2, v3], .int .i64 num] W fun e w' => ∃ g nn cg bb ll wc, e = .returned (.agg #[.slice (some ⟨g, 0, none⟩) nn cg, .bool bb, .int .i64 ll, .int .i64 wc]) ∧ RefAt w' (.agg #[.slice (some ⟨g, 0, none⟩) nn cg, .bool bb, .int .i64 ll, .int .i64 wc]) M2 ∧ Below W.heap.size W w' := fun W hr => by
    rw [hM2]
    refine (refFuse_any hr hN num).mono ?_
    rintro e w' ⟨v', rfl, hr', hb'⟩
    obtain ⟨g, cg, rfl, q1, q2, q3⟩ := hr'
    exact ⟨g, _, cg, _, _, _, rfl, ⟨g, cg, rfl, q1, q2, q3⟩, hb'⟩
  have hDev : ∀ W, DevAt W h M → Calls Tryz.prog 28 #[.pointer (some ⟨h.b, 0, none⟩), .int .i64 num] W fun e w' => e = .returned (.tuple #[]) ∧ DevAt w' h M2 ∧ Ap h.S W w' := fun W hd => by rw [hM2]; exact devFuse_any hd num hnum.2
  clear hM2
  have hDQ := DQ.start d r bp np s k m c 6 pos text num by' 23 40
  obtain ⟨W0, hW⟩ : ∃ W0 : World, W0 = ((w.alloc (.cells #[.int .i64 s, .int .i64 k, .int .i64 m, .int .i64 c] 23)).alloc (.cells #[.int .i64 6, .int .i64 pos, .string text, .int .i64 num, .int .u32 by'] 40)) := ⟨_, rfl⟩
  rw [← hW] at hDQ
  have HQ0 := Lib.hid hDQ
  clear d r bp np hN hw hk hm hc ht hDQ
  go_enter Tryz.func7, Tryz.ntmps7
  go_upto_region 1 with fail
  rw [← hW]
  clear hW
  obtain ⟨_, _, _, _, _, g0, g1, g2, g3, a0, a1, a2, a3, a4⟩ := HQ0.out.cells
  go_upto_region 3 with (first
    | (go_at_call 12; with_reducible refine (hF1 _).mono ?_; rintro e w1 ⟨rfl, hb1⟩; have HQ1 := Lib.hid (HQ0.out.below hb1); clear hb1 g0 g1 g2 g3 a0 a1 a2 a3 a4; obtain ⟨_, _, _, _, _, g0, g1, g2, g3, a0, a1, a2, a3, a4⟩ := HQ1.out.cells)
    | (go_at_call 17; with_reducible refine (hF2 _).mono ?_; rintro e w2 ⟨rfl, hb2⟩; have HQ2 := Lib.hid (HQ1.out.below hb2); clear hb2 g0 g1 g2 g3 a0 a1 a2 a3 a4 HQ0 HQ1; obtain ⟨p0, p1, p2, p3, p4, g0, g1, g2, g3, a0, a1, a2, a3, a4⟩ := HQ2.out.cells))
  clear hF1 hF2
  go_upto_region 31 with fail
  obtain ⟨_, _, _, _, _, _, f1, f2, f3, f4⟩ := HQ2.out.bp
  go_region_with (go_at_call 27; (with_reducible refine (hRef _ HQ2.out.drew.r).mono ?_); rintro e w3 ⟨g, nn, cg, bb, ll, wc, rfl, hr1, hb1⟩; have HR1 := Lib.hid hr1; have HZ1 := Lib.hid (HQ2.out.drew.below hb1); clear hb1 hr1 p0 p1 p2 p3 p4 g0 g1 g2 g3 a0 a1 a2 a3 a4 f1 f2 f3 f4; obtain ⟨_, p0, p1, p2, p3, p4, f1, f2, f3, f4⟩ := HZ1.out.bp; have HE := Lib.hid (DQ.store HZ1.out HR1.out HNM.out.n1); unfold put5 at HE)
  · generalize hw5 : (((w3.setCell ⟨p, 1, none⟩ (.slice (some ⟨g, 0, none⟩) nn cg)).setCell ⟨p, 2, none⟩ (.bool bb)).setCell ⟨p, 3, none⟩ (.int .i64 ll)).setCell ⟨p, 4, none⟩ (.int .i64 wc) = w5 at HE ⊢
    clear p0 p1 p2 p3 p4 f1 f2 f3 f4 hw5
    go_upto_region 32 with fail
    have HL0 : Hid (w5.cell? ⟨p, 0, none⟩ = some (.pointer (some ⟨h.b, 0, none⟩)) ∧ w5.cell? ⟨p, 1, none⟩ = some (.slice (some ⟨g, 0, none⟩) nn cg) ∧ w5.cell? ⟨p, 2, none⟩ = some (.bool bb) ∧ w5.cell? ⟨p, 3, none⟩ = some (.int .i64 ll) ∧ w5.cell? ⟨p, 4, none⟩ = some (.int .i64 wc) ∧ w5.cell? ⟨w.heap.size, 0, none⟩ = some (.int .i64 s) ∧ w5.cell? ⟨w.heap.size, 1, none⟩ = some (.int .i64 k) ∧ w5.cell? ⟨w.heap.size, 2, none⟩ = some (.int .i64 m) ∧ w5.cell? ⟨w.heap.size, 3, none⟩ = some (.int .i64 c) ∧ w5.cell? ⟨w.heap.size + 1, 0, none⟩ = some (.int .i64 6) ∧ w5.cell? ⟨w.heap.size + 1, 1, none⟩ = some (.int .i64 pos) ∧ w5.cell? ⟨w.heap.size + 1, 2, none⟩ = some (.string text) ∧ w5.cell? ⟨w.heap.size + 1, 3, none⟩ = some (.int .i64 num) ∧ w5.cell? ⟨w.heap.size + 1, 4, none⟩ = some (.int .u32 by')) := Lib.hid HE.out.cells
    have HLC : Hid (w5.drew.cell? ⟨p, 0, none⟩ = some (.pointer (some ⟨h.b, 0, none⟩)) ∧ w5.drew.cell? ⟨p, 1, none⟩ = some (.slice (some ⟨g, 0, none⟩) nn cg) ∧ w5.drew.cell? ⟨p, 2, none⟩ = some (.bool bb) ∧ w5.drew.cell? ⟨p, 3, none⟩ = some (.int .i64 ll) ∧ w5.drew.cell? ⟨p, 4, none⟩ = some (.int .i64 wc) ∧ w5.drew.cell? ⟨w.heap.size, 0, none⟩ = some (.int .i64 s) ∧ w5.drew.cell? ⟨w.heap.size, 1, none⟩ = some (.int .i64 k) ∧ w5.drew.cell? ⟨w.heap.size, 2, none⟩ = some (.int .i64 m) ∧ w5.drew.cell? ⟨w.heap.size, 3, none⟩ = some (.int .i64 c) ∧ w5.drew.cell? ⟨w.heap.size + 1, 0, none⟩ = some (.int .i64 6) ∧ w5.drew.cell? ⟨w.heap.size + 1, 1, none⟩ = some (.int .i64 pos) ∧ w5.drew.cell? ⟨w.heap.size + 1, 2, none⟩ = some (.string text) ∧ w5.drew.cell? ⟨w.heap.size + 1, 3, none⟩ = some (.int .i64 num) ∧ w5.drew.cell? ⟨w.heap.size + 1, 4, none⟩ = some (.int .u32 by')) := Lib.hid HE.out.drew.cells
    go_region_held3 (fun w' => w'.cell? ⟨p, 0, none⟩ = some (.pointer (some ⟨h.b, 0, none⟩)) ∧ w'.cell? ⟨p, 1, none⟩ = some (.slice (some ⟨g, 0, none⟩) nn cg) ∧ w'.cell? ⟨p, 2, none⟩ = some (.bool bb) ∧ w'.cell? ⟨p, 3, none⟩ = some (.int .i64 ll) ∧ w'.cell? ⟨p, 4, none⟩ = some (.int .i64 wc) ∧ w'.cell? ⟨w.heap.size, 0, none⟩ = some (.int .i64 s) ∧ w'.cell? ⟨w.heap.size, 1, none⟩ = some (.int .i64 k) ∧ w'.cell? ⟨w.heap.size, 2, none⟩ = some (.int .i64 m) ∧ w'.cell? ⟨w.heap.size, 3, none⟩ = some (.int .i64 c) ∧ w'.cell? ⟨w.heap.size + 1, 0, none⟩ = some (.int .i64 6) ∧ w'.cell? ⟨w.heap.size + 1, 1, none⟩ = some (.int .i64 pos) ∧ w'.cell? ⟨w.heap.size + 1, 2, none⟩ = some (.string text) ∧ w'.cell? ⟨w.heap.size + 1, 3, none⟩ = some (.int .i64 num) ∧ w'.cell? ⟨w.heap.size + 1, 4, none⟩ = some (.int .u32 by')) (first | with_reducible exact HL0.out | with_reducible exact HLC.out | with_reducible exact HL6.out)
      (first | (go_at_call 28; (with_reducible refine (hDev _ HE.out.drew.d).mono ?_); rintro e w6 ⟨rfl, hd6, ha6⟩; have HF6 := Lib.hid (HE.out.drew.dev HNM.out.n1 hd6 ha6); clear hd6 ha6; have HL6 : Hid (w6.cell? ⟨p, 0, none⟩ = some (.pointer (some ⟨h.b, 0, none⟩)) ∧ w6.cell? ⟨p, 1, none⟩ = some (.slice (some ⟨g, 0, none⟩) nn cg) ∧ w6.cell? ⟨p, 2, none⟩ = some (.bool bb) ∧ w6.cell? ⟨p, 3, none⟩ = some (.int .i64 ll) ∧ w6.cell? ⟨p, 4, none⟩ = some (.int .i64 wc) ∧ w6.cell? ⟨w.heap.size, 0, none⟩ = some (.int .i64 s) ∧ w6.cell? ⟨w.heap.size, 1, none⟩ = some (.int .i64 k) ∧ w6.cell? ⟨w.heap.size, 2, none⟩ = some (.int .i64 m) ∧ w6.cell? ⟨w.heap.size, 3, none⟩ = some (.int .i64 c) ∧ w6.cell? ⟨w.heap.size + 1, 0, none⟩ = some (.int .i64 6) ∧ w6.cell? ⟨w.heap.size + 1, 1, none⟩ = some (.int .i64 pos) ∧ w6.cell? ⟨w.heap.size + 1, 2, none⟩ = some (.string text) ∧ w6.cell? ⟨w.heap.size + 1, 3, none⟩ = some (.int .i64 num) ∧ w6.cell? ⟨w.heap.size + 1, 4, none⟩ = some (.int .u32 by')) := Lib.hid HF6.out.cells))
    go_wp2_with fail
    refine bodyPost_ret (v := .bool true) (by simp [results, Tryz.results7, go_sem]) rfl ?_
    exact HF6.out.out HNM.out HNN.out HWW.out
  · generalize hw5 : (((w3.setCell ⟨p, 1, none⟩ (.slice (some ⟨g, 0, none⟩) nn cg)).setCell ⟨p, 2, none⟩ (.bool bb)).setCell ⟨p, 3, none⟩ (.int .i64 ll)).setCell ⟨p, 4, none⟩ (.int .i64 wc) = w5 at HE ⊢
    clear p0 p1 p2 p3 p4 f1 f2 f3 f4 hw5
    go_upto_region 32 with fail
    have HL0 : Hid (w5.cell? ⟨p, 0, none⟩ = some (.pointer (some ⟨h.b, 0, none⟩)) ∧ w5.cell? ⟨p, 1, none⟩ = some (.slice (some ⟨g, 0, none⟩) nn cg) ∧ w5.cell? ⟨p, 2, none⟩ = some (.bool bb) ∧ w5.cell? ⟨p, 3, none⟩ = some (.int .i64 ll) ∧ w5.cell? ⟨p, 4, none⟩ = some (.int .i64 wc) ∧ w5.cell? ⟨w.heap.size, 0, none⟩ = some (.int .i64 s) ∧ w5.cell? ⟨w.heap.size, 1, none⟩ = some (.int .i64 k) ∧ w5.cell? ⟨w.heap.size, 2, none⟩ = some (.int .i64 m) ∧ w5.cell? ⟨w.heap.size, 3, none⟩ = some (.int .i64 c) ∧ w5.cell? ⟨w.heap.size + 1, 0, none⟩ = some (.int .i64 6) ∧ w5.cell? ⟨w.heap.size + 1, 1, none⟩ = some (.int .i64 pos) ∧ w5.cell? ⟨w.heap.size + 1, 2, none⟩ = some (.string text) ∧ w5.cell? ⟨w.heap.size + 1, 3, none⟩ = some (.int .i64 num) ∧ w5.cell? ⟨w.heap.size + 1, 4, none⟩ = some (.int .u32 by')) := Lib.hid HE.out.cells
    have HLC : Hid (w5.drew.cell? ⟨p, 0, none⟩ = some (.pointer (some ⟨h.b, 0, none⟩)) ∧ w5.drew.cell? ⟨p, 1, none⟩ = some (.slice (some ⟨g, 0, none⟩) nn cg) ∧ w5.drew.cell? ⟨p, 2, none⟩ = some (.bool bb) ∧ w5.drew.cell? ⟨p, 3, none⟩ = some (.int .i64 ll) ∧ w5.drew.cell? ⟨p, 4, none⟩ = some (.int .i64 wc) ∧ w5.drew.cell? ⟨w.heap.size, 0, none⟩ = some (.int .i64 s) ∧ w5.drew.cell? ⟨w.heap.size, 1, none⟩ = some (.int .i64 k) ∧ w5.drew.cell? ⟨w.heap.size, 2, none⟩ = some (.int .i64 m) ∧ w5.drew.cell? ⟨w.heap.size, 3, none⟩ = some (.int .i64 c) ∧ w5.drew.cell? ⟨w.heap.size + 1, 0, none⟩ = some (.int .i64 6) ∧ w5.drew.cell? ⟨w.heap.size + 1, 1, none⟩ = some (.int .i64 pos) ∧ w5.drew.cell? ⟨w.heap.size + 1, 2, none⟩ = some (.string text) ∧ w5.drew.cell? ⟨w.heap.size + 1, 3, none⟩ = some (.int .i64 num) ∧ w5.drew.cell? ⟨w.heap.size + 1, 4, none⟩ = some (.int .u32 by')) := Lib.hid HE.out.drew.cells
    go_region_held3 (fun w' => w'.cell? ⟨p, 0, none⟩ = some (.pointer (some ⟨h.b, 0, none⟩)) ∧ w'.cell? ⟨p, 1, none⟩ = some (.slice (some ⟨g, 0, none⟩) nn cg) ∧ w'.cell? ⟨p, 2, none⟩ = some (.bool bb) ∧ w'.cell? ⟨p, 3, none⟩ = some (.int .i64 ll) ∧ w'.cell? ⟨p, 4, none⟩ = some (.int .i64 wc) ∧ w'.cell? ⟨w.heap.size, 0, none⟩ = some (.int .i64 s) ∧ w'.cell? ⟨w.heap.size, 1, none⟩ = some (.int .i64 k) ∧ w'.cell? ⟨w.heap.size, 2, none⟩ = some (.int .i64 m) ∧ w'.cell? ⟨w.heap.size, 3, none⟩ = some (.int .i64 c) ∧ w'.cell? ⟨w.heap.size + 1, 0, none⟩ = some (.int .i64 6) ∧ w'.cell? ⟨w.heap.size + 1, 1, none⟩ = some (.int .i64 pos) ∧ w'.cell? ⟨w.heap.size + 1, 2, none⟩ = some (.string text) ∧ w'.cell? ⟨w.heap.size + 1, 3, none⟩ = some (.int .i64 num) ∧ w'.cell? ⟨w.heap.size + 1, 4, none⟩ = some (.int .u32 by')) (first | with_reducible exact HL0.out | with_reducible exact HLC.out | with_reducible exact HL6.out)
      (first | (go_at_call 28; (with_reducible refine (hDev _ HE.out.drew.d).mono ?_); rintro e w6 ⟨rfl, hd6, ha6⟩; have HF6 := Lib.hid (HE.out.drew.dev HNM.out.n1 hd6 ha6); clear hd6 ha6; have HL6 : Hid (w6.cell? ⟨p, 0, none⟩ = some (.pointer (some ⟨h.b, 0, none⟩)) ∧ w6.cell? ⟨p, 1, none⟩ = some (.slice (some ⟨g, 0, none⟩) nn cg) ∧ w6.cell? ⟨p, 2, none⟩ = some (.bool bb) ∧ w6.cell? ⟨p, 3, none⟩ = some (.int .i64 ll) ∧ w6.cell? ⟨p, 4, none⟩ = some (.int .i64 wc) ∧ w6.cell? ⟨w.heap.size, 0, none⟩ = some (.int .i64 s) ∧ w6.cell? ⟨w.heap.size, 1, none⟩ = some (.int .i64 k) ∧ w6.cell? ⟨w.heap.size, 2, none⟩ = some (.int .i64 m) ∧ w6.cell? ⟨w.heap.size, 3, none⟩ = some (.int .i64 c) ∧ w6.cell? ⟨w.heap.size + 1, 0, none⟩ = some (.int .i64 6) ∧ w6.cell? ⟨w.heap.size + 1, 1, none⟩ = some (.int .i64 pos) ∧ w6.cell? ⟨w.heap.size + 1, 2, none⟩ = some (.string text) ∧ w6.cell? ⟨w.heap.size + 1, 3, none⟩ = some (.int .i64 num) ∧ w6.cell? ⟨w.heap.size + 1, 4, none⟩ = some (.int .u32 by')) := Lib.hid HF6.out.cells))
    go_wp2_with fail
    refine bodyPost_ret (v := .bool true) (by simp [results, Tryz.results7, go_sem]) rfl ?_
    exact HF6.out.out HNM.out HNN.out HWW.out
end Go.Proofs.YtjhpheepimbbdaaGreatDoor
