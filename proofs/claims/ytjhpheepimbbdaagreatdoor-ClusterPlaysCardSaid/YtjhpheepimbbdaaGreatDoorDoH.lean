/- The kinds of calls: a cluster is read as it is. -/
import Derived.Test.YtjhpheepimbbdaaGreatDoorDoR
namespace Go.Proofs.YtjhpheepimbbdaaGreatDoor
open Go.RowKit Go.Maps

set_option maxRecDepth 10000 in
set_option maxHeartbeats 4000000 in
theorem do8_raw {w : World} {p : Nat} {h : DH} {M : DM} (d : DevAt w h M) {v0 v1 v2 v3 : Value} (r : RefAt w (.agg #[v0, v1, v2, v3]) M) (bp : P5 w p (.pointer (some ⟨h.b, 0, none⟩)) v0 v1 v2 v3) (np : ¬ h.S p) (hN : Nrm M) (hw : M.writes < 90000) (s k m c pos num by' : Int) (hk : W64 k) (hm : W64 m) (hc : W64 c) (text : ByteArray) (ht : text.size ≤ 140737488355328) :
    Calls Tryz.prog 7 #[.pointer (some ⟨p, 0, none⟩), .agg #[.int .i64 s, .int .i64 k, .int .i64 m, .int .i64 c], .agg #[.int .i64 2, .int .i64 pos, .string text, .int .i64 num, .int .u32 by']] w fun e w' => Out8 w p h M e w' := by
  have hF1 := fun W => cluFill_any s k m c hk hm hc text ht W
  have hF2 := fun W => refFill_any s k m c hk hm text ht W
  generalize fiV s k m c text = F at hF1 hF2
  generalize fiE s k m c text = e1 at hF1 hF2
  have _ := hw
  have HN1 := Lib.hid hN
  have hV : ∀ x, (readV M x).length ≤ 512 := fun x => readV_len d x
  have hRef : ∀ W, RefAt W (.agg #[v0, v1, v2, v3]) M → Calls Tryz.prog 20 #[.agg #[v0, v1, v2, v3], .agg #[.int .i64 s, .int .i64 k, .int .i64 m, .int .i64 c], .int .i64 pos] W fun e w' => e = .returned (.tuple #[.string ⟨(crR M s k m c pos).1.toArray⟩, .int .i64 (crR M s k m c pos).2]) ∧ Below W.heap.size W w' := fun W hr => refRaw_any hr s k m c pos hk hm hV
  have hDev : ∀ W, DevAt W h M → Calls Tryz.prog 16 #[.pointer (some ⟨h.b, 0, none⟩), .agg #[.int .i64 s, .int .i64 k, .int .i64 m, .int .i64 c], .int .i64 pos] W fun e w' => e = .returned (.tuple #[.string ⟨(crR M s k m c pos).1.toArray⟩, .int .i64 (crR M s k m c pos).2]) ∧ Below W.heap.size W w' := fun W hd => cluRaw_any hd s k m c pos hk hm hc
  generalize (⟨(crR M s k m c pos).1.toArray⟩ : ByteArray) = y at hRef hDev
  generalize (crR M s k m c pos).2 = ee at hRef hDev
  clear hV
  have hDQ := DQ.start d r bp np s k m c 2 pos text num by' 23 40
  obtain ⟨W0, hW⟩ : ∃ W0 : World, W0 = ((w.alloc (.cells #[.int .i64 s, .int .i64 k, .int .i64 m, .int .i64 c] 23)).alloc (.cells #[.int .i64 2, .int .i64 pos, .string text, .int .i64 num, .int .u32 by'] 40)) := ⟨_, rfl⟩
  rw [← hW] at hDQ
  have HQ0 := Lib.hid hDQ
  clear d r bp np hN hw hk hm hc ht hDQ
  go_enter Tryz.func7, Tryz.ntmps7
  go_upto_region 1 with fail
  rw [← hW]
  clear hW
  obtain ⟨_, _, _, _, _, g0, g1, g2, g3, a0, a1, a2, a3, a4⟩ := HQ0.out.cells
  go_upto_region 3 with (first
    | (go_at_call 12; with_reducible refine (hF1 _).mono ?_; rintro e w1 ⟨rfl, hb1⟩; have HQ1 := Lib.hid (HQ0.out.below hb1); clear hb1 g0 g1 g2 g3 a0 a1 a2 a3 a4; obtain ⟨_, _, _, _, _, g0, g1, g2, g3, a0, a1, a2, a3, a4⟩ := HQ1.out.cells)
    | (go_at_call 17; with_reducible refine (hF2 _).mono ?_; rintro e w2 ⟨rfl, hb2⟩; have HQ2 := Lib.hid (HQ1.out.below hb2); clear hb2 g0 g1 g2 g3 a0 a1 a2 a3 a4 HQ0 HQ1; obtain ⟨p0, p1, p2, p3, p4, g0, g1, g2, g3, a0, a1, a2, a3, a4⟩ := HQ2.out.cells))
  clear hF1 hF2
  have HX2 := Lib.hid HQ2.out
  go_upto_region 15 with fail
  clear p0 p1 p2 p3 p4 g0 g1 g2 g3 a0 a1 a2 a3 a4
  have gd : DQ w w2.drew p h M M v0 v1 v2 v3 s k m c 2 pos text num by' := HX2.out.drew
  have z0 : ∀ q : Wk (fun W => DQ w W p h M M v0 v1 v2 v3 s k m c 2 pos text num by'), q.W.cell? ⟨p, 0, none⟩ = some (.pointer (some ⟨h.b, 0, none⟩)) := fun q => q.h.bp.c0
  have z1 : ∀ q : Wk (fun W => DQ w W p h M M v0 v1 v2 v3 s k m c 2 pos text num by'), q.W.cell? ⟨p, 1, none⟩ = some v0 := fun q => q.h.bp.c1
  have z2 : ∀ q : Wk (fun W => DQ w W p h M M v0 v1 v2 v3 s k m c 2 pos text num by'), q.W.cell? ⟨p, 2, none⟩ = some v1 := fun q => q.h.bp.c2
  have z3 : ∀ q : Wk (fun W => DQ w W p h M M v0 v1 v2 v3 s k m c 2 pos text num by'), q.W.cell? ⟨p, 3, none⟩ = some v2 := fun q => q.h.bp.c3
  have z4 : ∀ q : Wk (fun W => DQ w W p h M M v0 v1 v2 v3 s k m c 2 pos text num by'), q.W.cell? ⟨p, 4, none⟩ = some v3 := fun q => q.h.bp.c4
  have z5 : ∀ q : Wk (fun W => DQ w W p h M M v0 v1 v2 v3 s k m c 2 pos text num by'), q.W.cell? ⟨w.heap.size, 0, none⟩ = some (.int .i64 s) := fun q => q.h.bg.c0
  have z6 : ∀ q : Wk (fun W => DQ w W p h M M v0 v1 v2 v3 s k m c 2 pos text num by'), q.W.cell? ⟨w.heap.size, 1, none⟩ = some (.int .i64 k) := fun q => q.h.bg.c1
  have z7 : ∀ q : Wk (fun W => DQ w W p h M M v0 v1 v2 v3 s k m c 2 pos text num by'), q.W.cell? ⟨w.heap.size, 2, none⟩ = some (.int .i64 m) := fun q => q.h.bg.c2
  have z8 : ∀ q : Wk (fun W => DQ w W p h M M v0 v1 v2 v3 s k m c 2 pos text num by'), q.W.cell? ⟨w.heap.size, 3, none⟩ = some (.int .i64 c) := fun q => q.h.bg.c3
  have z9 : ∀ q : Wk (fun W => DQ w W p h M M v0 v1 v2 v3 s k m c 2 pos text num by'), q.W.cell? ⟨w.heap.size + 1, 0, none⟩ = some (.int .i64 2) := fun q => q.h.ba.c0
  have z10 : ∀ q : Wk (fun W => DQ w W p h M M v0 v1 v2 v3 s k m c 2 pos text num by'), q.W.cell? ⟨w.heap.size + 1, 1, none⟩ = some (.int .i64 pos) := fun q => q.h.ba.c1
  have z11 : ∀ q : Wk (fun W => DQ w W p h M M v0 v1 v2 v3 s k m c 2 pos text num by'), q.W.cell? ⟨w.heap.size + 1, 2, none⟩ = some (.string text) := fun q => q.h.ba.c2
  have z12 : ∀ q : Wk (fun W => DQ w W p h M M v0 v1 v2 v3 s k m c 2 pos text num by'), q.W.cell? ⟨w.heap.size + 1, 3, none⟩ = some (.int .i64 num) := fun q => q.h.ba.c3
  have z13 : ∀ q : Wk (fun W => DQ w W p h M M v0 v1 v2 v3 s k m c 2 pos text num by'), q.W.cell? ⟨w.heap.size + 1, 4, none⟩ = some (.int .u32 by') := fun q => q.h.ba.c4
  refine wp_region_wk (fun W => DQ w W p h M M v0 v1 v2 v3 s k m c 2 pos text num by') (by kernel_rfl) (by kernel_rfl) gd ?_
  have ne : Nonempty (Wk (fun W => DQ w W p h M M v0 v1 v2 v3 s k m c 2 pos text num by')) := ⟨⟨_, gd⟩⟩
  clear gd
  repeat (refine wpQuiet_step (fun K hK => ?_); go_simp; first
    | (refine hK _ ?_; clear hK K)
    | (apply Exists.intro
       refine ⟨fun q => ?_, hK _ ?_⟩
       (first
         | (go_at_call 20; exact (hRef _ q.h.r).mono fun _ _ h => ⟨h.1, ⟨_, DQ.below q.h h.2⟩, rfl⟩))
       clear hK K))
  refine wpQuiet_nil ?_
  intro q
  have HX3 : Hid (DQ w q.W p h M M v0 v1 v2 v3 s k m c 2 pos text num by') := Lib.hid q.h
  generalize q.W = wx3 at HX3 ⊢
  clear q ne z0 z1 z2 z3 z4 z5 z6 z7 z8 z9 z10 z11 z12 z13
  go_upto_region 16 with fail
  have gd : DQ w wx3.drew p h M M v0 v1 v2 v3 s k m c 2 pos text num by' := HX3.out.drew
  have z0 : ∀ q : Wk (fun W => DQ w W p h M M v0 v1 v2 v3 s k m c 2 pos text num by'), q.W.cell? ⟨p, 0, none⟩ = some (.pointer (some ⟨h.b, 0, none⟩)) := fun q => q.h.bp.c0
  have z1 : ∀ q : Wk (fun W => DQ w W p h M M v0 v1 v2 v3 s k m c 2 pos text num by'), q.W.cell? ⟨p, 1, none⟩ = some v0 := fun q => q.h.bp.c1
  have z2 : ∀ q : Wk (fun W => DQ w W p h M M v0 v1 v2 v3 s k m c 2 pos text num by'), q.W.cell? ⟨p, 2, none⟩ = some v1 := fun q => q.h.bp.c2
  have z3 : ∀ q : Wk (fun W => DQ w W p h M M v0 v1 v2 v3 s k m c 2 pos text num by'), q.W.cell? ⟨p, 3, none⟩ = some v2 := fun q => q.h.bp.c3
  have z4 : ∀ q : Wk (fun W => DQ w W p h M M v0 v1 v2 v3 s k m c 2 pos text num by'), q.W.cell? ⟨p, 4, none⟩ = some v3 := fun q => q.h.bp.c4
  have z5 : ∀ q : Wk (fun W => DQ w W p h M M v0 v1 v2 v3 s k m c 2 pos text num by'), q.W.cell? ⟨w.heap.size, 0, none⟩ = some (.int .i64 s) := fun q => q.h.bg.c0
  have z6 : ∀ q : Wk (fun W => DQ w W p h M M v0 v1 v2 v3 s k m c 2 pos text num by'), q.W.cell? ⟨w.heap.size, 1, none⟩ = some (.int .i64 k) := fun q => q.h.bg.c1
  have z7 : ∀ q : Wk (fun W => DQ w W p h M M v0 v1 v2 v3 s k m c 2 pos text num by'), q.W.cell? ⟨w.heap.size, 2, none⟩ = some (.int .i64 m) := fun q => q.h.bg.c2
  have z8 : ∀ q : Wk (fun W => DQ w W p h M M v0 v1 v2 v3 s k m c 2 pos text num by'), q.W.cell? ⟨w.heap.size, 3, none⟩ = some (.int .i64 c) := fun q => q.h.bg.c3
  have z9 : ∀ q : Wk (fun W => DQ w W p h M M v0 v1 v2 v3 s k m c 2 pos text num by'), q.W.cell? ⟨w.heap.size + 1, 0, none⟩ = some (.int .i64 2) := fun q => q.h.ba.c0
  have z10 : ∀ q : Wk (fun W => DQ w W p h M M v0 v1 v2 v3 s k m c 2 pos text num by'), q.W.cell? ⟨w.heap.size + 1, 1, none⟩ = some (.int .i64 pos) := fun q => q.h.ba.c1
  have z11 : ∀ q : Wk (fun W => DQ w W p h M M v0 v1 v2 v3 s k m c 2 pos text num by'), q.W.cell? ⟨w.heap.size + 1, 2, none⟩ = some (.string text) := fun q => q.h.ba.c2
  have z12 : ∀ q : Wk (fun W => DQ w W p h M M v0 v1 v2 v3 s k m c 2 pos text num by'), q.W.cell? ⟨w.heap.size + 1, 3, none⟩ = some (.int .i64 num) := fun q => q.h.ba.c3
  have z13 : ∀ q : Wk (fun W => DQ w W p h M M v0 v1 v2 v3 s k m c 2 pos text num by'), q.W.cell? ⟨w.heap.size + 1, 4, none⟩ = some (.int .u32 by') := fun q => q.h.ba.c4
  refine wp_region_wk (fun W => DQ w W p h M M v0 v1 v2 v3 s k m c 2 pos text num by') (by kernel_rfl) (by kernel_rfl) gd ?_
  have ne : Nonempty (Wk (fun W => DQ w W p h M M v0 v1 v2 v3 s k m c 2 pos text num by')) := ⟨⟨_, gd⟩⟩
  clear gd
  repeat (refine wpQuiet_step (fun K hK => ?_); go_simp; first
    | (refine hK _ ?_; clear hK K)
    | (apply Exists.intro
       refine ⟨fun q => ?_, hK _ ?_⟩
       (first
         | (go_at_call 16; exact (hDev _ q.h.d).mono fun _ _ h => ⟨h.1, ⟨_, DQ.below q.h h.2⟩, rfl⟩))
       clear hK K))
  refine wpQuiet_nil ?_
  intro q
  have HX4 : Hid (DQ w q.W p h M M v0 v1 v2 v3 s k m c 2 pos text num by') := Lib.hid q.h
  generalize q.W = wx4 at HX4 ⊢
  clear q ne z0 z1 z2 z3 z4 z5 z6 z7 z8 z9 z10 z11 z12 z13
  go_wp2_with fail
  refine bodyPost_ret (v := .bool true) (by simp [results, Tryz.results7, go_sem]) rfl ?_
  exact (HX4.out).out HN1.out rfl (by omega)
end Go.Proofs.YtjhpheepimbbdaaGreatDoor
