/- The first kind of calls: a write of a sector. -/
import Derived.Test.YtmbjcphhfnemgaaRdL
namespace Go.Proofs.Ytmbjcphhfnemgaa
open Go.RowKit Go.Maps

/-- The box was made before. -/
theorem DT.put {w W : World} {h : DH} {M M' : DM} {bt : Nat} {v0 v1 v2 v3 z1 z2 z3 u0 u1 u2 u3 : Value} {x : AM} (k : DS w W h M v0 v1 v2 v3 x) (hs : ∀ k, h.S k → k < w.heap.size) (hz : Bx W bt (.slice none 0 0) z1 z2 z3) (ht : w.heap.size + 1 + 1 < bt) (hn : 1 ≤ M'.n) (r : RefAt W (.agg #[u0, u1, u2, u3]) M') :
    DT w (put4 W bt u0 u1 u2 u3) h M M' bt u0 u1 u2 u3 x := by
  have A := ap_put4 W bt u0 u1 u2 u3
  have q (i : Nat) : h.S (Addr.mk bt i none).block ∨ w.heap.size ≤ (Addr.mk bt i none).block := .inr (by show w.heap.size ≤ bt; omega)
  refine ⟨k.d.ap A (fun i hi e => by have := hs i hi; omega), ?_, hz.put u0 u1 u2 u3, k.b5.ap A (fun e => by omega), k.b6.ap A (fun e => by omega), (((k.a.setCell (q 0) u0).setCell (q 1) u1).setCell (q 2) u2).setCell (q 3) u3, hs, ht⟩
  obtain ⟨b, cap, hv, h1, h2, h3⟩ := r
  refine ⟨b, cap, hv, h1, h2, h3.ap A (fun e => ?_)⟩
  subst e
  have c := (h3.2.1 0 hn).c0
  rw [Nat.zero_mul, hz.c0] at c
  cases c
set_option maxRecDepth 10000 in
set_option maxHeartbeats 20000000 in
theorem does_write {w : World} {h : DH} {M : DM} {v : Value} {x : AM} (d : DevAt w h M) (k : RefAt w v M) (hN : Nrm M) (hsl : ∃ A l c, x.kv = .slice A l c) (hk : x.kind = 0) (hw : M.writes < 1000) :
    Calls Try.prog 11 #[.pointer (some ⟨h.b, 0, none⟩), v, x.v] w fun e w' => Both w h M e w' := by
  have k' := k
  obtain ⟨b, cap, rfl, h1, h2, h3⟩ := k'
  obtain ⟨kind, pos, c, kv, keep, num, turn⟩ := x
  obtain ⟨Ak, lk, ck, hkv⟩ := hsl
  dsimp only at hk hkv
  subst hk hkv
  obtain ⟨M2, hM2⟩ : ∃ M2, M2 = writeM M pos (fillS c) := ⟨_, rfl⟩
  have HNM : Hid (Nrm M2) := Lib.hid (by rw [hM2]; exact (nrm_write hN pos (fillS c)).1)
  have HNN : Hid (M2.n = M.n) := Lib.hid (by rw [hM2]; exact (nrm_write hN pos (fillS c)).2.1)
  have HWW : Hid (M2.writes ≤ M.writes + 1) := Lib.hid (by rw [hM2]; exact (nrm_write hN pos (fillS c)).2.2)
  have hRef : ∀ W, RefAt W (.agg #[.slice (some ⟨b, 0, none⟩) M.n cap, .bool M.down, .int .i64 M.left, .int .i64 (M.writes : Int)]) M → Calls Try.prog 49 #[.agg #[.slice (some ⟨b, 0, none⟩) M.n cap, .bool M.down, .int .i64 M.left, .int .i64 (M.writes : Int)], .int .i64 pos, .string (fillS c)] W fun e w' => ∃ v', e = .returned (.tuple #[v', .int .i64 (writeE M pos (fillS c))]) ∧ RefAt w' v' M2 ∧ Below W.heap.size W w' := fun W hr => by rw [hM2]; exact refWrite_any hr hN (by omega) pos (fillS c)
  have hDev : ∀ W, DevAt W h M → Calls Try.prog 24 #[.pointer (some ⟨h.b, 0, none⟩), .int .i64 pos, .string (fillS c)] W fun e w' => e = .returned (.int .i64 (writeE M pos (fillS c))) ∧ DevAt w' h M2 ∧ Ap h.S W w' := fun W hd => by rw [hM2]; exact devWrite_any hd pos (fillS c) (by omega)
  generalize writeE M pos (fillS c) = ee at hRef hDev
  have hFi := fun W => fill_any c W
  generalize fillS c = F at hRef hDev hFi
  clear hM2 hN
  obtain ⟨n2, su2, fr2, bd2, ct2, dn2, lf2⟩ := M2
  have HS := Lib.hid d.slt
  have hDS := does_start d k ⟨0, pos, c, .slice Ak lk ck, keep, num, turn⟩
  dsimp only at hDS
  obtain ⟨W0, hW⟩ : ∃ W0 : World, W0 = (((w.alloc (.cells #[.slice (some ⟨b, 0, none⟩) M.n cap, .bool M.down, .int .i64 M.left, .int .i64 (M.writes : Int)] 30)).alloc (.cells #[.int .i64 0, .int .i64 pos, .int .u8 (c.toNat : Int), .slice Ak lk ck, .int .i64 num, .int .u32 turn] 36)).alloc (.cells #[.slice none 0 0, .bool false, .int .i64 0, .int .i64 0] 30)) := ⟨_, rfl⟩
  rw [← hW] at hDS
  have HDS := Lib.hid hDS
  clear d k h3 hDS
  unfold AM.v
  go_enter Try.func11, Try.ntmps11
  go_upto_region 1 with fail
  rw [← hW]
  clear hW
  have k0 := HDS.out.b5.c0
  dsimp only at k0
  go_upto_region 3 with fail
  clear k0
  have HK0 : Hid (W0.cell? ⟨w.heap.size, 0, none⟩ = some (.slice (some ⟨b, 0, none⟩) M.n cap) ∧ W0.cell? ⟨w.heap.size, 1, none⟩ = some (.bool M.down) ∧ W0.cell? ⟨w.heap.size, 2, none⟩ = some (.int .i64 M.left) ∧ W0.cell? ⟨w.heap.size, 3, none⟩ = some (.int .i64 (M.writes : Int)) ∧ W0.cell? ⟨w.heap.size + 1, 1, none⟩ = some (.int .i64 pos) ∧ W0.cell? ⟨w.heap.size + 1, 2, none⟩ = some (.int .u8 (c.toNat : Int))) := Lib.hid ⟨HDS.out.b4.c0, HDS.out.b4.c1, HDS.out.b4.c2, HDS.out.b4.c3, HDS.out.b5.c1, HDS.out.b5.c2⟩
  have HKA : Hid (∀ oo : Obj, (W0.alloc oo).cell? ⟨w.heap.size, 0, none⟩ = some (.slice (some ⟨b, 0, none⟩) M.n cap) ∧ (W0.alloc oo).cell? ⟨w.heap.size, 1, none⟩ = some (.bool M.down) ∧ (W0.alloc oo).cell? ⟨w.heap.size, 2, none⟩ = some (.int .i64 M.left) ∧ (W0.alloc oo).cell? ⟨w.heap.size, 3, none⟩ = some (.int .i64 (M.writes : Int)) ∧ (W0.alloc oo).cell? ⟨w.heap.size + 1, 1, none⟩ = some (.int .i64 pos) ∧ (W0.alloc oo).cell? ⟨w.heap.size + 1, 2, none⟩ = some (.int .u8 (c.toNat : Int))) := Lib.hid (fun oo => have D := HDS.out.below (below1 W0 oo); ⟨D.b4.c0, D.b4.c1, D.b4.c2, D.b4.c3, D.b5.c1, D.b5.c2⟩)
  have HKC : Hid (W0.drew.cell? ⟨w.heap.size, 0, none⟩ = some (.slice (some ⟨b, 0, none⟩) M.n cap) ∧ W0.drew.cell? ⟨w.heap.size, 1, none⟩ = some (.bool M.down) ∧ W0.drew.cell? ⟨w.heap.size, 2, none⟩ = some (.int .i64 M.left) ∧ W0.drew.cell? ⟨w.heap.size, 3, none⟩ = some (.int .i64 (M.writes : Int)) ∧ W0.drew.cell? ⟨w.heap.size + 1, 1, none⟩ = some (.int .i64 pos) ∧ W0.drew.cell? ⟨w.heap.size + 1, 2, none⟩ = some (.int .u8 (c.toNat : Int))) := Lib.hid HK0.out
  have HKD : Hid (∀ oo : Obj, (W0.alloc oo).drew.cell? ⟨w.heap.size, 0, none⟩ = some (.slice (some ⟨b, 0, none⟩) M.n cap) ∧ (W0.alloc oo).drew.cell? ⟨w.heap.size, 1, none⟩ = some (.bool M.down) ∧ (W0.alloc oo).drew.cell? ⟨w.heap.size, 2, none⟩ = some (.int .i64 M.left) ∧ (W0.alloc oo).drew.cell? ⟨w.heap.size, 3, none⟩ = some (.int .i64 (M.writes : Int)) ∧ (W0.alloc oo).drew.cell? ⟨w.heap.size + 1, 1, none⟩ = some (.int .i64 pos) ∧ (W0.alloc oo).drew.cell? ⟨w.heap.size + 1, 2, none⟩ = some (.int .u8 (c.toNat : Int))) := Lib.hid (fun oo => HKA.out oo)
  have HKE : Hid (∀ oo : Obj, (W0.drew.alloc oo).cell? ⟨w.heap.size, 0, none⟩ = some (.slice (some ⟨b, 0, none⟩) M.n cap) ∧ (W0.drew.alloc oo).cell? ⟨w.heap.size, 1, none⟩ = some (.bool M.down) ∧ (W0.drew.alloc oo).cell? ⟨w.heap.size, 2, none⟩ = some (.int .i64 M.left) ∧ (W0.drew.alloc oo).cell? ⟨w.heap.size, 3, none⟩ = some (.int .i64 (M.writes : Int)) ∧ (W0.drew.alloc oo).cell? ⟨w.heap.size + 1, 1, none⟩ = some (.int .i64 pos) ∧ (W0.drew.alloc oo).cell? ⟨w.heap.size + 1, 2, none⟩ = some (.int .u8 (c.toNat : Int))) := Lib.hid (fun oo => have D := HDS.out.drew.below (below1 W0.drew oo); ⟨D.b4.c0, D.b4.c1, D.b4.c2, D.b4.c3, D.b5.c1, D.b5.c2⟩)
  go_region_held3 (fun w' => w'.cell? ⟨w.heap.size, 0, none⟩ = some (.slice (some ⟨b, 0, none⟩) M.n cap) ∧ w'.cell? ⟨w.heap.size, 1, none⟩ = some (.bool M.down) ∧ w'.cell? ⟨w.heap.size, 2, none⟩ = some (.int .i64 M.left) ∧ w'.cell? ⟨w.heap.size, 3, none⟩ = some (.int .i64 (M.writes : Int)) ∧ w'.cell? ⟨w.heap.size + 1, 1, none⟩ = some (.int .i64 pos) ∧ w'.cell? ⟨w.heap.size + 1, 2, none⟩ = some (.int .u8 (c.toNat : Int))) (first | with_reducible exact HK0.out | with_reducible exact HKC.out | with_reducible exact HKA.out _ | with_reducible exact HKD.out _ | with_reducible exact HKE.out _ | with_reducible exact HK1.out | with_reducible exact HKB.out _ | with_reducible exact HK2.out | with_reducible exact HK3.out _ | with_reducible exact HK4.out | with_reducible exact HK5.out)
    (first
      | (go_at_call 25; refine (hFi _).mono ?_; rintro e w1 ⟨rfl, hb1⟩; have HD1 : Hid (DS w w1 h M (.slice (some ⟨b, 0, none⟩) M.n cap) (.bool M.down) (.int .i64 M.left) (.int .i64 (M.writes : Int)) ⟨0, pos, c, .slice Ak lk ck, keep, num, turn⟩) := Lib.hid (by first | with_reducible exact HDS.out.drew.below hb1 | with_reducible exact (HDS.out.below (below1 W0 (.cells #[.slice none 0 0, .bool false, .int .i64 0, .int .i64 0] 30))).drew.below hb1 | with_reducible exact (HDS.out.drew.below (below1 W0.drew (.cells #[.slice none 0 0, .bool false, .int .i64 0, .int .i64 0] 30))).below hb1)
         first | (have HZ1 : Hid (Bx w1 W0.heap.size (.slice none 0 0) (.bool false) (.int .i64 0) (.int .i64 0)) := Lib.hid (by with_reducible exact (Bx.new W0 (.slice none 0 0) (.bool false) (.int .i64 0) (.int .i64 0) 30).drew.below hb1)) | skip
         have HK1 : Hid (w1.cell? ⟨w.heap.size, 0, none⟩ = some (.slice (some ⟨b, 0, none⟩) M.n cap) ∧ w1.cell? ⟨w.heap.size, 1, none⟩ = some (.bool M.down) ∧ w1.cell? ⟨w.heap.size, 2, none⟩ = some (.int .i64 M.left) ∧ w1.cell? ⟨w.heap.size, 3, none⟩ = some (.int .i64 (M.writes : Int)) ∧ w1.cell? ⟨w.heap.size + 1, 1, none⟩ = some (.int .i64 pos) ∧ w1.cell? ⟨w.heap.size + 1, 2, none⟩ = some (.int .u8 (c.toNat : Int))) := Lib.hid ⟨HD1.out.b4.c0, HD1.out.b4.c1, HD1.out.b4.c2, HD1.out.b4.c3, HD1.out.b5.c1, HD1.out.b5.c2⟩; have HKB : Hid (∀ oo : Obj, (w1.alloc oo).cell? ⟨w.heap.size, 0, none⟩ = some (.slice (some ⟨b, 0, none⟩) M.n cap) ∧ (w1.alloc oo).cell? ⟨w.heap.size, 1, none⟩ = some (.bool M.down) ∧ (w1.alloc oo).cell? ⟨w.heap.size, 2, none⟩ = some (.int .i64 M.left) ∧ (w1.alloc oo).cell? ⟨w.heap.size, 3, none⟩ = some (.int .i64 (M.writes : Int)) ∧ (w1.alloc oo).cell? ⟨w.heap.size + 1, 1, none⟩ = some (.int .i64 pos) ∧ (w1.alloc oo).cell? ⟨w.heap.size + 1, 2, none⟩ = some (.int .u8 (c.toNat : Int))) := Lib.hid (fun oo => have D := HD1.out.below (below1 w1 oo); ⟨D.b4.c0, D.b4.c1, D.b4.c2, D.b4.c3, D.b5.c1, D.b5.c2⟩); clear hb1)
      | (go_at_call 49; (first | (with_reducible refine (hRef _ HD1.out.r).mono ?_) | (with_reducible refine (hRef _ (HD1.out.below (below1 w1 (.cells #[.slice none 0 0, .bool false, .int .i64 0, .int .i64 0] 30))).r).mono ?_)); rintro e w2 ⟨v2, rfl, hr1, hb1⟩; obtain ⟨g, cg, rfl, q1, q2, hrow⟩ := hr1; have HR1 : Hid (RefAt w2 (.agg #[.slice (some ⟨g, 0, none⟩) n2 cg, .bool dn2, .int .i64 lf2, .int .i64 (ct2 : Int)]) ⟨n2, su2, fr2, bd2, ct2, dn2, lf2⟩) := Lib.hid ⟨g, cg, rfl, q1, q2, hrow⟩; have HDS1 : Hid (DS w w2 h M (.slice (some ⟨b, 0, none⟩) M.n cap) (.bool M.down) (.int .i64 M.left) (.int .i64 (M.writes : Int)) ⟨0, pos, c, .slice Ak lk ck, keep, num, turn⟩) := Lib.hid (by first | with_reducible exact HD1.out.below hb1 | with_reducible exact (HD1.out.below (below1 w1 (.cells #[.slice none 0 0, .bool false, .int .i64 0, .int .i64 0] 30))).below hb1)
         have HK2 : Hid (w2.cell? ⟨w.heap.size, 0, none⟩ = some (.slice (some ⟨b, 0, none⟩) M.n cap) ∧ w2.cell? ⟨w.heap.size, 1, none⟩ = some (.bool M.down) ∧ w2.cell? ⟨w.heap.size, 2, none⟩ = some (.int .i64 M.left) ∧ w2.cell? ⟨w.heap.size, 3, none⟩ = some (.int .i64 (M.writes : Int)) ∧ w2.cell? ⟨w.heap.size + 1, 1, none⟩ = some (.int .i64 pos) ∧ w2.cell? ⟨w.heap.size + 1, 2, none⟩ = some (.int .u8 (c.toNat : Int))) := Lib.hid ⟨HDS1.out.b4.c0, HDS1.out.b4.c1, HDS1.out.b4.c2, HDS1.out.b4.c3, HDS1.out.b5.c1, HDS1.out.b5.c2⟩; have HK3 : Hid (∀ oo : Obj, (w2.alloc oo).cell? ⟨w.heap.size, 0, none⟩ = some (.slice (some ⟨b, 0, none⟩) M.n cap) ∧ (w2.alloc oo).cell? ⟨w.heap.size, 1, none⟩ = some (.bool M.down) ∧ (w2.alloc oo).cell? ⟨w.heap.size, 2, none⟩ = some (.int .i64 M.left) ∧ (w2.alloc oo).cell? ⟨w.heap.size, 3, none⟩ = some (.int .i64 (M.writes : Int)) ∧ (w2.alloc oo).cell? ⟨w.heap.size + 1, 1, none⟩ = some (.int .i64 pos) ∧ (w2.alloc oo).cell? ⟨w.heap.size + 1, 2, none⟩ = some (.int .u8 (c.toNat : Int))) := Lib.hid (fun oo => have D := HDS1.out.below (below1 w2 oo); ⟨D.b4.c0, D.b4.c1, D.b4.c2, D.b4.c3, D.b5.c1, D.b5.c2⟩)
         first
           | (have HZ2 : Hid (Bx w2 W0.heap.size (.slice none 0 0) (.bool false) (.int .i64 0) (.int .i64 0)) := Lib.hid (HZ1.out.below hb1); have HP : Hid (Ap (fun k => k = W0.heap.size) w2 (put4 w2 W0.heap.size (.slice (some ⟨g, 0, none⟩) n2 cg) (.bool dn2) (.int .i64 lf2) (.int .i64 (ct2 : Int)))) := Lib.hid (ap_put4 ..); have HK4 : Hid ((put4 w2 W0.heap.size (.slice (some ⟨g, 0, none⟩) n2 cg) (.bool dn2) (.int .i64 lf2) (.int .i64 (ct2 : Int))).cell? ⟨w.heap.size, 0, none⟩ = some (.slice (some ⟨b, 0, none⟩) M.n cap) ∧ (put4 w2 W0.heap.size (.slice (some ⟨g, 0, none⟩) n2 cg) (.bool dn2) (.int .i64 lf2) (.int .i64 (ct2 : Int))).cell? ⟨w.heap.size, 1, none⟩ = some (.bool M.down) ∧ (put4 w2 W0.heap.size (.slice (some ⟨g, 0, none⟩) n2 cg) (.bool dn2) (.int .i64 lf2) (.int .i64 (ct2 : Int))).cell? ⟨w.heap.size, 2, none⟩ = some (.int .i64 M.left) ∧ (put4 w2 W0.heap.size (.slice (some ⟨g, 0, none⟩) n2 cg) (.bool dn2) (.int .i64 lf2) (.int .i64 (ct2 : Int))).cell? ⟨w.heap.size, 3, none⟩ = some (.int .i64 (M.writes : Int)) ∧ (put4 w2 W0.heap.size (.slice (some ⟨g, 0, none⟩) n2 cg) (.bool dn2) (.int .i64 lf2) (.int .i64 (ct2 : Int))).cell? ⟨w.heap.size + 1, 1, none⟩ = some (.int .i64 pos) ∧ (put4 w2 W0.heap.size (.slice (some ⟨g, 0, none⟩) n2 cg) (.bool dn2) (.int .i64 lf2) (.int .i64 (ct2 : Int))).cell? ⟨w.heap.size + 1, 2, none⟩ = some (.int .u8 (c.toNat : Int))) := Lib.hid (have B4 := HDS1.out.b4.ap HP.out (fun e => by have := HDS.out.b6.lt; omega); have B5 := HDS1.out.b5.ap HP.out (fun e => by have := HDS.out.b6.lt; omega); ⟨B4.c0, B4.c1, B4.c2, B4.c3, B5.c1, B5.c2⟩); unfold put4 at HK4; obtain ⟨_, z0, z1, z2, z3, y0, y1, y2, y3⟩ := HZ2.out)
           | (have HZ3 : Hid (Bx w2 w1.heap.size (.slice none 0 0) (.bool false) (.int .i64 0) (.int .i64 0)) := Lib.hid (by with_reducible exact (Bx.new w1 (.slice none 0 0) (.bool false) (.int .i64 0) (.int .i64 0) 30).below hb1); have HP : Hid (Ap (fun k => k = w1.heap.size) w2 (put4 w2 w1.heap.size (.slice (some ⟨g, 0, none⟩) n2 cg) (.bool dn2) (.int .i64 lf2) (.int .i64 (ct2 : Int)))) := Lib.hid (ap_put4 ..); have HK5 : Hid ((put4 w2 w1.heap.size (.slice (some ⟨g, 0, none⟩) n2 cg) (.bool dn2) (.int .i64 lf2) (.int .i64 (ct2 : Int))).cell? ⟨w.heap.size, 0, none⟩ = some (.slice (some ⟨b, 0, none⟩) M.n cap) ∧ (put4 w2 w1.heap.size (.slice (some ⟨g, 0, none⟩) n2 cg) (.bool dn2) (.int .i64 lf2) (.int .i64 (ct2 : Int))).cell? ⟨w.heap.size, 1, none⟩ = some (.bool M.down) ∧ (put4 w2 w1.heap.size (.slice (some ⟨g, 0, none⟩) n2 cg) (.bool dn2) (.int .i64 lf2) (.int .i64 (ct2 : Int))).cell? ⟨w.heap.size, 2, none⟩ = some (.int .i64 M.left) ∧ (put4 w2 w1.heap.size (.slice (some ⟨g, 0, none⟩) n2 cg) (.bool dn2) (.int .i64 lf2) (.int .i64 (ct2 : Int))).cell? ⟨w.heap.size, 3, none⟩ = some (.int .i64 (M.writes : Int)) ∧ (put4 w2 w1.heap.size (.slice (some ⟨g, 0, none⟩) n2 cg) (.bool dn2) (.int .i64 lf2) (.int .i64 (ct2 : Int))).cell? ⟨w.heap.size + 1, 1, none⟩ = some (.int .i64 pos) ∧ (put4 w2 w1.heap.size (.slice (some ⟨g, 0, none⟩) n2 cg) (.bool dn2) (.int .i64 lf2) (.int .i64 (ct2 : Int))).cell? ⟨w.heap.size + 1, 2, none⟩ = some (.int .u8 (c.toNat : Int))) := Lib.hid (have B4 := HDS1.out.b4.ap HP.out (fun e => by have := HD1.out.b6.lt; omega); have B5 := HDS1.out.b5.ap HP.out (fun e => by have := HD1.out.b6.lt; omega); ⟨B4.c0, B4.c1, B4.c2, B4.c3, B5.c1, B5.c2⟩); unfold put4 at HK5; obtain ⟨_, z0, z1, z2, z3, y0, y1, y2, y3⟩ := HZ3.out)
           | skip
         clear hb1 hrow))
  · go_upto_region 4 with fail
    have HD2 := Lib.hid (DT.of HDS1.out HS.out HR1.out)
    skip
    generalize w2.alloc (.cells #[.slice (some ⟨g, 0, none⟩) n2 cg, .bool dn2, .int .i64 lf2, .int .i64 (ct2 : Int)] 30) = w3 at HD2 ⊢
    generalize w2.heap.size = bt at HD2 ⊢
    have HT2 := Lib.hid HD2.out.cells
    unfold SCells at HT2
    dsimp only at HT2
    have HTD : Hid (w3.drew.cell? ⟨bt, 0, none⟩ = some (.slice (some ⟨g, 0, none⟩) n2 cg) ∧ w3.drew.cell? ⟨bt, 1, none⟩ = some (.bool dn2) ∧ w3.drew.cell? ⟨bt, 2, none⟩ = some (.int .i64 lf2) ∧ w3.drew.cell? ⟨bt, 3, none⟩ = some (.int .i64 (ct2 : Int)) ∧ w3.drew.cell? ⟨w.heap.size + 1, 1, none⟩ = some (.int .i64 pos) ∧ w3.drew.cell? ⟨w.heap.size + 1, 2, none⟩ = some (.int .u8 (c.toNat : Int)) ∧ w3.drew.cell? ⟨w.heap.size + 1, 4, none⟩ = some (.int .i64 num) ∧ w3.drew.cell? ⟨w.heap.size + 1, 5, none⟩ = some (.int .u32 turn)) := Lib.hid HT2.out
    go_region_held3 (fun w' => w'.cell? ⟨bt, 0, none⟩ = some (.slice (some ⟨g, 0, none⟩) n2 cg) ∧ w'.cell? ⟨bt, 1, none⟩ = some (.bool dn2) ∧ w'.cell? ⟨bt, 2, none⟩ = some (.int .i64 lf2) ∧ w'.cell? ⟨bt, 3, none⟩ = some (.int .i64 (ct2 : Int)) ∧ w'.cell? ⟨w.heap.size + 1, 1, none⟩ = some (.int .i64 pos) ∧ w'.cell? ⟨w.heap.size + 1, 2, none⟩ = some (.int .u8 (c.toNat : Int)) ∧ w'.cell? ⟨w.heap.size + 1, 4, none⟩ = some (.int .i64 num) ∧ w'.cell? ⟨w.heap.size + 1, 5, none⟩ = some (.int .u32 turn)) (first | with_reducible exact HT2.out | with_reducible exact HTD.out | with_reducible exact HTB.out | with_reducible exact HT3.out | exact HT4.out)
      (first
        | (go_at_call 25; refine (hFi _).mono ?_; rintro e w4 ⟨rfl, hb4⟩; have HDB := Lib.hid (HD2.out.drew.below hb4); have HTB := Lib.hid HDB.out.cells; unfold SCells at HTB; dsimp only at HTB; clear hb4)
        | (go_at_call 24; (with_reducible refine (hDev _ HDB.out.d).mono ?_); rintro e w5 ⟨rfl, hd5, ha5⟩; have HD3 := Lib.hid (HDB.out.step HNM.out.n1 hd5 ha5); clear hd5 ha5; have HT3 := Lib.hid HD3.out.cells; unfold SCells at HT3; dsimp only at HT3; have HT4 := Lib.hid HD3.out.cells4; unfold SCells at HT4; dsimp only at HT4; have HE := Lib.hid (does_stored HD3.out.b6 HD3.out.d HD3.out.r HD3.out.a HS.out); obtain ⟨_, q0, q1, q2, q3, v0, v1, v2, v3⟩ := HD3.out.b6))
    go_wp2_with fail
    obtain ⟨⟨_, y0, y1, y2, y3, _, _, _, _⟩, hdE, hrE, haE⟩ := HE.out
    unfold put4 at y0 y1 y2 y3 hdE hrE haE
    refine bodyPost_ret (v := .tuple #[.agg #[.slice (some ⟨g, 0, none⟩) n2 cg, .bool dn2, .int .i64 lf2, .int .i64 (ct2 : Int)], .bool true]) (by simp [results, Try.results11, go_sem, y0, y1, y2, y3]) rfl ?_
    exact ⟨_, _, rfl, hdE, hrE, HNM.out, HNN.out, HWW.out, haE⟩
  · go_upto_region 4 with fail
    have HD2 := Lib.hid (DT.put HDS1.out HS.out HZ3.out HD1.out.b6.lt HNM.out.n1 HR1.out)
    unfold put4 at HD2
    generalize ((((w2.setCell ⟨w1.heap.size, 0, none⟩ (.slice (some ⟨g, 0, none⟩) n2 cg)).setCell ⟨w1.heap.size, 1, none⟩ (.bool dn2)).setCell ⟨w1.heap.size, 2, none⟩ (.int .i64 lf2)).setCell ⟨w1.heap.size, 3, none⟩ (.int .i64 (ct2 : Int))) = w3 at HD2 ⊢
    generalize w1.heap.size = bt at HD2 ⊢
    have HT2 := Lib.hid HD2.out.cells
    unfold SCells at HT2
    dsimp only at HT2
    have HTD : Hid (w3.drew.cell? ⟨bt, 0, none⟩ = some (.slice (some ⟨g, 0, none⟩) n2 cg) ∧ w3.drew.cell? ⟨bt, 1, none⟩ = some (.bool dn2) ∧ w3.drew.cell? ⟨bt, 2, none⟩ = some (.int .i64 lf2) ∧ w3.drew.cell? ⟨bt, 3, none⟩ = some (.int .i64 (ct2 : Int)) ∧ w3.drew.cell? ⟨w.heap.size + 1, 1, none⟩ = some (.int .i64 pos) ∧ w3.drew.cell? ⟨w.heap.size + 1, 2, none⟩ = some (.int .u8 (c.toNat : Int)) ∧ w3.drew.cell? ⟨w.heap.size + 1, 4, none⟩ = some (.int .i64 num) ∧ w3.drew.cell? ⟨w.heap.size + 1, 5, none⟩ = some (.int .u32 turn)) := Lib.hid HT2.out
    go_region_held3 (fun w' => w'.cell? ⟨bt, 0, none⟩ = some (.slice (some ⟨g, 0, none⟩) n2 cg) ∧ w'.cell? ⟨bt, 1, none⟩ = some (.bool dn2) ∧ w'.cell? ⟨bt, 2, none⟩ = some (.int .i64 lf2) ∧ w'.cell? ⟨bt, 3, none⟩ = some (.int .i64 (ct2 : Int)) ∧ w'.cell? ⟨w.heap.size + 1, 1, none⟩ = some (.int .i64 pos) ∧ w'.cell? ⟨w.heap.size + 1, 2, none⟩ = some (.int .u8 (c.toNat : Int)) ∧ w'.cell? ⟨w.heap.size + 1, 4, none⟩ = some (.int .i64 num) ∧ w'.cell? ⟨w.heap.size + 1, 5, none⟩ = some (.int .u32 turn)) (first | with_reducible exact HT2.out | with_reducible exact HTD.out | with_reducible exact HTB.out | with_reducible exact HT3.out | exact HT4.out)
      (first
        | (go_at_call 25; refine (hFi _).mono ?_; rintro e w4 ⟨rfl, hb4⟩; have HDB := Lib.hid (HD2.out.drew.below hb4); have HTB := Lib.hid HDB.out.cells; unfold SCells at HTB; dsimp only at HTB; clear hb4)
        | (go_at_call 24; (with_reducible refine (hDev _ HDB.out.d).mono ?_); rintro e w5 ⟨rfl, hd5, ha5⟩; have HD3 := Lib.hid (HDB.out.step HNM.out.n1 hd5 ha5); clear hd5 ha5; have HT3 := Lib.hid HD3.out.cells; unfold SCells at HT3; dsimp only at HT3; have HT4 := Lib.hid HD3.out.cells4; unfold SCells at HT4; dsimp only at HT4; have HE := Lib.hid (does_stored HD3.out.b6 HD3.out.d HD3.out.r HD3.out.a HS.out); obtain ⟨_, q0, q1, q2, q3, v0, v1, v2, v3⟩ := HD3.out.b6))
    go_wp2_with fail
    obtain ⟨⟨_, y0, y1, y2, y3, _, _, _, _⟩, hdE, hrE, haE⟩ := HE.out
    unfold put4 at y0 y1 y2 y3 hdE hrE haE
    refine bodyPost_ret (v := .tuple #[.agg #[.slice (some ⟨g, 0, none⟩) n2 cg, .bool dn2, .int .i64 lf2, .int .i64 (ct2 : Int)], .bool true]) (by simp [results, Try.results11, go_sem, y0, y1, y2, y3]) rfl ?_
    exact ⟨_, _, rfl, hdE, hrE, HNM.out, HNN.out, HWW.out, haE⟩
  · go_upto_region 4 with fail
    have HD2 := Lib.hid (DT.put HDS1.out HS.out HZ2.out HDS.out.b6.lt HNM.out.n1 HR1.out)
    unfold put4 at HD2
    generalize ((((w2.setCell ⟨W0.heap.size, 0, none⟩ (.slice (some ⟨g, 0, none⟩) n2 cg)).setCell ⟨W0.heap.size, 1, none⟩ (.bool dn2)).setCell ⟨W0.heap.size, 2, none⟩ (.int .i64 lf2)).setCell ⟨W0.heap.size, 3, none⟩ (.int .i64 (ct2 : Int))) = w3 at HD2 ⊢
    generalize W0.heap.size = bt at HD2 ⊢
    have HT2 := Lib.hid HD2.out.cells
    unfold SCells at HT2
    dsimp only at HT2
    have HTD : Hid (w3.drew.cell? ⟨bt, 0, none⟩ = some (.slice (some ⟨g, 0, none⟩) n2 cg) ∧ w3.drew.cell? ⟨bt, 1, none⟩ = some (.bool dn2) ∧ w3.drew.cell? ⟨bt, 2, none⟩ = some (.int .i64 lf2) ∧ w3.drew.cell? ⟨bt, 3, none⟩ = some (.int .i64 (ct2 : Int)) ∧ w3.drew.cell? ⟨w.heap.size + 1, 1, none⟩ = some (.int .i64 pos) ∧ w3.drew.cell? ⟨w.heap.size + 1, 2, none⟩ = some (.int .u8 (c.toNat : Int)) ∧ w3.drew.cell? ⟨w.heap.size + 1, 4, none⟩ = some (.int .i64 num) ∧ w3.drew.cell? ⟨w.heap.size + 1, 5, none⟩ = some (.int .u32 turn)) := Lib.hid HT2.out
    go_region_held3 (fun w' => w'.cell? ⟨bt, 0, none⟩ = some (.slice (some ⟨g, 0, none⟩) n2 cg) ∧ w'.cell? ⟨bt, 1, none⟩ = some (.bool dn2) ∧ w'.cell? ⟨bt, 2, none⟩ = some (.int .i64 lf2) ∧ w'.cell? ⟨bt, 3, none⟩ = some (.int .i64 (ct2 : Int)) ∧ w'.cell? ⟨w.heap.size + 1, 1, none⟩ = some (.int .i64 pos) ∧ w'.cell? ⟨w.heap.size + 1, 2, none⟩ = some (.int .u8 (c.toNat : Int)) ∧ w'.cell? ⟨w.heap.size + 1, 4, none⟩ = some (.int .i64 num) ∧ w'.cell? ⟨w.heap.size + 1, 5, none⟩ = some (.int .u32 turn)) (first | with_reducible exact HT2.out | with_reducible exact HTD.out | with_reducible exact HTB.out | with_reducible exact HT3.out | exact HT4.out)
      (first
        | (go_at_call 25; refine (hFi _).mono ?_; rintro e w4 ⟨rfl, hb4⟩; have HDB := Lib.hid (HD2.out.drew.below hb4); have HTB := Lib.hid HDB.out.cells; unfold SCells at HTB; dsimp only at HTB; clear hb4)
        | (go_at_call 24; (with_reducible refine (hDev _ HDB.out.d).mono ?_); rintro e w5 ⟨rfl, hd5, ha5⟩; have HD3 := Lib.hid (HDB.out.step HNM.out.n1 hd5 ha5); clear hd5 ha5; have HT3 := Lib.hid HD3.out.cells; unfold SCells at HT3; dsimp only at HT3; have HT4 := Lib.hid HD3.out.cells4; unfold SCells at HT4; dsimp only at HT4; have HE := Lib.hid (does_stored HD3.out.b6 HD3.out.d HD3.out.r HD3.out.a HS.out); obtain ⟨_, q0, q1, q2, q3, v0, v1, v2, v3⟩ := HD3.out.b6))
    go_wp2_with fail
    obtain ⟨⟨_, y0, y1, y2, y3, _, _, _, _⟩, hdE, hrE, haE⟩ := HE.out
    unfold put4 at y0 y1 y2 y3 hdE hrE haE
    refine bodyPost_ret (v := .tuple #[.agg #[.slice (some ⟨g, 0, none⟩) n2 cg, .bool dn2, .int .i64 lf2, .int .i64 (ct2 : Int)], .bool true]) (by simp [results, Try.results11, go_sem, y0, y1, y2, y3]) rfl ?_
    exact ⟨_, _, rfl, hdE, hrE, HNM.out, HNN.out, HWW.out, haE⟩
end Go.Proofs.Ytmbjcphhfnemgaa
