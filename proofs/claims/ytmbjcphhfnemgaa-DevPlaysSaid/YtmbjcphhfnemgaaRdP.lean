/- The kinds of calls, one by one: crash, fuse, read, and a write of two bytes. -/
import Derived.Test.YtmbjcphhfnemgaaRdL
namespace Go.Proofs.Ytmbjcphhfnemgaa
open Go.RowKit Go.Maps

theorem BoolsAt.toS {W : World} {h : DH} {v : Value} {Q : List Bool} (k : BoolsAt W h v Q) : BoolsS W v Q := by
  obtain ⟨A, cap, hv, h1, h2, h3⟩ := k
  refine ⟨A, cap, hv, h1, (by unfold maxLen; omega), ?_⟩
  rcases h3 with h3 | ⟨b, off, hA, hlt, _, hc⟩
  · exact .inl h3
  · exact .inr ⟨b, off, hA, hlt, hc⟩
set_option maxRecDepth 10000 in
set_option maxHeartbeats 2000000 in
theorem does_crash {w : World} {h : DH} {M : DM} {v : Value} {x : AM} (d : DevAt w h M) (k : RefAt w v M) (hN : Nrm M) (hsl : ∃ A l c, x.kv = .slice A l c) (hk : x.kind = 2) (hB : BoolsAt w h x.kv x.keep) :
    Calls Try.prog 11 #[.pointer (some ⟨h.b, 0, none⟩), v, x.v] w fun e w' => Both w h M e w' := by
  have k' := k
  obtain ⟨b, cap, rfl, h1, h2, h3⟩ := k'
  obtain ⟨kind, pos, c, kv, keep, num, turn⟩ := x
  obtain ⟨Ak, lk, ck, hkv⟩ := hsl
  dsimp only at hk hkv
  subst hk hkv
  dsimp only at hB
  obtain ⟨M2, hM2⟩ : ∃ M2, M2 = crashM M keep := ⟨_, rfl⟩
  have HNM : Hid (Nrm M2) := Lib.hid (by rw [hM2]; exact ⟨hN.n1, hN.n2, Int.le_refl _, (by show (-1 : Int) ≤ _; omega)⟩)
  have HNN : Hid (M2.n = M.n) := Lib.hid (by rw [hM2]; exact rfl)
  have HWW : Hid (M2.writes ≤ M.writes + 1) := Lib.hid (by rw [hM2]; exact (by show M.writes ≤ _; omega))
  have HBA := Lib.hid hB
  have HN1 := Lib.hid hN.n1
  have hRef : ∀ W, RefAt W (.agg #[.slice (some ⟨b, 0, none⟩) M.n cap, .bool M.down, .int .i64 M.left, .int .i64 (M.writes : Int)]) M → BoolsS W (.slice Ak lk ck) keep → Calls Try.prog 51 #[.agg #[.slice (some ⟨b, 0, none⟩) M.n cap, .bool M.down, .int .i64 M.left, .int .i64 (M.writes : Int)], .slice Ak lk ck] W fun e w' => ∃ v', e = .returned v' ∧ RefAt w' v' M2 ∧ Below W.heap.size W w' := fun W hr hq => by rw [hM2]; exact refCrash_any hr hN hq
  have hDev : ∀ W, DevAt W h M → BoolsAt W h (.slice Ak lk ck) keep → Calls Try.prog 28 #[.pointer (some ⟨h.b, 0, none⟩), .slice Ak lk ck] W fun e w' => e = .returned (.tuple #[]) ∧ DevAt w' h M2 ∧ Ap h.S W w' := fun W hd hq => by rw [hM2]; exact devCrash_any hd hq
  clear hM2 hN hB
  obtain ⟨n2, su2, fr2, bd2, ct2, dn2, lf2⟩ := M2
  have HS := Lib.hid d.slt
  have hDS := does_start d k ⟨2, pos, c, .slice Ak lk ck, keep, num, turn⟩
  dsimp only at hDS
  obtain ⟨W0, hW⟩ : ∃ W0 : World, W0 = (((w.alloc (.cells #[.slice (some ⟨b, 0, none⟩) M.n cap, .bool M.down, .int .i64 M.left, .int .i64 (M.writes : Int)] 30)).alloc (.cells #[.int .i64 2, .int .i64 pos, .int .u8 (c.toNat : Int), .slice Ak lk ck, .int .i64 num, .int .u32 turn] 36)).alloc (.cells #[.slice none 0 0, .bool false, .int .i64 0, .int .i64 0] 30)) := ⟨_, rfl⟩
  rw [← hW] at hDS
  have HDS := Lib.hid hDS
  clear d k h3 hDS
  unfold AM.v
  go_enter Try.func11, Try.ntmps11
  go_upto_region 1 with fail
  rw [← hW]
  clear hW
  have k0 := HDS.out.b5.c0
  dsimp only at k0
  have k1 := HDS.out.b5.c1; have k2 := HDS.out.b5.c2; have k3 := HDS.out.b5.c3; have k4 := HDS.out.b5.c4; have k5 := HDS.out.b5.c5; dsimp only at k1 k2 k3 k4 k5
  obtain ⟨_, x0, x1, x2, x3, _, _, _, _⟩ := HDS.out.b4
  go_wp2_with (first
    | (go_at_call 28; refine (hDev _ HDS.out.d (HBA.out.ap HDS.out.a (fun _ e => e))).mono ?_; rintro e w1 ⟨rfl, hd1, ha1⟩; have HR1 := Lib.hid (RG.ap HDS.out.r HN1.out HDS.out.d ha1); have H4 := Lib.hid (HDS.out.b4.ap ha1 (fun e => by have := HS.out _ e; omega)); have H5 := Lib.hid (HDS.out.b5.ap ha1 (fun e => by have := HS.out _ e; omega)); have H6 := Lib.hid (HDS.out.b6.ap ha1 (fun e => by have := HS.out _ e; omega)); have HA1 := Lib.hid (HDS.out.a.trans ha1); have HD1 := Lib.hid hd1; obtain ⟨_, m0, m1, m2, m3, _, _, _, _⟩ := H4.out; have j3 := H5.out.c3; have j4 := H5.out.c4; dsimp only at j3 j4; have HBQ := Lib.hid ((HBA.out.ap (HDS.out.a.trans ha1) (fun _ e => e)).toS); clear hd1 ha1)
    | (go_at_call 51; refine (hRef _ HR1.out HBQ.out).mono ?_; rintro e w2 ⟨v2, rfl, hr2, hb2⟩; obtain ⟨g, cg, rfl, q1, q2, hrow⟩ := hr2; have HE := Lib.hid (does_stored (H6.out.below hb2) (HD1.out.below hb2) (show RefAt w2 (.agg #[.slice (some ⟨g, 0, none⟩) n2 cg, .bool dn2, .int .i64 lf2, .int .i64 (ct2 : Int)]) ⟨n2, su2, fr2, bd2, ct2, dn2, lf2⟩ from ⟨g, cg, rfl, q1, q2, hrow⟩) (HA1.out.trans (Ap.of_below hb2)) HS.out); obtain ⟨_, p0, p1, p2, p3, v0, v1, v2, v3⟩ := H6.out.below hb2; clear hrow hb2))
  obtain ⟨⟨_, y0, y1, y2, y3, _, _, _, _⟩, hdE, hrE, haE⟩ := HE.out
  unfold put4 at y0 y1 y2 y3 hdE hrE haE
  refine bodyPost_ret (v := .tuple #[.agg #[.slice (some ⟨g, 0, none⟩) n2 cg, .bool dn2, .int .i64 lf2, .int .i64 (ct2 : Int)], .bool true]) (by simp [results, Try.results11, go_sem, y0, y1, y2, y3]) rfl ?_
  exact ⟨_, _, rfl, hdE, hrE, HNM.out, HNN.out, HWW.out, haE⟩
set_option maxRecDepth 10000 in
set_option maxHeartbeats 2000000 in
theorem does_fuse {w : World} {h : DH} {M : DM} {v : Value} {x : AM} (d : DevAt w h M) (k : RefAt w v M) (hN : Nrm M) (hsl : ∃ A l c, x.kv = .slice A l c) (hk : x.kind = 3) (hW4 : W64 x.num) :
    Calls Try.prog 11 #[.pointer (some ⟨h.b, 0, none⟩), v, x.v] w fun e w' => Both w h M e w' := by
  have k' := k
  obtain ⟨b, cap, rfl, h1, h2, h3⟩ := k'
  obtain ⟨kind, pos, c, kv, keep, num, turn⟩ := x
  obtain ⟨Ak, lk, ck, hkv⟩ := hsl
  dsimp only at hk hkv
  subst hk hkv
  dsimp only at hW4
  obtain ⟨M2, hM2⟩ : ∃ M2, M2 = { M with left := if 0 ≤ num then num else -1 } := ⟨_, rfl⟩
  have HNM : Hid (Nrm M2) := Lib.hid (by rw [hM2]; exact ⟨hN.n1, hN.n2, (by show -1 ≤ (if 0 ≤ num then num else -1 : Int); split <;> omega), (by show (if 0 ≤ num then num else -1) ≤ _; unfold W64 at hW4; split <;> omega)⟩)
  have HNN : Hid (M2.n = M.n) := Lib.hid (by rw [hM2])
  have HWW : Hid (M2.writes ≤ M.writes + 1) := Lib.hid (by rw [hM2]; exact (by show M.writes ≤ _; omega))
  have HN1 := Lib.hid hN.n1
  have hRef : ∀ W, RefAt W (.agg #[.slice (some ⟨b, 0, none⟩) M.n cap, .bool M.down, .int .i64 M.left, .int .i64 (M.writes : Int)]) M → Calls Try.prog 52 #[.agg #[.slice (some ⟨b, 0, none⟩) M.n cap, .bool M.down, .int .i64 M.left, .int .i64 (M.writes : Int)], .int .i64 num] W fun e w' => ∃ v', e = .returned v' ∧ RefAt w' v' M2 ∧ Below W.heap.size W w' := fun W hr => by rw [hM2]; exact refFuse_any hr hN num
  have hDev : ∀ W, DevAt W h M → Calls Try.prog 47 #[.pointer (some ⟨h.b, 0, none⟩), .int .i64 num] W fun e w' => e = .returned (.tuple #[]) ∧ DevAt w' h M2 ∧ Ap h.S W w' := fun W hd => by rw [hM2]; exact devFuse_any hd num (by unfold W64 at hW4; omega)
  clear hM2 hN hW4
  obtain ⟨n2, su2, fr2, bd2, ct2, dn2, lf2⟩ := M2
  have HS := Lib.hid d.slt
  have hDS := does_start d k ⟨3, pos, c, .slice Ak lk ck, keep, num, turn⟩
  dsimp only at hDS
  obtain ⟨W0, hW⟩ : ∃ W0 : World, W0 = (((w.alloc (.cells #[.slice (some ⟨b, 0, none⟩) M.n cap, .bool M.down, .int .i64 M.left, .int .i64 (M.writes : Int)] 30)).alloc (.cells #[.int .i64 3, .int .i64 pos, .int .u8 (c.toNat : Int), .slice Ak lk ck, .int .i64 num, .int .u32 turn] 36)).alloc (.cells #[.slice none 0 0, .bool false, .int .i64 0, .int .i64 0] 30)) := ⟨_, rfl⟩
  rw [← hW] at hDS
  have HDS := Lib.hid hDS
  clear d k h3 hDS
  unfold AM.v
  go_enter Try.func11, Try.ntmps11
  go_upto_region 1 with fail
  rw [← hW]
  clear hW
  have k0 := HDS.out.b5.c0
  dsimp only at k0
  have k1 := HDS.out.b5.c1; have k2 := HDS.out.b5.c2; have k3 := HDS.out.b5.c3; have k4 := HDS.out.b5.c4; have k5 := HDS.out.b5.c5; dsimp only at k1 k2 k3 k4 k5
  obtain ⟨_, x0, x1, x2, x3, _, _, _, _⟩ := HDS.out.b4
  go_wp2_with (first
    | (go_at_call 47; refine (hDev _ HDS.out.d).mono ?_; rintro e w1 ⟨rfl, hd1, ha1⟩; have HR1 := Lib.hid (RG.ap HDS.out.r HN1.out HDS.out.d ha1); have H4 := Lib.hid (HDS.out.b4.ap ha1 (fun e => by have := HS.out _ e; omega)); have H5 := Lib.hid (HDS.out.b5.ap ha1 (fun e => by have := HS.out _ e; omega)); have H6 := Lib.hid (HDS.out.b6.ap ha1 (fun e => by have := HS.out _ e; omega)); have HA1 := Lib.hid (HDS.out.a.trans ha1); have HD1 := Lib.hid hd1; obtain ⟨_, m0, m1, m2, m3, _, _, _, _⟩ := H4.out; have j3 := H5.out.c3; have j4 := H5.out.c4; dsimp only at j3 j4; clear hd1 ha1)
    | (go_at_call 52; refine (hRef _ HR1.out).mono ?_; rintro e w2 ⟨v2, rfl, hr2, hb2⟩; obtain ⟨g, cg, rfl, q1, q2, hrow⟩ := hr2; have HE := Lib.hid (does_stored (H6.out.below hb2) (HD1.out.below hb2) (show RefAt w2 (.agg #[.slice (some ⟨g, 0, none⟩) n2 cg, .bool dn2, .int .i64 lf2, .int .i64 (ct2 : Int)]) ⟨n2, su2, fr2, bd2, ct2, dn2, lf2⟩ from ⟨g, cg, rfl, q1, q2, hrow⟩) (HA1.out.trans (Ap.of_below hb2)) HS.out); obtain ⟨_, p0, p1, p2, p3, v0, v1, v2, v3⟩ := H6.out.below hb2; clear hrow hb2))
  obtain ⟨⟨_, y0, y1, y2, y3, _, _, _, _⟩, hdE, hrE, haE⟩ := HE.out
  unfold put4 at y0 y1 y2 y3 hdE hrE haE
  refine bodyPost_ret (v := .tuple #[.agg #[.slice (some ⟨g, 0, none⟩) n2 cg, .bool dn2, .int .i64 lf2, .int .i64 (ct2 : Int)], .bool true]) (by simp [results, Try.results11, go_sem, y0, y1, y2, y3]) rfl ?_
  exact ⟨_, _, rfl, hdE, hrE, HNM.out, HNN.out, HWW.out, haE⟩
set_option maxRecDepth 10000 in
set_option maxHeartbeats 2000000 in
theorem does_read {w : World} {h : DH} {M : DM} {v : Value} {x : AM} (d : DevAt w h M) (k : RefAt w v M) (hN : Nrm M) (hsl : ∃ A l c, x.kv = .slice A l c) (hk : x.kind = 6) :
    Calls Try.prog 11 #[.pointer (some ⟨h.b, 0, none⟩), v, x.v] w fun e w' => Both w h M e w' := by
  have k' := k
  obtain ⟨b, cap, rfl, h1, h2, h3⟩ := k'
  obtain ⟨kind, pos, c, kv, keep, num, turn⟩ := x
  obtain ⟨Ak, lk, ck, hkv⟩ := hsl
  dsimp only at hk hkv
  subst hk hkv
  have hRef : ∀ W, RefAt W (.agg #[.slice (some ⟨b, 0, none⟩) M.n cap, .bool M.down, .int .i64 M.left, .int .i64 (M.writes : Int)]) M → Calls Try.prog 55 #[.agg #[.slice (some ⟨b, 0, none⟩) M.n cap, .bool M.down, .int .i64 M.left, .int .i64 (M.writes : Int)], .int .i64 pos] W fun e w' => e = .returned (.tuple #[.string ⟨(readV M pos).toArray⟩, .int .i64 (readE M pos)]) ∧ Below W.heap.size W w' := fun W hr => refRead_any hr pos
  have hDev : ∀ W, DevAt W h M → Calls Try.prog 29 #[.pointer (some ⟨h.b, 0, none⟩), .int .i64 pos] W fun e w' => e = .returned (.tuple #[.string ⟨(readV M pos).toArray⟩, .int .i64 (readE M pos)]) ∧ Below W.heap.size W w' := fun W hd => devRead_any hd pos
  generalize readE M pos = ee at hRef hDev
  generalize (⟨(readV M pos).toArray⟩ : ByteArray) = ss at hRef hDev
  have HS := Lib.hid d.slt
  have hDS := does_start d k ⟨6, pos, c, .slice Ak lk ck, keep, num, turn⟩
  dsimp only at hDS
  obtain ⟨W0, hW⟩ : ∃ W0 : World, W0 = (((w.alloc (.cells #[.slice (some ⟨b, 0, none⟩) M.n cap, .bool M.down, .int .i64 M.left, .int .i64 (M.writes : Int)] 30)).alloc (.cells #[.int .i64 6, .int .i64 pos, .int .u8 (c.toNat : Int), .slice Ak lk ck, .int .i64 num, .int .u32 turn] 36)).alloc (.cells #[.slice none 0 0, .bool false, .int .i64 0, .int .i64 0] 30)) := ⟨_, rfl⟩
  rw [← hW] at hDS
  have HDS := Lib.hid hDS
  clear d k h3 hDS
  unfold AM.v
  go_enter Try.func11, Try.ntmps11
  go_upto_region 1 with fail
  rw [← hW]
  clear hW
  have k0 := HDS.out.b5.c0
  dsimp only at k0
  have k1 := HDS.out.b5.c1; have k2 := HDS.out.b5.c2; have k3 := HDS.out.b5.c3; have k4 := HDS.out.b5.c4; have k5 := HDS.out.b5.c5; dsimp only at k1 k2 k3 k4 k5
  obtain ⟨_, x0, x1, x2, x3, _, _, _, _⟩ := HDS.out.b4
  go_wp2_with (first
    | (go_at_call 55; refine (hRef _ HDS.out.r).mono ?_; rintro e w1 ⟨rfl, hb1⟩; have HD1 := Lib.hid (HDS.out.below hb1); have j1 := HD1.out.b5.c1; dsimp only at j1; clear hb1)
    | (go_at_call 29; refine (hDev _ HD1.out.d).mono ?_; rintro e w2 ⟨rfl, hb2⟩; have HD2 := Lib.hid (HD1.out.below hb2); obtain ⟨_, m0, m1, m2, m3, _, _, _, _⟩ := HD2.out.b4; have HE := Lib.hid (does_stored HD2.out.b6 HD2.out.d HD2.out.r HD2.out.a HS.out); obtain ⟨_, p0, p1, p2, p3, v0, v1, v2, v3⟩ := HD2.out.b6; clear hb2))
  obtain ⟨⟨_, y0, y1, y2, y3, _, _, _, _⟩, hdE, hrE, haE⟩ := HE.out
  unfold put4 at y0 y1 y2 y3 hdE hrE haE
  refine bodyPost_ret (v := .tuple #[.agg #[.slice (some ⟨b, 0, none⟩) M.n cap, .bool M.down, .int .i64 M.left, .int .i64 (M.writes : Int)], .bool true]) (by simp [results, Try.results11, go_sem, y0, y1, y2, y3]) rfl ?_
  exact ⟨_, _, rfl, hdE, hrE, hN, rfl, by omega, haE⟩
set_option maxRecDepth 10000 in
set_option maxHeartbeats 2000000 in
theorem does_other {w : World} {h : DH} {M : DM} {v : Value} {x : AM} (d : DevAt w h M) (k : RefAt w v M) (hN : Nrm M) (hsl : ∃ A l c, x.kv = .slice A l c) (hk : x.kind ≠ 0 ∧ x.kind ≠ 1 ∧ x.kind ≠ 2 ∧ x.kind ≠ 3 ∧ x.kind ≠ 4 ∧ x.kind ≠ 5 ∧ x.kind ≠ 6) (hw : M.writes < 1000) :
    Calls Try.prog 11 #[.pointer (some ⟨h.b, 0, none⟩), v, x.v] w fun e w' => Both w h M e w' := by
  have k' := k
  obtain ⟨b, cap, rfl, h1, h2, h3⟩ := k'
  obtain ⟨kind, pos, c, kv, keep, num, turn⟩ := x
  obtain ⟨Ak, lk, ck, hkv⟩ := hsl
  dsimp only at hk hkv
  subst hkv
  have e0 : (kind == (0 : Int)) = false := beq_eq_false_iff_ne.2 hk.1
  have e1 : (kind == (1 : Int)) = false := beq_eq_false_iff_ne.2 hk.2.1
  have e2 : (kind == (2 : Int)) = false := beq_eq_false_iff_ne.2 hk.2.2.1
  have e3 : (kind == (3 : Int)) = false := beq_eq_false_iff_ne.2 hk.2.2.2.1
  have e4 : (kind == (4 : Int)) = false := beq_eq_false_iff_ne.2 hk.2.2.2.2.1
  have e5 : (kind == (5 : Int)) = false := beq_eq_false_iff_ne.2 hk.2.2.2.2.2.1
  have e6 : (kind == (6 : Int)) = false := beq_eq_false_iff_ne.2 hk.2.2.2.2.2.2
  obtain ⟨M2, hM2⟩ : ∃ M2, M2 = writeM M pos ⟨#[97, 98]⟩ := ⟨_, rfl⟩
  have HNM : Hid (Nrm M2) := Lib.hid (by rw [hM2]; exact (nrm_write hN pos ⟨#[97, 98]⟩).1)
  have HNN : Hid (M2.n = M.n) := Lib.hid (by rw [hM2]; exact (nrm_write hN pos ⟨#[97, 98]⟩).2.1)
  have HWW : Hid (M2.writes ≤ M.writes + 1) := Lib.hid (by rw [hM2]; exact (nrm_write hN pos ⟨#[97, 98]⟩).2.2)
  have hRef : ∀ W, RefAt W (.agg #[.slice (some ⟨b, 0, none⟩) M.n cap, .bool M.down, .int .i64 M.left, .int .i64 (M.writes : Int)]) M → Calls Try.prog 49 #[.agg #[.slice (some ⟨b, 0, none⟩) M.n cap, .bool M.down, .int .i64 M.left, .int .i64 (M.writes : Int)], .int .i64 pos, .string ⟨#[97, 98]⟩] W fun e w' => ∃ v', e = .returned (.tuple #[v', .int .i64 (writeE M pos ⟨#[97, 98]⟩)]) ∧ RefAt w' v' M2 ∧ Below W.heap.size W w' := fun W hr => by rw [hM2]; exact refWrite_any hr hN (by omega) pos ⟨#[97, 98]⟩
  have hDev : ∀ W, DevAt W h M → Calls Try.prog 24 #[.pointer (some ⟨h.b, 0, none⟩), .int .i64 pos, .string ⟨#[97, 98]⟩] W fun e w' => e = .returned (.int .i64 (writeE M pos ⟨#[97, 98]⟩)) ∧ DevAt w' h M2 ∧ Ap h.S W w' := fun W hd => by rw [hM2]; exact devWrite_any hd pos ⟨#[97, 98]⟩ (by omega)
  generalize writeE M pos ⟨#[97, 98]⟩ = ee at hRef hDev
  clear hM2 hN
  obtain ⟨n2, su2, fr2, bd2, ct2, dn2, lf2⟩ := M2
  have HS := Lib.hid d.slt
  have hDS := does_start d k ⟨kind, pos, c, .slice Ak lk ck, keep, num, turn⟩
  dsimp only at hDS
  obtain ⟨W0, hW⟩ : ∃ W0 : World, W0 = (((w.alloc (.cells #[.slice (some ⟨b, 0, none⟩) M.n cap, .bool M.down, .int .i64 M.left, .int .i64 (M.writes : Int)] 30)).alloc (.cells #[.int .i64 kind, .int .i64 pos, .int .u8 (c.toNat : Int), .slice Ak lk ck, .int .i64 num, .int .u32 turn] 36)).alloc (.cells #[.slice none 0 0, .bool false, .int .i64 0, .int .i64 0] 30)) := ⟨_, rfl⟩
  rw [← hW] at hDS
  have HDS := Lib.hid hDS
  clear d k h3 hDS
  unfold AM.v
  go_enter Try.func11, Try.ntmps11
  go_upto_region 1 with fail
  rw [← hW]
  clear hW
  have k0 := HDS.out.b5.c0
  dsimp only at k0
  have k1 := HDS.out.b5.c1; have k2 := HDS.out.b5.c2; have k3 := HDS.out.b5.c3; have k4 := HDS.out.b5.c4; have k5 := HDS.out.b5.c5; dsimp only at k1 k2 k3 k4 k5
  obtain ⟨_, x0, x1, x2, x3, _, _, _, _⟩ := HDS.out.b4
  go_upto_region 25 with (go_at_call 49; refine (hRef _ HDS.out.r).mono ?_; rintro e w1 ⟨v2, rfl, hr1, hb1⟩; obtain ⟨g, cg, rfl, q1, q2, hrow⟩ := hr1; have HR1 : Hid (RefAt w1 (.agg #[.slice (some ⟨g, 0, none⟩) n2 cg, .bool dn2, .int .i64 lf2, .int .i64 (ct2 : Int)]) ⟨n2, su2, fr2, bd2, ct2, dn2, lf2⟩) := Lib.hid ⟨g, cg, rfl, q1, q2, hrow⟩; have HDS1 := Lib.hid (HDS.out.below hb1); clear hb1 hrow)
  clear x0 x1 x2 x3 k0 k1 k2 k3 k4 k5
  have HD2 := Lib.hid (DT.of HDS1.out HS.out HR1.out)
  have HBT : Hid (w.heap.size + 1 + 1 < w1.heap.size) := Lib.hid HD2.out.t
  generalize w1.alloc (.cells #[.slice (some ⟨g, 0, none⟩) n2 cg, .bool dn2, .int .i64 lf2, .int .i64 (ct2 : Int)] 30) = w2 at HD2 ⊢
  generalize w1.heap.size = bt at HD2 HBT ⊢
  have HT2 := Lib.hid HD2.out.cells
  unfold SCells at HT2
  dsimp only at HT2
  go_region_held3 (fun w' => w'.cell? ⟨bt, 0, none⟩ = some (.slice (some ⟨g, 0, none⟩) n2 cg) ∧ w'.cell? ⟨bt, 1, none⟩ = some (.bool dn2) ∧ w'.cell? ⟨bt, 2, none⟩ = some (.int .i64 lf2) ∧ w'.cell? ⟨bt, 3, none⟩ = some (.int .i64 (ct2 : Int)) ∧ w'.cell? ⟨w.heap.size + 1, 1, none⟩ = some (.int .i64 pos) ∧ w'.cell? ⟨w.heap.size + 1, 2, none⟩ = some (.int .u8 (c.toNat : Int)) ∧ w'.cell? ⟨w.heap.size + 1, 4, none⟩ = some (.int .i64 num) ∧ w'.cell? ⟨w.heap.size + 1, 5, none⟩ = some (.int .u32 turn)) (first | exact HT2.out | exact HT3.out | exact HT4.out | exact HT5.out)
    (first
      | (go_at_call 24; refine (hDev _ HD2.out.drew.d).mono ?_; rintro e w3 ⟨rfl, hd3, ha3⟩; have HD3 := Lib.hid (HD2.out.drew.step HNM.out.n1 hd3 ha3); clear hd3 ha3; have HT3 := Lib.hid HD3.out.cells; unfold SCells at HT3; dsimp only at HT3; have HT4 := Lib.hid HD3.out.cells4; unfold SCells at HT4; dsimp only at HT4; have HE := Lib.hid (does_stored HD3.out.b6 HD3.out.d HD3.out.r HD3.out.a HS.out); obtain ⟨_, q0, q1, q2, q3, v0, v1, v2, v3⟩ := HD3.out.b6))
  go_wp2_with fail
  obtain ⟨⟨_, y0, y1, y2, y3, _, _, _, _⟩, hdE, hrE, haE⟩ := HE.out
  unfold put4 at y0 y1 y2 y3 hdE hrE haE
  refine bodyPost_ret (v := .tuple #[.agg #[.slice (some ⟨g, 0, none⟩) n2 cg, .bool dn2, .int .i64 lf2, .int .i64 (ct2 : Int)], .bool true]) (by simp [results, Try.results11, go_sem, y0, y1, y2, y3]) rfl ?_
  exact ⟨_, _, rfl, hdE, hrE, HNM.out, HNN.out, HWW.out, haE⟩
end Go.Proofs.Ytmbjcphhfnemgaa
