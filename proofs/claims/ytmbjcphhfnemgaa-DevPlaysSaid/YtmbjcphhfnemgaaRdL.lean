/- The kinds of calls, one by one. -/
import Derived.Test.YtmbjcphhfnemgaaRdI
namespace Go.Proofs.Ytmbjcphhfnemgaa
open Go.RowKit Go.Maps

/-- Behind the document's answer: it lies in a box of its own. -/
structure DT (w W : World) (h : DH) (M M' : DM) (bt : Nat) (u0 u1 u2 u3 : Value) (x : AM) : Prop where
  d : DevAt W h M
  r : RefAt W (.agg #[u0, u1, u2, u3]) M'
  tb : Bx W bt u0 u1 u2 u3
  b5 : AF W (w.heap.size + 1) x
  b6 : Bx W (w.heap.size + 1 + 1) (.slice none 0 0) (.bool false) (.int .i64 0) (.int .i64 0)
  a : Ap h.S w W
  s : ∀ k, h.S k → k < w.heap.size
  t : w.heap.size + 1 + 1 < bt
theorem DT.drew {w W : World} {h : DH} {M M' : DM} {bt : Nat} {u0 u1 u2 u3 : Value} {x : AM} (k : DT w W h M M' bt u0 u1 u2 u3 x) : DT w W.drew h M M' bt u0 u1 u2 u3 x :=
  ⟨k.d.drew, k.r.below ((Below.refl _ _).drew), k.tb.drew, k.b5.below ((Below.refl _ _).drew), k.b6.drew, k.a.drew, k.s, k.t⟩
theorem DT.below {w W W' : World} {h : DH} {M M' : DM} {bt : Nat} {u0 u1 u2 u3 : Value} {x : AM} (k : DT w W h M M' bt u0 u1 u2 u3 x) (hb : Below W.heap.size W W') : DT w W' h M M' bt u0 u1 u2 u3 x :=
  ⟨k.d.below hb, k.r.below hb, k.tb.below hb, k.b5.below hb, k.b6.below hb, k.a.trans (Ap.of_below hb), k.s, k.t⟩
/-- What the document says is told, and put into a box. -/
theorem DT.of {w W : World} {h : DH} {M M' : DM} {v0 v1 v2 v3 u0 u1 u2 u3 : Value} {x : AM} (k : DS w W h M v0 v1 v2 v3 x) (hs : ∀ k, h.S k → k < w.heap.size) (r : RefAt W (.agg #[u0, u1, u2, u3]) M') :
    DT w (W.alloc (.cells #[u0, u1, u2, u3] 30)) h M M' W.heap.size u0 u1 u2 u3 x :=
  have B := below1 W (.cells #[u0, u1, u2, u3] 30)
  ⟨k.d.below B, r.below B, Bx.new W u0 u1 u2 u3 _, k.b5.below B, k.b6.below B, k.a.trans (Ap.of_below B), hs, k.b6.lt⟩
/-- The device is done to. -/
theorem DT.step {w W W' : World} {h : DH} {M M' M'' : DM} {bt : Nat} {u0 u1 u2 u3 : Value} {x : AM} (k : DT w W h M M' bt u0 u1 u2 u3 x) (hn : 1 ≤ M'.n) (d : DevAt W' h M'') (a : Ap h.S W W') : DT w W' h M'' M' bt u0 u1 u2 u3 x :=
  ⟨d, RG.ap k.r hn k.d a, k.tb.ap a (fun e => by have h1 := k.s _ e; have h2 := k.t; omega), k.b5.ap a (fun e => by have h1 := k.s _ e; omega), k.b6.ap a (fun e => by have h1 := k.s _ e; omega), k.a.trans a, k.s, k.t⟩
def SCells (W : World) (p q : Nat) (u0 u1 u2 u3 : Value) (pos : Int) (c : UInt8) (num turn : Int) : Prop :=
  W.cell? ⟨p, 0, none⟩ = some u0 ∧ W.cell? ⟨p, 1, none⟩ = some u1 ∧ W.cell? ⟨p, 2, none⟩ = some u2 ∧ W.cell? ⟨p, 3, none⟩ = some u3 ∧
  W.cell? ⟨q, 1, none⟩ = some (.int .i64 pos) ∧ W.cell? ⟨q, 2, none⟩ = some (.int .u8 (c.toNat : Int)) ∧ W.cell? ⟨q, 4, none⟩ = some (.int .i64 num) ∧ W.cell? ⟨q, 5, none⟩ = some (.int .u32 turn)
theorem DT.cells {w W : World} {h : DH} {M M' : DM} {bt : Nat} {u0 u1 u2 u3 : Value} {x : AM} (k : DT w W h M M' bt u0 u1 u2 u3 x) : SCells W bt (w.heap.size + 1) u0 u1 u2 u3 x.pos x.c x.num x.turn :=
  ⟨k.tb.c0, k.tb.c1, k.tb.c2, k.tb.c3, k.b5.c1, k.b5.c2, k.b5.c4, k.b5.c5⟩
theorem DT.cells4 {w W : World} {h : DH} {M M' : DM} {bt : Nat} {u0 u1 u2 u3 : Value} {x : AM} (k : DT w W h M M' bt u0 u1 u2 u3 x) : SCells (put4 W (w.heap.size + 1 + 1) u0 u1 u2 u3) bt (w.heap.size + 1) u0 u1 u2 u3 x.pos x.c x.num x.turn := by
  have A := ap_put4 W (w.heap.size + 1 + 1) u0 u1 u2 u3
  have t := k.tb.ap A (fun e => by have := k.t; omega)
  have f := k.b5.ap A (fun e => by omega)
  exact ⟨t.c0, t.c1, t.c2, t.c3, f.c1, f.c2, f.c4, f.c5⟩
theorem nrm_burn {M : DM} (hN : Nrm M) : Nrm (burnM M) ∧ (burnM M).n = M.n ∧ (burnM M).writes = M.writes := by
  unfold burnM
  split
  · exact ⟨⟨hN.n1, hN.n2, hN.l1, hN.l2⟩, rfl, rfl⟩
  · split
    · exact ⟨⟨hN.n1, hN.n2, (by show -1 ≤ M.left - 1; omega), (by have := hN.l2; show M.left - 1 ≤ _; omega)⟩, rfl, rfl⟩
    · exact ⟨hN, rfl, rfl⟩
theorem nrm_flush {M : DM} (hN : Nrm M) : Nrm (flushM M) ∧ (flushM M).n = M.n ∧ (flushM M).writes = M.writes := by
  obtain ⟨h1, h2, h3⟩ := nrm_burn hN
  unfold flushM
  split
  · exact ⟨hN, rfl, rfl⟩
  · split
    · exact ⟨⟨h1.n1, h1.n2, h1.l1, h1.l2⟩, h2, h3⟩
    · exact ⟨h1, h2, h3⟩
set_option maxRecDepth 10000 in
set_option maxHeartbeats 2000000 in
theorem does_flush {w : World} {h : DH} {M : DM} {v : Value} {x : AM} (d : DevAt w h M) (k : RefAt w v M) (hN : Nrm M) (hsl : ∃ A l c, x.kv = .slice A l c) (hk : x.kind = 1) :
    Calls Try.prog 11 #[.pointer (some ⟨h.b, 0, none⟩), v, x.v] w fun e w' => Both w h M e w' := by
  have k' := k
  obtain ⟨b, cap, rfl, h1, h2, h3⟩ := k'
  obtain ⟨kind, pos, c, kv, keep, num, turn⟩ := x
  obtain ⟨Ak, lk, ck, hkv⟩ := hsl
  dsimp only at hk hkv
  subst hk hkv
  obtain ⟨M2, hM2⟩ : ∃ M2, M2 = flushM M := ⟨_, rfl⟩
  have HNM : Hid (Nrm M2) := Lib.hid (by rw [hM2]; exact (nrm_flush hN).1)
  have HNN : Hid (M2.n = M.n) := Lib.hid (by rw [hM2]; exact (nrm_flush hN).2.1)
  have HWW : Hid (M2.writes ≤ M.writes + 1) := Lib.hid (by rw [hM2]; exact (by have := (nrm_flush hN).2.2; omega))
  have hRef : ∀ W, RefAt W (.agg #[.slice (some ⟨b, 0, none⟩) M.n cap, .bool M.down, .int .i64 M.left, .int .i64 (M.writes : Int)]) M → Calls Try.prog 50 #[.agg #[.slice (some ⟨b, 0, none⟩) M.n cap, .bool M.down, .int .i64 M.left, .int .i64 (M.writes : Int)]] W fun e w' => ∃ v', e = .returned (.tuple #[v', .int .i64 (flushE M)]) ∧ RefAt w' v' M2 ∧ Below W.heap.size W w' := fun W hr => by rw [hM2]; exact refFlush_any hr hN
  have hDev : ∀ W, DevAt W h M → Calls Try.prog 26 #[.pointer (some ⟨h.b, 0, none⟩)] W fun e w' => e = .returned (.int .i64 (flushE M)) ∧ DevAt w' h M2 ∧ Ap h.S W w' := fun W hd => by rw [hM2]; exact devFlush_any hd
  generalize flushE M = ee at hRef hDev
  clear hM2 hN
  obtain ⟨n2, su2, fr2, bd2, ct2, dn2, lf2⟩ := M2
  have HS := Lib.hid d.slt
  have hDS := does_start d k ⟨1, pos, c, .slice Ak lk ck, keep, num, turn⟩
  dsimp only at hDS
  obtain ⟨W0, hW⟩ : ∃ W0 : World, W0 = (((w.alloc (.cells #[.slice (some ⟨b, 0, none⟩) M.n cap, .bool M.down, .int .i64 M.left, .int .i64 (M.writes : Int)] 30)).alloc (.cells #[.int .i64 1, .int .i64 pos, .int .u8 (c.toNat : Int), .slice Ak lk ck, .int .i64 num, .int .u32 turn] 36)).alloc (.cells #[.slice none 0 0, .bool false, .int .i64 0, .int .i64 0] 30)) := ⟨_, rfl⟩
  rw [← hW] at hDS
  have HDS := Lib.hid hDS
  clear d k h3 hDS
  unfold AM.v
  go_enter Try.func11, Try.ntmps11
  go_upto_region 1 with fail
  rw [← hW]
  clear hW
  have k0 := HDS.out.b5.c0
  dsimp only at k0
  have k1 := HDS.out.b5.c1; have k2 := HDS.out.b5.c2; have k3 := HDS.out.b5.c3; have k4 := HDS.out.b5.c4; have k5 := HDS.out.b5.c5; dsimp only at k1 k2 k3 k4 k5
  obtain ⟨_, x0, x1, x2, x3, _, _, _, _⟩ := HDS.out.b4
  go_upto_region 7 with (go_at_call 50; refine (hRef _ HDS.out.r).mono ?_; rintro e w1 ⟨v2, rfl, hr1, hb1⟩; obtain ⟨g, cg, rfl, q1, q2, hrow⟩ := hr1; have HR1 : Hid (RefAt w1 (.agg #[.slice (some ⟨g, 0, none⟩) n2 cg, .bool dn2, .int .i64 lf2, .int .i64 (ct2 : Int)]) ⟨n2, su2, fr2, bd2, ct2, dn2, lf2⟩) := Lib.hid ⟨g, cg, rfl, q1, q2, hrow⟩; have HDS1 := Lib.hid (HDS.out.below hb1); clear hb1 hrow)
  clear x0 x1 x2 x3 k0 k1 k2 k3 k4 k5
  have HD2 := Lib.hid (DT.of HDS1.out HS.out HR1.out)
  have HBT : Hid (w.heap.size + 1 + 1 < w1.heap.size) := Lib.hid HD2.out.t
  generalize w1.alloc (.cells #[.slice (some ⟨g, 0, none⟩) n2 cg, .bool dn2, .int .i64 lf2, .int .i64 (ct2 : Int)] 30) = w2 at HD2 ⊢
  generalize w1.heap.size = bt at HD2 HBT ⊢
  have HT2 := Lib.hid HD2.out.cells
  unfold SCells at HT2
  dsimp only at HT2
  go_region_held3 (fun w' => w'.cell? ⟨bt, 0, none⟩ = some (.slice (some ⟨g, 0, none⟩) n2 cg) ∧ w'.cell? ⟨bt, 1, none⟩ = some (.bool dn2) ∧ w'.cell? ⟨bt, 2, none⟩ = some (.int .i64 lf2) ∧ w'.cell? ⟨bt, 3, none⟩ = some (.int .i64 (ct2 : Int)) ∧ w'.cell? ⟨w.heap.size + 1, 1, none⟩ = some (.int .i64 pos) ∧ w'.cell? ⟨w.heap.size + 1, 2, none⟩ = some (.int .u8 (c.toNat : Int)) ∧ w'.cell? ⟨w.heap.size + 1, 4, none⟩ = some (.int .i64 num) ∧ w'.cell? ⟨w.heap.size + 1, 5, none⟩ = some (.int .u32 turn)) (first | exact HT2.out | exact HT3.out | exact HT4.out | exact HT5.out)
    (first
      | (go_at_call 26; refine (hDev _ HD2.out.drew.d).mono ?_; rintro e w3 ⟨rfl, hd3, ha3⟩; have HD3 := Lib.hid (HD2.out.drew.step HNM.out.n1 hd3 ha3); clear hd3 ha3; have HT3 := Lib.hid HD3.out.cells; unfold SCells at HT3; dsimp only at HT3; have HT4 := Lib.hid HD3.out.cells4; unfold SCells at HT4; dsimp only at HT4; have HE := Lib.hid (does_stored HD3.out.b6 HD3.out.d HD3.out.r HD3.out.a HS.out); obtain ⟨_, q0, q1, q2, q3, v0, v1, v2, v3⟩ := HD3.out.b6))
  go_wp2_with fail
  obtain ⟨⟨_, y0, y1, y2, y3, _, _, _, _⟩, hdE, hrE, haE⟩ := HE.out
  unfold put4 at y0 y1 y2 y3 hdE hrE haE
  refine bodyPost_ret (v := .tuple #[.agg #[.slice (some ⟨g, 0, none⟩) n2 cg, .bool dn2, .int .i64 lf2, .int .i64 (ct2 : Int)], .bool true]) (by simp [results, Try.results11, go_sem, y0, y1, y2, y3]) rfl ?_
  exact ⟨_, _, rfl, hdE, hrE, HNM.out, HNN.out, HWW.out, haE⟩
theorem nrm_erase {M : DM} (hN : Nrm M) (a : Int) : Nrm (eraseM M a) ∧ (eraseM M a).n = M.n ∧ (eraseM M a).writes = M.writes := by
  unfold eraseM
  split
  · exact ⟨⟨hN.n1, hN.n2, hN.l1, hN.l2⟩, rfl, rfl⟩
  · exact ⟨hN, rfl, rfl⟩
theorem nrm_gar {M : DM} (hN : Nrm M) (a b c : Int) : Nrm (garM M a b c) ∧ (garM M a b c).n = M.n ∧ (garM M a b c).writes = M.writes := by
  unfold garM
  split
  · exact ⟨⟨hN.n1, hN.n2, hN.l1, hN.l2⟩, rfl, rfl⟩
  · exact ⟨hN, rfl, rfl⟩
theorem nrm_write {M : DM} (hN : Nrm M) (a : Int) (s : ByteArray) : Nrm (writeM M a s) ∧ (writeM M a s).n = M.n ∧ (writeM M a s).writes ≤ M.writes + 1 := by
  obtain ⟨h1, h2, h3⟩ := nrm_burn hN
  unfold writeM
  split
  · exact ⟨⟨h1.n1, h1.n2, h1.l1, h1.l2⟩, h2, Nat.le_refl _⟩
  · split
    · exact ⟨hN, rfl, by omega⟩
    · exact ⟨h1, h2, by omega⟩
set_option maxRecDepth 10000 in
set_option maxHeartbeats 2000000 in
theorem does_erase {w : World} {h : DH} {M : DM} {v : Value} {x : AM} (d : DevAt w h M) (k : RefAt w v M) (hN : Nrm M) (hsl : ∃ A l c, x.kv = .slice A l c) (hk : x.kind = 4) :
    Calls Try.prog 11 #[.pointer (some ⟨h.b, 0, none⟩), v, x.v] w fun e w' => Both w h M e w' := by
  have k' := k
  obtain ⟨b, cap, rfl, h1, h2, h3⟩ := k'
  obtain ⟨kind, pos, c, kv, keep, num, turn⟩ := x
  obtain ⟨Ak, lk, ck, hkv⟩ := hsl
  dsimp only at hk hkv
  subst hk hkv
  obtain ⟨M2, hM2⟩ : ∃ M2, M2 = eraseM M pos := ⟨_, rfl⟩
  have HNM : Hid (Nrm M2) := Lib.hid (by rw [hM2]; exact (nrm_erase hN pos).1)
  have HNN : Hid (M2.n = M.n) := Lib.hid (by rw [hM2]; exact (nrm_erase hN pos).2.1)
  have HWW : Hid (M2.writes ≤ M.writes + 1) := Lib.hid (by rw [hM2]; exact (by have := (nrm_erase hN pos).2.2; omega))
  have hRef : ∀ W, RefAt W (.agg #[.slice (some ⟨b, 0, none⟩) M.n cap, .bool M.down, .int .i64 M.left, .int .i64 (M.writes : Int)]) M → Calls Try.prog 53 #[.agg #[.slice (some ⟨b, 0, none⟩) M.n cap, .bool M.down, .int .i64 M.left, .int .i64 (M.writes : Int)], .int .i64 pos] W fun e w' => ∃ v', e = .returned (.tuple #[v', .int .i64 (eraseE M pos)]) ∧ RefAt w' v' M2 ∧ Below W.heap.size W w' := fun W hr => by rw [hM2]; exact refErase_any hr hN pos
  have hDev : ∀ W, DevAt W h M → Calls Try.prog 27 #[.pointer (some ⟨h.b, 0, none⟩), .int .i64 pos] W fun e w' => e = .returned (.int .i64 (eraseE M pos)) ∧ DevAt w' h M2 ∧ Ap h.S W w' := fun W hd => by rw [hM2]; exact devErase_any hd pos
  generalize eraseE M pos = ee at hRef hDev
  clear hM2 hN
  obtain ⟨n2, su2, fr2, bd2, ct2, dn2, lf2⟩ := M2
  have HS := Lib.hid d.slt
  have hDS := does_start d k ⟨4, pos, c, .slice Ak lk ck, keep, num, turn⟩
  dsimp only at hDS
  obtain ⟨W0, hW⟩ : ∃ W0 : World, W0 = (((w.alloc (.cells #[.slice (some ⟨b, 0, none⟩) M.n cap, .bool M.down, .int .i64 M.left, .int .i64 (M.writes : Int)] 30)).alloc (.cells #[.int .i64 4, .int .i64 pos, .int .u8 (c.toNat : Int), .slice Ak lk ck, .int .i64 num, .int .u32 turn] 36)).alloc (.cells #[.slice none 0 0, .bool false, .int .i64 0, .int .i64 0] 30)) := ⟨_, rfl⟩
  rw [← hW] at hDS
  have HDS := Lib.hid hDS
  clear d k h3 hDS
  unfold AM.v
  go_enter Try.func11, Try.ntmps11
  go_upto_region 1 with fail
  rw [← hW]
  clear hW
  have k0 := HDS.out.b5.c0
  dsimp only at k0
  have k1 := HDS.out.b5.c1; have k2 := HDS.out.b5.c2; have k3 := HDS.out.b5.c3; have k4 := HDS.out.b5.c4; have k5 := HDS.out.b5.c5; dsimp only at k1 k2 k3 k4 k5
  obtain ⟨_, x0, x1, x2, x3, _, _, _, _⟩ := HDS.out.b4
  go_upto_region 16 with (go_at_call 53; refine (hRef _ HDS.out.r).mono ?_; rintro e w1 ⟨v2, rfl, hr1, hb1⟩; obtain ⟨g, cg, rfl, q1, q2, hrow⟩ := hr1; have HR1 : Hid (RefAt w1 (.agg #[.slice (some ⟨g, 0, none⟩) n2 cg, .bool dn2, .int .i64 lf2, .int .i64 (ct2 : Int)]) ⟨n2, su2, fr2, bd2, ct2, dn2, lf2⟩) := Lib.hid ⟨g, cg, rfl, q1, q2, hrow⟩; have HDS1 := Lib.hid (HDS.out.below hb1); clear hb1 hrow)
  clear x0 x1 x2 x3 k0 k1 k2 k3 k4 k5
  have HD2 := Lib.hid (DT.of HDS1.out HS.out HR1.out)
  have HBT : Hid (w.heap.size + 1 + 1 < w1.heap.size) := Lib.hid HD2.out.t
  generalize w1.alloc (.cells #[.slice (some ⟨g, 0, none⟩) n2 cg, .bool dn2, .int .i64 lf2, .int .i64 (ct2 : Int)] 30) = w2 at HD2 ⊢
  generalize w1.heap.size = bt at HD2 HBT ⊢
  have HT2 := Lib.hid HD2.out.cells
  unfold SCells at HT2
  dsimp only at HT2
  go_region_held3 (fun w' => w'.cell? ⟨bt, 0, none⟩ = some (.slice (some ⟨g, 0, none⟩) n2 cg) ∧ w'.cell? ⟨bt, 1, none⟩ = some (.bool dn2) ∧ w'.cell? ⟨bt, 2, none⟩ = some (.int .i64 lf2) ∧ w'.cell? ⟨bt, 3, none⟩ = some (.int .i64 (ct2 : Int)) ∧ w'.cell? ⟨w.heap.size + 1, 1, none⟩ = some (.int .i64 pos) ∧ w'.cell? ⟨w.heap.size + 1, 2, none⟩ = some (.int .u8 (c.toNat : Int)) ∧ w'.cell? ⟨w.heap.size + 1, 4, none⟩ = some (.int .i64 num) ∧ w'.cell? ⟨w.heap.size + 1, 5, none⟩ = some (.int .u32 turn)) (first | exact HT2.out | exact HT3.out | exact HT4.out | exact HT5.out)
    (first
      | (go_at_call 27; refine (hDev _ HD2.out.drew.d).mono ?_; rintro e w3 ⟨rfl, hd3, ha3⟩; have HD3 := Lib.hid (HD2.out.drew.step HNM.out.n1 hd3 ha3); clear hd3 ha3; have HT3 := Lib.hid HD3.out.cells; unfold SCells at HT3; dsimp only at HT3; have HT4 := Lib.hid HD3.out.cells4; unfold SCells at HT4; dsimp only at HT4; have HE := Lib.hid (does_stored HD3.out.b6 HD3.out.d HD3.out.r HD3.out.a HS.out); obtain ⟨_, q0, q1, q2, q3, v0, v1, v2, v3⟩ := HD3.out.b6))
  go_wp2_with fail
  obtain ⟨⟨_, y0, y1, y2, y3, _, _, _, _⟩, hdE, hrE, haE⟩ := HE.out
  unfold put4 at y0 y1 y2 y3 hdE hrE haE
  refine bodyPost_ret (v := .tuple #[.agg #[.slice (some ⟨g, 0, none⟩) n2 cg, .bool dn2, .int .i64 lf2, .int .i64 (ct2 : Int)], .bool true]) (by simp [results, Try.results11, go_sem, y0, y1, y2, y3]) rfl ?_
  exact ⟨_, _, rfl, hdE, hrE, HNM.out, HNN.out, HWW.out, haE⟩
set_option maxRecDepth 10000 in
set_option maxHeartbeats 2000000 in
theorem does_garble {w : World} {h : DH} {M : DM} {v : Value} {x : AM} (d : DevAt w h M) (k : RefAt w v M) (hN : Nrm M) (hsl : ∃ A l c, x.kv = .slice A l c) (hk : x.kind = 5) (hx0 : 0 ≤ x.turn) (hx1 : x.turn < 4294967296) :
    Calls Try.prog 11 #[.pointer (some ⟨h.b, 0, none⟩), v, x.v] w fun e w' => Both w h M e w' := by
  have k' := k
  obtain ⟨b, cap, rfl, h1, h2, h3⟩ := k'
  obtain ⟨kind, pos, c, kv, keep, num, turn⟩ := x
  obtain ⟨Ak, lk, ck, hkv⟩ := hsl
  dsimp only at hk hkv
  subst hk hkv
  dsimp only at hx0 hx1
  have HLE := Lib.hid d.lens
  obtain ⟨M2, hM2⟩ : ∃ M2, M2 = garM M pos num turn := ⟨_, rfl⟩
  have HNM : Hid (Nrm M2) := Lib.hid (by rw [hM2]; exact (nrm_gar hN pos num turn).1)
  have HNN : Hid (M2.n = M.n) := Lib.hid (by rw [hM2]; exact (nrm_gar hN pos num turn).2.1)
  have HWW : Hid (M2.writes ≤ M.writes + 1) := Lib.hid (by rw [hM2]; exact (by have := (nrm_gar hN pos num turn).2.2; omega))
  have hRef : ∀ W, RefAt W (.agg #[.slice (some ⟨b, 0, none⟩) M.n cap, .bool M.down, .int .i64 M.left, .int .i64 (M.writes : Int)]) M → Calls Try.prog 54 #[.agg #[.slice (some ⟨b, 0, none⟩) M.n cap, .bool M.down, .int .i64 M.left, .int .i64 (M.writes : Int)], .int .i64 pos, .int .i64 num, .int .u32 turn] W fun e w' => ∃ v', e = .returned (.tuple #[v', .int .i64 (garE M pos num)]) ∧ RefAt w' v' M2 ∧ Below W.heap.size W w' := fun W hr => by rw [hM2]; exact refGarble_any hr hN HLE.out pos num turn hx0 hx1
  have hDev : ∀ W, DevAt W h M → Calls Try.prog 48 #[.pointer (some ⟨h.b, 0, none⟩), .int .i64 pos, .int .i64 num, .int .u32 turn] W fun e w' => e = .returned (.int .i64 (garE M pos num)) ∧ DevAt w' h M2 ∧ Ap h.S W w' := fun W hd => by rw [hM2]; exact devGarble_any hd pos num turn hx0 hx1
  generalize garE M pos num = ee at hRef hDev
  clear hM2 hN
  obtain ⟨n2, su2, fr2, bd2, ct2, dn2, lf2⟩ := M2
  have HS := Lib.hid d.slt
  have hDS := does_start d k ⟨5, pos, c, .slice Ak lk ck, keep, num, turn⟩
  dsimp only at hDS
  obtain ⟨W0, hW⟩ : ∃ W0 : World, W0 = (((w.alloc (.cells #[.slice (some ⟨b, 0, none⟩) M.n cap, .bool M.down, .int .i64 M.left, .int .i64 (M.writes : Int)] 30)).alloc (.cells #[.int .i64 5, .int .i64 pos, .int .u8 (c.toNat : Int), .slice Ak lk ck, .int .i64 num, .int .u32 turn] 36)).alloc (.cells #[.slice none 0 0, .bool false, .int .i64 0, .int .i64 0] 30)) := ⟨_, rfl⟩
  rw [← hW] at hDS
  have HDS := Lib.hid hDS
  clear d k h3 hDS
  unfold AM.v
  go_enter Try.func11, Try.ntmps11
  go_upto_region 1 with fail
  rw [← hW]
  clear hW
  have k0 := HDS.out.b5.c0
  dsimp only at k0
  have k1 := HDS.out.b5.c1; have k2 := HDS.out.b5.c2; have k3 := HDS.out.b5.c3; have k4 := HDS.out.b5.c4; have k5 := HDS.out.b5.c5; dsimp only at k1 k2 k3 k4 k5
  obtain ⟨_, x0, x1, x2, x3, _, _, _, _⟩ := HDS.out.b4
  go_upto_region 19 with (go_at_call 54; refine (hRef _ HDS.out.r).mono ?_; rintro e w1 ⟨v2, rfl, hr1, hb1⟩; obtain ⟨g, cg, rfl, q1, q2, hrow⟩ := hr1; have HR1 : Hid (RefAt w1 (.agg #[.slice (some ⟨g, 0, none⟩) n2 cg, .bool dn2, .int .i64 lf2, .int .i64 (ct2 : Int)]) ⟨n2, su2, fr2, bd2, ct2, dn2, lf2⟩) := Lib.hid ⟨g, cg, rfl, q1, q2, hrow⟩; have HDS1 := Lib.hid (HDS.out.below hb1); clear hb1 hrow)
  clear x0 x1 x2 x3 k0 k1 k2 k3 k4 k5
  have HD2 := Lib.hid (DT.of HDS1.out HS.out HR1.out)
  have HBT : Hid (w.heap.size + 1 + 1 < w1.heap.size) := Lib.hid HD2.out.t
  generalize w1.alloc (.cells #[.slice (some ⟨g, 0, none⟩) n2 cg, .bool dn2, .int .i64 lf2, .int .i64 (ct2 : Int)] 30) = w2 at HD2 ⊢
  generalize w1.heap.size = bt at HD2 HBT ⊢
  have HT2 := Lib.hid HD2.out.cells
  unfold SCells at HT2
  dsimp only at HT2
  go_region_held3 (fun w' => w'.cell? ⟨bt, 0, none⟩ = some (.slice (some ⟨g, 0, none⟩) n2 cg) ∧ w'.cell? ⟨bt, 1, none⟩ = some (.bool dn2) ∧ w'.cell? ⟨bt, 2, none⟩ = some (.int .i64 lf2) ∧ w'.cell? ⟨bt, 3, none⟩ = some (.int .i64 (ct2 : Int)) ∧ w'.cell? ⟨w.heap.size + 1, 1, none⟩ = some (.int .i64 pos) ∧ w'.cell? ⟨w.heap.size + 1, 2, none⟩ = some (.int .u8 (c.toNat : Int)) ∧ w'.cell? ⟨w.heap.size + 1, 4, none⟩ = some (.int .i64 num) ∧ w'.cell? ⟨w.heap.size + 1, 5, none⟩ = some (.int .u32 turn)) (first | exact HT2.out | exact HT3.out | exact HT4.out | exact HT5.out)
    (first
      | (go_at_call 48; refine (hDev _ HD2.out.drew.d).mono ?_; rintro e w3 ⟨rfl, hd3, ha3⟩; have HD3 := Lib.hid (HD2.out.drew.step HNM.out.n1 hd3 ha3); clear hd3 ha3; have HT3 := Lib.hid HD3.out.cells; unfold SCells at HT3; dsimp only at HT3; have HT4 := Lib.hid HD3.out.cells4; unfold SCells at HT4; dsimp only at HT4; have HE := Lib.hid (does_stored HD3.out.b6 HD3.out.d HD3.out.r HD3.out.a HS.out); obtain ⟨_, q0, q1, q2, q3, v0, v1, v2, v3⟩ := HD3.out.b6))
  go_wp2_with fail
  obtain ⟨⟨_, y0, y1, y2, y3, _, _, _, _⟩, hdE, hrE, haE⟩ := HE.out
  unfold put4 at y0 y1 y2 y3 hdE hrE haE
  refine bodyPost_ret (v := .tuple #[.agg #[.slice (some ⟨g, 0, none⟩) n2 cg, .bool dn2, .int .i64 lf2, .int .i64 (ct2 : Int)], .bool true]) (by simp [results, Try.results11, go_sem, y0, y1, y2, y3]) rfl ?_
  exact ⟨_, _, rfl, hdE, hrE, HNM.out, HNN.out, HWW.out, haE⟩
end Go.Proofs.Ytmbjcphhfnemgaa
