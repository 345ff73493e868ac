/- The walk of ClusterPlays. -/
import Derived.Test.YtjhpheepimbbdaaGreatDoorDoA
import Derived.Test.YtjhpheepimbbdaaGreatDoorDoB
import Derived.Test.YtjhpheepimbbdaaGreatDoorDoC
import Derived.Test.YtjhpheepimbbdaaGreatDoorDoD
import Derived.Test.YtjhpheepimbbdaaGreatDoorDoE
import Derived.Test.YtjhpheepimbbdaaGreatDoorDoF
import Derived.Test.YtjhpheepimbbdaaGreatDoorDoG
import Derived.Test.YtjhpheepimbbdaaGreatDoorDoH
import Derived.Test.YtjhpheepimbbdaaGreatDoorDoI
import Derived.Test.YtjhpheepimbbdaaGreatDoorAct8
import Derived.Test.YtjhpheepimbbdaaGreatDoorCluL
import Derived.Test.YtjhpheepimbbdaaGreatDoorRegM
namespace Go.Proofs.YtjhpheepimbbdaaGreatDoor
open Go.RowKit Go.Maps

theorem do8_any {w : World} {p : Nat} {h : DH} {M : DM} (d : DevAt w h M) {v0 v1 v2 v3 : Value} (r : RefAt w (.agg #[v0, v1, v2, v3]) M) (bp : P5 w p (.pointer (some ⟨h.b, 0, none⟩)) v0 v1 v2 v3) (np : ¬ h.S p) (hN : Nrm M) (hw : M.writes < 90000) (hT : Tab w) (s k m c kind pos num by' : Int) (hk : W64 k) (hm : W64 m) (hc : W64 c) (text : ByteArray) (ht : text.size ≤ 140737488355328) (hnum : W64 num) (hby : 0 ≤ by' ∧ by' < 4294967296) :
    Calls Tryz.prog 7 #[.pointer (some ⟨p, 0, none⟩), .agg #[.int .i64 s, .int .i64 k, .int .i64 m, .int .i64 c], .agg #[.int .i64 kind, .int .i64 pos, .string text, .int .i64 num, .int .u32 by']] w fun e w' => Out8 w p h M e w' := by
  by_cases h0 : kind = 0
  · subst h0; exact do8_write d r bp np hN hw s k m c pos num by' hk hm hc text ht
  by_cases h1 : kind = 1
  · subst h1; exact do8_read d r bp np hN hw s k m c pos num by' hk hm hc text ht hT
  by_cases h2 : kind = 2
  · subst h2; exact do8_raw d r bp np hN hw s k m c pos num by' hk hm hc text ht
  by_cases h3 : kind = 3
  · subst h3; exact do8_erase d r bp np hN hw s k m c pos num by' hk hm hc text ht
  by_cases h4 : kind = 4
  · subst h4; exact do8_garble d r bp np hN hw s k m c pos num by' hk hm hc text ht hby
  by_cases h5 : kind = 5
  · subst h5; exact do8_flush d r bp np hN hw s k m c pos num by' hk hm hc text ht
  by_cases h6 : kind = 6
  · subst h6; exact do8_fuse d r bp np hN hw s k m c pos num by' hk hm hc text ht hnum
  by_cases h7 : kind = 7
  · subst h7; exact do8_crash d r bp np hN hw s k m c pos num by' hk hm hc text ht
  exact do8_other d r bp np hN hw s k m c kind pos num by' hk hm hc text ht ⟨h0, h1, h2, h3, h4, h5, h6, h7⟩
/-- The places within the law. -/
structure PL (w W : World) (p : Nat) (h : DH) (M : DM) (v0 v1 v2 v3 : Value) (s k m c : Int) : Prop where
  d : DevAt W h M
  r : RefAt W (.agg #[v0, v1, v2, v3]) M
  bp : P5 W p (.pointer (some ⟨h.b, 0, none⟩)) v0 v1 v2 v3
  bg : Bx W w.heap.size (.int .i64 s) (.int .i64 k) (.int .i64 m) (.int .i64 c)
  be : Below w.heap.size w W
  ab : ∀ q, h.S q → w.heap.size < q
  pw : w.heap.size < p
  np : ¬ h.S p
  nrm : Nrm M
section
variable {w W W' : World} {p : Nat} {h : DH} {M M2 : DM} {v0 v1 v2 v3 x0 x1 x2 x3 : Value} {s k m c : Int}
theorem PL.below (z : PL w W p h M v0 v1 v2 v3 s k m c) (hb : Below W.heap.size W W') : PL w W' p h M v0 v1 v2 v3 s k m c :=
  ⟨z.d.below hb, z.r.below hb, z.bp.ap (S := fun _ => False) (Ap.of_below hb) id, z.bg.below hb, z.be.trans (hb.mono z.be.size), z.ab, z.pw, z.np, z.nrm⟩
theorem PL.drew (z : PL w W p h M v0 v1 v2 v3 s k m c) : PL w W.drew p h M v0 v1 v2 v3 s k m c := z.below ((Below.refl _ _).drew)
theorem PL.step (z : PL w W p h M v0 v1 v2 v3 s k m c) (d : DevAt W' h M2) (r : RefAt W' (.agg #[x0, x1, x2, x3]) M2) (bp : P5 W' p (.pointer (some ⟨h.b, 0, none⟩)) x0 x1 x2 x3) (nrm : Nrm M2) (a : Ap (SP h p) W W') : PL w W' p h M2 x0 x1 x2 x3 s k m c :=
  ⟨d, r, bp, z.bg.ap a (fun e => by rcases e with e | e; (have := z.ab _ e; omega); (have := z.pw; omega)), z.be.trans ((a.below (B := w.heap.size) z.be.size (fun q e => by rcases e with e | e; (have := z.ab _ e; omega); (have := z.pw; omega))).mono (Nat.le_refl _)), z.ab, z.pw, z.np, nrm⟩
theorem PL.tab (z : PL w W p h M v0 v1 v2 v3 s k m c) (hT : Tab w) : Tab W := hT.below z.be (Nat.le_refl _)
theorem PL.cells (z : PL w W p h M v0 v1 v2 v3 s k m c) : W.cell? ⟨p, 0, none⟩ = some (.pointer (some ⟨h.b, 0, none⟩)) ∧ W.cell? ⟨p, 1, none⟩ = some v0 ∧ W.cell? ⟨p, 2, none⟩ = some v1 ∧ W.cell? ⟨p, 3, none⟩ = some v2 ∧ W.cell? ⟨p, 4, none⟩ = some v3 := ⟨z.bp.c0, z.bp.c1, z.bp.c2, z.bp.c3, z.bp.c4⟩
end
/-- What holds all through a round. -/
def SL (w : World) (p : Nat) (h : DH) (s k m c : Int) (ba : Nat) (kind pos : Int) (text : ByteArray) (num by' : Int) (W : World) : Prop := (∃ M v0 v1 v2 v3, PL w W p h M v0 v1 v2 v3 s k m c) ∧ A5 W ba kind pos text num by'
theorem SL.cells {w W : World} {p : Nat} {h : DH} {s k m c : Int} {ba : Nat} {kind pos : Int} {text : ByteArray} {num by' : Int} (z : SL w p h s k m c ba kind pos text num by' W) :
    W.cell? ⟨w.heap.size, 0, none⟩ = some (.int .i64 s) ∧ W.cell? ⟨w.heap.size, 1, none⟩ = some (.int .i64 k) ∧ W.cell? ⟨w.heap.size, 2, none⟩ = some (.int .i64 m) ∧ W.cell? ⟨w.heap.size, 3, none⟩ = some (.int .i64 c) ∧
    W.cell? ⟨ba, 0, none⟩ = some (.int .i64 kind) ∧ W.cell? ⟨ba, 1, none⟩ = some (.int .i64 pos) ∧ W.cell? ⟨ba, 2, none⟩ = some (.string text) ∧ W.cell? ⟨ba, 3, none⟩ = some (.int .i64 num) ∧ W.cell? ⟨ba, 4, none⟩ = some (.int .u32 by') := by
  obtain ⟨⟨M, v0, v1, v2, v3, q⟩, a⟩ := z
  exact ⟨q.bg.c0, q.bg.c1, q.bg.c2, q.bg.c3, a.c0, a.c1, a.c2, a.c3, a.c4⟩
theorem refAt_vals {W : World} {v0 v1 v2 v3 : Value} {M : DM} (r : RefAt W (.agg #[v0, v1, v2, v3]) M) : ∃ g cg, v0 = .slice (some ⟨g, 0, none⟩) M.n cg ∧ v1 = .bool M.down ∧ v2 = .int .i64 M.left ∧ v3 = .int .i64 (M.writes : Int) := by
  obtain ⟨b, cap, h, _⟩ := r
  simp only [Value.agg.injEq, Array.mk.injEq, List.cons.injEq, and_true] at h
  exact ⟨_, _, h.1, h.2.1, h.2.2.1, h.2.2.2⟩
theorem clu_early {w : World} (hT : Tab w) {s k m c n : Int} {va : Value} {L : List AM8} (hL : Acts8 w va L) (hno : n < 1 ∨ 128 < n ∨ 60 < L.length) :
    Calls Tryz.prog 3 #[.agg #[.int .i64 s, .int .i64 k, .int .i64 m, .int .i64 c], .int .i64 n, va] w fun e w' => e = .returned (.bool true) ∧ Below w.heap.size w w' := by
  obtain ⟨AL, cL, rfl, hlL, hmL, hL3⟩ := hL
  have HB0 := Lib.hid (below1 w (.cells #[.int .i64 s, .int .i64 k, .int .i64 m, .int .i64 c] 23))
  have a0 := cluLives_any _ (hT.alloc (.cells #[.int .i64 s, .int .i64 k, .int .i64 m, .int .i64 c] 23))
  clear hL3 hT
  by_cases h1 : n < 1
  · have e1 : decide (n < 1) = true := decide_eq_true h1
    clear hno h1
    go_enter Tryz.func3, Tryz.ntmps3
    go_wp2_with (go_at_call 4; with_reducible refine a0.mono ?_; rintro e w1 ⟨rfl, hb1⟩)
    go_ret
    exact ⟨rfl, HB0.out.trans (hb1.mono HB0.out.size)⟩
  · have e1 : decide (n < 1) = false := decide_eq_false h1
    by_cases h2 : 128 < n
    · have e2 : decide (128 < n) = true := decide_eq_true h2
      clear hno h1 h2
      go_enter Tryz.func3, Tryz.ntmps3
      go_wp2_with (go_at_call 4; with_reducible refine a0.mono ?_; rintro e w1 ⟨rfl, hb1⟩)
      go_ret
      exact ⟨rfl, HB0.out.trans (hb1.mono HB0.out.size)⟩
    · have e2 : decide (128 < n) = false := decide_eq_false h2
      have e3 : decide ((60 : Int) < (L.length : Int)) = true := decide_eq_true (by omega)
      clear hno h1 h2
      go_enter Tryz.func3, Tryz.ntmps3
      go_wp2_with (go_at_call 4; with_reducible refine a0.mono ?_; rintro e w1 ⟨rfl, hb1⟩)
      go_ret
      exact ⟨rfl, HB0.out.trans (hb1.mono HB0.out.size)⟩
set_option maxRecDepth 100000 in
set_option maxHeartbeats 20000000 in
theorem clu_plays {w : World} (hT : Tab w) {s k m c : Int} (hk : W64 k) (hm : W64 m) (hc : W64 c) (n : Nat) (n1 : 1 ≤ n) (n2 : n ≤ 128) {va : Value} {L : List AM8} (hL : Acts8 w va L) (hl60 : L.length ≤ 60) :
    Calls Tryz.prog 3 #[.agg #[.int .i64 s, .int .i64 k, .int .i64 m, .int .i64 c], .int .i64 (n : Int), va] w fun e w' => e = .returned (.bool true) ∧ Below w.heap.size w w' := by
  obtain ⟨AL, cL, rfl, hlL, hmL, hL3⟩ := hL
  have HL3 := Lib.hid hL3
  have HTW := Lib.hid hT
  have HB0 := Lib.hid (below1 w (.cells #[.int .i64 s, .int .i64 k, .int .i64 m, .int .i64 c] 23))
  have HG0 := Lib.hid (Bx.new w (.int .i64 s) (.int .i64 k) (.int .i64 m) (.int .i64 c) 23)
  have a0 := cluLives_any _ (hT.alloc (.cells #[.int .i64 s, .int .i64 k, .int .i64 m, .int .i64 c] 23))
  have e1 : decide ((n : Int) < 1) = false := decide_eq_false (by omega)
  have e2 : decide (128 < (n : Int)) = false := decide_eq_false (by omega)
  have e3 : decide ((60 : Int) < (L.length : Int)) = false := decide_eq_false (by omega)
  have hD := fun W => cluNew_ex n n1 (by omega) W
  have hR := fun W => refNew_ok n n1 (by omega) W
  have HDo : Hid (∀ (W : World) (p : Nat) (h : DH) (M : DM) (v0 v1 v2 v3 : Value) (kind pos num by' : Int) (text : ByteArray), PL w W p h M v0 v1 v2 v3 s k m c → M.writes < 90000 → text.size ≤ 140737488355328 → W64 num → (0 ≤ by' ∧ by' < 4294967296) →
      Calls Tryz.prog 7 #[.pointer (some ⟨p, 0, none⟩), .agg #[.int .i64 s, .int .i64 k, .int .i64 m, .int .i64 c], .agg #[.int .i64 kind, .int .i64 pos, .string text, .int .i64 num, .int .u32 by']] W fun e w' => Out8 W p h M e w') :=
    Lib.hid (fun W p h M v0 v1 v2 v3 kind pos num by' text z hw ht hnum hby => do8_any z.d z.r z.bp z.np z.nrm hw (z.tab hT) s k m c kind pos num by' hk hm hc text ht hnum hby)
  have HNM0 : Hid (Nrm (newM n) ∧ (newM n).n = n ∧ (newM n).writes = 0) := Lib.hid ⟨⟨n1, (by show n ≤ 256; omega), (by show (-1 : Int) ≤ -1; omega), (by show (-1 : Int) ≤ _; omega)⟩, rfl, rfl⟩
  clear hL3 hT hk hm hc
  go_enter Tryz.func3, Tryz.ntmps3
  go_upto_region 10 with (first
    | (go_at_call 4; with_reducible refine a0.mono ?_; rintro e w1 ⟨rfl, hb1⟩; have HB1 := Lib.hid (HB0.out.trans (hb1.mono HB0.out.size)); have HG1 := Lib.hid (HG0.out.below hb1); have HS1 : Hid (w.heap.size < w1.heap.size) := Lib.hid HG1.out.lt; clear hb1)
    | (go_at_call 5; with_reducible refine (hD _).mono ?_; rintro e w2 ⟨h, rfl, hd2, hab2, hb2⟩; have HD2 := Lib.hid hd2; have HAB2 := Lib.hid hab2; have HB2 := Lib.hid (HB1.out.trans (hb2.mono HB1.out.size)); have HG2 := Lib.hid (HG1.out.below hb2); clear hd2 hab2 hb2)
    | (go_at_call 6; go_loud (refine (hR _).mono ?_; rintro e w3 ⟨vv, rfl, hr3, hb3⟩; have HR3 := Lib.hid hr3; obtain ⟨g, cg, rfl, q1, q2, hrow⟩ := hr3; have HD3 := Lib.hid (HD2.out.below hb3); have HB3 := Lib.hid (HB2.out.trans (hb3.mono HB2.out.size)); have HG3 := Lib.hid (HG2.out.below hb3); clear hb3 q1 q2 hrow)))
  have hP3 : PL w ((w3.alloc (.cells #[.slice (some ⟨g, 0, none⟩) (newM n).n cg, .bool (newM n).down, .int .i64 (newM n).left, .int .i64 ((newM n).writes : Int)] 32)).alloc (.cells #[.pointer (some ⟨h.b, 0, none⟩), .slice (some ⟨g, 0, none⟩) (newM n).n cg, .bool (newM n).down, .int .i64 (newM n).left, .int .i64 ((newM n).writes : Int)] 37)) (w3.heap.size + 1) h (newM n) (.slice (some ⟨g, 0, none⟩) (newM n).n cg) (.bool (newM n).down) (.int .i64 (newM n).left) (.int .i64 ((newM n).writes : Int)) s k m c := by
    have B1 := below1 w3 (.cells #[.slice (some ⟨g, 0, none⟩) (newM n).n cg, .bool (newM n).down, .int .i64 (newM n).left, .int .i64 ((newM n).writes : Int)] 32)
    have B2 := below1 (w3.alloc (.cells #[.slice (some ⟨g, 0, none⟩) (newM n).n cg, .bool (newM n).down, .int .i64 (newM n).left, .int .i64 ((newM n).writes : Int)] 32)) (.cells #[.pointer (some ⟨h.b, 0, none⟩), .slice (some ⟨g, 0, none⟩) (newM n).n cg, .bool (newM n).down, .int .i64 (newM n).left, .int .i64 ((newM n).writes : Int)] 37)
    have B := B1.trans (B2.mono (by simp))
    have h5 := P5.new (w3.alloc (.cells #[.slice (some ⟨g, 0, none⟩) (newM n).n cg, .bool (newM n).down, .int .i64 (newM n).left, .int .i64 ((newM n).writes : Int)] 32)) (.pointer (some ⟨h.b, 0, none⟩)) (.slice (some ⟨g, 0, none⟩) (newM n).n cg) (.bool (newM n).down) (.int .i64 (newM n).left) (.int .i64 ((newM n).writes : Int)) 37
    rw [show (w3.alloc (.cells #[.slice (some ⟨g, 0, none⟩) (newM n).n cg, .bool (newM n).down, .int .i64 (newM n).left, .int .i64 ((newM n).writes : Int)] 32)).heap.size = w3.heap.size + 1 by simp] at h5
    exact ⟨HD3.out.below B, HR3.out.below B, h5, HG3.out.below B, HB3.out.trans (B.mono HB3.out.size), fun q e => by have h1 := DH.above_S HAB2.out q e; have h2 := HS1.out; omega, by have := HB3.out.size; omega, fun e => by have := clu_slt HD3.out _ e; omega, HNM0.out.1⟩
  have HP3 := Lib.hid hP3
  clear hP3 HD3 HR3 HG3 HB3 HD2 HB2 HG2 HAB2 HB1 HG1 HS1 HB0 HG0 hD hR a0
  obtain ⟨M0, hM0⟩ : ∃ M0, M0 = newM n := ⟨_, rfl⟩
  rw [← hM0] at HNM0 HP3 ⊢
  clear hM0
  generalize ((w3.alloc (.cells #[.slice (some ⟨g, 0, none⟩) M0.n cg, .bool M0.down, .int .i64 M0.left, .int .i64 (M0.writes : Int)] 32)).alloc (.cells #[.pointer (some ⟨h.b, 0, none⟩), .slice (some ⟨g, 0, none⟩) M0.n cg, .bool M0.down, .int .i64 M0.left, .int .i64 (M0.writes : Int)] 37)) = w4 at HP3 ⊢
  generalize w3.heap.size + 1 = p at HP3 ⊢
  go_upto_region 11 with fail
  go_loopw [53] (fun ix wr => ∃ (j : Nat) (M : DM) (v0 v1 v2 v3 : Value), j ≤ L.length ∧ ix = .int .i64 (j : Int) ∧ PL w wr p h M v0 v1 v2 v3 s k m c ∧ M.n = n ∧ M.writes ≤ 128 * j) (fun ix _ => L.length - (intOf ix).toNat)
  case atStart => exact ⟨0, M0, _, _, _, _, Nat.zero_le _, rfl, HP3.out, HNM0.out.2.1, by rw [HNM0.out.2.2]; exact Nat.zero_le _⟩
  case round =>
    obtain ⟨j, M, v0, v1, v2, v3, hj, rfl, hp, hMn, hMw⟩ := hrel
    have HP := Lib.hid hp
    have HMN := Lib.hid hMn
    have HMW := Lib.hid hMw
    clear hp HP3 hMn hMw
    by_cases hlt : j < L.length
    · obtain ⟨b, off, rfl, hbl, hca⟩ := HL3.out.resolve_left (by intro e; rw [e] at hlt; simp at hlt)
      have hA0 := hca j hlt
      have hA := hA0.below HP.out.be (Nat.le_refl _) hbl
      generalize L.getD j AM8.none = x at hA hA0
      obtain ⟨kind, pos, text, num, by'⟩ := x
      obtain ⟨k0, k1, k2, k3, k4, _, _, x3, x4⟩ := hA
      dsimp only at k0 k1 k2 k3 k4 x3 x4
      have HX3 := Lib.hid x3
      have HX4 := Lib.hid x4
      clear hca hA0 x3 x4
      go_upto_region 13 with fail
      have HP4 := Lib.hid (HP.out.below (below1 wr (.cells #[.int .i64 kind, .int .i64 pos, .string text, .int .i64 num, .int .u32 by'] 40)))
      have HA4 := Lib.hid (A5.new wr kind pos text num by' 40)
      have HPd := Lib.hid HP.out.d
      have HPp := Lib.hid HP.out.bp.lt
      clear k0 k1 k2 k3 k4 HP
      generalize wr.alloc (.cells #[.int .i64 kind, .int .i64 pos, .string text, .int .i64 num, .int .u32 by'] 40) = w5 at HP4 HA4 ⊢
      have HBA : Hid (¬ SP h p wr.heap.size) := Lib.hid (fun e => by rcases e with e | e; (have := clu_slt HPd.out _ e; omega); (have := HPp.out; omega))
      generalize wr.heap.size = ba at HA4 HBA ⊢
      obtain ⟨_, z0, z1, z2, z3, z4⟩ := HA4.out
      by_cases hbig : 131072 < text.size
      · have e4 : decide ((131072 : Int) < (text.size : Int)) = true := decide_eq_true (by omega)
        have e5 : decide (131072 < text.size) = true := decide_eq_true hbig
        go_wp2_with fail
        go_ret
        exact ⟨rfl, HP4.out.be⟩
      · have e4 : decide ((131072 : Int) < (text.size : Int)) = false := decide_eq_false (by omega)
        have e5 : decide (131072 < text.size) = false := decide_eq_false hbig
        have HTX : Hid (text.size ≤ 140737488355328) := Lib.hid (by omega)
        clear hbig
        go_upto_region 15 with fail
        obtain ⟨_, g0, g1, g2, g3, _, _, _, _⟩ := HP4.out.bg
        clear z0 z1 z2 z3 z4 g0 g1 g2 g3
        have HS0 : Hid (SL w p h s k m c ba kind pos text num by' w5.drew) := Lib.hid ⟨⟨M, v0, v1, v2, v3, HP4.out.drew⟩, HA4.out.ap (S := fun _ => False) (Ap.of_below ((Below.refl _ _).drew)) id⟩
        have hDo := HDo.out w5.drew p h M v0 v1 v2 v3 kind pos num by' text HP4.out.drew (by have := HMW.out; omega) HTX.out HX3.out HX4.out
        refine wp_region_held_drew (S := SL w p h s k m c ba kind pos text num by') (by as_aux_lemma => kernel_rfl) HS0.out (fun hHeld => ?_)
        clear hHeld
        refine wpAnyH_take (i := 0) (oi := { dst := some 61, op := Op.move (Operand.tmp 11), type := 35, pos := "law.go:113", after := #[], guard := none }) (v := ?v1) rfl (by as_aux_lemma => kernel_rfl) (by as_aux_lemma => kernel_rfl) (by as_aux_lemma => kernel_rfl) (fun _ _ _ h => h) (Or.inl ⟨?hw1, ?hy1⟩) HS0.out ?_
        case hw1 => kernel_rfl
        case hy1 => (intro W hSw; clear hSw; go_simp; first | done | with_reducible rfl)
        try simp only [Act.put, List.setIfInBounds_toArray, List.set_cons_zero, List.set_cons_succ]
        refine wpAnyH_take (i := 1) (oi := { dst := some 62, op := Op.load 23 (Operand.tmp 3), type := 23, pos := "law.go:113", after := #[], guard := none }) (v := ?v2) rfl (by as_aux_lemma => kernel_rfl) (by as_aux_lemma => kernel_rfl) (by as_aux_lemma => kernel_rfl) (fun _ _ _ h => h) (Or.inl ⟨?hw2, ?hy2⟩) HS0.out ?_
        case hw2 => kernel_rfl
        case hy2 => (intro W hSw; obtain ⟨y0, y1, y2, y3, y4, y5, y6, y7, y8⟩ := hSw.cells; clear hSw; go_simp; first | done | with_reducible rfl)
        try simp only [Act.put, List.setIfInBounds_toArray, List.set_cons_zero, List.set_cons_succ]
        refine wpAnyH_take (i := 2) (oi := { dst := some 63, op := Op.load 40 (Operand.tmp 13), type := 40, pos := "law.go:113", after := #[], guard := none }) (v := ?v3) rfl (by as_aux_lemma => kernel_rfl) (by as_aux_lemma => kernel_rfl) (by as_aux_lemma => kernel_rfl) (fun _ _ _ h => h) (Or.inl ⟨?hw3, ?hy3⟩) HS0.out ?_
        case hw3 => kernel_rfl
        case hy3 => (intro W hSw; obtain ⟨y0, y1, y2, y3, y4, y5, y6, y7, y8⟩ := hSw.cells; clear hSw; go_simp; first | done | with_reducible rfl)
        try simp only [Act.put, List.setIfInBounds_toArray, List.set_cons_zero, List.set_cons_succ]
        refine wpAnyH_ready (rs := [3]) (by as_aux_lemma => kernel_rfl) (by simp) ?_
        refine AllReadyH.cons (o := { dst := some 64, op := Op.call { callee := Callee.value (Operand.func 7), args := #[Operand.tmp 61, Operand.tmp 62, Operand.tmp 63], argTypes := #[35, 23, 40] }, type := 4, pos := "law.go:113", after := #[{ on := 0, ground := Ground.data }, { on := 1, ground := Ground.data }, { on := 2, ground := Ground.data }], guard := none }) rfl (fun K hK => ?_) ?_
        rotate_left
        · exact AllReadyH.nil
        go_simp
        go_at_call 7
        refine hDo.mono ?_
        rintro e w6 ⟨rfl, M6, u0, u1, u2, u3, hd6, hr6, hp6, hn6, hnn6, hww6, ha6⟩
        have HP6 := Lib.hid (HP4.out.drew.step hd6 hr6 hp6 hn6 ha6)
        have HS6 : Hid (SL w p h s k m c ba kind pos text num by' w6) := Lib.hid ⟨⟨M6, u0, u1, u2, u3, HP6.out⟩, HS0.out.2.ap ha6 HBA.out⟩
        obtain ⟨gg, cc, rfl, rfl, rfl, rfl⟩ := refAt_vals hr6
        have HNN := Lib.hid (hnn6.trans HMN.out)
        have HWW := Lib.hid hww6
        clear hd6 hr6 hp6 hn6 hnn6 hww6 ha6 hDo
        go_wp2_with fail
        refine hK.out _ _ HS6.out (fun hHeld => ?_)
        clear hHeld hK K
        refine wpAnyH_more (S2 := fun W => PL w W p h M6 (.slice (some ⟨gg, 0, none⟩) M6.n cc) (.bool M6.down) (.int .i64 M6.left) (.int .i64 (M6.writes : Int)) s k m c ∧ A5 W ba kind pos text num by') (fun _ z => ⟨⟨M6, _, _, _, _, z.1⟩, z.2⟩) _ _ _ _ ?_
        have HS7 := Lib.hid (And.intro HP6.out HS6.out.2)
        try simp only [Act.put, List.setIfInBounds_toArray, List.set_cons_zero, List.set_cons_succ]
        refine wpAnyH_take (i := 4) (oi := { dst := some 65, op := Op.unOp UnOp.not 4 (Operand.tmp 64), type := 4, pos := "law.go:113", after := #[{ on := 3, ground := Ground.data }], guard := none }) (v := ?v4) rfl (by as_aux_lemma => kernel_rfl) (by as_aux_lemma => kernel_rfl) (by as_aux_lemma => kernel_rfl) (fun _ _ _ h => h) (Or.inl ⟨?hw4, ?hy4⟩) HS7.out ?_
        case hw4 => kernel_rfl
        case hy4 => (intro W hSw; clear hSw; go_simp; first | done | with_reducible rfl)
        try simp only [Act.put, List.setIfInBounds_toArray, List.set_cons_zero, List.set_cons_succ]
        refine wpAnyH_take (i := 5) (oi := { dst := some 66, op := Op.move (Operand.tmp 65), type := 4, pos := "law.go:113", after := #[{ on := 4, ground := Ground.data }, { on := 3, ground := Ground.chain }], guard := none }) (v := ?v5) rfl (by as_aux_lemma => kernel_rfl) (by as_aux_lemma => kernel_rfl) (by as_aux_lemma => kernel_rfl) (fun _ _ _ h => h) (Or.inl ⟨?hw5, ?hy5⟩) HS7.out ?_
        case hw5 => kernel_rfl
        case hy5 => (intro W hSw; clear hSw; go_simp; first | done | with_reducible rfl)
        try simp only [Act.put, List.setIfInBounds_toArray, List.set_cons_zero, List.set_cons_succ]
        refine wpAnyH_take (i := 6) (oi := { dst := some 67, op := Op.move (Operand.tmp 11), type := 35, pos := "law.go:113", after := #[{ on := 5, ground := Ground.guard }], guard := some (5, false) }) (v := ?v6) rfl (by as_aux_lemma => kernel_rfl) (by as_aux_lemma => kernel_rfl) (by as_aux_lemma => kernel_rfl) (fun _ _ _ h => h) (Or.inl ⟨?hw6, ?hy6⟩) HS7.out ?_
        case hw6 => kernel_rfl
        case hy6 => (intro W hSw; clear hSw; go_simp; first | done | with_reducible rfl)
        try simp only [Act.put, List.setIfInBounds_toArray, List.set_cons_zero, List.set_cons_succ]
        refine wpAnyH_take (i := 7) (oi := { dst := some 68, op := Op.nilCheck (Operand.tmp 67), type := 0, pos := "law.go:113", after := #[{ on := 6, ground := Ground.data }, { on := 5, ground := Ground.guard }], guard := some (5, false) }) (v := ?v7) rfl (by as_aux_lemma => kernel_rfl) (by as_aux_lemma => kernel_rfl) (by as_aux_lemma => kernel_rfl) (fun _ _ _ h => h) (Or.inl ⟨?hw7, ?hy7⟩) HS7.out ?_
        case hw7 => kernel_rfl
        case hy7 => (intro W hSw; clear hSw; go_simp; first | done | with_reducible rfl)
        try simp only [Act.put, List.setIfInBounds_toArray, List.set_cons_zero, List.set_cons_succ]
        refine wpAnyH_take (i := 8) (oi := { dst := some 69, op := Op.fieldAddr 37 (Operand.tmp 68) 0, type := 0, pos := "law.go:113", after := #[{ on := 7, ground := Ground.data }, { on := 5, ground := Ground.guard }], guard := some (5, false) }) (v := ?v8) rfl (by as_aux_lemma => kernel_rfl) (by as_aux_lemma => kernel_rfl) (by as_aux_lemma => kernel_rfl) (fun _ _ _ h => h) (Or.inl ⟨?hw8, ?hy8⟩) HS7.out ?_
        case hw8 => kernel_rfl
        case hy8 => (intro W hSw; clear hSw; go_simp; first | done | with_reducible rfl)
        try simp only [Act.put, List.setIfInBounds_toArray, List.set_cons_zero, List.set_cons_succ]
        refine wpAnyH_take (i := 9) (oi := { dst := some 70, op := Op.load 26 (Operand.tmp 69), type := 26, pos := "law.go:113", after := #[{ on := 8, ground := Ground.data }, { on := 5, ground := Ground.guard }], guard := some (5, false) }) (v := ?v9) rfl (by as_aux_lemma => kernel_rfl) (by as_aux_lemma => kernel_rfl) (by as_aux_lemma => kernel_rfl) (fun _ _ _ h => h) (Or.inl ⟨?hw9, ?hy9⟩) HS7.out ?_
        case hw9 => kernel_rfl
        case hy9 => (intro W hSw; obtain ⟨y0, y1, y2, y3, y4⟩ := hSw.1.cells; clear hSw; go_simp; first | done | with_reducible rfl)
        try simp only [Act.put, List.setIfInBounds_toArray, List.set_cons_zero, List.set_cons_succ]
        refine wpAnyH_take (i := 11) (oi := { dst := some 72, op := Op.move (Operand.tmp 11), type := 35, pos := "law.go:113", after := #[{ on := 5, ground := Ground.guard }], guard := some (5, false) }) (v := ?v10) rfl (by as_aux_lemma => kernel_rfl) (by as_aux_lemma => kernel_rfl) (by as_aux_lemma => kernel_rfl) (fun _ _ _ h => h) (Or.inl ⟨?hw10, ?hy10⟩) HS7.out ?_
        case hw10 => kernel_rfl
        case hy10 => (intro W hSw; clear hSw; go_simp; first | done | with_reducible rfl)
        try simp only [Act.put, List.setIfInBounds_toArray, List.set_cons_zero, List.set_cons_succ]
        refine wpAnyH_take (i := 12) (oi := { dst := some 73, op := Op.nilCheck (Operand.tmp 72), type := 0, pos := "law.go:113", after := #[{ on := 11, ground := Ground.data }, { on := 5, ground := Ground.guard }], guard := some (5, false) }) (v := ?v11) rfl (by as_aux_lemma => kernel_rfl) (by as_aux_lemma => kernel_rfl) (by as_aux_lemma => kernel_rfl) (fun _ _ _ h => h) (Or.inl ⟨?hw11, ?hy11⟩) HS7.out ?_
        case hw11 => kernel_rfl
        case hy11 => (intro W hSw; clear hSw; go_simp; first | done | with_reducible rfl)
        try simp only [Act.put, List.setIfInBounds_toArray, List.set_cons_zero, List.set_cons_succ]
        refine wpAnyH_take (i := 13) (oi := { dst := some 74, op := Op.fieldAddr 37 (Operand.tmp 73) 1, type := 0, pos := "law.go:113", after := #[{ on := 12, ground := Ground.data }, { on := 5, ground := Ground.guard }], guard := some (5, false) }) (v := ?v12) rfl (by as_aux_lemma => kernel_rfl) (by as_aux_lemma => kernel_rfl) (by as_aux_lemma => kernel_rfl) (fun _ _ _ h => h) (Or.inl ⟨?hw12, ?hy12⟩) HS7.out ?_
        case hw12 => kernel_rfl
        case hy12 => (intro W hSw; clear hSw; go_simp; first | done | with_reducible rfl)
        try simp only [Act.put, List.setIfInBounds_toArray, List.set_cons_zero, List.set_cons_succ]
        refine wpAnyH_take (i := 14) (oi := { dst := some 75, op := Op.fieldAddr 32 (Operand.tmp 74) 1, type := 0, pos := "law.go:113", after := #[{ on := 13, ground := Ground.data }, { on := 5, ground := Ground.guard }], guard := some (5, false) }) (v := ?v13) rfl (by as_aux_lemma => kernel_rfl) (by as_aux_lemma => kernel_rfl) (by as_aux_lemma => kernel_rfl) (fun _ _ _ h => h) (Or.inl ⟨?hw13, ?hy13⟩) HS7.out ?_
        case hw13 => kernel_rfl
        case hy13 => (intro W hSw; clear hSw; go_simp; first | done | with_reducible rfl)
        try simp only [Act.put, List.setIfInBounds_toArray, List.set_cons_zero, List.set_cons_succ]
        refine wpAnyH_take (i := 15) (oi := { dst := some 76, op := Op.load 4 (Operand.tmp 75), type := 4, pos := "law.go:113", after := #[{ on := 14, ground := Ground.data }, { on := 5, ground := Ground.guard }], guard := some (5, false) }) (v := ?v14) rfl (by as_aux_lemma => kernel_rfl) (by as_aux_lemma => kernel_rfl) (by as_aux_lemma => kernel_rfl) (fun _ _ _ h => h) (Or.inl ⟨?hw14, ?hy14⟩) HS7.out ?_
        case hw14 => kernel_rfl
        case hy14 => (intro W hSw; obtain ⟨y0, y1, y2, y3, y4⟩ := hSw.1.cells; clear hSw; go_simp; first | done | with_reducible rfl)
        try simp only [Act.put, List.setIfInBounds_toArray, List.set_cons_zero, List.set_cons_succ]
        refine wpAnyH_ready (rs := [10]) (by as_aux_lemma => kernel_rfl) (by simp) ?_
        refine AllReadyH.cons (o := { dst := some 71, op := Op.call { callee := Callee.value (Operand.func 8), args := #[Operand.tmp 70], argTypes := #[26] }, type := 4, pos := "law.go:113", after := #[{ on := 9, ground := Ground.data }, { on := 5, ground := Ground.chain }, { on := 5, ground := Ground.guard }], guard := some (5, false) }) rfl (fun K hK => ?_) ?_
        rotate_left
        · exact AllReadyH.nil
        go_simp
        go_at_call 8
        refine (devDown_any HP6.out.d).mono ?_
        rintro e w7 ⟨rfl, rfl⟩
        go_wp2_with fail
        refine hK.out _ _ HS7.out (fun hHeld => ?_)
        clear hHeld hK K
        try simp only [Act.put, List.setIfInBounds_toArray, List.set_cons_zero, List.set_cons_succ]
        refine wpAnyH_take (i := 16) (oi := { dst := some 77, op := Op.binOp BinOp.neq 4 (Operand.tmp 71) (Operand.tmp 76) 4, type := 4, pos := "law.go:113", after := #[{ on := 10, ground := Ground.data }, { on := 15, ground := Ground.data }, { on := 5, ground := Ground.guard }], guard := some (5, false) }) (v := ?v15) rfl (by as_aux_lemma => kernel_rfl) (by as_aux_lemma => kernel_rfl) (by as_aux_lemma => kernel_rfl) (fun _ _ _ h => h) (Or.inl ⟨?hw15, ?hy15⟩) HS7.out ?_
        case hw15 => kernel_rfl
        case hy15 => (intro W hSw; clear hSw; go_simp; first | done | with_reducible rfl)
        try simp only [Act.put, List.setIfInBounds_toArray, List.set_cons_zero, List.set_cons_succ]
        refine wpAnyH_take (i := 17) (oi := { dst := some 78, op := Op.pick (Operand.tmp 66) (Operand.const (Value.bool true)) (Operand.tmp 77), type := 4, pos := "law.go:113", after := #[{ on := 5, ground := Ground.data }, { on := 16, ground := Ground.data }], guard := none }) (v := ?v16) rfl (by as_aux_lemma => kernel_rfl) (by as_aux_lemma => kernel_rfl) (by as_aux_lemma => kernel_rfl) (fun _ _ _ h => h) (Or.inl ⟨?hw16, ?hy16⟩) HS7.out ?_
        case hw16 => kernel_rfl
        case hy16 => (intro W hSw; clear hSw; go_simp; first | done | with_reducible rfl)
        try simp only [Act.put, List.setIfInBounds_toArray, List.set_cons_zero, List.set_cons_succ]
        refine wpAnyH_take (i := 18) (oi := { dst := some 79, op := Op.move (Operand.tmp 78), type := 4, pos := "law.go:113", after := #[{ on := 17, ground := Ground.data }, { on := 10, ground := Ground.chain }], guard := none }) (v := ?v17) rfl (by as_aux_lemma => kernel_rfl) (by as_aux_lemma => kernel_rfl) (by as_aux_lemma => kernel_rfl) (fun _ _ _ h => h) (Or.inl ⟨?hw17, ?hy17⟩) HS7.out ?_
        case hw17 => kernel_rfl
        case hy17 => (intro W hSw; clear hSw; go_simp; first | done | with_reducible rfl)
        try simp only [Act.put, List.setIfInBounds_toArray, List.set_cons_zero, List.set_cons_succ]
        refine wpAnyH_take (i := 19) (oi := { dst := some 80, op := Op.move (Operand.tmp 11), type := 35, pos := "law.go:113", after := #[{ on := 18, ground := Ground.guard }], guard := some (18, false) }) (v := ?v18) rfl (by as_aux_lemma => kernel_rfl) (by as_aux_lemma => kernel_rfl) (by as_aux_lemma => kernel_rfl) (fun _ _ _ h => h) (Or.inl ⟨?hw18, ?hy18⟩) HS7.out ?_
        case hw18 => kernel_rfl
        case hy18 => (intro W hSw; clear hSw; go_simp; first | done | with_reducible rfl)
        try simp only [Act.put, List.setIfInBounds_toArray, List.set_cons_zero, List.set_cons_succ]
        refine wpAnyH_take (i := 20) (oi := { dst := some 81, op := Op.nilCheck (Operand.tmp 80), type := 0, pos := "law.go:113", after := #[{ on := 19, ground := Ground.data }, { on := 18, ground := Ground.guard }], guard := some (18, false) }) (v := ?v19) rfl (by as_aux_lemma => kernel_rfl) (by as_aux_lemma => kernel_rfl) (by as_aux_lemma => kernel_rfl) (fun _ _ _ h => h) (Or.inl ⟨?hw19, ?hy19⟩) HS7.out ?_
        case hw19 => kernel_rfl
        case hy19 => (intro W hSw; clear hSw; go_simp; first | done | with_reducible rfl)
        try simp only [Act.put, List.setIfInBounds_toArray, List.set_cons_zero, List.set_cons_succ]
        refine wpAnyH_take (i := 21) (oi := { dst := some 82, op := Op.fieldAddr 37 (Operand.tmp 81) 0, type := 0, pos := "law.go:113", after := #[{ on := 20, ground := Ground.data }, { on := 18, ground := Ground.guard }], guard := some (18, false) }) (v := ?v20) rfl (by as_aux_lemma => kernel_rfl) (by as_aux_lemma => kernel_rfl) (by as_aux_lemma => kernel_rfl) (fun _ _ _ h => h) (Or.inl ⟨?hw20, ?hy20⟩) HS7.out ?_
        case hw20 => kernel_rfl
        case hy20 => (intro W hSw; clear hSw; go_simp; first | done | with_reducible rfl)
        try simp only [Act.put, List.setIfInBounds_toArray, List.set_cons_zero, List.set_cons_succ]
        refine wpAnyH_take (i := 22) (oi := { dst := some 83, op := Op.load 26 (Operand.tmp 82), type := 26, pos := "law.go:113", after := #[{ on := 21, ground := Ground.data }, { on := 18, ground := Ground.guard }], guard := some (18, false) }) (v := ?v21) rfl (by as_aux_lemma => kernel_rfl) (by as_aux_lemma => kernel_rfl) (by as_aux_lemma => kernel_rfl) (fun _ _ _ h => h) (Or.inl ⟨?hw21, ?hy21⟩) HS7.out ?_
        case hw21 => kernel_rfl
        case hy21 => (intro W hSw; obtain ⟨y0, y1, y2, y3, y4⟩ := hSw.1.cells; clear hSw; go_simp; first | done | with_reducible rfl)
        try simp only [Act.put, List.setIfInBounds_toArray, List.set_cons_zero, List.set_cons_succ]
        refine wpAnyH_take (i := 24) (oi := { dst := some 85, op := Op.move (Operand.tmp 11), type := 35, pos := "law.go:113", after := #[{ on := 18, ground := Ground.guard }], guard := some (18, false) }) (v := ?v22) rfl (by as_aux_lemma => kernel_rfl) (by as_aux_lemma => kernel_rfl) (by as_aux_lemma => kernel_rfl) (fun _ _ _ h => h) (Or.inl ⟨?hw22, ?hy22⟩) HS7.out ?_
        case hw22 => kernel_rfl
        case hy22 => (intro W hSw; clear hSw; go_simp; first | done | with_reducible rfl)
        try simp only [Act.put, List.setIfInBounds_toArray, List.set_cons_zero, List.set_cons_succ]
        refine wpAnyH_take (i := 25) (oi := { dst := some 86, op := Op.nilCheck (Operand.tmp 85), type := 0, pos := "law.go:113", after := #[{ on := 24, ground := Ground.data }, { on := 18, ground := Ground.guard }], guard := some (18, false) }) (v := ?v23) rfl (by as_aux_lemma => kernel_rfl) (by as_aux_lemma => kernel_rfl) (by as_aux_lemma => kernel_rfl) (fun _ _ _ h => h) (Or.inl ⟨?hw23, ?hy23⟩) HS7.out ?_
        case hw23 => kernel_rfl
        case hy23 => (intro W hSw; clear hSw; go_simp; first | done | with_reducible rfl)
        try simp only [Act.put, List.setIfInBounds_toArray, List.set_cons_zero, List.set_cons_succ]
        refine wpAnyH_take (i := 26) (oi := { dst := some 87, op := Op.fieldAddr 37 (Operand.tmp 86) 1, type := 0, pos := "law.go:113", after := #[{ on := 25, ground := Ground.data }, { on := 18, ground := Ground.guard }], guard := some (18, false) }) (v := ?v24) rfl (by as_aux_lemma => kernel_rfl) (by as_aux_lemma => kernel_rfl) (by as_aux_lemma => kernel_rfl) (fun _ _ _ h => h) (Or.inl ⟨?hw24, ?hy24⟩) HS7.out ?_
        case hw24 => kernel_rfl
        case hy24 => (intro W hSw; clear hSw; go_simp; first | done | with_reducible rfl)
        try simp only [Act.put, List.setIfInBounds_toArray, List.set_cons_zero, List.set_cons_succ]
        refine wpAnyH_take (i := 27) (oi := { dst := some 88, op := Op.fieldAddr 32 (Operand.tmp 87) 3, type := 0, pos := "law.go:113", after := #[{ on := 26, ground := Ground.data }, { on := 18, ground := Ground.guard }], guard := some (18, false) }) (v := ?v25) rfl (by as_aux_lemma => kernel_rfl) (by as_aux_lemma => kernel_rfl) (by as_aux_lemma => kernel_rfl) (fun _ _ _ h => h) (Or.inl ⟨?hw25, ?hy25⟩) HS7.out ?_
        case hw25 => kernel_rfl
        case hy25 => (intro W hSw; clear hSw; go_simp; first | done | with_reducible rfl)
        try simp only [Act.put, List.setIfInBounds_toArray, List.set_cons_zero, List.set_cons_succ]
        refine wpAnyH_take (i := 28) (oi := { dst := some 89, op := Op.load 3 (Operand.tmp 88), type := 3, pos := "law.go:113", after := #[{ on := 27, ground := Ground.data }, { on := 18, ground := Ground.guard }], guard := some (18, false) }) (v := ?v26) rfl (by as_aux_lemma => kernel_rfl) (by as_aux_lemma => kernel_rfl) (by as_aux_lemma => kernel_rfl) (fun _ _ _ h => h) (Or.inl ⟨?hw26, ?hy26⟩) HS7.out ?_
        case hw26 => kernel_rfl
        case hy26 => (intro W hSw; obtain ⟨y0, y1, y2, y3, y4⟩ := hSw.1.cells; clear hSw; go_simp; first | done | with_reducible rfl)
        try simp only [Act.put, List.setIfInBounds_toArray, List.set_cons_zero, List.set_cons_succ]
        refine wpAnyH_ready (rs := [23]) (by as_aux_lemma => kernel_rfl) (by simp) ?_
        refine AllReadyH.cons (o := { dst := some 84, op := Op.call { callee := Callee.value (Operand.func 9), args := #[Operand.tmp 83], argTypes := #[26] }, type := 3, pos := "law.go:113", after := #[{ on := 22, ground := Ground.data }, { on := 18, ground := Ground.chain }, { on := 18, ground := Ground.guard }], guard := some (18, false) }) rfl (fun K hK => ?_) ?_
        rotate_left
        · exact AllReadyH.nil
        go_simp
        go_at_call 9
        refine (devWrites_any HP6.out.d).mono ?_
        rintro e w7 ⟨rfl, rfl⟩
        go_wp2_with fail
        refine hK.out _ _ HS7.out (fun hHeld => ?_)
        clear hHeld hK K
        try simp only [Act.put, List.setIfInBounds_toArray, List.set_cons_zero, List.set_cons_succ]
        refine wpAnyH_take (i := 29) (oi := { dst := some 90, op := Op.binOp BinOp.neq 3 (Operand.tmp 84) (Operand.tmp 89) 3, type := 4, pos := "law.go:113", after := #[{ on := 23, ground := Ground.data }, { on := 28, ground := Ground.data }, { on := 18, ground := Ground.guard }], guard := some (18, false) }) (v := ?v27) rfl (by as_aux_lemma => kernel_rfl) (by as_aux_lemma => kernel_rfl) (by as_aux_lemma => kernel_rfl) (fun _ _ _ h => h) (Or.inl ⟨?hw27, ?hy27⟩) HS7.out ?_
        case hw27 => kernel_rfl
        case hy27 => (intro W hSw; clear hSw; go_simp; first | done | with_reducible rfl)
        try simp only [Act.put, List.setIfInBounds_toArray, List.set_cons_zero, List.set_cons_succ]
        refine wpAnyH_take (i := 30) (oi := { dst := some 91, op := Op.pick (Operand.tmp 79) (Operand.const (Value.bool true)) (Operand.tmp 90), type := 4, pos := "law.go:113", after := #[{ on := 18, ground := Ground.data }, { on := 29, ground := Ground.data }], guard := none }) (v := ?v28) rfl (by as_aux_lemma => kernel_rfl) (by as_aux_lemma => kernel_rfl) (by as_aux_lemma => kernel_rfl) (fun _ _ _ h => h) (Or.inl ⟨?hw28, ?hy28⟩) HS7.out ?_
        case hw28 => kernel_rfl
        case hy28 => (intro W hSw; clear hSw; go_simp; first | done | with_reducible rfl)
        try simp only [Act.put, List.setIfInBounds_toArray, List.set_cons_zero, List.set_cons_succ]
        refine wpAnyH_done (by as_aux_lemma => kernel_rfl) ?_ _
        go_wp2_with fail
        exact ⟨⟨j + 1, M6, _, _, _, _, by omega, by go_num, HP6.out, HNN.out, by have h1 := HWW.out; have h2 := HMW.out; omega⟩, by simp [intOf]; omega⟩
    · obtain rfl : j = L.length := by omega
      have HBY := Lib.hid (refBytes_any HP.out.drew.r HP.out.nrm.n2 HP.out.d.lens)
      clear hj hlt
      go_upto_region 18 with fail
      have HT0 : Hid (wr.cell? ⟨p, 0, none⟩ = some (.pointer (some ⟨h.b, 0, none⟩)) ∧ wr.cell? ⟨p, 1, none⟩ = some v0 ∧ wr.cell? ⟨p, 2, none⟩ = some v1 ∧ wr.cell? ⟨p, 3, none⟩ = some v2 ∧ wr.cell? ⟨p, 4, none⟩ = some v3) := Lib.hid HP.out.cells
      have HTD : Hid (wr.drew.cell? ⟨p, 0, none⟩ = some (.pointer (some ⟨h.b, 0, none⟩)) ∧ wr.drew.cell? ⟨p, 1, none⟩ = some v0 ∧ wr.drew.cell? ⟨p, 2, none⟩ = some v1 ∧ wr.drew.cell? ⟨p, 3, none⟩ = some v2 ∧ wr.drew.cell? ⟨p, 4, none⟩ = some v3) := Lib.hid HP.out.drew.cells
      go_region_held3 (fun w' => w'.cell? ⟨p, 0, none⟩ = some (.pointer (some ⟨h.b, 0, none⟩)) ∧ w'.cell? ⟨p, 1, none⟩ = some v0 ∧ w'.cell? ⟨p, 2, none⟩ = some v1 ∧ w'.cell? ⟨p, 3, none⟩ = some v2 ∧ w'.cell? ⟨p, 4, none⟩ = some v3) (first | with_reducible exact HT0.out | with_reducible exact HTD.out | with_reducible exact HT1.out | with_reducible exact HT2.out)
        (first
          | (go_at_call 10; (refine (devBytes_any HP.out.drew.d).mono ?_); rintro e w7 ⟨rfl, hb7⟩; have HP1 := Lib.hid (HP.out.drew.below hb7); have HT1 : Hid (w7.cell? ⟨p, 0, none⟩ = some (.pointer (some ⟨h.b, 0, none⟩)) ∧ w7.cell? ⟨p, 1, none⟩ = some v0 ∧ w7.cell? ⟨p, 2, none⟩ = some v1 ∧ w7.cell? ⟨p, 3, none⟩ = some v2 ∧ w7.cell? ⟨p, 4, none⟩ = some v3) := Lib.hid HP1.out.cells; clear hb7)
          | (go_at_call 11; (refine (refBytes_any HP1.out.r HP1.out.nrm.n2 HP1.out.d.lens).mono ?_); rintro e w8 ⟨rfl, hb8⟩; have HP2 := Lib.hid (HP1.out.below hb8); have HT2 : Hid (w8.cell? ⟨p, 0, none⟩ = some (.pointer (some ⟨h.b, 0, none⟩)) ∧ w8.cell? ⟨p, 1, none⟩ = some v0 ∧ w8.cell? ⟨p, 2, none⟩ = some v1 ∧ w8.cell? ⟨p, 3, none⟩ = some v2 ∧ w8.cell? ⟨p, 4, none⟩ = some v3) := Lib.hid HP2.out.cells; clear hb8))
      go_wp2_with fail
      go_ret
      exact ⟨rfl, HP2.out.be⟩
end Go.Proofs.YtjhpheepimbbdaaGreatDoor
