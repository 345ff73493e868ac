/- A call of any kind; the walk of DevPlays. -/
import Derived.Test.YtmbjcphhfnemgaaRdP
import Derived.Deep.Cut
namespace Go.Proofs.Ytmbjcphhfnemgaa
open Go.RowKit Go.Maps

/-- What a step asks of the first kind. -/
def WriteKind : Prop := ∀ {w : World} {h : DH} {M : DM} {v : Value} {x : AM}, DevAt w h M → RefAt w v M → Nrm M → (∃ A l c, x.kv = .slice A l c) → x.kind = 0 → M.writes < 1000 →
    Calls Try.prog 11 #[.pointer (some ⟨h.b, 0, none⟩), v, x.v] w fun e w' => Both w h M e w'
theorem does_any (W0 : WriteKind) {w : World} {h : DH} {M : DM} {v : Value} {x : AM} (d : DevAt w h M) (k : RefAt w v M) (hN : Nrm M) (hB : BoolsAt w h x.kv x.keep) (hw : M.writes < 1000) (h4 : W64 x.num) (h5 : 0 ≤ x.turn ∧ x.turn < 4294967296) :
    Calls Try.prog 11 #[.pointer (some ⟨h.b, 0, none⟩), v, x.v] w fun e w' => Both w h M e w' := by
  have hsl : ∃ A l c, x.kv = .slice A l c := by obtain ⟨A, cap, hv, _⟩ := hB; exact ⟨_, _, _, hv⟩
  by_cases e0 : x.kind = 0
  · exact W0 d k hN hsl e0 hw
  by_cases e1 : x.kind = 1
  · exact does_flush d k hN hsl e1
  by_cases e2 : x.kind = 2
  · exact does_crash d k hN hsl e2 hB
  by_cases e3 : x.kind = 3
  · exact does_fuse d k hN hsl e3 h4
  by_cases e4 : x.kind = 4
  · exact does_erase d k hN hsl e4
  by_cases e5 : x.kind = 5
  · exact does_garble d k hN hsl e5 h5.1 h5.2
  by_cases e6 : x.kind = 6
  · exact does_read d k hN hsl e6
  exact does_other d k hN hsl ⟨e0, e1, e2, e3, e4, e5, e6⟩ hw
theorem hold_new {n : Nat} (n1 : 1 ≤ n) (n2 : n ≤ 64) : Nrm (newM n) := ⟨n1, n2, Int.le_refl _, (by show (-1 : Int) ≤ _; omega)⟩
theorem IntsR.below {w w' : World} {v : Value} {L : List Int} (k : IntsR w v L) (hb : Below w.heap.size w w') : IntsR w' v L := by
  obtain ⟨A, cap, hv, h1, h2, h3⟩ := k
  refine ⟨A, cap, hv, h1, h2, ?_⟩
  rcases h3 with h3 | ⟨b, off, hA, hc⟩
  · exact .inl h3
  · exact .inr ⟨b, off, hA, fun j hj => (hb.cell (p := ⟨b, off + j, none⟩) (World.block_lt_of_cell? w _ (hc j hj))).trans (hc j hj)⟩
theorem same_true {w : World} {u v : Value} {K : List Int} (hu : IntsR w u K) (hv : IntsR w v K) :
    Calls Try.prog 14 #[u, v] w fun e w' => e = .returned (.bool true) ∧ Below w.heap.size w w' :=
  (same_any hu hv).mono fun _ _ ⟨he, hb⟩ => ⟨by rw [he, decide_eq_true rfl], hb⟩
/-- Where the walk of DevPlays stands. -/
structure PW (w W : World) (h : DH) (M : DM) (bt g cg : Nat) : Prop where
  d : DevAt W h M
  r : RefAt W (.agg #[.slice (some ⟨g, 0, none⟩) M.n cg, .bool M.down, .int .i64 M.left, .int .i64 (M.writes : Int)]) M
  tb : Bx W bt (.slice (some ⟨g, 0, none⟩) M.n cg) (.bool M.down) (.int .i64 M.left) (.int .i64 (M.writes : Int))
  be : Below w.heap.size w W
  ab : h.above w.heap.size
  nb : ¬ h.S bt
  wb : w.heap.size ≤ bt
  nrm : Nrm M
theorem PW.below {w W W' : World} {h : DH} {M : DM} {bt g cg : Nat} (k : PW w W h M bt g cg) (hb : Below W.heap.size W W') : PW w W' h M bt g cg :=
  ⟨k.d.below hb, k.r.below hb, k.tb.below hb, k.be.trans (hb.mono k.be.size), k.ab, k.nb, k.wb, k.nrm⟩
theorem PW.drew {w W : World} {h : DH} {M : DM} {bt g cg : Nat} (k : PW w W h M bt g cg) : PW w W.drew h M bt g cg := k.below ((Below.refl _ _).drew)
/-- A step is done, and its answer stored. -/
theorem PW.step {w W W' : World} {h : DH} {M M' : DM} {bt g cg g' cg' : Nat} (k : PW w W h M bt g cg) (d : DevAt W' h M') (r : RefAt W' (.agg #[.slice (some ⟨g', 0, none⟩) M'.n cg', .bool M'.down, .int .i64 M'.left, .int .i64 (M'.writes : Int)]) M') (hN : Nrm M') (a : Ap h.S W W') :
    PW w (put4 W' bt (.slice (some ⟨g', 0, none⟩) M'.n cg') (.bool M'.down) (.int .i64 M'.left) (.int .i64 (M'.writes : Int))) h M' bt g' cg' := by
  have A := ap_put4 W' bt (.slice (some ⟨g', 0, none⟩) M'.n cg') (.bool M'.down) (.int .i64 M'.left) (.int .i64 (M'.writes : Int))
  have tb := k.tb.ap a k.nb
  refine ⟨d.ap A (fun i hi e => k.nb (e ▸ hi)), ?_, tb.put _ _ _ _, (k.be.trans (a.below k.be.size (DH.above_S k.ab))).trans (A.below (by have h1 := k.be.size; have h2 := a.size; omega) (fun i e => by rw [e]; exact k.wb)), k.ab, k.nb, k.wb, hN⟩
  obtain ⟨b, cap, hv, h1, h2, h3⟩ := r
  refine ⟨b, cap, hv, h1, h2, h3.ap A (fun e => ?_)⟩
  subst e
  have c := (h3.2.1 0 hN.n1).c0
  rw [Nat.zero_mul, tb.c0] at c
  cases c
/-- The device is another one, which is the same. -/
theorem PW.clone {w W W' : World} {h h' : DH} {M : DM} {bt g cg : Nat} (k : PW w W h M bt g cg) (d : DevAt W' h' M) (ha : h'.above W.heap.size) (hb : Below W.heap.size W W') : PW w W' h' M bt g cg :=
  have q := k.below hb
  ⟨d, q.r, q.tb, q.be, by have := k.be.size; obtain ⟨a1, a2, a3, a4⟩ := ha; exact ⟨by omega, by omega, by omega, by omega⟩, fun e => by have h1 := DH.above_S ha _ e; have h2 := k.tb.lt; omega, q.wb, q.nrm⟩
set_option maxRecDepth 100000 in
set_option maxHeartbeats 8000000 in
theorem devPlays_walk (KW : WriteKind) {w : World} {s : Int} (hs : W64 s) {va : Value} {L : List AM} (hL : ActsS w va L) :
    Calls Try.prog 3 #[.int .i64 s, va] w fun e w' => e = .returned (.bool true) ∧ Below w.heap.size w w' := by
  have a0 := devLives_any w
  have HLS := Lib.hid hL
  obtain ⟨AL, cL, rfl, hlL, hmL, hL3⟩ := hL
  have HL3 := Lib.hid hL3
  clear hL3
  by_cases hbig : (64 < s ∧ s ≤ 32768) ∨ 100 < L.length
  case pos =>
    by_cases h1 : 64 < s ∧ s ≤ 32768
    · have e1 : decide (64 < s) = true := decide_eq_true h1.1
      have e2 : decide (s ≤ 32768) = true := decide_eq_true h1.2
      clear hbig h1
      go_enter Try.func3, Try.ntmps3
      go_wp2_with (go_at_call 8; refine a0.mono ?_; rintro e w1 ⟨rfl, hb1⟩)
      go_ret
      exact ⟨rfl, hb1⟩
    · have e3 : decide ((100 : Int) < (L.length : Int)) = true := decide_eq_true (by omega)
      by_cases h2 : 64 < s
      · have e1 : decide (64 < s) = true := decide_eq_true h2
        have e2 : decide (s ≤ 32768) = false := decide_eq_false (by omega)
        clear hbig h1 h2
        go_enter Try.func3, Try.ntmps3
        go_wp2_with (go_at_call 8; refine a0.mono ?_; rintro e w1 ⟨rfl, hb1⟩)
        go_ret
        exact ⟨rfl, hb1⟩
      · have e1 : decide (64 < s) = false := decide_eq_false h2
        clear hbig h1 h2
        go_enter Try.func3, Try.ntmps3
        go_wp2_with (go_at_call 8; refine a0.mono ?_; rintro e w1 ⟨rfl, hb1⟩)
        go_ret
        exact ⟨rfl, hb1⟩
  case neg =>
  have e3 : decide ((100 : Int) < (L.length : Int)) = false := decide_eq_false (by omega)
  have hL100 : L.length ≤ 100 := by omega
  by_cases hno : s < 1 ∨ 32768 < s
  case pos =>
    have hD := devNew_no s hno
    have hR := refNew_no s hno
    have e4 : (decide (64 < s) && decide (s ≤ 32768)) = false := by
      rcases hno with h | h
      · rw [decide_eq_false (show ¬ 64 < s by omega)]; rfl
      · rw [decide_eq_false (show ¬ s ≤ 32768 by omega)]; simp
    by_cases h2 : 64 < s
    · have e1 : decide (64 < s) = true := decide_eq_true h2
      have e2 : decide (s ≤ 32768) = false := decide_eq_false (by omega)
      clear hbig hno h2 e4
      go_enter Try.func3, Try.ntmps3
      go_wp2_with (first
        | (go_at_call 8; refine a0.mono ?_; rintro e w1 ⟨rfl, hb1⟩)
        | (go_at_call 9; refine (hD _).mono ?_; rintro e w2 ⟨rfl, rfl⟩)
        | (go_at_call 10; refine (hR _).mono ?_; rintro e w3 ⟨rfl, hb3⟩))
      go_ret
      exact ⟨rfl, (hb1.trans (hb3.mono hb1.size)).trans ((below1 _ _).mono (Nat.le_trans hb1.size hb3.size))⟩
    · have e1 : decide (64 < s) = false := decide_eq_false h2
      clear hbig hno h2 e4
      go_enter Try.func3, Try.ntmps3
      go_wp2_with (first
        | (go_at_call 8; refine a0.mono ?_; rintro e w1 ⟨rfl, hb1⟩)
        | (go_at_call 9; refine (hD _).mono ?_; rintro e w2 ⟨rfl, rfl⟩)
        | (go_at_call 10; refine (hR _).mono ?_; rintro e w3 ⟨rfl, hb3⟩))
      go_ret
      exact ⟨rfl, (hb1.trans (hb3.mono hb1.size)).trans ((below1 _ _).mono (Nat.le_trans hb1.size hb3.size))⟩
  case neg =>
  obtain ⟨n, rfl⟩ : ∃ n : Nat, s = (n : Int) := ⟨s.toNat, by omega⟩
  have n1 : 1 ≤ n := by omega
  have n2 : n ≤ 64 := by omega
  have e1 : decide (64 < (n : Int)) = false := decide_eq_false (by omega)
  have hD := fun W => devNew_ex n n1 (by omega) W
  have hR := fun W => refNew_ok n n1 n2 W
  clear hbig hno hs
  go_enter Try.func3, Try.ntmps3
  go_wp2_with (first
    | (go_at_call 8; refine a0.mono ?_; rintro e w1 ⟨rfl, hb1⟩; have HB1 := Lib.hid hb1; clear hb1)
    | (go_at_call 9; refine (hD _).mono ?_; rintro e w2 ⟨h, rfl, hd2, hab2, hb2⟩; have HD2 := Lib.hid hd2; have HAB2 := Lib.hid hab2; have HB2 := Lib.hid hb2; clear hd2 hab2 hb2)
    | (go_at_call 10; refine (hR _).mono ?_; rintro e w3 ⟨v3, rfl, hr3, hb3⟩; obtain ⟨g, cg, rfl, q1, q2, hrow⟩ := hr3; have HR3 : Hid (RefAt w3 (.agg #[.slice (some ⟨g, 0, none⟩) n cg, .bool false, .int .i64 (-1), .int .i64 0]) (newM n)) := Lib.hid ⟨g, cg, rfl, q1, q2, hrow⟩; have HD3 := Lib.hid (HD2.out.below hb3); have HB3 := Lib.hid hb3; clear hrow hb3))
  have HP3 : Hid (PW w (w3.alloc (.cells #[.slice (some ⟨g, 0, none⟩) (newM n).n cg, .bool (newM n).down, .int .i64 (newM n).left, .int .i64 ((newM n).writes : Int)] 30)) h (newM n) w3.heap.size g cg) := Lib.hid (by
    have B := below1 w3 (.cells #[.slice (some ⟨g, 0, none⟩) (newM n).n cg, .bool (newM n).down, .int .i64 (newM n).left, .int .i64 ((newM n).writes : Int)] 30)
    have hb := (HB1.out.trans (HB2.out.mono HB1.out.size)).trans (HB3.out.mono (by have h1 := HB1.out.size; have h2 := HB2.out.size; omega))
    obtain ⟨a1, a2, a3, a4⟩ := HAB2.out
    exact ⟨HD3.out.below B, HR3.out.below B, Bx.new w3 _ _ _ _ _, hb.trans (B.mono hb.size), by have := HB1.out.size; exact ⟨by omega, by omega, by omega, by omega⟩, fun e => by have := HD3.out.slt _ e; omega, hb.size, hold_new n1 n2⟩)
  obtain ⟨M0, hM0⟩ : ∃ M0, M0 = newM n := ⟨_, rfl⟩
  have HN0 : Hid (M0.n = n) := Lib.hid (by rw [hM0]; rfl)
  have HW0 : Hid (M0.writes = 0) := Lib.hid (by rw [hM0]; rfl)
  rw [← hM0] at HP3 ⊢
  clear hM0 HR3 HD3 HD2 HB2 HB3 HAB2 hD hR
  generalize w3.alloc (.cells #[.slice (some ⟨g, 0, none⟩) M0.n cg, .bool M0.down, .int .i64 M0.left, .int .i64 (M0.writes : Int)] 30) = w4 at HP3 ⊢
  generalize w3.heap.size = bt at HP3 ⊢
  go_loopw [5, 54] (fun dp ix wr => ∃ (j : Nat) (h : DH) (M : DM) (g cg : Nat), j ≤ L.length ∧ ix = .int .i64 (j : Int) ∧ dp = .pointer (some ⟨h.b, 0, none⟩) ∧ PW w wr h M bt g cg ∧ M.n = n ∧ M.writes ≤ j) (fun _ ix _ => L.length - (intOf ix).toNat)
  case atStart => exact ⟨0, h, M0, g, cg, Nat.zero_le _, rfl, rfl, HP3.out, HN0.out, by rw [HW0.out]; exact Nat.le_refl _⟩
  case round =>
    obtain ⟨j, h, M, g, cg, hj, rfl, rfl, hp, hMn, hMw⟩ := hrel
    have HP := Lib.hid hp
    have HMN := Lib.hid hMn
    clear hp HP3 hMn
    by_cases hlt : j < L.length
    · obtain ⟨b, off, rfl, hbl, hca⟩ := HL3.out.resolve_left (by intro e; rw [e] at hlt; simp at hlt)
      have hA0 := hca j hlt
      have hA := hA0.below HP.out.be (Nat.le_refl _) hbl
      generalize L.getD j AM.none = x at hA hA0
      have hBA := hA0.k.at HP.out.be HP.out.ab
      obtain ⟨k0, k1, k2, k3, k4, k5, k6, _, _, x4, x5⟩ := hA
      obtain ⟨kind, pos, c, kv, keep, num, turn⟩ := x
      dsimp only at k0 k1 k2 k3 k4 k5 k6 x4 x5 hBA
      obtain ⟨Ak, ck, rfl, _⟩ := k6
      generalize hlk : keep.length = lk at k3 hBA
      have HBA := Lib.hid hBA
      have HX4 := Lib.hid x4
      have HX5 := Lib.hid x5
      clear hca hA0 hBA x4 x5 hlk
      go_upto_region 12 with fail
      have HP4 := Lib.hid (HP.out.below (below1 wr (.cells #[.int .i64 kind, .int .i64 pos, .int .u8 (c.toNat : Int), .slice Ak lk ck, .int .i64 num, .int .u32 turn] 36)))
      have HA4 := Lib.hid (AF.new wr ⟨kind, pos, c, .slice Ak lk ck, keep, num, turn⟩ 36)
      have HB4 : Hid (BoolsAt (wr.alloc (.cells #[.int .i64 kind, .int .i64 pos, .int .u8 (c.toNat : Int), .slice Ak lk ck, .int .i64 num, .int .u32 turn] 36)) h (.slice Ak lk ck) keep) := Lib.hid (HBA.out.ap (S := fun _ => False) (Ap.of_below (below1 _ _)) (fun _ e => e.elim))
      clear k0 k1 k2 k3 k4 k5 HP HBA
      generalize wr.alloc (.cells #[.int .i64 kind, .int .i64 pos, .int .u8 (c.toNat : Int), .slice Ak lk ck, .int .i64 num, .int .u32 turn] 36) = w5 at HP4 HA4 HB4 ⊢
      generalize wr.heap.size = ba at HA4 ⊢
      obtain ⟨_, y0, y1, y2, y3, _, _, _, _⟩ := HP4.out.tb
      obtain ⟨_, z0, z1, z2, z3, z4, z5⟩ := HA4.out
      dsimp only at z0 z1 z2 z3 z4 z5
      have hDo : Calls Try.prog 11 #[.pointer (some ⟨h.b, 0, none⟩), .agg #[.slice (some ⟨g, 0, none⟩) M.n cg, .bool M.down, .int .i64 M.left, .int .i64 (M.writes : Int)], .agg #[.int .i64 kind, .int .i64 pos, .int .u8 (c.toNat : Int), .slice Ak lk ck, .int .i64 num, .int .u32 turn]] w5 fun e w' => Both w5 h M e w' := does_any KW (x := ⟨kind, pos, c, .slice Ak lk ck, keep, num, turn⟩) HP4.out.d HP4.out.r HP4.out.nrm HB4.out (by omega) HX4.out HX5.out
      go_upto_region 13 with (go_at_call 11; refine hDo.mono ?_; rintro e w6 ⟨v6, M6, rfl, hd6, hr6, hn6, hnn6, hww6, ha6⟩; obtain ⟨g2, cg2, rfl, q1, q2, hrow⟩ := hr6; have HR6 : Hid (RefAt w6 (.agg #[.slice (some ⟨g2, 0, none⟩) M6.n cg2, .bool M6.down, .int .i64 M6.left, .int .i64 (M6.writes : Int)]) M6) := Lib.hid ⟨g2, cg2, rfl, q1, q2, hrow⟩; have HD6 := Lib.hid hd6; have HN6 := Lib.hid hn6; have HNN := Lib.hid (hnn6.trans HMN.out); have HWW := Lib.hid hww6; have HA6 := Lib.hid ha6; clear hrow hd6 ha6 hn6 hnn6 hww6)
      have B7 := below1 w6 (.cells #[.slice (some ⟨g2, 0, none⟩) M6.n cg2, .bool M6.down, .int .i64 M6.left, .int .i64 (M6.writes : Int)] 30)
      have HP7 := Lib.hid (PW.step HP4.out (HD6.out.below B7) (HR6.out.below B7) HN6.out (HA6.out.trans (Ap.of_below B7)))
      obtain ⟨_, r0, r1, r2, r3, f0, f1, f2, f3⟩ := (HP4.out.tb.ap (HA6.out.trans (Ap.of_below B7)) HP4.out.nb)
      clear B7 y0 y1 y2 y3 z0 z1 z2 z3 z4 z5 hDo
      go_upto_region 14 with fail
      clear r0 r1 r2 r3 f0 f1 f2 f3
      unfold put4 at HP7
      generalize ((((w6.alloc (.cells #[.slice (some ⟨g2, 0, none⟩) M6.n cg2, .bool M6.down, .int .i64 M6.left, .int .i64 (M6.writes : Int)] 30)).setCell ⟨bt, 0, none⟩ (.slice (some ⟨g2, 0, none⟩) M6.n cg2)).setCell ⟨bt, 1, none⟩ (.bool M6.down)).setCell ⟨bt, 2, none⟩ (.int .i64 M6.left)).setCell ⟨bt, 3, none⟩ (.int .i64 (M6.writes : Int)) = w7 at HP7 ⊢
      have HT7 : Hid (w7.cell? ⟨bt, 0, none⟩ = some (.slice (some ⟨g2, 0, none⟩) M6.n cg2) ∧ w7.cell? ⟨bt, 1, none⟩ = some (.bool M6.down) ∧ w7.cell? ⟨bt, 2, none⟩ = some (.int .i64 M6.left) ∧ w7.cell? ⟨bt, 3, none⟩ = some (.int .i64 (M6.writes : Int))) := Lib.hid ⟨HP7.out.tb.c0, HP7.out.tb.c1, HP7.out.tb.c2, HP7.out.tb.c3⟩
      go_region_held3 (fun w' => w'.cell? ⟨bt, 0, none⟩ = some (.slice (some ⟨g2, 0, none⟩) M6.n cg2) ∧ w'.cell? ⟨bt, 1, none⟩ = some (.bool M6.down) ∧ w'.cell? ⟨bt, 2, none⟩ = some (.int .i64 M6.left) ∧ w'.cell? ⟨bt, 3, none⟩ = some (.int .i64 (M6.writes : Int))) (first | exact HT7.out | exact HT9.out | exact HTA.out | exact HTB.out | exact HTC.out | exact HTD.out | exact HTE.out)
        (first
  | (go_at_call 12; refine (devDown_any HP7.out.drew.d).mono ?_; rintro e w7 ⟨rfl, rfl⟩)
  | (go_at_call 13; refine (devWrites_any HP7.out.drew.d).mono ?_; rintro e w8 ⟨rfl, rfl⟩)
  | (go_at_call 15; refine (devWaiting_any HP7.out.drew.d).mono ?_; rintro e w9 ⟨v9, rfl, hi9, hb9⟩; have HP9 := Lib.hid (HP7.out.drew.below hb9); have HI9 := Lib.hid hi9.toR; have HT9 : Hid (w9.cell? ⟨bt, 0, none⟩ = some (.slice (some ⟨g2, 0, none⟩) M6.n cg2) ∧ w9.cell? ⟨bt, 1, none⟩ = some (.bool M6.down) ∧ w9.cell? ⟨bt, 2, none⟩ = some (.int .i64 M6.left) ∧ w9.cell? ⟨bt, 3, none⟩ = some (.int .i64 (M6.writes : Int))) := Lib.hid ⟨HP9.out.tb.c0, HP9.out.tb.c1, HP9.out.tb.c2, HP9.out.tb.c3⟩; clear hi9 hb9)
  | (go_at_call 16; refine (refWaiting_any HP9.out.r HP9.out.nrm.n2).mono ?_; rintro e wA ⟨vA, rfl, hiA, hbA⟩; have HPA := Lib.hid (HP9.out.below hbA); have HIA := Lib.hid hiA; have HJA := Lib.hid (HI9.out.below hbA); have HTA : Hid (wA.cell? ⟨bt, 0, none⟩ = some (.slice (some ⟨g2, 0, none⟩) M6.n cg2) ∧ wA.cell? ⟨bt, 1, none⟩ = some (.bool M6.down) ∧ wA.cell? ⟨bt, 2, none⟩ = some (.int .i64 M6.left) ∧ wA.cell? ⟨bt, 3, none⟩ = some (.int .i64 (M6.writes : Int))) := Lib.hid ⟨HPA.out.tb.c0, HPA.out.tb.c1, HPA.out.tb.c2, HPA.out.tb.c3⟩; clear hiA hbA)
  | (go_at_call 14; (with_reducible refine (same_true HJA.out HIA.out).mono ?_); rintro e wB ⟨rfl, hbB⟩; have HPB := Lib.hid (HPA.out.below hbB); have HTB : Hid (wB.cell? ⟨bt, 0, none⟩ = some (.slice (some ⟨g2, 0, none⟩) M6.n cg2) ∧ wB.cell? ⟨bt, 1, none⟩ = some (.bool M6.down) ∧ wB.cell? ⟨bt, 2, none⟩ = some (.int .i64 M6.left) ∧ wB.cell? ⟨bt, 3, none⟩ = some (.int .i64 (M6.writes : Int))) := Lib.hid ⟨HPB.out.tb.c0, HPB.out.tb.c1, HPB.out.tb.c2, HPB.out.tb.c3⟩; clear hbB)
  | (go_at_call 17; refine (devBad_any HPB.out.d).mono ?_; rintro e wC ⟨vC, rfl, hiC, hbC⟩; have HPC := Lib.hid (HPB.out.below hbC); have HIC := Lib.hid hiC.toR; have HTC : Hid (wC.cell? ⟨bt, 0, none⟩ = some (.slice (some ⟨g2, 0, none⟩) M6.n cg2) ∧ wC.cell? ⟨bt, 1, none⟩ = some (.bool M6.down) ∧ wC.cell? ⟨bt, 2, none⟩ = some (.int .i64 M6.left) ∧ wC.cell? ⟨bt, 3, none⟩ = some (.int .i64 (M6.writes : Int))) := Lib.hid ⟨HPC.out.tb.c0, HPC.out.tb.c1, HPC.out.tb.c2, HPC.out.tb.c3⟩; clear hiC hbC)
  | (go_at_call 18; refine (refBad_any HPC.out.r HPC.out.nrm.n2).mono ?_; rintro e wD ⟨vD, rfl, hiD, hbD⟩; have HPD := Lib.hid (HPC.out.below hbD); have HID := Lib.hid hiD; have HJD := Lib.hid (HIC.out.below hbD); have HTD : Hid (wD.cell? ⟨bt, 0, none⟩ = some (.slice (some ⟨g2, 0, none⟩) M6.n cg2) ∧ wD.cell? ⟨bt, 1, none⟩ = some (.bool M6.down) ∧ wD.cell? ⟨bt, 2, none⟩ = some (.int .i64 M6.left) ∧ wD.cell? ⟨bt, 3, none⟩ = some (.int .i64 (M6.writes : Int))) := Lib.hid ⟨HPD.out.tb.c0, HPD.out.tb.c1, HPD.out.tb.c2, HPD.out.tb.c3⟩; clear hiD hbD)
  | (go_at_call 14; (with_reducible refine (same_true HJD.out HID.out).mono ?_); rintro e wE ⟨rfl, hbE⟩; have HPE := Lib.hid (HPD.out.below hbE); have HTE : Hid (wE.cell? ⟨bt, 0, none⟩ = some (.slice (some ⟨g2, 0, none⟩) M6.n cg2) ∧ wE.cell? ⟨bt, 1, none⟩ = some (.bool M6.down) ∧ wE.cell? ⟨bt, 2, none⟩ = some (.int .i64 M6.left) ∧ wE.cell? ⟨bt, 3, none⟩ = some (.int .i64 (M6.writes : Int))) := Lib.hid ⟨HPE.out.tb.c0, HPE.out.tb.c1, HPE.out.tb.c2, HPE.out.tb.c3⟩; clear hbE))

      by_cases h5 : j % 5 = 4
      · have e5 : ((j : Int) % 5 == 4) = true := beq_iff_eq.2 (by omega)
        go_wp2_with (go_at_call 19; refine (devClone_any HPE.out.d).mono ?_; rintro e wF ⟨h', rfl, hdF, habF, hbF⟩; have HPF := Lib.hid (HPE.out.clone hdF habF hbF); clear hdF habF hbF)
        go_roundw
        case rel => exact ⟨j + 1, h', M6, g2, cg2, by omega, by go_num, rfl, HPF.out, HNN.out, by have := HWW.out; omega⟩
        case measure => simp [intOf]; omega
      · have e5 : ((j : Int) % 5 == 4) = false := beq_eq_false_iff_ne.2 (by omega)
        go_wp2_with fail
        go_roundw
        case rel => exact ⟨j + 1, h, M6, g2, cg2, by omega, by go_num, rfl, HPE.out, HNN.out, by have := HWW.out; omega⟩
        case measure => simp [intOf]; omega
    · obtain rfl : j = L.length := by omega
      have hlens := HP.out.d.lens
      have HBY := Lib.hid (refBytes_any HP.out.r HP.out.nrm.n2 hlens)
      obtain ⟨_, y0, y1, y2, y3, _, _, _, _⟩ := HP.out.tb
      have hcmp : ((M.n : Int) == (n : Int)) = true := beq_iff_eq.2 (by rw [HMN.out])
      clear hlens hj hlt
      go_upto_region 21 with fail
      have HT0 : Hid (wr.cell? ⟨bt, 0, none⟩ = some (.slice (some ⟨g, 0, none⟩) M.n cg) ∧ wr.cell? ⟨bt, 1, none⟩ = some (.bool M.down) ∧ wr.cell? ⟨bt, 2, none⟩ = some (.int .i64 M.left) ∧ wr.cell? ⟨bt, 3, none⟩ = some (.int .i64 (M.writes : Int))) := Lib.hid ⟨HP.out.tb.c0, HP.out.tb.c1, HP.out.tb.c2, HP.out.tb.c3⟩
      go_region_held3 (fun w' => w'.cell? ⟨bt, 0, none⟩ = some (.slice (some ⟨g, 0, none⟩) M.n cg) ∧ w'.cell? ⟨bt, 1, none⟩ = some (.bool M.down) ∧ w'.cell? ⟨bt, 2, none⟩ = some (.int .i64 M.left) ∧ w'.cell? ⟨bt, 3, none⟩ = some (.int .i64 (M.writes : Int))) (first | exact HT0.out | exact HT1.out | exact HT2.out)
        (first
          | (go_at_call 20; (with_reducible refine (devBytes_any HP.out.drew.d).mono ?_); rintro e w7 ⟨rfl, hb7⟩; have HP1 := Lib.hid (HP.out.drew.below hb7); have HT1 : Hid (w7.cell? ⟨bt, 0, none⟩ = some (.slice (some ⟨g, 0, none⟩) M.n cg) ∧ w7.cell? ⟨bt, 1, none⟩ = some (.bool M.down) ∧ w7.cell? ⟨bt, 2, none⟩ = some (.int .i64 M.left) ∧ w7.cell? ⟨bt, 3, none⟩ = some (.int .i64 (M.writes : Int))) := Lib.hid ⟨HP1.out.tb.c0, HP1.out.tb.c1, HP1.out.tb.c2, HP1.out.tb.c3⟩; clear hb7)
          | (go_at_call 21; (with_reducible refine (refBytes_any HP1.out.r HP1.out.nrm.n2 HP1.out.d.lens).mono ?_); rintro e w8 ⟨rfl, hb8⟩; have HP2 := Lib.hid (HP1.out.below hb8); have HT2 : Hid (w8.cell? ⟨bt, 0, none⟩ = some (.slice (some ⟨g, 0, none⟩) M.n cg) ∧ w8.cell? ⟨bt, 1, none⟩ = some (.bool M.down) ∧ w8.cell? ⟨bt, 2, none⟩ = some (.int .i64 M.left) ∧ w8.cell? ⟨bt, 3, none⟩ = some (.int .i64 (M.writes : Int))) := Lib.hid ⟨HP2.out.tb.c0, HP2.out.tb.c1, HP2.out.tb.c2, HP2.out.tb.c3⟩; clear hb8)
          | (go_at_call 22; (with_reducible refine (devSectors_any HP2.out.d).mono ?_); rintro e w9 ⟨rfl, rfl⟩))
      go_wp2_with fail
      go_ret
      exact ⟨rfl, HP2.out.be⟩
end Go.Proofs.Ytmbjcphhfnemgaa
