/- What a device stays within; rows of the document's answers lie apart from a device. Clusters: the document's answers; Write. -/
import Derived.Test.YtjhpheepimbbdaaGreatDoorZRdA
import Derived.Test.YtjhpheepimbbdaaGreatDoorZActs
import Derived.Test.YtjhpheepimbbdaaGreatDoorZCluD
namespace Go.Proofs.YtjhpheepimbbdaaGreatDoor
open Go.RowKit Go.Maps

theorem RowS.apart {W : World} {b n : Nat} {f : Nat → SM} {h : DH} {M : DM} (k : RowS W b n f) (hn : 1 ≤ n) (d : DevAt W h M) : ¬ h.S b := by
  have c := (k.2.1 0 (by omega)).c0
  rw [Nat.zero_mul] at c
  rintro (rfl | rfl | rfl | rfl)
  · rw [d.c0] at c; cases c
  · have := (d.rows 0 d.n1).2 0 (by rw [d.lens 0 d.n1]; omega)
    rw [Nat.zero_mul, Nat.zero_add, c] at this
    cases this.1
  · obtain ⟨D, ⟨es, clock, hb, _⟩, _⟩ := d.wait
    simp [World.cell?, hb] at c
  · obtain ⟨D, ⟨es, clock, hb, _⟩, _⟩ := d.badm
    simp [World.cell?, hb] at c
theorem RG.ap {W W' : World} {v : Value} {n : Nat} {f : Nat → SM} {off : Bool} {left : Int} {wr : Nat} {h : DH} {M : DM} (k : RG W v n f off left wr) (hn : 1 ≤ n) (d : DevAt W h M) (a : Ap h.S W W') : RG W' v n f off left wr := by
  obtain ⟨b, cap, hv, h1, h2, h3⟩ := k
  exact ⟨b, cap, hv, h1, h2, h3.ap a (h3.apart hn d)⟩
theorem nrm_burn {M : DM} (hN : Nrm M) : Nrm (burnM M) ∧ (burnM M).n = M.n ∧ (burnM M).writes = M.writes := by
  unfold burnM
  split
  · exact ⟨⟨hN.n1, hN.n2, hN.l1, hN.l2⟩, rfl, rfl⟩
  · split
    · exact ⟨⟨hN.n1, hN.n2, (by show -1 ≤ M.left - 1; omega), (by have := hN.l2; show M.left - 1 ≤ _; omega)⟩, rfl, rfl⟩
    · exact ⟨hN, rfl, rfl⟩
theorem nrm_flush {M : DM} (hN : Nrm M) : Nrm (flushM M) ∧ (flushM M).n = M.n ∧ (flushM M).writes = M.writes := by
  obtain ⟨h1, h2, h3⟩ := nrm_burn hN
  unfold flushM
  split
  · exact ⟨hN, rfl, rfl⟩
  · split
    · exact ⟨⟨h1.n1, h1.n2, h1.l1, h1.l2⟩, h2, h3⟩
    · exact ⟨h1, h2, h3⟩
theorem nrm_erase {M : DM} (hN : Nrm M) (a : Int) : Nrm (eraseM M a) ∧ (eraseM M a).n = M.n ∧ (eraseM M a).writes = M.writes := by
  unfold eraseM
  split
  · exact ⟨⟨hN.n1, hN.n2, hN.l1, hN.l2⟩, rfl, rfl⟩
  · exact ⟨hN, rfl, rfl⟩
theorem nrm_gar {M : DM} (hN : Nrm M) (a b c : Int) : Nrm (garM M a b c) ∧ (garM M a b c).n = M.n ∧ (garM M a b c).writes = M.writes := by
  unfold garM
  split
  · exact ⟨⟨hN.n1, hN.n2, hN.l1, hN.l2⟩, rfl, rfl⟩
  · exact ⟨hN, rfl, rfl⟩
theorem nrm_write {M : DM} (hN : Nrm M) (a : Int) (s : ByteArray) : Nrm (writeM M a s) ∧ (writeM M a s).n = M.n ∧ (writeM M a s).writes ≤ M.writes + 1 := by
  obtain ⟨h1, h2, h3⟩ := nrm_burn hN
  unfold writeM
  split
  · exact ⟨⟨h1.n1, h1.n2, h1.l1, h1.l2⟩, h2, Nat.le_refl _⟩
  · split
    · exact ⟨hN, rfl, by omega⟩
    · exact ⟨h1, h2, by omega⟩
end Go.Proofs.YtjhpheepimbbdaaGreatDoor
namespace Go.Proofs.YtjhpheepimbbdaaGreatDoor
open Go.RowKit Go.Maps

/-- The places at the start of a round. -/
structure WK (w W : World) (u0 u1 u2 u3 : Value) (M : DM) (s k m c : Int) : Prop where
  r : RefAt W (.agg #[u0, u1, u2, u3]) M
  bd : Bx W w.heap.size u0 u1 u2 u3
  bg : Bx W (w.heap.size + 1) (.int .i64 s) (.int .i64 k) (.int .i64 m) (.int .i64 c)
  br : Bx W (w.heap.size + 1 + 1) (.slice none 0 0) (.bool false) (.int .i64 0) (.int .i64 0)
  a : Below w.heap.size w W
theorem WK.below {w W W' : World} {u0 u1 u2 u3 : Value} {M : DM} {s k m c : Int} (z : WK w W u0 u1 u2 u3 M s k m c) (hb : Below W.heap.size W W') : WK w W' u0 u1 u2 u3 M s k m c :=
  ⟨z.r.below hb, z.bd.below hb, z.bg.below hb, z.br.below hb, z.a.trans (hb.mono z.a.size)⟩
theorem WK.drew {w W : World} {u0 u1 u2 u3 : Value} {M : DM} {s k m c : Int} (z : WK w W u0 u1 u2 u3 M s k m c) : WK w W.drew u0 u1 u2 u3 M s k m c := z.below ((Below.refl _ _).drew)
theorem WK.start {w : World} {v0 v1 v2 v3 : Value} {M : DM} (r : RefAt w (.agg #[v0, v1, v2, v3]) M) (s k m c : Int) (t1 t2 t3 : Nat) :
    WK w (((w.alloc (.cells #[v0, v1, v2, v3] t1)).alloc (.cells #[.int .i64 s, .int .i64 k, .int .i64 m, .int .i64 c] t2)).alloc (.cells #[.slice none 0 0, .bool false, .int .i64 0, .int .i64 0] t3)) v0 v1 v2 v3 M s k m c := by
  have z := RK.start r s k m c t1 t2
  have B := below1 ((w.alloc (.cells #[v0, v1, v2, v3] t1)).alloc (.cells #[.int .i64 s, .int .i64 k, .int .i64 m, .int .i64 c] t2)) (.cells #[.slice none 0 0, .bool false, .int .i64 0, .int .i64 0] t3)
  have h1 := Bx.new ((w.alloc (.cells #[v0, v1, v2, v3] t1)).alloc (.cells #[.int .i64 s, .int .i64 k, .int .i64 m, .int .i64 c] t2)) (.slice none 0 0) (.bool false) (.int .i64 0) (.int .i64 0) t3
  rw [show ((w.alloc (.cells #[v0, v1, v2, v3] t1)).alloc (.cells #[.int .i64 s, .int .i64 k, .int .i64 m, .int .i64 c] t2)).heap.size = w.heap.size + 1 + 1 by simp] at h1
  have z' := z.below B
  exact ⟨z'.r, z'.bd, z'.bg, h1, z'.a⟩
/-- Behind a sector's write: what came of it lies in a box of its own. -/
structure WT (w W : World) (bt : Nat) (u0 u1 u2 u3 x0 x1 x2 x3 : Value) (M M' : DM) (s k m c : Int) : Prop where
  z : WK w W u0 u1 u2 u3 M s k m c
  r : RefAt W (.agg #[x0, x1, x2, x3]) M'
  tb : Bx W bt x0 x1 x2 x3
  lt : w.heap.size + 1 + 1 < bt
theorem refAt_agg {W : World} {v : Value} {M : DM} (r : RefAt W v M) : ∃ x0 x1 x2 x3, v = .agg #[x0, x1, x2, x3] := by
  obtain ⟨b, cap, rfl, _⟩ := r
  exact ⟨_, _, _, _, rfl⟩
/-- A store into a box that held noughts, or that no row is. -/
theorem RefAt.put {W : World} {v : Value} {M : DM} (r : RefAt W v M) (hn : 1 ≤ M.n) {bt : Nat} {z1 : Option Addr} {z2 z3 : Nat} (hz : W.cell? ⟨bt, 0, none⟩ = some (.slice z1 z2 z3)) (u0 u1 u2 u3 : Value) : RefAt (put4 W bt u0 u1 u2 u3) v M := by
  obtain ⟨b, cap, hv, h1, h2, h3⟩ := r
  refine ⟨b, cap, hv, h1, h2, h3.ap (ap_put4 W bt u0 u1 u2 u3) (fun e => ?_)⟩
  subst e
  have c := (h3.2.1 0 hn).c0
  rw [Nat.zero_mul, hz] at c
  cases c
theorem WT.of {w W : World} {u0 u1 u2 u3 x0 x1 x2 x3 : Value} {M M' : DM} {s k m c : Int} (z : WK w W u0 u1 u2 u3 M s k m c) (r : RefAt W (.agg #[x0, x1, x2, x3]) M') :
    WT w (W.alloc (.cells #[x0, x1, x2, x3] 32)) W.heap.size u0 u1 u2 u3 x0 x1 x2 x3 M M' s k m c :=
  have B := below1 W (.cells #[x0, x1, x2, x3] 32)
  ⟨z.below B, r.below B, Bx.new W x0 x1 x2 x3 _, z.br.lt⟩
theorem WT.put {w W : World} {bt : Nat} {u0 u1 u2 u3 x0 x1 x2 x3 z1 z2 z3 : Value} {M M' : DM} {s k m c : Int} (z : WK w W u0 u1 u2 u3 M s k m c) (hz : Bx W bt (.slice none 0 0) z1 z2 z3) (ht : w.heap.size + 1 + 1 < bt) (hn : 1 ≤ M.n) (hn' : 1 ≤ M'.n) (r : RefAt W (.agg #[x0, x1, x2, x3]) M') :
    WT w (put4 W bt x0 x1 x2 x3) bt u0 u1 u2 u3 x0 x1 x2 x3 M M' s k m c := by
  have A := ap_put4 W bt x0 x1 x2 x3
  refine ⟨⟨z.r.put hn hz.c0 _ _ _ _, z.bd.ap A (fun e => by omega), z.bg.ap A (fun e => by omega), z.br.ap A (fun e => by omega), ?_⟩, r.put hn' hz.c0 _ _ _ _, hz.put x0 x1 x2 x3, ht⟩
  exact z.a.trans ((A.below (B := w.heap.size) z.a.size (fun q e => by omega)).mono (Nat.le_refl _))
/-- It is stored where the device lay. -/
theorem WT.next {w W : World} {bt : Nat} {u0 u1 u2 u3 x0 x1 x2 x3 : Value} {M M' : DM} {s k m c : Int} (z : WT w W bt u0 u1 u2 u3 x0 x1 x2 x3 M M' s k m c) (hsl : ∃ z1 z2 z3, u0 = .slice z1 z2 z3) (hn' : 1 ≤ M'.n) :
    WK w (put4 W w.heap.size x0 x1 x2 x3) x0 x1 x2 x3 M' s k m c := by
  obtain ⟨z1, z2, z3, rfl⟩ := hsl
  have A := ap_put4 W w.heap.size x0 x1 x2 x3
  exact ⟨z.r.put hn' z.z.bd.c0 _ _ _ _, z.z.bd.put x0 x1 x2 x3, z.z.bg.ap A (fun e => by omega), z.z.br.ap A (fun e => by omega), z.z.a.trans ((A.below (B := w.heap.size) z.z.a.size (fun q e => by omega)).mono (Nat.le_refl _))⟩
theorem refAt_sl {W : World} {u0 u1 u2 u3 : Value} {M : DM} (r : RefAt W (.agg #[u0, u1, u2, u3]) M) : ∃ z1 z2 z3, u0 = .slice z1 z2 z3 := by
  obtain ⟨b, cap, h, _⟩ := r
  simp only [Value.agg.injEq, Array.mk.injEq, List.cons.injEq, and_true] at h
  exact ⟨_, _, _, h.1⟩
theorem refAt_sl4 {W : World} {u0 u1 u2 u3 : Value} {M : DM} (r : RefAt W (.agg #[u0, u1, u2, u3]) M) : ∃ (g nn cg : Nat) (bb : Bool) (ll wc : Int), u0 = .slice (some ⟨g, 0, none⟩) nn cg ∧ u1 = .bool bb ∧ u2 = .int .i64 ll ∧ u3 = .int .i64 wc := by
  obtain ⟨b, cap, h, _⟩ := r
  simp only [Value.agg.injEq, Array.mk.injEq, List.cons.injEq, and_true] at h
  exact ⟨_, _, _, _, _, _, h.1, h.2.1, h.2.2.1, h.2.2.2⟩
/-- The end: the device is stored where the answer lies. -/
theorem WK.ends {w W : World} {u0 u1 u2 u3 : Value} {M : DM} {s k m c : Int} (z : WK w W u0 u1 u2 u3 M s k m c) (hn : 1 ≤ M.n) :
    Bx (put4 W (w.heap.size + 1 + 1) u0 u1 u2 u3) (w.heap.size + 1 + 1) u0 u1 u2 u3 ∧ RefAt (put4 W (w.heap.size + 1 + 1) u0 u1 u2 u3) (.agg #[u0, u1, u2, u3]) M ∧ Below w.heap.size w (put4 W (w.heap.size + 1 + 1) u0 u1 u2 u3) := by
  have A := ap_put4 W (w.heap.size + 1 + 1) u0 u1 u2 u3
  exact ⟨z.br.put u0 u1 u2 u3, z.r.put hn z.br.c0 _ _ _ _, z.a.trans ((A.below (B := w.heap.size) z.a.size (fun q e => by omega)).mono (Nat.le_refl _))⟩
theorem slice_part' (t : ByteArray) (x : Nat) (h : x * 512 + 512 ≤ t.size) (W : World) :
    (Instr.slice 9 (.string t) (some (.int .i64 (512 * (x : Int)))) (some (.int .i64 (512 * ((x : Int) + 1)))) none).run Tryz.prog W = .ok (.string (partS t x)) W := by
  rw [show 512 * (x : Int) = (x : Int) * 512 by omega, show 512 * ((x : Int) + 1) = (x : Int) * 512 + 512 by omega]
  exact slice_part t x h W
theorem nrm_wrStep {F : Nat} {t : ByteArray} {st : DM × Int} (hN : Nrm st.1) (j : Nat) : Nrm (wrStep F t st j).1 := by
  unfold wrStep
  split
  · exact (nrm_write hN _ _).1
  · exact hN
theorem nrm_wrS {M : DM} (hN : Nrm M) (F : Nat) (t : ByteArray) : ∀ j, Nrm (wrS M F t j).1
  | 0 => hN
  | j + 1 => by rw [wrS_succ]; exact nrm_wrStep (nrm_wrS hN F t j) j
set_option maxRecDepth 10000 in
set_option maxHeartbeats 4000000 in
theorem refWrite8_ok {w : World} {v : Value} {M : DM} (r : RefAt w v M) (hN : Nrm M) (hw : M.writes < 90000) (s k m c a : Int) (A T z : Nat) (t : ByteArray) (hFi : ∀ W, Calls Tryz.prog 49 #[.agg #[.int .i64 s, .int .i64 k, .int .i64 m, .int .i64 c], .int .i64 a] W fun e w' => e = .returned (.tuple #[.int .i64 (A : Int), .int .i64 0]) ∧ Below W.heap.size W w')
    (hSz : ∀ W, Calls Tryz.prog 48 #[.agg #[.int .i64 s, .int .i64 k, .int .i64 m, .int .i64 c]] W fun e w' => e = .returned (.int .i64 (z : Int)) ∧ Below W.heap.size W w')
    (ht : t.size = z) (hz : z = T * 512) (hT : T ≤ 128) (hA : A ≤ 1000000) :
    Calls Tryz.prog 18 #[v, .agg #[.int .i64 s, .int .i64 k, .int .i64 m, .int .i64 c], .int .i64 a, .string t] w fun e w' => ∃ v', e = .returned (.tuple #[v', .int .i64 (wrS M A t T).2]) ∧ RefAt w' v' (wrS M A t T).1 ∧ Below w.heap.size w w' := by
  obtain ⟨v0, v1, v2, v3, rfl⟩ := refAt_agg r
  have hRS := WK.start r s k m c 32 23 32
  obtain ⟨W0, hW⟩ : ∃ W0 : World, W0 = ((w.alloc (.cells #[v0, v1, v2, v3] 32)).alloc (.cells #[.int .i64 s, .int .i64 k, .int .i64 m, .int .i64 c] 23)).alloc (.cells #[.slice none 0 0, .bool false, .int .i64 0, .int .i64 0] 32) := ⟨_, rfl⟩
  rw [← hW] at hRS
  have HR0 := Lib.hid hRS
  have HSt : Hid (∀ j, wrS M A t (j + 1) = wrStep A t (wrS M A t j) j) := Lib.hid (wrS_succ M A t)
  have HSp : Hid (∀ j, (wrS M A t j).2 ≠ 0 → j ≤ T → wrS M A t T = wrS M A t j) := Lib.hid (fun j h hj => wrS_stop M A t h hj)
  have HNr : Hid (∀ j, Nrm (wrS M A t j).1) := Lib.hid (nrm_wrS hN A t)
  have HWr : Hid (∀ j, j ≤ T → (wrS M A t j).1.writes < 100000) := Lib.hid (fun j hj => by have := (wrS_b M A t j).2; omega)
  have hz1 : z ≤ 65536 := by omega
  have hzt : (t.size : Int) = (z : Int) := by omega
  have HQ : Hid ((z : Int).tdiv 512 = (T : Int)) := Lib.hid (by rw [Int.tdiv_eq_ediv_of_nonneg (by omega)]; omega)
  have HPart : Hid (∀ j, j < T → ∀ W, (Instr.slice 9 (.string t) (some (.int .i64 (512 * (j : Int)))) (some (.int .i64 (512 * ((j : Int) + 1)))) none).run Tryz.prog W = .ok (.string (partS t j)) W) := Lib.hid (fun j hj W => slice_part' t j (by omega) W)
  have HZ := Lib.hid hz
  clear r hRS hN hw ht hz
  go_enter Tryz.func18, Tryz.ntmps18
  go_upto_region 1 with fail
  rw [← hW]
  clear hW
  obtain ⟨_, y0, y1, y2, y3, _, _, _, _⟩ := HR0.out.bg
  go_upto_region 7 with (first
    | (go_at_call 49; with_reducible refine (hFi _).mono ?_; rintro e w1 ⟨rfl, hb1⟩; have HR1 := Lib.hid (HR0.out.below hb1); clear hb1 y0 y1 y2 y3; obtain ⟨_, y0, y1, y2, y3, _, _, _, _⟩ := HR1.out.bg)
    | (go_at_call 48; with_reducible refine (hSz _).mono ?_; rintro e w2 ⟨rfl, hb2⟩; have HR2 := Lib.hid (HR1.out.below hb2); clear hb2 y0 y1 y2 y3 HR0 HR1))
  go_loopw [12] (fun ix wr => ∃ (j : Nat) (u0 u1 u2 u3 : Value), j ≤ T ∧ ix = .int .i64 (j : Int) ∧ (wrS M A t j).2 = 0 ∧ WK w wr u0 u1 u2 u3 (wrS M A t j).1 s k m c) (fun ix _ => T - (intOf ix).toNat)
  case atStart => exact ⟨0, v0, v1, v2, v3, Nat.zero_le _, rfl, rfl, HR2.out⟩
  case round =>
    obtain ⟨j, u0, u1, u2, u3, hj, rfl, he, hk⟩ := hrel
    have HK := Lib.hid hk
    have hq := HQ.out
    clear hk
    by_cases hlt : j < T
    · have d0 : decide ((j : Int) < (T : Int)) = true := decide_eq_true (by omega)
      have hst : wrS M A t (j + 1) = (writeM (wrS M A t j).1 ((A + j : Nat) : Int) (partS t j), writeE (wrS M A t j).1 ((A + j : Nat) : Int) (partS t j)) := (HSt.out j).trans (if_pos he)
      obtain ⟨q, hqj⟩ : ∃ q : Nat, q = A + j := ⟨_, rfl⟩
      have haj : ((A : Int) + (j : Int)) = (q : Int) := by omega
      have haj2 : ((j : Int) + (A : Int)) = (q : Int) := by omega
      rw [← hqj] at hst
      have hq1 : q ≤ 1000128 := by omega
      have n10 : IntKind.i64.wrap (q : Int) = (q : Int) := by rw [IntKind.wrap_i64]; omega
      have hsp := Lib.hid (HSp.out (j + 1))
      have HN0 := Lib.hid (HNr.out j)
      have hRef : ∀ W, RefAt W (.agg #[u0, u1, u2, u3]) (wrS M A t j).1 → Calls Tryz.prog 50 #[.agg #[u0, u1, u2, u3], .int .i64 (q : Int), .string (partS t j)] W fun e w' => ∃ g nn cg bb ll wc, e = .returned (.tuple #[.agg #[(.slice (some ⟨g, 0, none⟩) nn cg), (.bool bb), (.int .i64 ll), (.int .i64 wc)], .int .i64 (wrS M A t (j + 1)).2]) ∧ RefAt w' (.agg #[(.slice (some ⟨g, 0, none⟩) nn cg), (.bool bb), (.int .i64 ll), (.int .i64 wc)]) (wrS M A t (j + 1)).1 ∧ Below W.heap.size W w' := fun W hr => by
        rw [hst]
        refine (refWrite_any hr (HNr.out j) (HWr.out j hj) (q : Int) (partS t j)).mono ?_
        rintro e w' ⟨v', rfl, hr', hb'⟩
        obtain ⟨g, cg, rfl, q1, q2, q3⟩ := hr'
        exact ⟨g, _, cg, _, _, _, rfl, ⟨g, cg, rfl, q1, q2, q3⟩, hb'⟩
      have hpart := HPart.out j hlt
      have n0 : (0 : Int) ≤ 512 * (j : Int) := by omega
      have n1 : 512 * (j : Int) ≤ 512 * ((j : Int) + 1) := by omega
      have n2 : 512 * ((j : Int) + 1) ≤ (t.size : Int) := by have := HZ.out; omega
      have n3 : (0 : Int) ≤ 512 * ((j : Int) + 1) := by omega
      have n4 : (512 * (j : Int)).toNat = j * 512 := by omega
      have n5 : (512 * ((j : Int) + 1)).toNat = j * 512 + 512 := by omega
      have n6 : IntKind.i64.wrap ((j : Int) + 1) = (j : Int) + 1 := by rw [IntKind.wrap_i64]; omega
      have n7 : IntKind.i64.wrap (512 * (j : Int)) = 512 * (j : Int) := by rw [IntKind.wrap_i64]; omega
      have n8 : IntKind.i64.wrap (512 * ((j : Int) + 1)) = 512 * ((j : Int) + 1) := by rw [IntKind.wrap_i64]; omega
      have n9 : t.extract (j * 512) (j * 512 + 512) = partS t j := rfl
      clear hqj hst he
      obtain ⟨M2, e2, hst2⟩ : ∃ M2 e2, wrS M A t (j + 1) = (M2, e2) := ⟨_, _, rfl⟩
      simp only [hst2] at hRef
      have HN1 : Hid (Nrm M2) := Lib.hid (by have := HNr.out (j + 1); rw [hst2] at this; exact this)
      have HQ2 := Lib.hid hst2
      have HEnd : Hid (e2 ≠ 0 → wrS M A t T = (M2, e2)) := Lib.hid (fun h => by rw [← hst2]; exact hsp.out (by rw [hst2]; exact h) (by omega))
      clear hst2 hsp
      generalize (wrS M A t j).1 = M1 at *
      generalize partS t j = tp at *
      go_upto_region 9 with fail
      have HK0 : Hid (wr.cell? ⟨w.heap.size, 0, none⟩ = some u0 ∧ wr.cell? ⟨w.heap.size, 1, none⟩ = some u1 ∧ wr.cell? ⟨w.heap.size, 2, none⟩ = some u2 ∧ wr.cell? ⟨w.heap.size, 3, none⟩ = some u3) := Lib.hid ⟨HK.out.bd.c0, HK.out.bd.c1, HK.out.bd.c2, HK.out.bd.c3⟩
      have HKC : Hid (wr.drew.cell? ⟨w.heap.size, 0, none⟩ = some u0 ∧ wr.drew.cell? ⟨w.heap.size, 1, none⟩ = some u1 ∧ wr.drew.cell? ⟨w.heap.size, 2, none⟩ = some u2 ∧ wr.drew.cell? ⟨w.heap.size, 3, none⟩ = some u3) := Lib.hid HK0.out
      have HKA : Hid (∀ oo : Obj, (wr.alloc oo).cell? ⟨w.heap.size, 0, none⟩ = some u0 ∧ (wr.alloc oo).cell? ⟨w.heap.size, 1, none⟩ = some u1 ∧ (wr.alloc oo).cell? ⟨w.heap.size, 2, none⟩ = some u2 ∧ (wr.alloc oo).cell? ⟨w.heap.size, 3, none⟩ = some u3) := Lib.hid (fun oo => have D := HK.out.below (below1 wr oo); ⟨D.bd.c0, D.bd.c1, D.bd.c2, D.bd.c3⟩)
      have HKD : Hid (∀ oo : Obj, (wr.alloc oo).drew.cell? ⟨w.heap.size, 0, none⟩ = some u0 ∧ (wr.alloc oo).drew.cell? ⟨w.heap.size, 1, none⟩ = some u1 ∧ (wr.alloc oo).drew.cell? ⟨w.heap.size, 2, none⟩ = some u2 ∧ (wr.alloc oo).drew.cell? ⟨w.heap.size, 3, none⟩ = some u3) := Lib.hid (fun oo => HKA.out oo)
      have HKE : Hid (∀ oo : Obj, (wr.drew.alloc oo).cell? ⟨w.heap.size, 0, none⟩ = some u0 ∧ (wr.drew.alloc oo).cell? ⟨w.heap.size, 1, none⟩ = some u1 ∧ (wr.drew.alloc oo).cell? ⟨w.heap.size, 2, none⟩ = some u2 ∧ (wr.drew.alloc oo).cell? ⟨w.heap.size, 3, none⟩ = some u3) := Lib.hid (fun oo => have D := HK.out.drew.below (below1 wr.drew oo); ⟨D.bd.c0, D.bd.c1, D.bd.c2, D.bd.c3⟩)
      go_region_held3 (fun w' => w'.cell? ⟨w.heap.size, 0, none⟩ = some u0 ∧ w'.cell? ⟨w.heap.size, 1, none⟩ = some u1 ∧ w'.cell? ⟨w.heap.size, 2, none⟩ = some u2 ∧ w'.cell? ⟨w.heap.size, 3, none⟩ = some u3) (first | with_reducible exact HK0.out | with_reducible exact HKC.out | with_reducible exact HKA.out _ | with_reducible exact HKD.out _ | with_reducible exact HKE.out _ | with_reducible exact HK1.out | with_reducible exact HKB.out _ | with_reducible exact HK4.out)
        (first | (go_at_call 50; (first | (with_reducible refine (hRef _ HK.out.drew.r).mono ?_) | (with_reducible refine (hRef _ (HK.out.below (below1 wr (.cells #[.slice none 0 0, .bool false, .int .i64 0, .int .i64 0] 32))).drew.r).mono ?_) | (with_reducible refine (hRef _ (HK.out.drew.below (below1 wr.drew (.cells #[.slice none 0 0, .bool false, .int .i64 0, .int .i64 0] 32))).r).mono ?_)); rintro e w1 ⟨g, nn, cg, bb, ll, wc, rfl, hr1, hb1⟩
                  have HR1 := Lib.hid hr1
                  have HZ1 : Hid (WK w w1 u0 u1 u2 u3 M1 s k m c) := Lib.hid (by first | with_reducible exact HK.out.drew.below hb1 | with_reducible exact (HK.out.below (below1 wr (.cells #[.slice none 0 0, .bool false, .int .i64 0, .int .i64 0] 32))).drew.below hb1 | with_reducible exact (HK.out.drew.below (below1 wr.drew (.cells #[.slice none 0 0, .bool false, .int .i64 0, .int .i64 0] 32))).below hb1)
                  have HK1 : Hid (w1.cell? ⟨w.heap.size, 0, none⟩ = some u0 ∧ w1.cell? ⟨w.heap.size, 1, none⟩ = some u1 ∧ w1.cell? ⟨w.heap.size, 2, none⟩ = some u2 ∧ w1.cell? ⟨w.heap.size, 3, none⟩ = some u3) := Lib.hid ⟨HZ1.out.bd.c0, HZ1.out.bd.c1, HZ1.out.bd.c2, HZ1.out.bd.c3⟩
                  have HKB : Hid (∀ oo : Obj, (w1.alloc oo).cell? ⟨w.heap.size, 0, none⟩ = some u0 ∧ (w1.alloc oo).cell? ⟨w.heap.size, 1, none⟩ = some u1 ∧ (w1.alloc oo).cell? ⟨w.heap.size, 2, none⟩ = some u2 ∧ (w1.alloc oo).cell? ⟨w.heap.size, 3, none⟩ = some u3) := Lib.hid (fun oo => have D := HZ1.out.below (below1 w1 oo); ⟨D.bd.c0, D.bd.c1, D.bd.c2, D.bd.c3⟩)
                  first
                  | (have HB1 : Hid (Bx w1 wr.heap.size (.slice none 0 0) (.bool false) (.int .i64 0) (.int .i64 0)) := Lib.hid (by first | with_reducible exact (Bx.new wr (.slice none 0 0) (.bool false) (.int .i64 0) (.int .i64 0) 32).drew.below hb1 | with_reducible exact (Bx.new wr.drew (.slice none 0 0) (.bool false) (.int .i64 0) (.int .i64 0) 32).below hb1)
                     have HL1 : Hid (w.heap.size + 1 + 1 < wr.heap.size) := Lib.hid HK.out.br.lt
                     have HT4 := Lib.hid (WT.put HZ1.out HB1.out HL1.out HN0.out.n1 HN1.out.n1 HR1.out)
                     unfold put4 at HT4
                     have HK4 : Hid (((((w1.setCell ⟨wr.heap.size, 0, none⟩ (.slice (some ⟨g, 0, none⟩) nn cg)).setCell ⟨wr.heap.size, 1, none⟩ (.bool bb)).setCell ⟨wr.heap.size, 2, none⟩ (.int .i64 ll)).setCell ⟨wr.heap.size, 3, none⟩ (.int .i64 wc)).cell? ⟨w.heap.size, 0, none⟩ = some u0 ∧ ((((w1.setCell ⟨wr.heap.size, 0, none⟩ (.slice (some ⟨g, 0, none⟩) nn cg)).setCell ⟨wr.heap.size, 1, none⟩ (.bool bb)).setCell ⟨wr.heap.size, 2, none⟩ (.int .i64 ll)).setCell ⟨wr.heap.size, 3, none⟩ (.int .i64 wc)).cell? ⟨w.heap.size, 1, none⟩ = some u1 ∧ ((((w1.setCell ⟨wr.heap.size, 0, none⟩ (.slice (some ⟨g, 0, none⟩) nn cg)).setCell ⟨wr.heap.size, 1, none⟩ (.bool bb)).setCell ⟨wr.heap.size, 2, none⟩ (.int .i64 ll)).setCell ⟨wr.heap.size, 3, none⟩ (.int .i64 wc)).cell? ⟨w.heap.size, 2, none⟩ = some u2 ∧ ((((w1.setCell ⟨wr.heap.size, 0, none⟩ (.slice (some ⟨g, 0, none⟩) nn cg)).setCell ⟨wr.heap.size, 1, none⟩ (.bool bb)).setCell ⟨wr.heap.size, 2, none⟩ (.int .i64 ll)).setCell ⟨wr.heap.size, 3, none⟩ (.int .i64 wc)).cell? ⟨w.heap.size, 3, none⟩ = some u3) := Lib.hid ⟨HT4.out.z.bd.c0, HT4.out.z.bd.c1, HT4.out.z.bd.c2, HT4.out.z.bd.c3⟩
                     obtain ⟨_, b0, b1, b2, b3, f0, f1, f2, f3⟩ := HB1.out)
                  | skip
                  clear hb1 hr1))
      · have HD := Lib.hid (WT.of HZ1.out HR1.out)
        generalize hw3 : w1.alloc (.cells #[.slice (some ⟨g, 0, none⟩) nn cg, .bool bb, .int .i64 ll, .int .i64 wc] 32) = w3 at HD ⊢
        generalize w1.heap.size = bt at HD ⊢
        clear hw3
        obtain ⟨_, t0, t1, t2, t3, _, _, _, _⟩ := HD.out.tb
        obtain ⟨_, b0, b1, b2, b3, f0, f1, f2, f3⟩ := HD.out.z.bd
        go_upto_region 11 with fail
        have HE := Lib.hid (WT.next HD.out (refAt_sl HD.out.z.r) HN1.out.n1)
        unfold put4 at HE
        generalize (((w3.setCell ⟨w.heap.size, 0, none⟩ (.slice (some ⟨g, 0, none⟩) nn cg)).setCell ⟨w.heap.size, 1, none⟩ (.bool bb)).setCell ⟨w.heap.size, 2, none⟩ (.int .i64 ll)).setCell ⟨w.heap.size, 3, none⟩ (.int .i64 wc) = w4 at HE ⊢
        clear t0 t1 t2 t3 b0 b1 b2 b3 f0 f1 f2 f3
        by_cases h0 : e2 = 0
        · subst h0
          go_wp2_with fail
          refine ⟨⟨j + 1, .slice (some ⟨g, 0, none⟩) nn cg, .bool bb, .int .i64 ll, .int .i64 wc, by omega, by go_num, by rw [HQ2.out], ?_⟩, by simp [intOf]; omega⟩
          rw [HQ2.out]; exact HE.out
        · have d1 : (e2 == 0) = false := by simpa using h0
          have d2 : (e2 != 0) = true := by simpa using h0
          obtain ⟨_, b0, b1, b2, b3, _, _, _, _⟩ := HE.out.bd
          obtain ⟨_, r0, r1, r2, r3, f0, f1, f2, f3⟩ := HE.out.br
          go_wp2_with fail
          obtain ⟨⟨_, y0, y1, y2, y3, _, _, _, _⟩, hrE, haE⟩ := HE.out.ends HN1.out.n1
          unfold put4 at y0 y1 y2 y3 hrE haE
          refine bodyPost_ret (v := .tuple #[.agg #[(.slice (some ⟨g, 0, none⟩) nn cg), (.bool bb), (.int .i64 ll), (.int .i64 wc)], .int .i64 e2]) (by simp [results, Tryz.results18, go_sem, y0, y1, y2, y3]) rfl ?_
          rw [HEnd.out h0]
          exact ⟨_, rfl, hrE, haE⟩
      · have HD := Lib.hid (HT4.out)
        generalize hw3 : (((w1.setCell ⟨wr.heap.size, 0, none⟩ (.slice (some ⟨g, 0, none⟩) nn cg)).setCell ⟨wr.heap.size, 1, none⟩ (.bool bb)).setCell ⟨wr.heap.size, 2, none⟩ (.int .i64 ll)).setCell ⟨wr.heap.size, 3, none⟩ (.int .i64 wc) = w3 at HD ⊢
        generalize wr.heap.size = bt at HD ⊢
        clear hw3
        obtain ⟨_, t0, t1, t2, t3, _, _, _, _⟩ := HD.out.tb
        obtain ⟨_, b0, b1, b2, b3, f0, f1, f2, f3⟩ := HD.out.z.bd
        go_upto_region 11 with fail
        have HE := Lib.hid (WT.next HD.out (refAt_sl HD.out.z.r) HN1.out.n1)
        unfold put4 at HE
        generalize (((w3.setCell ⟨w.heap.size, 0, none⟩ (.slice (some ⟨g, 0, none⟩) nn cg)).setCell ⟨w.heap.size, 1, none⟩ (.bool bb)).setCell ⟨w.heap.size, 2, none⟩ (.int .i64 ll)).setCell ⟨w.heap.size, 3, none⟩ (.int .i64 wc) = w4 at HE ⊢
        clear t0 t1 t2 t3 b0 b1 b2 b3 f0 f1 f2 f3
        by_cases h0 : e2 = 0
        · subst h0
          go_wp2_with fail
          refine ⟨⟨j + 1, .slice (some ⟨g, 0, none⟩) nn cg, .bool bb, .int .i64 ll, .int .i64 wc, by omega, by go_num, by rw [HQ2.out], ?_⟩, by simp [intOf]; omega⟩
          rw [HQ2.out]; exact HE.out
        · have d1 : (e2 == 0) = false := by simpa using h0
          have d2 : (e2 != 0) = true := by simpa using h0
          obtain ⟨_, b0, b1, b2, b3, _, _, _, _⟩ := HE.out.bd
          obtain ⟨_, r0, r1, r2, r3, f0, f1, f2, f3⟩ := HE.out.br
          go_wp2_with fail
          obtain ⟨⟨_, y0, y1, y2, y3, _, _, _, _⟩, hrE, haE⟩ := HE.out.ends HN1.out.n1
          unfold put4 at y0 y1 y2 y3 hrE haE
          refine bodyPost_ret (v := .tuple #[.agg #[(.slice (some ⟨g, 0, none⟩) nn cg), (.bool bb), (.int .i64 ll), (.int .i64 wc)], .int .i64 e2]) (by simp [results, Tryz.results18, go_sem, y0, y1, y2, y3]) rfl ?_
          rw [HEnd.out h0]
          exact ⟨_, rfl, hrE, haE⟩
    · obtain rfl : j = T := by omega
      have d0 : decide ((j : Int) < (j : Int)) = false := decide_eq_false (by omega)
      obtain ⟨g, nn, cg, bb, ll, wc, rfl, rfl, rfl, rfl⟩ := refAt_sl4 HK.out.r
      have HN0 := Lib.hid (HNr.out j)
      have HHe := Lib.hid he
      clear he
      obtain ⟨_, b0, b1, b2, b3, _, _, _, _⟩ := HK.out.bd
      obtain ⟨_, r0, r1, r2, r3, f0, f1, f2, f3⟩ := HK.out.br
      clear hlt hj
      go_wp2_with fail
      obtain ⟨⟨_, y0, y1, y2, y3, _, _, _, _⟩, hrE, haE⟩ := HK.out.ends HN0.out.n1
      unfold put4 at y0 y1 y2 y3 hrE haE
      refine bodyPost_ret (v := .tuple #[.agg #[.slice (some ⟨g, 0, none⟩) nn cg, .bool bb, .int .i64 ll, .int .i64 wc], .int .i64 0]) (by simp [results, Tryz.results18, go_sem, y0, y1, y2, y3]) rfl ?_
      rw [HHe.out]
      exact ⟨_, rfl, hrE, haE⟩
set_option maxHeartbeats 1000000 in
theorem refWrite8_no1 {w : World} {v : Value} {M : DM} (r : RefAt w v M) (hN : Nrm M) (s k m c a f e : Int) (t : ByteArray) (he : e ≠ 0) (hFi : ∀ W, Calls Tryz.prog 49 #[.agg #[.int .i64 s, .int .i64 k, .int .i64 m, .int .i64 c], .int .i64 a] W fun e' w' => e' = .returned (.tuple #[.int .i64 f, .int .i64 e]) ∧ Below W.heap.size W w') :
    Calls Tryz.prog 18 #[v, .agg #[.int .i64 s, .int .i64 k, .int .i64 m, .int .i64 c], .int .i64 a, .string t] w fun e' w' => ∃ v', e' = .returned (.tuple #[v', .int .i64 e]) ∧ RefAt w' v' M ∧ Below w.heap.size w w' := by
  obtain ⟨v0, v1, v2, v3, rfl⟩ := refAt_agg r
  obtain ⟨g, nn, cg, bb, ll, wc, rfl, rfl, rfl, rfl⟩ := refAt_sl4 r
  have hRS := WK.start r s k m c 32 23 32
  obtain ⟨W0, hW⟩ : ∃ W0 : World, W0 = ((w.alloc (.cells #[.slice (some ⟨g, 0, none⟩) nn cg, .bool bb, .int .i64 ll, .int .i64 wc] 32)).alloc (.cells #[.int .i64 s, .int .i64 k, .int .i64 m, .int .i64 c] 23)).alloc (.cells #[.slice none 0 0, .bool false, .int .i64 0, .int .i64 0] 32) := ⟨_, rfl⟩
  rw [← hW] at hRS
  have HR0 := Lib.hid hRS
  have d1 : (e == 0) = false := by simpa using he
  have d2 : (e != 0) = true := by simpa using he
  have HN := Lib.hid hN
  clear r hRS he hN
  go_enter Tryz.func18, Tryz.ntmps18
  go_upto_region 1 with fail
  rw [← hW]
  clear hW
  obtain ⟨_, y0, y1, y2, y3, _, _, _, _⟩ := HR0.out.bg
  go_wp2_with (go_at_call 49; with_reducible refine (hFi _).mono ?_; rintro e w1 ⟨rfl, hb1⟩; have HR1 := Lib.hid (HR0.out.below hb1); clear hb1 y0 y1 y2 y3; obtain ⟨_, b0, b1, b2, b3, _, _, _, _⟩ := HR1.out.bd; obtain ⟨_, r0, r1, r2, r3, f0, f1, f2, f3⟩ := HR1.out.br)
  obtain ⟨⟨_, y0, y1, y2, y3, _, _, _, _⟩, hrE, haE⟩ := HR1.out.ends HN.out.n1
  unfold put4 at y0 y1 y2 y3 hrE haE
  refine bodyPost_ret (v := .tuple #[.agg #[.slice (some ⟨g, 0, none⟩) nn cg, .bool bb, .int .i64 ll, .int .i64 wc], .int .i64 e]) (by simp [results, Tryz.results18, go_sem, y0, y1, y2, y3]) rfl ?_
  exact ⟨_, rfl, hrE, haE⟩
set_option maxHeartbeats 1000000 in
theorem refWrite8_no2 {w : World} {v : Value} {M : DM} (r : RefAt w v M) (hN : Nrm M) (s k m c a f z : Int) (t : ByteArray) (ht : (t.size : Int) ≠ z) (hFi : ∀ W, Calls Tryz.prog 49 #[.agg #[.int .i64 s, .int .i64 k, .int .i64 m, .int .i64 c], .int .i64 a] W fun e' w' => e' = .returned (.tuple #[.int .i64 f, .int .i64 0]) ∧ Below W.heap.size W w')
    (hSz : ∀ W, Calls Tryz.prog 48 #[.agg #[.int .i64 s, .int .i64 k, .int .i64 m, .int .i64 c]] W fun e w' => e = .returned (.int .i64 z) ∧ Below W.heap.size W w') :
    Calls Tryz.prog 18 #[v, .agg #[.int .i64 s, .int .i64 k, .int .i64 m, .int .i64 c], .int .i64 a, .string t] w fun e' w' => ∃ v', e' = .returned (.tuple #[v', .int .i64 2]) ∧ RefAt w' v' M ∧ Below w.heap.size w w' := by
  obtain ⟨v0, v1, v2, v3, rfl⟩ := refAt_agg r
  obtain ⟨g, nn, cg, bb, ll, wc, rfl, rfl, rfl, rfl⟩ := refAt_sl4 r
  have hRS := WK.start r s k m c 32 23 32
  obtain ⟨W0, hW⟩ : ∃ W0 : World, W0 = ((w.alloc (.cells #[.slice (some ⟨g, 0, none⟩) nn cg, .bool bb, .int .i64 ll, .int .i64 wc] 32)).alloc (.cells #[.int .i64 s, .int .i64 k, .int .i64 m, .int .i64 c] 23)).alloc (.cells #[.slice none 0 0, .bool false, .int .i64 0, .int .i64 0] 32) := ⟨_, rfl⟩
  rw [← hW] at hRS
  have HR0 := Lib.hid hRS
  have q1 : ((t.size : Int) == z) = false := by simpa using ht
  have q2 : ((t.size : Int) != z) = true := by simpa using ht
  have HN := Lib.hid hN
  clear r hRS ht hN
  go_enter Tryz.func18, Tryz.ntmps18
  go_upto_region 1 with fail
  rw [← hW]
  clear hW
  obtain ⟨_, y0, y1, y2, y3, _, _, _, _⟩ := HR0.out.bg
  go_wp2_with (first
    | (go_at_call 49; with_reducible refine (hFi _).mono ?_; rintro e w1 ⟨rfl, hb1⟩; have HR1 := Lib.hid (HR0.out.below hb1); clear hb1 y0 y1 y2 y3; obtain ⟨_, y0, y1, y2, y3, _, _, _, _⟩ := HR1.out.bg)
    | (go_at_call 48; with_reducible refine (hSz _).mono ?_; rintro e w2 ⟨rfl, hb2⟩; have HR2 := Lib.hid (HR1.out.below hb2); clear hb2 y0 y1 y2 y3; obtain ⟨_, b0, b1, b2, b3, _, _, _, _⟩ := HR2.out.bd; obtain ⟨_, r0, r1, r2, r3, f0, f1, f2, f3⟩ := HR2.out.br))
  obtain ⟨⟨_, y0, y1, y2, y3, _, _, _, _⟩, hrE, haE⟩ := HR2.out.ends HN.out.n1
  unfold put4 at y0 y1 y2 y3 hrE haE
  refine bodyPost_ret (v := .tuple #[.agg #[.slice (some ⟨g, 0, none⟩) nn cg, .bool bb, .int .i64 ll, .int .i64 wc], .int .i64 2]) (by simp [results, Tryz.results18, go_sem, y0, y1, y2, y3]) rfl ?_
  exact ⟨_, rfl, hrE, haE⟩
theorem refWrite8_any {w : World} {v : Value} {M : DM} (r : RefAt w v M) (hN : Nrm M) (hw : M.writes < 90000) (s k m c a : Int) (hk : W64 k) (hm : W64 m) (t : ByteArray) :
    Calls Tryz.prog 18 #[v, .agg #[.int .i64 s, .int .i64 k, .int .i64 m, .int .i64 c], .int .i64 a, .string t] w fun e w' => ∃ v', e = .returned (.tuple #[v', .int .i64 (cwR M s k m c a t).2]) ∧ RefAt w' v' (cwR M s k m c a t).1 ∧ Below w.heap.size w w' := by
  have hF := refFirst_any s k m c a hk hm
  have hS := refSize_any s k m c hk hm
  unfold cwR
  by_cases h0 : geoFe s k m c a = 0
  · obtain ⟨n1, n2, n3, n4, n5, n6, _⟩ := clu_nums h0
    rw [if_pos h0]
    rw [h0] at hF
    by_cases h1 : (t.size : Int) = geoSz s k m c
    · rw [if_pos h1]
      rw [n1] at hF
      obtain ⟨z, hz⟩ : ∃ z : Nat, z = cluT s k m c * 512 := ⟨_, rfl⟩
      have hzz : geoSz s k m c = (z : Int) := by omega
      rw [hzz] at hS
      exact refWrite8_ok r hN hw s k m c a (cluF s k m c a) (cluT s k m c) z t hF hS (by omega) hz n4 (by omega)
    · rw [if_neg h1]
      exact refWrite8_no2 r hN s k m c a _ _ t h1 hF hS
  · rw [if_neg h0]
    exact refWrite8_no1 r hN s k m c a _ _ t h0 hF
theorem nrm_cwR {M : DM} (hN : Nrm M) (s k m c a : Int) (t : ByteArray) : Nrm (cwR M s k m c a t).1 ∧ (cwR M s k m c a t).1.n = M.n ∧ (cwR M s k m c a t).1.writes ≤ M.writes + 128 := by
  unfold cwR
  split
  · rename_i h0
    split
    · have h1 := (clu_nums h0).2.2.2.1
      have h2 := wrS_b M (cluF s k m c a) t (cluT s k m c)
      exact ⟨nrm_wrS hN _ _ _, h2.1, by omega⟩
    · exact ⟨hN, rfl, by simp⟩
  · exact ⟨hN, rfl, by simp⟩
end Go.Proofs.YtjhpheepimbbdaaGreatDoor
