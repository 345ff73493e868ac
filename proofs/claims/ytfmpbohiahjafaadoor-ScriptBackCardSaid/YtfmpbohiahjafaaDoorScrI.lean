/- Scripts: the program's setup of a line. -/
import Derived.Test.YtfmpbohiahjafaaDoorScrG
namespace Go.Proofs.YtfmpbohiahjafaaDoor
open Go.RowKit Go.Lib Go.Shelf Go.Sort

def SU.enc (c : SU) : List Value := [.int .i64 c.s, .int .i64 c.k, .int .i64 c.m, .int .i64 c.c, .int .i64 c.l]
/-- A block of five cells that may be written. -/
structure B5 (W : World) (b : Nat) (v0 v1 v2 v3 v4 : Value) : Prop where
  lt : b < W.heap.size
  c0 : W.cell? ⟨b, 0, none⟩ = some v0
  c1 : W.cell? ⟨b, 1, none⟩ = some v1
  c2 : W.cell? ⟨b, 2, none⟩ = some v2
  c3 : W.cell? ⟨b, 3, none⟩ = some v3
  c4 : W.cell? ⟨b, 4, none⟩ = some v4
  f : ∀ o, W.frozen? ⟨b, o, none⟩ = false
theorem B5.new (w : World) (v0 v1 v2 v3 v4 : Value) (t : TypeId) : B5 (w.alloc (.cells #[v0, v1, v2, v3, v4] t)) w.heap.size v0 v1 v2 v3 v4 := by
  obtain ⟨y0, y1, y2, y3, y4⟩ := new5 w v0 v1 v2 v3 v4 t
  exact ⟨by simp, y0, y1, y2, y3, y4, fun o => frozen_of_row _ w.heap.size o _ t (heap_alloc_new w _)⟩
theorem B5.below {W W' : World} {b : Nat} {v0 v1 v2 v3 v4 : Value} (h : B5 W b v0 v1 v2 v3 v4) (hb : Below W.heap.size W W') : B5 W' b v0 v1 v2 v3 v4 :=
  ⟨Nat.lt_of_lt_of_le h.lt hb.size, cell_keep hb h.c0, cell_keep hb h.c1, cell_keep hb h.c2, cell_keep hb h.c3, cell_keep hb h.c4, fun o => (hb.frozen (p := ⟨b, o, none⟩) h.lt).trans (h.f o)⟩
theorem B5.set {W : World} {b b' k : Nat} {v0 v1 v2 v3 v4 u : Value} (h : B5 W b v0 v1 v2 v3 v4) (hne : b' ≠ b) : B5 (W.setCell ⟨b', k, none⟩ u) b v0 v1 v2 v3 v4 := by
  have hc (o : Nat) (v : Value) (hh : W.cell? ⟨b, o, none⟩ = some v) : (W.setCell ⟨b', k, none⟩ u).cell? ⟨b, o, none⟩ = some v := (World.cell?_setCell_other _ _ _ _ (by intro e; injection e with e; omega)).trans hh
  exact ⟨by rw [World.size_setCell]; exact h.lt, hc 0 _ h.c0, hc 1 _ h.c1, hc 2 _ h.c2, hc 3 _ h.c3, hc 4 _ h.c4, fun o => by rw [World.frozen?_setCell]; exact h.f o⟩
theorem B5.put {W : World} {b : Nat} {v0 v1 v2 v3 v4 : Value} (h : B5 W b v0 v1 v2 v3 v4) (u0 u1 u2 u3 u4 : Value) :
    (((((W.setCell ⟨b, 0, none⟩ u0).setCell ⟨b, 1, none⟩ u1).setCell ⟨b, 2, none⟩ u2).setCell ⟨b, 3, none⟩ u3).setCell ⟨b, 4, none⟩ u4).cell? ⟨b, 0, none⟩ = some u0 ∧ (((((W.setCell ⟨b, 0, none⟩ u0).setCell ⟨b, 1, none⟩ u1).setCell ⟨b, 2, none⟩ u2).setCell ⟨b, 3, none⟩ u3).setCell ⟨b, 4, none⟩ u4).cell? ⟨b, 1, none⟩ = some u1 ∧ (((((W.setCell ⟨b, 0, none⟩ u0).setCell ⟨b, 1, none⟩ u1).setCell ⟨b, 2, none⟩ u2).setCell ⟨b, 3, none⟩ u3).setCell ⟨b, 4, none⟩ u4).cell? ⟨b, 2, none⟩ = some u2 ∧ (((((W.setCell ⟨b, 0, none⟩ u0).setCell ⟨b, 1, none⟩ u1).setCell ⟨b, 2, none⟩ u2).setCell ⟨b, 3, none⟩ u3).setCell ⟨b, 4, none⟩ u4).cell? ⟨b, 3, none⟩ = some u3 ∧ (((((W.setCell ⟨b, 0, none⟩ u0).setCell ⟨b, 1, none⟩ u1).setCell ⟨b, 2, none⟩ u2).setCell ⟨b, 3, none⟩ u3).setCell ⟨b, 4, none⟩ u4).cell? ⟨b, 4, none⟩ = some u4 := by
  refine ⟨?_, ?_, ?_, ?_, ?_⟩
  · rw [put_else _ _ _ _ _ (by omega), put_else _ _ _ _ _ (by omega), put_else _ _ _ _ _ (by omega), put_else _ _ _ _ _ (by omega)]
    exact put_same h.c0 _
  · rw [put_else _ _ _ _ _ (by omega), put_else _ _ _ _ _ (by omega), put_else _ _ _ _ _ (by omega)]
    exact put_same ((put_else _ _ _ _ _ (by omega)).trans h.c1) _
  · rw [put_else _ _ _ _ _ (by omega), put_else _ _ _ _ _ (by omega)]
    exact put_same ((put_else _ _ _ _ _ (by omega)).trans ((put_else _ _ _ _ _ (by omega)).trans h.c2)) _
  · rw [put_else _ _ _ _ _ (by omega)]
    exact put_same ((put_else _ _ _ _ _ (by omega)).trans ((put_else _ _ _ _ _ (by omega)).trans ((put_else _ _ _ _ _ (by omega)).trans h.c3))) _
  · exact put_same ((put_else _ _ _ _ _ (by omega)).trans ((put_else _ _ _ _ _ (by omega)).trans ((put_else _ _ _ _ _ (by omega)).trans ((put_else _ _ _ _ _ (by omega)).trans h.c4)))) _
/-- Numbers from the start of a block on, that may be written. -/
def RowI (W : World) (b : Nat) (V : List Int) : Prop := b < W.heap.size ∧ ∀ j, j < V.length → W.cell? ⟨b, j, none⟩ = some (.int .i64 (V.getD j 0)) ∧ W.frozen? ⟨b, j, none⟩ = false
theorem RowI.below {W W' : World} {b : Nat} {V : List Int} (h : RowI W b V) (hb : Below W.heap.size W W') : RowI W' b V :=
  ⟨Nat.lt_of_lt_of_le h.1 hb.size, fun j hj => ⟨(hb.cell (p := ⟨b, j, none⟩) h.1).trans (h.2 j hj).1, (hb.frozen (p := ⟨b, j, none⟩) h.1).trans (h.2 j hj).2⟩⟩
theorem RowI.set {W : World} {b : Nat} {V : List Int} (h : RowI W b V) (k : Nat) (hk : k < V.length) (x : Int) : RowI (W.setCell ⟨b, k, none⟩ (.int .i64 x)) b (V.set k x) := by
  refine ⟨by rw [World.size_setCell]; exact h.1, fun j hj => ⟨?_, ?_⟩⟩
  · rw [List.length_set] at hj
    by_cases e : j = k
    · subst e
      rw [World.cell?_setCell_same' _ _ _ (by rw [(h.2 j hj).1]; rfl)]
      simp [List.getD, hj]
    · rw [World.cell?_setCell_other _ _ _ _ (by intro e'; injection e' with _ e2; omega), (h.2 j hj).1]
      simp [List.getD, List.getElem?_set_ne (Ne.symm e)]
  · rw [List.length_set] at hj
    rw [World.frozen?_setCell]; exact (h.2 j hj).2
theorem ws_set {W : World} {bL b k : Nat} {L : List (List UInt8)} {u : Value} (h : WsAt W bL L) (hne : b ≠ bL) : WsAt (W.setCell ⟨b, k, none⟩ u) bL L :=
  ⟨by rw [World.size_setCell]; exact h.1, fun j hj => (World.cell?_setCell_other _ _ _ _ (by intro e; injection e with e; omega)).trans (h.2 j hj)⟩
theorem psS_len {l : List UInt8} (h : (spl 32 l).length ≠ 6) : psS l = none := by
  unfold psS
  split
  · rename_i hs; rw [hs] at h; exact absurd rfl h
  · rfl
theorem psS_word {l : List UInt8} {x : List UInt8} {R : List (List UInt8)} (hs : spl 32 l = x :: R) (h : x ≠ imgW) : psS l = none := by
  unfold psS
  split
  · rename_i hs2; rw [hs] at hs2; injection hs2 with h1 h2; subst h1; rw [if_neg h]
  · rfl
theorem psS_num {l : List UInt8} {x : List UInt8} {R : List (List UInt8)} (hs : spl 32 l = x :: R) {j : Nat} (hj : j < R.length) (h : numB (R.getD j []) = none) : psS l = none := by
  unfold psS
  split
  · rename_i w a b c d e hs2
    rw [hs] at hs2
    injection hs2 with h1 h2
    subst h2
    split
    · match j, hj with
      | 0, _ => have h : numB a = none := h; rw [h]
      | 1, _ => have h : numB b = none := h; rw [h]; split <;> simp_all
      | 2, _ => have h : numB c = none := h; rw [h]; split <;> simp_all
      | 3, _ => have h : numB d = none := h; rw [h]; split <;> simp_all
      | 4, _ => have h : numB e = none := h; rw [h]; split <;> simp_all
    · rfl
  · rfl
theorem psS_all {l : List UInt8} {R : List (List UInt8)} {V : List Int} (hs : spl 32 l = imgW :: R) (hR : R.length = 5) (h : ∀ i, i < 5 → numB (R.getD i []) = some (V.getD i 0)) : psS l = some ⟨V.getD 0 0, V.getD 1 0, V.getD 2 0, V.getD 3 0, V.getD 4 0⟩ := by
  match R, hR with
  | [a, b, c, d, e], _ =>
    have h0 : numB a = _ := h 0 (by omega)
    have h1 : numB b = _ := h 1 (by omega)
    have h2 : numB c = _ := h 2 (by omega)
    have h3 : numB d = _ := h 3 (by omega)
    have h4 : numB e = _ := h 4 (by omega)
    unfold psS
    rw [hs]
    simp only [if_true, h0, h1, h2, h3, h4]
/-- Where toSetup stands. -/
structure SSt (w W : World) (bL b5 : Nat) (L : List (List UInt8)) (V : List Int) : Prop where
  ws : WsAt W bL L
  row : RowI W b5 V
  z : B5 W w.heap.size (.int .i64 0) (.int .i64 0) (.int .i64 0) (.int .i64 0) (.int .i64 0)
  bel : Below w.heap.size w W
theorem SSt.below {w W W' : World} {bL b5 : Nat} {L : List (List UInt8)} {V : List Int} (h : SSt w W bL b5 L V) (hb : Below W.heap.size W W') : SSt w W' bL b5 L V :=
  ⟨h.ws.below hb, h.row.below hb, h.z.below hb, h.bel.trans (hb.mono h.bel.size)⟩
theorem SSt.set {w W : World} {bL b5 : Nat} {L : List (List UInt8)} {V : List Int} (h : SSt w W bL b5 L V) (h1 : bL ≠ b5) (h2 : w.heap.size < b5) (k : Nat) (hk : k < V.length) (x : Int) : SSt w (W.setCell ⟨b5, k, none⟩ (.int .i64 x)) bL b5 L (V.set k x) :=
  ⟨ws_set h.ws (Ne.symm h1), h.row.set k hk x, h.z.set (by omega), below_set h.bel (by omega)⟩
/-- What toSetup answers. -/
def SAns (l : List UInt8) (e : Ending) : Prop := (∃ c, psS l = some c ∧ e = .returned (.tuple #[.agg c.enc.toArray, .bool true])) ∨ psS l = none ∧ e = .returned (.tuple #[.agg SU.zero.enc.toArray, .bool false])
set_option maxHeartbeats 16000000 in
set_option maxRecDepth 100000 in
theorem toSetup_any {l : List UInt8} (hl : l.length ≤ 100000000) {w : World} (hD : ScW w) :
    Calls Tryd.prog 31 #[.string ⟨l.toArray⟩] w fun e w' => SAns l e ∧ Below w.heap.size w w' := by
  obtain ⟨w1, hw1⟩ : ∃ w1, w1 = w.alloc (.cells #[.int .i64 0, .int .i64 0, .int .i64 0, .int .i64 0, .int .i64 0] 35) := ⟨_, rfl⟩
  have HB1 : Hid (Below w.heap.size w w1) := Lib.hid (by rw [hw1]; exact below_new w _)
  have HZ1 : Hid (B5 w1 w.heap.size (.int .i64 0) (.int .i64 0) (.int .i64 0) (.int .i64 0) (.int .i64 0)) := Lib.hid (by rw [hw1]; exact B5.new w _ _ _ _ _ _)
  have HD := Lib.hid hD
  have HW1 := Lib.hid hw1
  have hS := splitN_any (n := 7) (l := l) (by omega) (by omega) (by omega) (hD.below HB1.out)
  rw [show ((7 : Nat) : Int) = 7 from rfl] at hS
  have HLL := Lib.hid hl
  clear hw1 hD hl
  go_enter Tryd.func31, Tryd.ntmps31
  go_upto_region 1 with fail
  rw [← HW1.out]
  go_upto_region 2 with (go_at_call 21; (with_reducible refine hS.mono ?_); rintro e w2 ⟨bL, cL, L, rfl, hws, hc1, hc2, hs1, hs2, hl7, ⟨x, R, hLx, hhd⟩, hb2⟩; have HB2 := Lib.hid hb2; have HWS := Lib.hid hws; have HS1 := Lib.hid hs1; have HS2 := Lib.hid hs2; have HC := Lib.hid (And.intro hc1 (And.intro hc2 hl7)); clear hws hs1 hs2 hhd hc1 hc2 hl7 hb2)
  have HLX := Lib.hid hLx
  have HBB : Hid (Below w.heap.size w w2) := Lib.hid (HB1.out.trans (HB2.out.mono HB1.out.size))
  have HZ2 := Lib.hid (HZ1.out.below HB2.out)
  have q0 : w2.cell? ⟨bL, 0, none⟩ = some (Bs x) := by have := HWS.out.2 0 (by rw [hLx]; simp); rw [hLx] at this; exact this
  obtain ⟨r, hr⟩ : ∃ r, r = R.length := ⟨_, rfl⟩
  have HRr := Lib.hid hr
  have hLl : L.length = r + 1 := by rw [hLx, hr]; rfl
  have HLl := Lib.hid hLl
  rw [← hr]
  clear hLx hr hLl hS HZ1 HB1 HB2 HW1
  by_cases hr5 : r = 5
  case neg =>
    have k1 : ((r : Int) + 1 != 6) = true := by rw [bne_iff_ne]; omega
    have k2 : ((r : Int) + 1 == 6) = false := by rw [beq_eq_false_iff_ne]; omega
    have HNO : Hid (psS l = none) := Lib.hid (psS_len (by
      have h1 := HLl.out
      intro h
      rw [HS1.out (by omega), h] at h1
      omega))
    clear hr5
    go_upto_region 3 with fail
    obtain ⟨_, x0, x1, x2, x3, x4, xf⟩ := HZ2.out
    have xf0 := xf 0; have xf1 := xf 1; have xf2 := xf 2; have xf3 := xf 3; have xf4 := xf 4
    clear xf
    go_wp2
    obtain ⟨z0, z1, z2, z3, z4⟩ := HZ2.out.put (.int .i64 0) (.int .i64 0) (.int .i64 0) (.int .i64 0) (.int .i64 0)
    refine bodyPost_ret (v := .tuple #[.agg #[.int .i64 0, .int .i64 0, .int .i64 0, .int .i64 0, .int .i64 0], .bool false]) (by simp [results, Tryd.results31, go_sem, z0, z1, z2, z3, z4]) rfl ?_
    exact ⟨.inr ⟨HNO.out, rfl⟩, below_put5 HBB.out (Nat.le_refl _)⟩
  subst hr5
  rw [show (5 : Nat) + 1 = 6 from rfl]
  have HS : Hid (spl 32 l = x :: R) := Lib.hid (by
    have h1 := HLl.out
    rcases Nat.lt_or_ge 7 (spl 32 l).length with h | h
    · rw [HS2.out h] at h1; omega
    · rw [← HS1.out h, HLX.out])
  have HSH : Hid (∀ i, i < 5 → (R.getD i []).length ≤ 100000000) := Lib.hid (fun i hi => by
    refine Nat.le_trans (spl_short (c := 32) (l := l) ?_) HLL.out
    have := HRr.out
    rw [HS.out, List.getD, List.getElem?_eq_getElem (by omega)]
    exact List.mem_cons_of_mem _ (List.getElem_mem _))
  clear HS1 HS2 HLL
  by_cases hx : x = imgW
  case neg =>
    have k1 : (x == [105, 109, 97, 103, 101]) = false := by rw [beq_eq_false_iff_ne]; exact hx
    have k2 : (x != [105, 109, 97, 103, 101]) = true := by rw [bne_iff_ne]; exact hx
    have HNO : Hid (psS l = none) := Lib.hid (psS_word HS.out hx)
    clear hx
    go_upto_region 3 with fail
    obtain ⟨_, x0, x1, x2, x3, x4, xf⟩ := HZ2.out
    have xf0 := xf 0; have xf1 := xf 1; have xf2 := xf 2; have xf3 := xf 3; have xf4 := xf 4
    clear xf
    go_wp2
    obtain ⟨z0, z1, z2, z3, z4⟩ := HZ2.out.put (.int .i64 0) (.int .i64 0) (.int .i64 0) (.int .i64 0) (.int .i64 0)
    refine bodyPost_ret (v := .tuple #[.agg #[.int .i64 0, .int .i64 0, .int .i64 0, .int .i64 0, .int .i64 0], .bool false]) (by simp [results, Tryd.results31, go_sem, z0, z1, z2, z3, z4]) rfl ?_
    exact ⟨.inr ⟨HNO.out, rfl⟩, below_put5 HBB.out (Nat.le_refl _)⟩
  subst hx
  have k1 : (imgW == [105, 109, 97, 103, 101]) = true := by decide
  have k2 : (imgW != [105, 109, 97, 103, 101]) = false := by decide
  have c1 : (6 : Int) ≤ (cL : Int) := by have := HC.out.1; have := HLl.out; omega
  have c2 : (1 : Int) ≤ (cL : Int) := by omega
  have c3 : (6 : Nat) ≤ cL := by omega
  have HCL := Lib.hid c3
  go_upto_region 5 with fail
  have HB5 : Hid (Below w.heap.size w (w2.alloc (.cells #[.int .i64 0, .int .i64 0, .int .i64 0, .int .i64 0, .int .i64 0] 97))) := Lib.hid (HBB.out.alloc HBB.out.size _)
  have HR5 : Hid (RowI (w2.alloc (.cells #[.int .i64 0, .int .i64 0, .int .i64 0, .int .i64 0, .int .i64 0] 97)) w2.heap.size [0, 0, 0, 0, 0]) := Lib.hid ⟨by simp, fun j hj => ⟨by
    have hj5 : j < 5 := hj
    obtain ⟨y0, y1, y2, y3, y4⟩ := new5 w2 (.int .i64 0) (.int .i64 0) (.int .i64 0) (.int .i64 0) (.int .i64 0) 97
    match j, hj5 with
    | 0, _ => exact y0
    | 1, _ => exact y1
    | 2, _ => exact y2
    | 3, _ => exact y3
    | 4, _ => exact y4, frozen_of_row _ w2.heap.size j _ _ (heap_alloc_new w2 _)⟩⟩
  have HZ5 := Lib.hid (HZ2.out.below (below_new w2 (.cells #[.int .i64 0, .int .i64 0, .int .i64 0, .int .i64 0, .int .i64 0] 97)))
  have HW5 := Lib.hid (HWS.out.below (below_new w2 (.cells #[.int .i64 0, .int .i64 0, .int .i64 0, .int .i64 0, .int .i64 0] 97)))
  have HNE : Hid (bL ≠ w2.heap.size ∧ w.heap.size < w2.heap.size) := Lib.hid (by have h1 := HWS.out.1; have h2 := HZ2.out.lt; omega)
  generalize w2.alloc (.cells #[.int .i64 0, .int .i64 0, .int .i64 0, .int .i64 0, .int .i64 0] 97) = w5 at *
  generalize w2.heap.size = b5 at *
  clear HWS HZ2 HBB q0 k1 k2
  go_wp2
  go_loopw [6, 7, 8, 9, 26] (fun _ _ _ _ ix wr => ∃ (j : Nat) (V : List Int), ix = .int .i64 (j : Int) ∧ j ≤ 5 ∧ V.length = 5 ∧ (∀ i, i < j → numB (R.getD i []) = some (V.getD i 0)) ∧ SSt w wr bL b5 L V) (fun _ _ _ _ ix _ => 5 - (RowKit.intOf ix).toNat)
  case atStart => exact ⟨0, [0, 0, 0, 0, 0], rfl, by omega, rfl, fun i hi => absurd hi (by omega), HW5.out, HR5.out, HZ5.out, HB5.out⟩
  case round =>
    obtain ⟨j, V, rfl, hj, hVl, hnum, hst⟩ := hrel
    have HST := Lib.hid hst
    have HNM := Lib.hid hnum
    have HVL := Lib.hid hVl
    clear hst hnum hVl
    by_cases hlt : j < 5
    · have k1 : decide ((j : Int) < 5) = true := decide_eq_true (by omega)
      have k2 : (j : Int) < 5 := by omega
      have hw1 : wrap64 ((j : Int) + 1) = (j : Int) + 1 := by unfold wrap64; omega
      have HW1 := Lib.hid hw1
      have y := HST.out.ws.2 (j + 1) (by rw [HLl.out]; omega)
      rw [show L.getD (j + 1) [] = R.getD j [] by rw [HLX.out]; rfl] at y
      have y' : wr.cell? ⟨bL, 1 + j, none⟩ = some (Bs (R.getD j [])) := by rw [Nat.add_comm]; exact y
      have hN := toNum_any (HSH.out j hlt) (HD.out.below HST.out.bel)
      have HJ := Lib.hid hlt
      have HNO : Hid (numB (R.getD j []) = none → psS l = none) := Lib.hid (fun h => psS_num HS.out (by rw [← HRr.out]; exact hlt) h)
      have HNY : Hid (∀ v, numB (R.getD j []) = some v → ∀ i, i < j + 1 → numB (R.getD i []) = some ((V.set j v).getD i 0)) := Lib.hid (fun v hv i hi => by
        have hl := HVL.out
        by_cases e : i = j
        · subst e
          rw [hv, List.getD, List.getElem?_set_self (by omega)]; rfl
        · rw [HNM.out i (by omega)]
          simp [List.getD, List.getElem?_set_ne (Ne.symm e)])
      generalize R.getD j [] = sj at y y' hN HNO HNY
      unfold NAns at hN
      clear hw1 HNM
      cases hn : numB sj with
      | some v =>
        have hN2 := hN.mono (fun e w' h => show e = .returned (.tuple #[.int .i64 v, .bool true]) ∧ Below wr.heap.size wr w' from by
          rcases h with ⟨⟨u, h1, h2⟩ | ⟨h1, _⟩, h3⟩
          · rw [hn] at h1; injection h1 with h1; subst h1; exact ⟨h2, h3⟩
          · rw [hn] at h1; cases h1)
        have HY := Lib.hid (HNY.out v hn)
        clear hN hn HNO HNY
        go_upto_region 11 with (go_at_call 42; (with_reducible refine hN2.mono ?_); rintro e w6 ⟨rfl, hb6⟩; have HS6 := Lib.hid (HST.out.below hb6); clear hb6)
        obtain ⟨u0, g0⟩ := HS6.out.row.2 j (by rw [HVL.out]; exact HJ.out)
        go_wp2
        (try rw [HW1.out])
        go_roundw
        case rel => exact ⟨j + 1, V.set j v, by go_num, HJ.out, by rw [List.length_set]; exact HVL.out, HY.out, HS6.out.set HNE.out.1 HNE.out.2 j (by rw [HVL.out]; exact HJ.out) v⟩
        case measure => simp only [RowKit.intOf]; have := HJ.out; omega
      | none =>
        have hN2 := hN.mono (fun e w' h => show e = .returned (.tuple #[.int .i64 0, .bool false]) ∧ Below wr.heap.size wr w' from by
          rcases h with ⟨⟨u, h1, h2⟩ | ⟨_, h1⟩, h3⟩
          · rw [hn] at h1; cases h1
          · exact ⟨h1, h3⟩)
        have HY := Lib.hid (HNO.out hn)
        clear hN hn HNO HNY
        go_upto_region 10 with (go_at_call 42; (with_reducible refine hN2.mono ?_); rintro e w6 ⟨rfl, hb6⟩; have HS6 := Lib.hid (HST.out.below hb6); clear hb6)
        obtain ⟨_, x0, x1, x2, x3, x4, xf⟩ := HS6.out.z
        have xf0 := xf 0; have xf1 := xf 1; have xf2 := xf 2; have xf3 := xf 3; have xf4 := xf 4
        clear xf
        go_wp2
        obtain ⟨z0, z1, z2, z3, z4⟩ := HS6.out.z.put (.int .i64 0) (.int .i64 0) (.int .i64 0) (.int .i64 0) (.int .i64 0)
        refine bodyPost_ret (v := .tuple #[.agg #[.int .i64 0, .int .i64 0, .int .i64 0, .int .i64 0, .int .i64 0], .bool false]) (by simp [results, Tryd.results31, go_sem, z0, z1, z2, z3, z4]) rfl ?_
        exact ⟨.inr ⟨HY.out, rfl⟩, below_put5 HS6.out.bel (Nat.le_refl _)⟩
    · have k1 : decide ((j : Int) < 5) = false := decide_eq_false (by omega)
      have k1n : ¬ (j : Int) < 5 := by omega
      have hj5 : j = 5 := by omega
      have HX : Hid (psS l = some ⟨V.getD 0 0, V.getD 1 0, V.getD 2 0, V.getD 3 0, V.getD 4 0⟩) := Lib.hid (psS_all HS.out HRr.out.symm (fun i hi => HNM.out i (by omega)))
      have hr := HST.out.row.2
      have hl := HVL.out
      obtain ⟨p0, -⟩ := hr 0 (by omega)
      obtain ⟨p1, -⟩ := hr 1 (by omega)
      obtain ⟨p2, -⟩ := hr 2 (by omega)
      obtain ⟨p3, -⟩ := hr 3 (by omega)
      obtain ⟨p4, -⟩ := hr 4 (by omega)
      generalize V.getD 0 0 = n0 at *
      generalize V.getD 1 0 = n1 at *
      generalize V.getD 2 0 = n2 at *
      generalize V.getD 3 0 = n3 at *
      generalize V.getD 4 0 = n4 at *
      clear hr hl hj5
      go_upto_region 14 with fail
      have HZ6 := Lib.hid (HST.out.z.below (below_new wr (.cells #[.int .i64 n0, .int .i64 n1, .int .i64 n2, .int .i64 n3] 33)))
      have HB6 : Hid (Below w.heap.size w (wr.alloc (.cells #[.int .i64 n0, .int .i64 n1, .int .i64 n2, .int .i64 n3] 33))) := Lib.hid (HST.out.bel.alloc HST.out.bel.size _)
      obtain ⟨y0, y1, y2, y3⟩ := new4 wr (.int .i64 n0) (.int .i64 n1) (.int .i64 n2) (.int .i64 n3) 33
      replace p4 := cell_keep (below_new wr (.cells #[.int .i64 n0, .int .i64 n1, .int .i64 n2, .int .i64 n3] 33)) p4
      generalize wr.alloc (.cells #[.int .i64 n0, .int .i64 n1, .int .i64 n2, .int .i64 n3] 33) = w6 at *
      obtain ⟨_, x0, x1, x2, x3, x4, xf⟩ := HZ6.out
      have xf0 := xf 0; have xf1 := xf 1; have xf2 := xf 2; have xf3 := xf 3; have xf4 := xf 4
      clear xf p0 p1 p2 p3
      go_wp2
      obtain ⟨z0, z1, z2, z3, z4⟩ := HZ6.out.put (.int .i64 n0) (.int .i64 n1) (.int .i64 n2) (.int .i64 n3) (.int .i64 n4)
      refine bodyPost_ret (v := .tuple #[.agg #[.int .i64 n0, .int .i64 n1, .int .i64 n2, .int .i64 n3, .int .i64 n4], .bool true]) (by simp [results, Tryd.results31, go_sem, z0, z1, z2, z3, z4]) rfl ?_
      exact ⟨.inl ⟨_, HX.out, rfl⟩, below_put5 HB6.out (Nat.le_refl _)⟩
end Go.Proofs.YtfmpbohiahjafaaDoor
