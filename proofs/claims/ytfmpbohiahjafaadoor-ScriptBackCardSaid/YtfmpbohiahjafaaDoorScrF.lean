/- Scripts: the word of what a deed has, and a deed that takes what a word tells. -/
import Derived.Test.YtfmpbohiahjafaaDoorScrD
import Derived.Maps.AppendAt
namespace Go.Proofs.YtfmpbohiahjafaaDoor
open Go.RowKit Go.Lib Go.Shelf Go.Sort

def DD.enc (d : DD) : List Value := [.int .u8 d.k, .int .i64 d.a, .int .i64 d.b, .int .i64 d.n, Bs d.t]
theorem DD.enc_len (d : DD) : d.enc.length = 5 := rfl
theorem DD.enc_one (d : DD) : ∀ u ∈ d.enc, u.oneCell' = true := by
  intro u hu
  simp only [DD.enc, List.mem_cons, List.not_mem_nil, or_false] at hu
  rcases hu with rfl | rfl | rfl | rfl | rfl <;> rfl
/-- A deed as its type has it. -/
def DDok (d : DD) : Prop := 0 ≤ d.k ∧ d.k < 256 ∧ I6 d.a ∧ I6 d.b ∧ I6 d.n
/-- A deed in a box that may be written. -/
structure DB (W : World) (b : Nat) (d : DD) : Prop where
  lt : b < W.heap.size
  c0 : W.cell? ⟨b, 0, none⟩ = some (.int .u8 d.k)
  c1 : W.cell? ⟨b, 1, none⟩ = some (.int .i64 d.a)
  c2 : W.cell? ⟨b, 2, none⟩ = some (.int .i64 d.b)
  c3 : W.cell? ⟨b, 3, none⟩ = some (.int .i64 d.n)
  c4 : W.cell? ⟨b, 4, none⟩ = some (Bs d.t)
  f : ∀ o, W.frozen? ⟨b, o, none⟩ = false
theorem DB.new (w : World) (d : DD) (t : TypeId) : DB (w.alloc (.cells d.enc.toArray t)) w.heap.size d := by
  obtain ⟨y0, y1, y2, y3, y4⟩ := new5 w (.int .u8 d.k) (.int .i64 d.a) (.int .i64 d.b) (.int .i64 d.n) (Bs d.t) t
  exact ⟨by simp, y0, y1, y2, y3, y4, fun o => frozen_of_row _ w.heap.size o _ t (heap_alloc_new w _)⟩
theorem DB.below {W W' : World} {b : Nat} {d : DD} (h : DB W b d) (hb : Below W.heap.size W W') : DB W' b d :=
  ⟨Nat.lt_of_lt_of_le h.lt hb.size, cell_keep hb h.c0, cell_keep hb h.c1, cell_keep hb h.c2, cell_keep hb h.c3, cell_keep hb h.c4, fun o => (hb.frozen (p := ⟨b, o, none⟩) h.lt).trans (h.f o)⟩
theorem put_same {w : World} {b i : Nat} {u : Value} (hc : w.cell? ⟨b, i, none⟩ = some u) (v : Value) : (w.setCell ⟨b, i, none⟩ v).cell? ⟨b, i, none⟩ = some v := World.cell?_setCell_same' _ _ _ (by rw [hc]; rfl)
theorem put_else (w : World) (b i j : Nat) (v : Value) (hij : i ≠ j) : (w.setCell ⟨b, i, none⟩ v).cell? ⟨b, j, none⟩ = w.cell? ⟨b, j, none⟩ := World.cell?_setCell_other _ _ _ _ (by intro e; injection e with _ e; omega)
theorem DB.putA {W : World} {b : Nat} {d : DD} (h : DB W b d) (x : Int) : DB (W.setCell ⟨b, 1, none⟩ (.int .i64 x)) b { d with a := x } :=
  ⟨by rw [World.size_setCell]; exact h.lt, (put_else _ _ _ _ _ (by omega)).trans h.c0, put_same h.c1 _, (put_else _ _ _ _ _ (by omega)).trans h.c2, (put_else _ _ _ _ _ (by omega)).trans h.c3, (put_else _ _ _ _ _ (by omega)).trans h.c4, fun o => by rw [World.frozen?_setCell]; exact h.f o⟩
theorem DB.putB {W : World} {b : Nat} {d : DD} (h : DB W b d) (x : Int) : DB (W.setCell ⟨b, 2, none⟩ (.int .i64 x)) b { d with b := x } :=
  ⟨by rw [World.size_setCell]; exact h.lt, (put_else _ _ _ _ _ (by omega)).trans h.c0, (put_else _ _ _ _ _ (by omega)).trans h.c1, put_same h.c2 _, (put_else _ _ _ _ _ (by omega)).trans h.c3, (put_else _ _ _ _ _ (by omega)).trans h.c4, fun o => by rw [World.frozen?_setCell]; exact h.f o⟩
theorem DB.putN {W : World} {b : Nat} {d : DD} (h : DB W b d) (x : Int) : DB (W.setCell ⟨b, 3, none⟩ (.int .i64 x)) b { d with n := x } :=
  ⟨by rw [World.size_setCell]; exact h.lt, (put_else _ _ _ _ _ (by omega)).trans h.c0, (put_else _ _ _ _ _ (by omega)).trans h.c1, (put_else _ _ _ _ _ (by omega)).trans h.c2, put_same h.c3 _, (put_else _ _ _ _ _ (by omega)).trans h.c4, fun o => by rw [World.frozen?_setCell]; exact h.f o⟩
theorem DB.putT {W : World} {b : Nat} {d : DD} (h : DB W b d) (x : List UInt8) : DB (W.setCell ⟨b, 4, none⟩ (Bs x)) b { d with t := x } :=
  ⟨by rw [World.size_setCell]; exact h.lt, (put_else _ _ _ _ _ (by omega)).trans h.c0, (put_else _ _ _ _ _ (by omega)).trans h.c1, (put_else _ _ _ _ _ (by omega)).trans h.c2, (put_else _ _ _ _ _ (by omega)).trans h.c3, put_same h.c4 _, fun o => by rw [World.frozen?_setCell]; exact h.f o⟩
/-- Behind a store into one box: all else lies as it lay. -/
theorem grown_set {w W : World} {b k : Nat} {v : Value} (h : Below w.heap.size w W) : w.grownBy (W.setCell ⟨b, k, none⟩ v) (some b) := by
  refine ⟨h.os, h.tape, h.output, by rw [World.size_setCell]; exact h.size, fun i hi hne => ?_⟩
  have hib : i ≠ b := fun e => hne (by rw [e])
  rw [← h.block i hi]
  show (W.heap.modify b _)[i]? = _
  rw [Array.getElem?_modify, if_neg (Ne.symm hib)]
set_option maxHeartbeats 8000000 in
set_option maxRecDepth 100000 in
theorem tell_any {d : DD} {x : Int} (hx : x = 1 ∨ x = 2 ∨ x = 3 ∨ x = 4) (hok : DDok d) (ht : d.t.length ≤ 8192) {w : World} (hD : ScW w) :
    Calls Tryd.prog 17 #[.agg d.enc.toArray, .int .i64 x] w fun e w' => e = .returned (Bs (tellW d x)) ∧ Below w.heap.size w w' := by
  obtain ⟨k, a, b, n, t⟩ := d
  obtain ⟨_, _, ha, hb, hn⟩ := hok
  have HB := Lib.hid (below_new w (.cells (DD.enc ⟨k, a, b, n, t⟩).toArray 24))
  have hDB := DB.new w ⟨k, a, b, n, t⟩ 24
  have hD1 := hD.below HB.out
  unfold DD.enc at HB hDB hD1 ⊢
  dsimp only at HB hDB hD1 ha hb hn ht ⊢
  have hFA := fmtI_any ha hD1
  have hFB := fmtI_any hb hD1
  have hFN := itoaI_any hn hD1
  have hFT := textW_any ht (w.alloc (.cells #[.int .u8 k, .int .i64 a, .int .i64 b, .int .i64 n, Bs t] 24))
  obtain ⟨_, y0, y1, y2, y3, y4, _⟩ := hDB
  dsimp only at y0 y1 y2 y3 y4
  clear hD hD1 ha hb hn ht
  rcases hx with rfl | rfl | rfl | rfl
  · go_enter Tryd.func17, Tryd.ntmps17
    go_wp2_with (go_at_call 34; (with_reducible refine hFA.mono ?_); rintro e w2 ⟨rfl, hb2⟩; have HB2 := Lib.hid hb2; clear hb2)
    go_ret
    exact ⟨rfl, HB.out.trans (HB2.out.mono HB.out.size)⟩
  · go_enter Tryd.func17, Tryd.ntmps17
    go_wp2_with (go_at_call 34; (with_reducible refine hFB.mono ?_); rintro e w2 ⟨rfl, hb2⟩; have HB2 := Lib.hid hb2; clear hb2)
    go_ret
    exact ⟨rfl, HB.out.trans (HB2.out.mono HB.out.size)⟩
  · go_enter Tryd.func17, Tryd.ntmps17
    go_wp2_with (go_at_call 35; (with_reducible refine hFN.mono ?_); rintro e w2 ⟨rfl, hb2⟩; have HB2 := Lib.hid hb2; clear hb2)
    go_ret
    exact ⟨rfl, HB.out.trans (HB2.out.mono HB.out.size)⟩
  · go_enter Tryd.func17, Tryd.ntmps17
    go_wp2_with (go_at_call 36; (with_reducible refine hFT.mono ?_); rintro e w2 ⟨rfl, hb2⟩; have HB2 := Lib.hid hb2; clear hb2)
    go_ret
    exact ⟨rfl, HB.out.trans (HB2.out.mono HB.out.size)⟩
/-- What take answers. -/
def KAns (b : Nat) (d : DD) (x : Int) (s : List UInt8) (w w' : World) (e : Ending) : Prop := ((∃ d2, takeW d x s = some d2 ∧ e = .returned (.bool true) ∧ DB w' b d2) ∨ takeW d x s = none ∧ e = .returned (.bool false)) ∧ w.grownBy w' (some b)
set_option maxHeartbeats 8000000 in
set_option maxRecDepth 100000 in
theorem take_any {d : DD} {b : Nat} {x : Int} {s : List UInt8} (hx : x = 1 ∨ x = 2 ∨ x = 3 ∨ x = 4) (hs : s.length ≤ 100000000) {w : World} (hb : DB w b d) (hD : ScW w) :
    Calls Tryd.prog 23 #[.pointer (some ⟨b, 0, none⟩), .int .i64 x, .string ⟨s.toArray⟩] w fun e w' => KAns b d x s w w' e := by
  have HDB := Lib.hid hb
  have hN := toNum_any hs hD
  have hT := toText_any hs w
  have HKA : Hid (∀ (W : World) (v : Int), Below w.heap.size w W → numB s = some v → x = 1 → KAns b d x s w (W.setCell ⟨b, 1, none⟩ (.int .i64 v)) (.returned (.bool true))) := Lib.hid (fun W v hW hv e => ⟨.inl ⟨_, by unfold takeW; rw [if_neg (by omega), hv, e]; rfl, rfl, (HDB.out.below hW).putA v⟩, grown_set hW⟩)
  have HKB : Hid (∀ (W : World) (v : Int), Below w.heap.size w W → numB s = some v → x = 2 → KAns b d x s w (W.setCell ⟨b, 2, none⟩ (.int .i64 v)) (.returned (.bool true))) := Lib.hid (fun W v hW hv e => ⟨.inl ⟨_, by unfold takeW; rw [if_neg (by omega), hv, e]; rfl, rfl, (HDB.out.below hW).putB v⟩, grown_set hW⟩)
  have HKN : Hid (∀ (W : World) (v : Int), Below w.heap.size w W → numB s = some v → x = 3 → KAns b d x s w (W.setCell ⟨b, 3, none⟩ (.int .i64 v)) (.returned (.bool true))) := Lib.hid (fun W v hW hv e => ⟨.inl ⟨_, by unfold takeW; rw [if_neg (by omega), hv, e]; rfl, rfl, (HDB.out.below hW).putN v⟩, grown_set hW⟩)
  have HNO : Hid (∀ (W : World) (j : Nat) (v : Value), Below w.heap.size w W → numB s = none → (x = 1 ∨ x = 2 ∨ x = 3) → KAns b d x s w (W.setCell ⟨b, j, none⟩ v) (.returned (.bool false))) := Lib.hid (fun W j v hW hv e => ⟨.inr ⟨by unfold takeW; rw [if_neg (by omega), hv]; rfl, rfl⟩, grown_set hW⟩)
  have HKT : Hid (∀ (W : World) (v : List UInt8), Below w.heap.size w W → texB s = some v → x = 4 → KAns b d x s w (W.setCell ⟨b, 4, none⟩ (Bs v)) (.returned (.bool true))) := Lib.hid (fun W v hW hv e => ⟨.inl ⟨_, by unfold takeW; rw [if_pos e, hv]; rfl, rfl, (HDB.out.below hW).putT v⟩, grown_set hW⟩)
  have HNT : Hid (∀ (W : World) (v : Value), Below w.heap.size w W → texB s = none → x = 4 → KAns b d x s w (W.setCell ⟨b, 4, none⟩ v) (.returned (.bool false))) := Lib.hid (fun W v hW hv e => ⟨.inr ⟨by unfold takeW; rw [if_pos e, hv]; rfl, rfl⟩, grown_set hW⟩)
  have HDV : Hid (∀ W, Below w.heap.size w W → DB W b d) := Lib.hid (fun W hW => HDB.out.below hW)
  clear hb hD hs
  unfold NAns at hN
  unfold TAns at hT
  rcases hx with rfl | rfl | rfl | rfl
  · go_enter Tryd.func23, Tryd.ntmps23
    go_upto_region 6 with (go_at_call 42; (with_reducible refine hN.mono ?_); rintro e w2 ⟨⟨v, hv, rfl⟩ | ⟨hv, rfl⟩, hb2⟩ <;> (obtain ⟨_, _, _, _, _, _, f⟩ := HDV.out w2 hb2; have y1 := (HDV.out w2 hb2).c1; have f1 := f 1; have HB2 := Lib.hid hb2; have HV := Lib.hid hv; clear hb2 hv f))
    · go_wp2
      go_ret
      exact HKA.out _ _ HB2.out HV.out (by first | trivial | rfl)
    · go_wp2
      go_ret
      exact HNO.out _ _ _ HB2.out HV.out (by first | trivial | omega)
  · go_enter Tryd.func23, Tryd.ntmps23
    go_upto_region 6 with (go_at_call 42; (with_reducible refine hN.mono ?_); rintro e w2 ⟨⟨v, hv, rfl⟩ | ⟨hv, rfl⟩, hb2⟩ <;> (obtain ⟨_, _, _, _, _, _, f⟩ := HDV.out w2 hb2; have y1 := (HDV.out w2 hb2).c2; have f1 := f 2; have HB2 := Lib.hid hb2; have HV := Lib.hid hv; clear hb2 hv f))
    · go_wp2
      go_ret
      exact HKB.out _ _ HB2.out HV.out (by first | trivial | rfl)
    · go_wp2
      go_ret
      exact HNO.out _ _ _ HB2.out HV.out (by first | trivial | omega)
  · go_enter Tryd.func23, Tryd.ntmps23
    go_upto_region 6 with (go_at_call 42; (with_reducible refine hN.mono ?_); rintro e w2 ⟨⟨v, hv, rfl⟩ | ⟨hv, rfl⟩, hb2⟩ <;> (obtain ⟨_, _, _, _, _, _, f⟩ := HDV.out w2 hb2; have y1 := (HDV.out w2 hb2).c3; have f1 := f 3; have HB2 := Lib.hid hb2; have HV := Lib.hid hv; clear hb2 hv f))
    · go_wp2
      go_ret
      exact HKN.out _ _ HB2.out HV.out (by first | trivial | rfl)
    · go_wp2
      go_ret
      exact HNO.out _ _ _ HB2.out HV.out (by first | trivial | omega)
  · go_enter Tryd.func23, Tryd.ntmps23
    go_upto_region 3 with (go_at_call 41; (with_reducible refine hT.mono ?_); rintro e w2 ⟨⟨v, hv, rfl⟩ | ⟨hv, rfl⟩, hb2⟩ <;> (obtain ⟨_, _, _, _, _, _, f⟩ := HDV.out w2 hb2; have y1 := (HDV.out w2 hb2).c4; have f1 := f 4; have HB2 := Lib.hid hb2; have HV := Lib.hid hv; clear hb2 hv f))
    · go_wp2
      go_ret
      exact HKT.out _ _ HB2.out HV.out (by first | trivial | rfl)
    · go_wp2
      go_ret
      exact HNT.out _ _ HB2.out HV.out (by first | trivial | rfl)
end Go.Proofs.YtfmpbohiahjafaaDoor
