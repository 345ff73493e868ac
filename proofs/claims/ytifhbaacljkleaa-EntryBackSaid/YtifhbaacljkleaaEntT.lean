/- Entries: the walks of EntryTells, EntryTables and EntryBack. -/
import Derived.Test.YtifhbaacljkleaaEntL
import Derived.Test.YtifhbaacljkleaaReg
namespace Go.Proofs.Ytifhbaacljkleaa
open Go.RowKit

/-- Three boxes. -/
def E3 (w W : World) (b9 b11 : Nat) (p r : EN) : Prop := Below w.heap.size w W ∧ EBox W w.heap.size p ∧ EBox W b9 r ∧ EBox W b11 r
theorem E3.below {w W W' : World} {b9 b11 : Nat} {p r : EN} (k : E3 w W b9 b11 p r) (hb : Below W.heap.size W W') : E3 w W' b9 b11 p r :=
  ⟨k.1.trans (hb.mono k.1.size), k.2.1.below hb, k.2.2.1.below hb, k.2.2.2.below hb⟩
set_option maxRecDepth 100000 in
set_option maxHeartbeats 4000000 in
theorem entryTells_walk (p : EN) (s : ByteArray) (w : World) : Calls Try.prog 3 #[p.v, .string s] w fun e w' => e = .returned (.bool true) ∧ Below w.heap.size w w' := by
  have hB := entBytes_any p
  have hRB := rentBytes_any p
  have hP := entParse_any s
  have hRP := rentParse_any s
  have hL := ent13Lives_any
  have hC := entCheck_any p
  have hRC := rentCheck_any p
  have hD := entDisk_any p.st p.mb
  have hRD := rentDisk_any p.st p.mb
  generalize (⟨(entBL p).toArray⟩ : ByteArray) = X at hB hRB
  generalize entBE p = xe at hB hRB
  generalize entP s.data.toList = r at hP hRP
  generalize entPE s.data.toList = re at hP hRP
  generalize entE p = ce at hC hRC
  obtain ⟨k, st, mb, fr⟩ := p
  obtain ⟨rk, rs, rm, rf⟩ := r
  unfold EN.v at *
  dsimp only at *
  have HX0 := Lib.hid (EBox.new w k st mb fr 26)
  have HB0 := Lib.hid (below1 w (.cells #[.int .u8 k, .int .i64 st, .int .i64 mb, .int .i64 fr] 26))
  go_enter Try.func3, Try.ntmps3
  go_upto_region 1 with fail
  generalize w.alloc (.cells #[.int .u8 k, .int .i64 st, .int .i64 mb, .int .i64 fr] 26) = W0 at HX0 HB0 ⊢
  obtain ⟨_, x0, x1, x2, x3, _⟩ := HX0.out
  dsimp only at x0 x1 x2 x3
  go_upto_region 2 with (go_at_call 8; with_reducible refine (hB _).mono ?_; rintro e w1 ⟨rfl, hb1⟩; have HB1 := Lib.hid (HB0.out.trans (hb1.mono HB0.out.size)); have HX1 := Lib.hid (HX0.out.below hb1); clear hb1)
  clear x0 x1 x2 x3
  obtain ⟨_, x0, x1, x2, x3, _⟩ := HX1.out
  dsimp only at x0 x1 x2 x3
  go_upto_region 3 with (go_at_call 9; with_reducible refine (hRB _).mono ?_; rintro e w2 ⟨rfl, hb2⟩; have HB2 := Lib.hid (HB1.out.trans (hb2.mono HB1.out.size)); have HX2 := Lib.hid (HX1.out.below hb2); clear hb2)
  clear x0 x1 x2 x3
  go_upto_region 4 with (go_at_call 10; with_reducible refine (hP _).mono ?_; rintro e w3 ⟨rfl, hb3⟩; have HB3 := Lib.hid ((HB2.out.trans (hb3.mono HB2.out.size)).alloc (Nat.le_trans HB2.out.size hb3.size) (.cells #[.int .u8 rk, .int .i64 rs, .int .i64 rm, .int .i64 rf] 26)); have HX3 := Lib.hid ((HX2.out.below hb3).below (below1 w3 (.cells #[.int .u8 rk, .int .i64 rs, .int .i64 rm, .int .i64 rf] 26))); have HY3 := Lib.hid (EBox.new w3 rk rs rm rf 26); clear hb3)
  generalize w3.alloc (.cells #[.int .u8 rk, .int .i64 rs, .int .i64 rm, .int .i64 rf] 26) = W3 at HB3 HX3 HY3 ⊢
  generalize w3.heap.size = b9 at HY3 ⊢
  go_upto_region 5 with (go_at_call 11; with_reducible refine (hRP _).mono ?_; rintro e w4 ⟨rfl, hb4⟩; have HB4 := Lib.hid ((HB3.out.trans (hb4.mono HB3.out.size)).alloc (Nat.le_trans HB3.out.size hb4.size) (.cells #[.int .u8 rk, .int .i64 rs, .int .i64 rm, .int .i64 rf] 26)); have HX4 := Lib.hid ((HX3.out.below hb4).below (below1 w4 (.cells #[.int .u8 rk, .int .i64 rs, .int .i64 rm, .int .i64 rf] 26))); have HY4 := Lib.hid ((HY3.out.below hb4).below (below1 w4 (.cells #[.int .u8 rk, .int .i64 rs, .int .i64 rm, .int .i64 rf] 26))); have HZ4 := Lib.hid (EBox.new w4 rk rs rm rf 26); clear hb4)
  generalize w4.alloc (.cells #[.int .u8 rk, .int .i64 rs, .int .i64 rm, .int .i64 rf] 26) = W4 at HB4 HX4 HY4 HZ4 ⊢
  generalize w4.heap.size = b11 at HZ4 ⊢
  have gd : E3 w W4.drew b9 b11 ⟨k, st, mb, fr⟩ ⟨rk, rs, rm, rf⟩ := E3.below ⟨HB4.out, HX4.out, HY4.out, HZ4.out⟩ ((Below.refl _ _).drew)
  clear HB0 HB1 HB2 HB3 HB4 HX0 HX1 HX2 HX3 HX4 HY3 HY4 HZ4
  obtain ⟨Cx, hCx⟩ : ∃ Cx : World → Prop, Cx = fun W => E3 w W b9 b11 ⟨k, st, mb, fr⟩ ⟨rk, rs, rm, rf⟩ := ⟨_, rfl⟩
  have toC : ∀ W, Cx W → E3 w W b9 b11 ⟨k, st, mb, fr⟩ ⟨rk, rs, rm, rf⟩ := fun W h => by rw [hCx] at h; exact h
  have below : ∀ W W', Cx W → Below W.heap.size W W' → Cx W' := fun W W' h hb => by
    rw [hCx] at h ⊢; exact h.below hb
  have gd2 : Cx W4.drew := by rw [hCx]; exact gd
  have HTC := Lib.hid toC
  have HBC := Lib.hid below
  have a0 : ∀ q : Wk Cx, q.W.cell? ⟨w.heap.size, 0, none⟩ = some (.int .u8 k) := fun q => (toC _ q.h).2.1.c0
  have a1 : ∀ q : Wk Cx, q.W.cell? ⟨w.heap.size, 1, none⟩ = some (.int .i64 st) := fun q => (toC _ q.h).2.1.c1
  have a2 : ∀ q : Wk Cx, q.W.cell? ⟨w.heap.size, 2, none⟩ = some (.int .i64 mb) := fun q => (toC _ q.h).2.1.c2
  have a3 : ∀ q : Wk Cx, q.W.cell? ⟨w.heap.size, 3, none⟩ = some (.int .i64 fr) := fun q => (toC _ q.h).2.1.c3
  have u0 : ∀ q : Wk Cx, q.W.cell? ⟨b9, 0, none⟩ = some (.int .u8 rk) := fun q => (toC _ q.h).2.2.1.c0
  have u1 : ∀ q : Wk Cx, q.W.cell? ⟨b9, 1, none⟩ = some (.int .i64 rs) := fun q => (toC _ q.h).2.2.1.c1
  have u2 : ∀ q : Wk Cx, q.W.cell? ⟨b9, 2, none⟩ = some (.int .i64 rm) := fun q => (toC _ q.h).2.2.1.c2
  have u3 : ∀ q : Wk Cx, q.W.cell? ⟨b9, 3, none⟩ = some (.int .i64 rf) := fun q => (toC _ q.h).2.2.1.c3
  have t0 : ∀ q : Wk Cx, q.W.cell? ⟨b11, 0, none⟩ = some (.int .u8 rk) := fun q => (toC _ q.h).2.2.2.c0
  have t1 : ∀ q : Wk Cx, q.W.cell? ⟨b11, 1, none⟩ = some (.int .i64 rs) := fun q => (toC _ q.h).2.2.2.c1
  have t2 : ∀ q : Wk Cx, q.W.cell? ⟨b11, 2, none⟩ = some (.int .i64 rm) := fun q => (toC _ q.h).2.2.2.c2
  have t3 : ∀ q : Wk Cx, q.W.cell? ⟨b11, 3, none⟩ = some (.int .i64 rf) := fun q => (toC _ q.h).2.2.2.c3
  refine wp_region_wk Cx (by kernel_rfl) (by kernel_rfl) gd2 ?_
  have ne : Nonempty (Wk Cx) := ⟨⟨_, gd2⟩⟩
  clear gd gd2 hCx toC below
  iterate 38 (refine wpQuiet_step (fun K hK => ?_); go_simp; first
    | (refine hK _ ?_; clear hK K)
    | (apply Exists.intro
       refine ⟨fun q => ?_, hK _ ?_⟩
       (first
         | (go_at_call 12; exact (hL _).mono fun _ _ h => ⟨h.1, ⟨_, HBC.out _ _ q.h h.2⟩, rfl⟩)
         | (go_at_call 13; exact (hC _).mono fun _ _ h => ⟨h.1, ⟨_, HBC.out _ _ q.h h.2⟩, rfl⟩)
         | (go_at_call 14; exact (hRC _).mono fun _ _ h => ⟨h.1, ⟨_, HBC.out _ _ q.h h.2⟩, rfl⟩)
         | (go_at_call 15; exact (hD _).mono fun _ _ h => ⟨h.1, ⟨_, HBC.out _ _ q.h h.2⟩, rfl⟩)
         | (go_at_call 16; exact (hRD _).mono fun _ _ h => ⟨h.1, ⟨_, HBC.out _ _ q.h h.2⟩, rfl⟩))
       clear hK K))
  refine wpQuiet_nil ?_
  intro q
  have HQ := Lib.hid (HTC.out _ q.h)
  generalize q.W = w8 at HQ ⊢
  clear a0 a1 a2 a3 u0 u1 u2 u3 t0 t1 t2 t3 ne q
  go_wp2
  go_ret
  exact ⟨rfl, HQ.out.1⟩
end Go.Proofs.Ytifhbaacljkleaa
