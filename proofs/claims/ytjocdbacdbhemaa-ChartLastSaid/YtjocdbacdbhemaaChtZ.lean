/- Charts: the document's own Same, of two that are one; Same of ints. -/
import Derived.Test.YtjocdbacdbhemaaChtXY
import Derived.Test.YtjocdbacdbhemaaRegAll
namespace Go.Proofs.Ytjocdbacdbhemaa
open Go.RowKit

set_option maxRecDepth 100000 in
set_option maxHeartbeats 4000000 in
theorem rchtSame_eq (B : Int) (T : List TB) (va vb : Value) (w : World) (ha : TabsS w va T) (hb : TabsS w vb T) :
    Calls Try.prog 37 #[.agg #[.int .i64 B, va], .agg #[.int .i64 B, vb]] w fun e w' => e = .returned (.bool true) ∧ Below w.heap.size w w' := by
  obtain ⟨PA, capA, rfl, ha1, ha2, ha3⟩ := ha
  obtain ⟨PB, capB, rfl, hb1, hb2, hb3⟩ := hb
  have HA := Lib.hid ha3
  have HBB := Lib.hid hb3
  clear ha3 hb3
  have hX := (B2.new w (.int .i64 B) (.slice PA T.length capA) 44).below (below1 _ (.cells #[.int .i64 B, .slice PB T.length capB] 44))
  have hY := B2.new (w.alloc (.cells #[.int .i64 B, .slice PA T.length capA] 44)) (.int .i64 B) (.slice PB T.length capB) 44
  rw [World.size_alloc] at hY
  have HX0 := Lib.hid hX
  have HY0 := Lib.hid hY
  have HB0 : Hid (Below w.heap.size w ((w.alloc (.cells #[.int .i64 B, .slice PA T.length capA] 44)).alloc (.cells #[.int .i64 B, .slice PB T.length capB] 44))) := Lib.hid ((below1 _ _).alloc (by simp) _)
  clear hX hY
  go_enter Try.func37, Try.ntmps37
  go_upto_region 1 with fail
  generalize (w.alloc (.cells #[.int .i64 B, .slice PA T.length capA] 44)).alloc (.cells #[.int .i64 B, .slice PB T.length capB] 44) = w0 at HX0 HY0 HB0 ⊢
  obtain ⟨_, x0, x1, _, _⟩ := HX0.out
  obtain ⟨_, y0, y1, _, _⟩ := HY0.out
  go_wp2
  clear x0 x1 y0 y1
  go_loopw [23] (fun ix wr => ∃ (j : Nat), j ≤ T.length ∧ ix = .int .i64 (j : Int) ∧ Below w.heap.size w wr ∧ B2 wr w.heap.size (.int .i64 B) (.slice PA T.length capA) ∧ B2 wr (w.heap.size + 1) (.int .i64 B) (.slice PB T.length capB)) (fun ix _ => T.length - (intOf ix).toNat)
  case atStart => exact ⟨0, Nat.zero_le _, rfl, HB0.out, HX0.out, HY0.out⟩
  case round =>
    obtain ⟨j, hj, rfl, hB, hX, hY⟩ := hrel
    have HB := Lib.hid hB
    have HX := Lib.hid hX
    have HY := Lib.hid hY
    clear hB hX hY HX0 HY0 HB0
    by_cases hlt : j < T.length
    · obtain ⟨b, off, rfl, hb, hcell⟩ := HA.out.resolve_left (by intro e; rw [e] at hlt; simp at hlt)
      obtain ⟨b2, off2, rfl, hb2, hcell2⟩ := HBB.out.resolve_left (by intro e; rw [e] at hlt; simp at hlt)
      obtain ⟨u, q0, q1, hu⟩ := (hcell j hlt).below HB.out hb
      obtain ⟨u2, r0, r1, hu2⟩ := (hcell2 j hlt).below HB.out hb2
      have hbl := Nat.lt_of_lt_of_le hb HB.out.size
      have hbl2 := Nat.lt_of_lt_of_le hb2 HB.out.size
      have hxl := HX.out.lt
      have hyl := HY.out.lt
      have hw1 := wrap_succ hlt ha1 ha2
      have hS := fun (W : World) (h : Below wr.heap.size wr W) => rentSame_any (T.getD j TB.zero).l (T.getD j TB.zero).l u u2 W (hu.below h (Nat.le_refl _)) (hu2.below h (Nat.le_refl _))
      rw [show decide ((T.getD j TB.zero).l = (T.getD j TB.zero).l) = true from decide_eq_true rfl] at hS
      clear hcell hcell2 hu hu2
      generalize (T.getD j TB.zero).at' = a at q0 r0
      obtain ⟨_, x0, x1, _, _⟩ := HX.out
      obtain ⟨_, y0, y1, _, _⟩ := HY.out
      go_upto_region 6 with fail
      obtain ⟨Cx, hCx⟩ : ∃ Cx : World → Prop, Cx = fun W => Below wr.heap.size wr W := ⟨_, rfl⟩
      have toC : ∀ W, Cx W → Below wr.heap.size wr W := fun W h => by rw [hCx] at h; exact h
      have below : ∀ W W', Cx W → Below W.heap.size W W' → Cx W' := fun W W' h hb => by
        rw [hCx] at h ⊢; exact h.trans (hb.mono h.size)
      have gd2 : Cx wr.drew := by rw [hCx]; exact (Below.refl _ _).drew
      have HTC := Lib.hid toC
      have HBC := Lib.hid below
      have a0 : ∀ q : Wk Cx, q.W.cell? ⟨w.heap.size, 0, none⟩ = some (.int .i64 B) := fun q => ((toC _ q.h).cell (p := ⟨w.heap.size, 0, none⟩) hxl).trans x0
      have a1 : ∀ q : Wk Cx, q.W.cell? ⟨w.heap.size, 1, none⟩ = some (.slice (some ⟨b, off, none⟩) T.length capA) := fun q => ((toC _ q.h).cell (p := ⟨w.heap.size, 1, none⟩) hxl).trans x1
      have b0 : ∀ q : Wk Cx, q.W.cell? ⟨w.heap.size + 1, 0, none⟩ = some (.int .i64 B) := fun q => ((toC _ q.h).cell (p := ⟨w.heap.size + 1, 0, none⟩) hyl).trans y0
      have b1 : ∀ q : Wk Cx, q.W.cell? ⟨w.heap.size + 1, 1, none⟩ = some (.slice (some ⟨b2, off2, none⟩) T.length capB) := fun q => ((toC _ q.h).cell (p := ⟨w.heap.size + 1, 1, none⟩) hyl).trans y1
      have c0 : ∀ q : Wk Cx, q.W.cell? ⟨b, off + j * 2, none⟩ = some (.int .i64 a) := fun q => ((toC _ q.h).cell (p := ⟨b, off + j * 2, none⟩) hbl).trans q0
      have c1 : ∀ q : Wk Cx, q.W.cell? ⟨b, off + j * 2 + 1, none⟩ = some u := fun q => ((toC _ q.h).cell (p := ⟨b, off + j * 2 + 1, none⟩) hbl).trans q1
      have e0 : ∀ q : Wk Cx, q.W.cell? ⟨b2, off2 + j * 2, none⟩ = some (.int .i64 a) := fun q => ((toC _ q.h).cell (p := ⟨b2, off2 + j * 2, none⟩) hbl2).trans r0
      have e1 : ∀ q : Wk Cx, q.W.cell? ⟨b2, off2 + j * 2 + 1, none⟩ = some u2 := fun q => ((toC _ q.h).cell (p := ⟨b2, off2 + j * 2 + 1, none⟩) hbl2).trans r1
      refine wp_region_wk Cx (by kernel_rfl) (by kernel_rfl) gd2 ?_
      have ne : Nonempty (Wk Cx) := ⟨⟨_, gd2⟩⟩
      clear gd2 hCx toC below x0 x1 y0 y1 q0 q1 r0 r1
      iterate 29 (refine wpQuiet_step (fun K hK => ?_); go_simp; first
        | (refine hK _ ?_; clear hK K)
        | (apply Exists.intro
           refine ⟨fun q => ?_, hK _ ?_⟩
           (go_at_call 21; exact (hS _ (HTC.out _ q.h)).mono fun _ _ h => ⟨h.1, ⟨_, HBC.out _ _ q.h h.2⟩, rfl⟩)
           clear hK K))
      refine wpQuiet_nil ?_
      intro q
      have HQ := Lib.hid (HTC.out _ q.h)
      have HB3 := Lib.hid (HB.out.trans (HQ.out.mono HB.out.size))
      have HX3 := Lib.hid (HX.out.ap (Ap.of_below (S := fun _ => False) HQ.out) id)
      have HY3 := Lib.hid (HY.out.ap (Ap.of_below (S := fun _ => False) HQ.out) id)
      generalize q.W = w8 at HQ HB3 HX3 HY3 ⊢
      clear a0 a1 b0 b1 c0 c1 e0 e1 ne q
      go_wp2
      rw [hw1]
      clear hw1
      go_roundw
      case rel => exact ⟨j + 1, by omega, by go_num, HB3.out, HX3.out, HY3.out⟩
      case measure => simp [intOf]; omega
    · obtain rfl : j = T.length := by omega
      go_wp2
      go_ret
      exact ⟨rfl, HB.out⟩
end Go.Proofs.Ytjocdbacdbhemaa
