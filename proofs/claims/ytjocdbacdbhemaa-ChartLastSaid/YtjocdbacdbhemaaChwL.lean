/- Charts: the law's lives. -/
import Derived.Test.YtjocdbacdbhemaaChuH
import Derived.Test.YtjocdbacdbhemaaChvL
import Derived.Test.YtjocdbacdbhemaaChvW
namespace Go.Proofs.Ytjocdbacdbhemaa
open Go.RowKit

theorem EBox.lt {W : World} {b : Nat} {p : EN} (h : EBox W b p) : b < W.heap.size := by obtain ⟨h1, _⟩ := h; exact h1
theorem idx_new (W : World) (x : Int) (t : TypeId) : IdxS (W.alloc (.cells #[.int .i64 x] t)) (.slice (some ⟨W.heap.size, 0, none⟩) 1 1) [x] := by
  refine ⟨_, 1, rfl, Nat.le_refl _, by unfold maxLen; omega, .inr ⟨W.heap.size, 0, rfl, by simp, fun j hj => ?_⟩⟩
  have hj : j < 1 := hj
  obtain rfl : j = 0 := by omega
  exact (cell_of_row _ _ _ #[.int .i64 x] t (0, 0) (heap_alloc_new W _)).trans rfl
theorem ents_new (W : World) (p : EN) (t : TypeId) : EntsS (W.alloc (.cells #[.int .u8 p.kind, .int .i64 p.st, .int .i64 p.mb, .int .i64 p.fr] t)) (.slice (some ⟨W.heap.size, 0, none⟩) 1 1) [p] := by
  refine ⟨_, 1, rfl, Nat.le_refl _, by unfold maxLen; omega, .inr ⟨W.heap.size, 0, rfl, by simp, fun j hj => ?_⟩⟩
  have hj : j < 1 := hj
  obtain rfl : j = 0 := by omega
  refine ⟨?_, ?_, ?_, ?_⟩ <;> simp [go_sem]
def lvX : EN := ⟨1, 1, 0, 0⟩
def lvY : EN := ⟨1, 2, 0, 0⟩
def lvT : List TB := [⟨2, [EN.zero, lvX, EN.zero, EN.zero]⟩]
def lvU : List TB := [⟨2, [EN.zero, lvY, EN.zero, EN.zero]⟩]
theorem lv_1 : setC 4 ⟨10, []⟩ 9 lvX = ⟨10, lvT⟩ ∧ setRE 4 ⟨10, []⟩ 9 lvX = 0 := ⟨by kernel_rfl, by kernel_rfl⟩
theorem lv_2 : getR 4 ⟨10, lvT⟩ 9 = lvX ∧ getRE 4 ⟨10, lvT⟩ 9 = 0 := ⟨by kernel_rfl, by kernel_rfl⟩
theorem lv_3 : getR 4 ⟨10, lvT⟩ 8 = EN.zero ∧ getRE 4 ⟨10, lvT⟩ 8 = 0 := ⟨by kernel_rfl, by kernel_rfl⟩
theorem lv_4 : getR 4 ⟨10, lvT⟩ 10 = EN.zero ∧ getRE 4 ⟨10, lvT⟩ 10 = 1 := ⟨by kernel_rfl, by kernel_rfl⟩
theorem lv_5 : swapC 4 ⟨10, lvT⟩ lvX lvY = ⟨10, lvU⟩ ∧ swapN 4 ⟨10, lvT⟩ lvX lvY = 1 ∧ swapE 4 ⟨10, lvT⟩ lvY = 0 := ⟨by kernel_rfl, by kernel_rfl, by kernel_rfl⟩
theorem lv_6 : atC 4 ⟨10, lvU⟩ = [9] ∧ enC 4 ⟨10, lvU⟩ = [lvY] ∧ allErr 4 ⟨10, lvU⟩ = 0 := ⟨by kernel_rfl, by kernel_rfl, by kernel_rfl⟩
theorem lv_7 : resC 4 ⟨10, lvT⟩ 9 = ⟨9, []⟩ ∧ resE 4 ⟨10, lvT⟩ 9 = 0 := ⟨by kernel_rfl, by kernel_rfl⟩
theorem lv_8 : newC 10 = ⟨10, []⟩ ∧ newE 10 = 0 ∧ newC (-1) = CH.zero ∧ newE (-1) = 1 := ⟨by kernel_rfl, by kernel_rfl, by kernel_rfl, by kernel_rfl⟩
theorem lv_9 : chtE 0 ⟨10, lvT⟩ = 2 := by kernel_rfl
theorem B2.set2 {W : World} {b : Nat} {v0 v1 : Value} (k : B2 W b v0 v1) (u0 u1 : Value) : B2 ((W.setCell ⟨b, 0, none⟩ u0).setCell ⟨b, 1, none⟩ u1) b u0 u1 :=
  ⟨by rw [World.size_setCell, World.size_setCell]; exact k.lt, (cell_putne _ _ _ _ _ (by omega)).trans (cell_put k.c0 _), cell_put ((cell_putne _ _ _ _ _ (by omega)).trans k.c1) _, (World.frozen?_setCell _ _ _ _).trans ((World.frozen?_setCell _ _ _ _).trans k.f0), (World.frozen?_setCell _ _ _ _).trans ((World.frozen?_setCell _ _ _ _).trans k.f1)⟩
/-- What lies behind the first steps. -/
structure LV (w W : World) (b1 b2 b3 : Nat) (v : Value) : Prop where
  bl : Below w.heap.size w W
  x : EBox W b1 lvX
  y : EBox W b2 lvY
  c : B2 W b3 (.int .i64 10) v
  t : TabsS W v lvT
theorem LV.below {w W W' : World} {b1 b2 b3 : Nat} {v : Value} (k : LV w W b1 b2 b3 v) (h : Below W.heap.size W W') : LV w W' b1 b2 b3 v := ⟨k.bl.trans (h.mono k.bl.size), k.x.below h, k.y.below h, k.c.below h, k.t.below h⟩
theorem lv_tab {W : World} {A : Option Addr} {cap : Nat} (h : TabsS W (.slice A 1 cap) lvT) : ∃ b off A2 cap2, A = some ⟨b, off, none⟩ ∧ ∀ W', Below W.heap.size W W' → W'.cell? ⟨b, off, none⟩ = some (.int .i64 2) ∧ W'.cell? ⟨b, off + 1, none⟩ = some (.slice A2 4 cap2) := by
  obtain ⟨A', cap', hv, _, _, h3⟩ := h
  injection hv with e1 _ _
  subst e1
  obtain ⟨b, off, rfl, hb, hc⟩ := h3.resolve_left (fun e => by cases e)
  obtain ⟨u, q0, q1, A2, cap2, rfl, _⟩ := hc 0 (by decide)
  rw [Nat.zero_mul, Nat.add_zero] at q0 q1
  exact ⟨b, off, A2, cap2, rfl, fun W' h => ⟨(h.cell (p := ⟨b, off, none⟩) hb).trans q0, (h.cell (p := ⟨b, off + 1, none⟩) hb).trans q1⟩⟩
set_option maxRecDepth 100000 in
set_option maxHeartbeats 4000000 in
theorem cht14Lives_any (w : World) : Calls Try.prog 22 #[] w fun e w' => e = .returned (.bool true) ∧ Below w.heap.size w w' := by
  have hD1 := entDisk_any 1 0
  have hD2 := entDisk_any 2 0
  have hN1 := chtNew_any 10
  rw [lv_8.1, lv_8.2.1] at hN1
  have hN2 := chtNew_any (-1)
  rw [lv_8.2.2.1, lv_8.2.2.2] at hN2
  have hS := fun (W : World) => chtSet_any 4 10 9 [] (.slice none 0 0) lvX W (TabsS.none W)
  rw [lv_1.1, lv_1.2] at hS
  have hG9 := fun (v : Value) (W : World) h => chtGet_any 4 10 9 lvT v W h
  rw [lv_2.1, lv_2.2] at hG9
  have hG8 := fun (v : Value) (W : World) h => chtGet_any 4 10 8 lvT v W h
  rw [lv_3.1, lv_3.2] at hG8
  have hG10 := fun (v : Value) (W : World) h => chtGet_any 4 10 10 lvT v W h
  rw [lv_4.1, lv_4.2] at hG10
  have hSw := fun (v : Value) (W : World) h => chtSwap_any 4 10 lvT v lvX lvY W h
  rw [lv_5.1, lv_5.2.1, lv_5.2.2] at hSw
  have hA := fun (v : Value) (W : World) h => chtAll_any 4 10 lvU v W h
  rw [lv_6.1, lv_6.2.1, lv_6.2.2] at hA
  have hR := fun (v : Value) (W : World) h => chtResize_any 4 10 9 lvT v W h
  rw [lv_7.1, lv_7.2] at hR
  have hC0 := fun (v : Value) (W : World) h => chtCheck_any 0 10 lvT v W h
  rw [lv_9] at hC0
  have hI := fun (a : Value) (W : World) (h : IdxS W a [9]) => idxSame_any (h.below (below1 W (.cells #[.int .i64 9] 3)) (Nat.le_refl _)) (idx_new W 9 3)
  have hE := fun (b : Value) (W : World) (h : EntsS W b [lvY]) => rentSame_any [lvY] [lvY] b _ _ (h.below (below1 W _) (Nat.le_refl _)) (ents_new W lvY 26)
  rw [decide_eq_true rfl] at hI
  rw [decide_eq_true rfl] at hE
  unfold CH.zero EN.v at *
  dsimp only at *
  simp only [lvX, lvY, EN.zero] at hS hG9 hG8 hG10 hSw hE
  go_enter Try.func22, Try.ntmps22
  go_upto_region 2 with (go_at_call 15; (with_reducible refine (hD1 _).mono ?_); rintro e w1 ⟨rfl, hb1⟩; have HB1 := Lib.hid (hb1.alloc hb1.size (.cells #[.int .u8 1, .int .i64 1, .int .i64 0, .int .i64 0] 26)); have HX1 := Lib.hid (EBox.new w1 1 1 0 0 26); clear hb1)
  generalize w1.alloc (.cells #[.int .u8 1, .int .i64 1, .int .i64 0, .int .i64 0] 26) = W1 at HB1 HX1 ⊢
  generalize w1.heap.size = b1 at HX1 ⊢
  go_upto_region 3 with (go_at_call 15; (with_reducible refine (hD2 _).mono ?_); rintro e w2 ⟨rfl, hb2⟩; have HB2 := Lib.hid ((HB1.out.trans (hb2.mono HB1.out.size)).alloc (Nat.le_trans HB1.out.size hb2.size) (.cells #[.int .u8 1, .int .i64 2, .int .i64 0, .int .i64 0] 26)); have HX2 := Lib.hid ((HX1.out.below hb2).below (below1 w2 (.cells #[.int .u8 1, .int .i64 2, .int .i64 0, .int .i64 0] 26))); have HY2 := Lib.hid (EBox.new w2 1 2 0 0 26); clear hb2)
  generalize w2.alloc (.cells #[.int .u8 1, .int .i64 2, .int .i64 0, .int .i64 0] 26) = W2 at HB2 HX2 HY2 ⊢
  generalize w2.heap.size = b2 at HY2 ⊢
  go_upto_region 4 with (go_at_call 33; (with_reducible refine (hN1 _).mono ?_); rintro e w3 ⟨rfl, _, hb3⟩; have HB3 := Lib.hid ((HB2.out.trans (hb3.mono HB2.out.size)).alloc (Nat.le_trans HB2.out.size hb3.size) (.cells #[.int .i64 10, .slice none 0 0] 44)); have HX3 := Lib.hid ((HX2.out.below hb3).below (below1 w3 (.cells #[.int .i64 10, .slice none 0 0] 44))); have HY3 := Lib.hid ((HY2.out.below hb3).below (below1 w3 (.cells #[.int .i64 10, .slice none 0 0] 44))); have HC3 := Lib.hid (B2.new w3 (.int .i64 10) (.slice none 0 0) 44); have HN3 : Hid (b1 < w3.heap.size ∧ b2 < w3.heap.size) := Lib.hid ⟨Nat.lt_of_lt_of_le HX2.out.lt hb3.size, Nat.lt_of_lt_of_le HY2.out.lt hb3.size⟩; have HN4 : Hid (w.heap.size ≤ w3.heap.size) := Lib.hid (Nat.le_trans HB2.out.size hb3.size); clear hb3)
  generalize w3.alloc (.cells #[.int .i64 10, .slice none 0 0] 44) = W3 at HB3 HX3 HY3 HC3 ⊢
  generalize w3.heap.size = b3 at HC3 HN3 HN4 ⊢
  obtain ⟨_, x0, x1, x2, x3, _⟩ := HX3.out
  obtain ⟨_, c0, c1, _, _⟩ := HC3.out
  dsimp only at x0 x1 x2 x3
  go_upto_region 5 with (go_at_call 25; (with_reducible refine (hS _).mono ?_); rintro e w4 ⟨tv, rfl, htv, hb4⟩; have HT4 := Lib.hid htv; have HX4 := Lib.hid (HX3.out.below hb4); have HY4 := Lib.hid (HY3.out.below hb4); have HC4 := Lib.hid (HC3.out.below hb4); have HB4 := Lib.hid (HB3.out.trans (hb4.mono HB3.out.size)); clear hb4 htv c0 c1; obtain ⟨A, cap, hvv⟩ := HT4.out.tabs.form; rw [show lvT.length = 1 from rfl] at hvv; subst hvv; obtain ⟨_, c0, c1, f0, f1⟩ := HC4.out)
  have hap : Ap (fun q => q = b3) w4 ((w4.setCell ⟨b3, 0, none⟩ (.int .i64 10)).setCell ⟨b3, 1, none⟩ (.slice A 1 cap)) := (ap_put w4 b3 0 _).trans (ap_put _ b3 1 _)
  have H5 : Hid (LV w ((w4.setCell ⟨b3, 0, none⟩ (.int .i64 10)).setCell ⟨b3, 1, none⟩ (.slice A 1 cap)) b1 b2 b3 (.slice A 1 cap)) := Lib.hid ⟨HB4.out.trans (hap.below HB4.out.size (fun q e => by rw [e]; exact HN4.out)), HX4.out.ap hap (by have := HN3.out.1; omega), HY4.out.ap hap (by have := HN3.out.2; omega), HC4.out.set2 _ _, HT4.out _ (hap.weak (fun q e => by rw [e]; exact HC3.out.lt))⟩
  clear hap c0 c1 f0 f1 x0 x1 x2 x3 HX1 HB1 HX2 HB2 HY2 HB3 HX3 HY3 HX4 HY4 HC4 HB4 HT4 HN3 HN4 HC3
  generalize (w4.setCell ⟨b3, 0, none⟩ (.int .i64 10)).setCell ⟨b3, 1, none⟩ (.slice A 1 cap) = W5 at H5 ⊢
  obtain ⟨_, c0, c1, _, _⟩ := H5.out.c
  go_upto_region 6 with (go_at_call 23; (with_reducible refine (hG9 _ _ H5.out.t).mono ?_); rintro e w6 ⟨rfl, hb⟩; have H6 := Lib.hid ((H5.out.below hb).below (below1 w6 (.cells #[.int .u8 1, .int .i64 1, .int .i64 0, .int .i64 0] 26))); have P6 := Lib.hid (EBox.new w6 1 1 0 0 26); clear hb c0 c1)
  generalize w6.alloc (.cells #[.int .u8 1, .int .i64 1, .int .i64 0, .int .i64 0] 26) = W6 at H6 P6 ⊢
  generalize w6.heap.size = b6 at P6 ⊢
  obtain ⟨_, c0, c1, _, _⟩ := H6.out.c
  go_upto_region 7 with (go_at_call 23; (with_reducible refine (hG8 _ _ H6.out.t).mono ?_); rintro e w7 ⟨rfl, hb⟩; have H7 := Lib.hid ((H6.out.below hb).below (below1 w7 (.cells #[.int .u8 0, .int .i64 0, .int .i64 0, .int .i64 0] 26))); have P7 := Lib.hid ((P6.out.below hb).below (below1 w7 (.cells #[.int .u8 0, .int .i64 0, .int .i64 0, .int .i64 0] 26))); have Q7 := Lib.hid (EBox.new w7 0 0 0 0 26); clear hb c0 c1)
  generalize w7.alloc (.cells #[.int .u8 0, .int .i64 0, .int .i64 0, .int .i64 0] 26) = W7 at H7 P7 Q7 ⊢
  generalize w7.heap.size = b7 at Q7 ⊢
  obtain ⟨_, c0, c1, _, _⟩ := H7.out.c
  go_upto_region 8 with (go_at_call 23; (with_reducible refine (hG10 _ _ H7.out.t).mono ?_); rintro e w8 ⟨rfl, hb⟩; have hb2 := hb.trans ((below1 w8 (.cells #[.int .u8 0, .int .i64 0, .int .i64 0, .int .i64 0] 26)).mono hb.size); have H8 := Lib.hid (H7.out.below hb2); have P8 := Lib.hid (P7.out.below hb2); have Q8 := Lib.hid (Q7.out.below hb2); clear hb hb2 c0 c1)
  generalize w8.alloc (.cells #[.int .u8 0, .int .i64 0, .int .i64 0, .int .i64 0] 26) = W8 at H8 P8 Q8 ⊢
  obtain ⟨_, c0, c1, _, _⟩ := H8.out.c
  obtain ⟨_, x0, x1, x2, x3, _⟩ := H8.out.x
  obtain ⟨_, y0, y1, y2, y3, _⟩ := H8.out.y
  simp only [lvX, lvY] at x0 x1 x2 x3 y0 y1 y2 y3
  go_upto_region 9 with (go_at_call 31; (with_reducible refine (hSw _ _ H8.out.t).mono ?_); rintro e w9 ⟨td, rfl, htd, hb⟩; obtain ⟨Ad, capd, hvv⟩ := htd.tabs.form; rw [show lvU.length = 1 from rfl] at hvv; subst hvv; have hb2 := hb.trans ((below1 w9 (.cells #[.int .i64 10, .slice Ad 1 capd] 44)).mono hb.size); have H9 := Lib.hid (H8.out.below hb2); have P9 := Lib.hid (P8.out.below hb2); have Q9 := Lib.hid (Q8.out.below hb2); have D9 := Lib.hid (B2.new w9 (.int .i64 10) (.slice Ad 1 capd) 44); have T9 := Lib.hid (htd.tabs.below (below1 w9 (.cells #[.int .i64 10, .slice Ad 1 capd] 44))); clear hb hb2 htd c0 c1 x0 x1 x2 x3 y0 y1 y2 y3)
  generalize w9.alloc (.cells #[.int .i64 10, .slice Ad 1 capd] 44) = W9 at H9 P9 Q9 D9 T9 ⊢
  generalize w9.heap.size = b9 at D9 ⊢
  obtain ⟨_, c0, c1, _, _⟩ := D9.out
  go_upto_region 10 with (go_at_call 29; (with_reducible refine (hA _ _ T9.out).mono ?_); rintro e w10 ⟨la, le, rfl, hi, he, hb⟩; have H10 := Lib.hid (H9.out.below hb); have P10 := Lib.hid (P9.out.below hb); have Q10 := Lib.hid (Q9.out.below hb); have I10 := Lib.hid hi; have E10 := Lib.hid he; clear hb hi he c0 c1)
  obtain ⟨_, c0, c1, _, _⟩ := H10.out.c
  go_upto_region 11 with (go_at_call 27; (with_reducible refine (hR _ _ H10.out.t).mono ?_); rintro e w11 ⟨te, rfl, hte, hb⟩; obtain ⟨Ae, cape, hvv⟩ := hte.tabs.form; rw [show ([] : List TB).length = 0 from rfl] at hvv; subst hvv; have hb2 := hb.trans ((below1 w11 (.cells #[.int .i64 9, .slice Ae 0 cape] 44)).mono hb.size); have H11 := Lib.hid (H10.out.below hb2); have P11 := Lib.hid (P10.out.below hb2); have Q11 := Lib.hid (Q10.out.below hb2); have I11 := Lib.hid (I10.out.below hb2 (Nat.le_refl _)); have E11 := Lib.hid (E10.out.below hb2 (Nat.le_refl _)); have D11 := Lib.hid (B2.new w11 (.int .i64 9) (.slice Ae 0 cape) 44); clear hb hb2 hte c0 c1)
  generalize w11.alloc (.cells #[.int .i64 9, .slice Ae 0 cape] 44) = W11 at H11 P11 Q11 I11 E11 D11 ⊢
  generalize w11.heap.size = b11 at D11 ⊢
  obtain ⟨tb, tof, A2, cap2, rfl, htab⟩ := lv_tab H11.out.t
  have HTB := Lib.hid htab
  clear htab
  go_wp2_with (first
    | (go_at_call 33; (with_reducible refine (hN2 _).mono ?_); rintro e w12 ⟨rfl, _, hb⟩; have hb2 := hb.trans ((below1 w12 (.cells #[.int .i64 0, .slice none 0 0] 44)).mono hb.size); have H12 := Lib.hid (H11.out.below hb2); have I12 := Lib.hid (I11.out.below hb2 (Nat.le_refl _)); have hI12 := hI _ _ I12.out; simp only [World.size_alloc] at hI12; have E12 := Lib.hid (E11.out.below hb2 (Nat.le_refl _)); have D12 := Lib.hid (D11.out.below hb2); (obtain ⟨_, p0, p1, p2, p3, _⟩ := P11.out.below hb2); (obtain ⟨_, q0, q1, q2, q3, _⟩ := Q11.out.below hb2); (obtain ⟨t0, t1⟩ := HTB.out _ hb2); (obtain ⟨_, c0, c1, _, _⟩ := H12.out.c); (obtain ⟨_, x0, x1, x2, x3, _⟩ := H12.out.x); simp only [lvX] at x0 x1 x2 x3; dsimp only at p0 p1 p2 p3 q0 q1 q2 q3; clear hb hb2)
    | (go_at_call 38; (with_reducible refine hI12.mono ?_); rintro e w13 ⟨rfl, hb⟩; have hb2 := (below1 _ (.cells #[.int .i64 9] 3)).trans (hb.mono (by simp)); clear hI12; have H13 := Lib.hid (H12.out.below hb2); have E13 := Lib.hid (E12.out.below hb2 (Nat.le_refl _)); have D13 := Lib.hid (D12.out.below hb2); clear hb hb2 p0 p1 p2 p3 q0 q1 q2 q3 t0 t1 c0 c1 x0 x1 x2 x3; (obtain ⟨_, y0, y1, y2, y3, _⟩ := H13.out.y); simp only [lvY] at y0 y1 y2 y3)
    | (go_at_call 21; (with_reducible refine (hE _ _ E13.out).mono ?_); rintro e w14 ⟨rfl, hb⟩; have hb2 := (below1 _ (.cells #[.int .u8 1, .int .i64 2, .int .i64 0, .int .i64 0] 26)).trans (hb.mono (by simp)); have H14 := Lib.hid (H13.out.below hb2); have D14 := Lib.hid (D13.out.below hb2); clear hb hb2 y0 y1 y2 y3; (obtain ⟨_, c0, c1, _, _⟩ := H14.out.c); (obtain ⟨_, d0, d1, _, _⟩ := D14.out))
    | (go_at_call 35; (with_reducible refine (hC0 _ _ H14.out.t).mono ?_); rintro e w15 ⟨rfl, hb⟩; have H15 := Lib.hid (H14.out.below hb); clear hb c0 c1 d0 d1))
  go_ret
  exact ⟨rfl, H15.out.bl⟩
end Go.Proofs.Ytjocdbacdbhemaa
