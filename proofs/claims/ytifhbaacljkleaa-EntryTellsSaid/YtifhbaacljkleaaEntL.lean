/- Entries: the law's lives. -/
import Derived.Test.YtifhbaacljkleaaEntV
namespace Go.Proofs.Ytifhbaacljkleaa
open Go.RowKit

theorem ents_two (W : World) (p q : EN) (t : TypeId) : EntsS (W.alloc (.cells #[.int .u8 p.kind, .int .i64 p.st, .int .i64 p.mb, .int .i64 p.fr, .int .u8 q.kind, .int .i64 q.st, .int .i64 q.mb, .int .i64 q.fr] t)) (.slice (some ⟨W.heap.size, 0, none⟩) 2 2) [p, q] := by
  refine ⟨_, 2, rfl, Nat.le_refl _, by unfold maxLen; omega, .inr ⟨W.heap.size, 0, rfl, by simp, fun j hj => ?_⟩⟩
  match j, hj with
  | 0, _ => refine ⟨?_, ?_, ?_, ?_⟩ <;> simp [go_sem]
  | 1, _ => refine ⟨?_, ?_, ?_, ?_⟩ <;> simp [go_sem]
def livE : EN := ⟨1, 258, 3, 0⟩
def livT : List UInt8 := [0, 0, 0, 0, 0, 0, 0, 0, 3, 1, 0, 0, 3, 0, 0, 0]
theorem liv_1 : entBL livE = [3, 1, 0, 0, 3, 0, 0, 0] ∧ entBE livE = 0 := by decide +kernel
theorem liv_2 : entP [3, 1, 0, 0, 3, 0, 0, 0] = livE ∧ entPE [3, 1, 0, 0, 3, 0, 0, 0] = 0 := by decide +kernel
theorem liv_3 : entP [0, 0, 0, 0, 1, 0, 0, 0] = EN.zero ∧ entPE [0, 0, 0, 0, 1, 0, 0, 0] = 6 := by decide +kernel
theorem liv_4 : entBL ⟨2, 0, 0, 1⟩ = [] ∧ entBE ⟨2, 0, 0, 1⟩ = 2 := by decide +kernel
theorem liv_5 : tabL [EN.zero, livE] = livT ∧ tabE [EN.zero, livE] = 0 := by decide +kernel
theorem liv_6 : ptL livT = [EN.zero, livE] ∧ ptE livT = 0 := by decide +kernel
theorem liv_7 : entE ⟨0, 0, 0, 1⟩ = 2 ∧ entE ⟨0, 0, 0, 0⟩ = 0 := by decide +kernel
set_option maxRecDepth 100000 in
set_option maxHeartbeats 2000000 in
theorem ent13Lives_any (w : World) : Calls Try.prog 12 #[] w fun e w' => e = .returned (.bool true) ∧ Below w.heap.size w w' := by
  have hD := entDisk_any 258 3
  have hB1 := entBytes_any livE
  rw [liv_1.1, liv_1.2] at hB1
  have hP1 := entParse_any ⟨#[3, 1, 0, 0, 3, 0, 0, 0]⟩
  rw [show (⟨#[3, 1, 0, 0, 3, 0, 0, 0]⟩ : ByteArray).data.toList = [3, 1, 0, 0, 3, 0, 0, 0] from rfl, liv_2.1, liv_2.2] at hP1
  have hP2 := entParse_any ⟨#[0, 0, 0, 0, 1, 0, 0, 0]⟩
  rw [show (⟨#[0, 0, 0, 0, 1, 0, 0, 0]⟩ : ByteArray).data.toList = [0, 0, 0, 0, 1, 0, 0, 0] from rfl, liv_3.1, liv_3.2] at hP2
  have hB2 := entBytes_any ⟨2, 0, 0, 1⟩
  rw [liv_4.1, liv_4.2] at hB2
  have hT := fun W : World => entTable_any [EN.zero, livE] _ _ (ents_two W EN.zero livE 26)
  rw [liv_5.1, liv_5.2] at hT
  have hPT := entParseTable_any ⟨livT.toArray⟩ (by show 16 ≤ maxLen; unfold maxLen; omega)
  rw [show (⟨livT.toArray⟩ : ByteArray).data.toList = livT from rfl, liv_6.1, liv_6.2] at hPT
  have hS := fun (W : World) (x : Value) (h : EntsS W x [EN.zero, livE]) => rentSame_any [EN.zero, livE] [EN.zero, livE] x _ _ (h.below (below1 W _) (Nat.le_refl _)) (ents_two W EN.zero livE 26)
  have hC1 := entCheck_any ⟨0, 0, 0, 1⟩
  rw [liv_7.1] at hC1
  have hC2 := entCheck_any ⟨0, 0, 0, 0⟩
  rw [liv_7.2] at hC2
  unfold livE EN.zero EN.v at *
  dsimp only at *
  have hHT : ∃ T : ByteArray, T = ⟨livT.toArray⟩ := ⟨_, rfl⟩
  obtain ⟨T, hTT⟩ := hHT
  rw [← hTT] at hT hPT
  clear hTT
  have HS := Lib.hid hS
  clear hS
  go_enter Try.func12, Try.ntmps12
  go_upto_region 2 with (go_at_call 15; with_reducible refine (hD _).mono ?_; rintro e w1 ⟨rfl, hb1⟩; have HB1 := Lib.hid (hb1.alloc hb1.size (.cells #[.int .u8 1, .int .i64 258, .int .i64 3, .int .i64 0] 26)); have HX1 := Lib.hid (EBox.new w1 1 258 3 0 26); clear hb1)
  generalize w1.alloc (.cells #[.int .u8 1, .int .i64 258, .int .i64 3, .int .i64 0] 26) = W1 at HB1 HX1 ⊢
  generalize w1.heap.size = b1 at HX1 ⊢
  obtain ⟨_, x0, x1, x2, x3, _⟩ := HX1.out
  dsimp only at x0 x1 x2 x3
  go_upto_region 3 with (go_at_call 8; with_reducible refine (hB1 _).mono ?_; rintro e w2 ⟨rfl, hb2⟩; have HB2 := Lib.hid (HB1.out.trans (hb2.mono HB1.out.size)); have HX2 := Lib.hid (HX1.out.below hb2); clear hb2)
  clear x0 x1 x2 x3
  go_upto_region 4 with (go_at_call 10; with_reducible refine (hP1 _).mono ?_; rintro e w3 ⟨rfl, hb3⟩; have HB3 := Lib.hid ((HB2.out.trans (hb3.mono HB2.out.size)).alloc (Nat.le_trans HB2.out.size hb3.size) (.cells #[.int .u8 1, .int .i64 258, .int .i64 3, .int .i64 0] 26)); have HX3 := Lib.hid ((HX2.out.below hb3).below (below1 w3 (.cells #[.int .u8 1, .int .i64 258, .int .i64 3, .int .i64 0] 26))); have HY3 := Lib.hid (EBox.new w3 1 258 3 0 26); clear hb3)
  generalize w3.alloc (.cells #[.int .u8 1, .int .i64 258, .int .i64 3, .int .i64 0] 26) = W3 at HB3 HX3 HY3 ⊢
  generalize w3.heap.size = b4 at HY3 ⊢
  go_upto_region 5 with (go_at_call 10; with_reducible refine (hP2 _).mono ?_; rintro e w4 ⟨rfl, hb4⟩; have HB4 := Lib.hid ((HB3.out.trans (hb4.mono HB3.out.size)).alloc (Nat.le_trans HB3.out.size hb4.size) (.cells #[.int .u8 0, .int .i64 0, .int .i64 0, .int .i64 0] 26)); have HX4 := Lib.hid ((HX3.out.below hb4).below (below1 w4 (.cells #[.int .u8 0, .int .i64 0, .int .i64 0, .int .i64 0] 26))); have HY4 := Lib.hid ((HY3.out.below hb4).below (below1 w4 (.cells #[.int .u8 0, .int .i64 0, .int .i64 0, .int .i64 0] 26))); clear hb4)
  generalize w4.alloc (.cells #[.int .u8 0, .int .i64 0, .int .i64 0, .int .i64 0] 26) = W4 at HB4 HX4 HY4 ⊢
  go_upto_region 6 with (go_at_call 8; with_reducible refine (hB2 _).mono ?_; rintro e w5 ⟨rfl, hb5⟩; have HB5 := Lib.hid (HB4.out.trans (hb5.mono HB4.out.size)); have HX5 := Lib.hid (HX4.out.below hb5); have HY5 := Lib.hid (HY4.out.below hb5); clear hb5)
  obtain ⟨_, x0, x1, x2, x3, _⟩ := HX5.out
  dsimp only at x0 x1 x2 x3
  go_upto_region 7 with (go_at_call 17; with_reducible refine (hT _).mono ?_; rintro e w6 ⟨rfl, hb6⟩; have hb6' := (below1 w5 _).trans (hb6.mono (by simp)); have HB6 := Lib.hid (HB5.out.trans (hb6'.mono HB5.out.size)); have HX6 := Lib.hid (HX5.out.below hb6'); have HY6 := Lib.hid (HY5.out.below hb6'); clear hb6 hb6')
  clear x0 x1 x2 x3
  go_upto_region 8 with (go_at_call 19; with_reducible refine (hPT _).mono ?_; rintro e w7 ⟨⟨x, rfl, hx⟩, hb7⟩; have HB7 := Lib.hid (HB6.out.trans (hb7.mono HB6.out.size)); have HX7 := Lib.hid (HX6.out.below hb7); have HY7 := Lib.hid (HY6.out.below hb7); have hSq := HS.out w7 x hx; clear hb7 hx)
  obtain ⟨_, x0, x1, x2, x3, _⟩ := HX7.out
  obtain ⟨_, y0, y1, y2, y3, _⟩ := HY7.out
  dsimp only at x0 x1 x2 x3 y0 y1 y2 y3
  go_wp2_with (first
    | (go_at_call 21; with_reducible refine hSq.mono ?_; rintro e w8 ⟨rfl, hb8⟩; have HB8 := Lib.hid (HB7.out.trans (((below1 w7 _).trans (hb8.mono (by simp))).mono HB7.out.size)); clear hb8 x0 x1 x2 x3 y0 y1 y2 y3)
    | (go_at_call 13; with_reducible refine (hC1 _).mono ?_; rintro e w9 ⟨rfl, hb9⟩; have HB9 := Lib.hid (HB8.out.trans (hb9.mono HB8.out.size)); clear hb9)
    | (go_at_call 13; with_reducible refine (hC2 _).mono ?_; rintro e w10 ⟨rfl, hb10⟩; have HB10 := Lib.hid (HB9.out.trans (hb10.mono HB9.out.size)); clear hb10))
  go_ret
  exact ⟨rfl, HB10.out⟩
end Go.Proofs.Ytifhbaacljkleaa
