/- Fields: what is asked of all three laws (lives of the law). -/
import Derived.Test.YtjhpheepimbbdaaFldK
namespace Go.Proofs.Ytjhpheepimbbdaa
open Go.RowKit

theorem num_two (W W' : World) (t : TypeId) (x y : Value) (hW : Below (W.heap.size + 1) (W.alloc (.cells #[x, y] t)) W') : NumV W' (.slice (some ⟨W.heap.size, 0, none⟩) 2 2) [x, y] := by
  have h0 : NumV (W.alloc (.cells #[x, y] t)) (.slice (some ⟨W.heap.size, 0, none⟩) 2 2) [x, y] := by
    refine ⟨_, 2, rfl, Nat.le_refl _, (by unfold maxLen; omega), .inr ⟨W.heap.size, 0, rfl, by simp, fun j hj => ?_⟩⟩
    rw [Nat.zero_add, cell_of_row _ _ _ _ t (0, 0) (heap_alloc_new W _)]
    simp
  exact h0.below hW (by simp)
def sA : ByteArray := ⟨#[4, 3, 2, 1]⟩
def sP : ByteArray := ⟨#[1, 0, 0, 0, 2, 0, 0, 0, 3, 0, 0, 0]⟩
theorem lv1 (W : World) : Calls Try.prog 6 #[.int .i64 4, .int .u64 16909060] W fun e w' => e = .returned (.tuple #[.string ⟨#[4, 3, 2, 1]⟩, .int .i64 0]) ∧ Below W.heap.size W w' := by
  have h := fldPut_any 4 16909060 W
  rw [show putS 4 16909060 = [4, 3, 2, 1] by decide, show putE 4 16909060 = 0 by decide] at h
  exact h
theorem lv3 (W : World) : Calls Try.prog 6 #[.int .i64 1, .int .u64 256] W fun e w' => e = .returned (.tuple #[.string ⟨#[]⟩, .int .i64 1]) ∧ Below W.heap.size W w' := by
  have h := fldPut_any 1 256 W
  rw [show putS 1 256 = [] by decide, show putE 1 256 = 1 by decide] at h
  exact h
theorem lv5 (W : World) : Calls Try.prog 6 #[.int .i64 3, .int .u64 0] W fun e w' => e = .returned (.tuple #[.string ⟨#[]⟩, .int .i64 1]) ∧ Below W.heap.size W w' := by
  have h := fldPut_any 3 0 W
  rw [show putS 3 0 = [] by decide, show putE 3 0 = 1 by decide] at h
  exact h
theorem lv2 (W : World) : Calls Try.prog 8 #[.int .i64 2, .string ⟨#[4, 3, 2, 1]⟩] W fun e w' => e = .returned (.tuple #[.int .u64 772, .int .i64 0]) ∧ Below W.heap.size W w' := by
  have h := fldGet_any 2 ⟨#[4, 3, 2, 1]⟩ W
  rw [show getN 2 (⟨#[4, 3, 2, 1]⟩ : ByteArray).data.toList = 772 by decide, show getE 2 (⟨#[4, 3, 2, 1]⟩ : ByteArray).data.toList = 0 by decide] at h
  exact h
theorem lv4 (W : World) : Calls Try.prog 8 #[.int .i64 8, .string ⟨#[4, 3, 2, 1]⟩] W fun e w' => e = .returned (.tuple #[.int .u64 0, .int .i64 5]) ∧ Below W.heap.size W w' := by
  have h := fldGet_any 8 ⟨#[4, 3, 2, 1]⟩ W
  rw [show getN 8 (⟨#[4, 3, 2, 1]⟩ : ByteArray).data.toList = 0 by decide, show getE 8 (⟨#[4, 3, 2, 1]⟩ : ByteArray).data.toList = 5 by decide] at h
  exact h
theorem lv6 (W : World) : Calls Try.prog 17 #[.string ⟨#[4, 3, 2, 1]⟩, .slice (some ⟨W.heap.size, 0, none⟩) 2 2] (W.alloc (.cells #[.int .i64 1, .int .i64 2] 3)) fun e w' => (∃ x, e = .returned (.tuple #[x, .string ⟨#[1]⟩, .int .i64 0]) ∧ NumV w' x (u64s [4, 515])) ∧ Below W.heap.size W w' := by
  have h := fldAll_any ⟨#[4, 3, 2, 1]⟩ [1, 2] _ (W.alloc (.cells #[.int .i64 1, .int .i64 2] 3)) (num_two W _ _ _ _ (Below.refl _ _)) (by decide)
  rw [show allT (⟨#[4, 3, 2, 1]⟩ : ByteArray).data.toList [1, 2] = [1] by decide, show allE (⟨#[4, 3, 2, 1]⟩ : ByteArray).data.toList [1, 2] = 0 by decide, show allV (⟨#[4, 3, 2, 1]⟩ : ByteArray).data.toList [1, 2] = [4, 515] by decide] at h
  refine h.mono ?_
  rintro e w' ⟨⟨x, he, hx⟩, hb⟩
  exact ⟨⟨x, he, hx.num⟩, ((Below.refl _ _).alloc (Nat.le_refl _) _).trans (hb.mono (by simp))⟩
theorem lv7 (W : World) : Calls Try.prog 10 #[.string ⟨#[97, 98]⟩] W fun e w' => e = .returned (.tuple #[.string ⟨#[2, 97, 98]⟩, .int .i64 0]) ∧ Below W.heap.size W w' := by
  have h := fldText_any ⟨#[97, 98]⟩ W
  rw [show textS (⟨#[97, 98]⟩ : ByteArray).data.toList = [2, 97, 98] by decide, show textE (⟨#[97, 98]⟩ : ByteArray).data.toList = 0 by decide] at h
  exact h
theorem lv8 (W : World) : Calls Try.prog 12 #[.agg #[.int .i64 1, .int .i64 2, .int .u32 3]] W fun e w' => e = .returned (.tuple #[.string sP, .int .i64 0]) ∧ Below W.heap.size W w' := by
  have h := fldPtr_any 1 2 3 (by omega) W
  rw [show ptrS 1 2 3 = [1, 0, 0, 0, 2, 0, 0, 0, 3, 0, 0, 0] by decide, show ptrE 1 2 3 = 0 by decide] at h
  exact h
theorem lv9 (W : World) : Calls Try.prog 14 #[.string (sP ++ ⟨#[33]⟩)] W fun e w' => e = .returned (.tuple #[.agg #[.int .i64 1, .int .i64 2, .int .u32 3], .int .i64 0]) ∧ Below W.heap.size W w' := by
  have h := fldGetPtr_any (sP ++ ⟨#[33]⟩) W
  rw [show (sP ++ ⟨#[33]⟩ : ByteArray).data.toList = [1, 0, 0, 0, 2, 0, 0, 0, 3, 0, 0, 0, 33] by rw [app_toList]; rfl] at h
  rw [show getPV [1, 0, 0, 0, 2, 0, 0, 0, 3, 0, 0, 0, 33] = .agg #[.int .i64 1, .int .i64 2, .int .u32 3] by unfold getPV; rw [show getA [1, 0, 0, 0, 2, 0, 0, 0, 3, 0, 0, 0, 33] 0 = 1 by decide, show getA [1, 0, 0, 0, 2, 0, 0, 0, 3, 0, 0, 0, 33] 1 = 2 by decide, show getA [1, 0, 0, 0, 2, 0, 0, 0, 3, 0, 0, 0, 33] 2 = 3 by decide]; rfl, show getPE [1, 0, 0, 0, 2, 0, 0, 0, 3, 0, 0, 0, 33] = 0 by decide] at h
  exact h
theorem sP_size : sP.size = 12 := rfl
theorem lvS {W : World} {x : Value} (h : NumV W x (u64s [4, 515])) : Calls Try.prog 21 #[x, .slice (some ⟨W.heap.size, 0, none⟩) 2 2] (W.alloc (.cells #[.int .u64 4, .int .u64 515] 22)) fun e w' => e = .returned (.bool true) ∧ Below W.heap.size W w' := by
  have hb := (Below.refl W.heap.size W).alloc (Nat.le_refl _) (.cells #[.int .u64 4, .int .u64 515] 22)
  have h2 := fldSame_any (h.below hb (Nat.le_refl _)) (L := [4, 515]) (num_two W _ 22 (.int .u64 4) (.int .u64 515) (Below.refl _ _))
  rw [show decide (([4, 515] : List Nat) = [4, 515]) = true by decide] at h2
  refine h2.mono ?_
  rintro e w' ⟨he, hb2⟩
  exact ⟨he, hb.trans (hb2.mono (by simp))⟩
set_option maxRecDepth 100000 in
set_option maxHeartbeats 4000000 in
theorem fldLives_any (w : World) : Calls Try.prog 16 #[] w fun e w' => e = .returned (.bool true) ∧ Below w.heap.size w w' := by
  obtain ⟨p, hp⟩ : ∃ p, p = sP := ⟨_, rfl⟩
  have h8 := lv8
  have h9 := lv9
  have hps : p.size = 12 := by rw [hp]; rfl
  rw [← hp] at h8 h9
  clear hp
  go_enter Try.func16, Try.ntmps16
  go_wp2_with (first
    | (go_at_call 6; with_reducible refine (lv1 _).mono ?_; rintro e w1 ⟨rfl, hb1⟩; have HB1 := Lib.hid hb1; clear hb1)
    | (go_at_call 8; with_reducible refine (lv2 _).mono ?_; rintro e w2 ⟨rfl, hb2⟩; have HB2 := Lib.hid (HB1.out.trans (hb2.mono HB1.out.size)); clear hb2)
    | (go_at_call 6; with_reducible refine (lv3 _).mono ?_; rintro e w3 ⟨rfl, hb3⟩; have HB3 := Lib.hid (HB2.out.trans (hb3.mono HB2.out.size)); clear hb3)
    | (go_at_call 8; with_reducible refine (lv4 _).mono ?_; rintro e w4 ⟨rfl, hb4⟩; have HB4 := Lib.hid (HB3.out.trans (hb4.mono HB3.out.size)); clear hb4)
    | (go_at_call 6; with_reducible refine (lv5 _).mono ?_; rintro e w5 ⟨rfl, hb5⟩; have HB5 := Lib.hid (HB4.out.trans (hb5.mono HB4.out.size)); clear hb5)
    | (go_at_call 17; with_reducible refine (lv6 _).mono ?_; rintro e w6 ⟨⟨x, rfl, hx6⟩, hb6⟩; have HX6 := Lib.hid hx6; have HB6 := Lib.hid (HB5.out.trans (hb6.mono HB5.out.size)); clear hb6 hx6)
    | (go_at_call 10; with_reducible refine (lv7 _).mono ?_; rintro e w7 ⟨rfl, hb7⟩; have HX7 := Lib.hid (HX6.out.below hb7 (Nat.le_refl _)); have HB7 := Lib.hid (HB6.out.trans (hb7.mono HB6.out.size)); clear hb7)
    | (go_at_call 12; with_reducible refine (h8 _).mono ?_; rintro e w8 ⟨rfl, hb8⟩; have HX8 := Lib.hid (HX7.out.below hb8 (Nat.le_refl _)); have HB8 := Lib.hid (HB7.out.trans (hb8.mono HB7.out.size)); clear hb8)
    | (go_at_call 14; with_reducible refine (h9 _).mono ?_; rintro e w9 ⟨rfl, hb9⟩; have HX9 := Lib.hid (HX8.out.below hb9 (Nat.le_refl _)); have HB9 := Lib.hid (HB8.out.trans (hb9.mono HB8.out.size)); clear hb9
       have hS := lvS (W := w9.alloc (.cells #[.int .i64 1, .int .i64 2, .int .u32 3] 25)) (HX9.out.below ((Below.refl _ _).alloc (Nat.le_refl _) _) (Nat.le_refl _)); rw [World.size_alloc] at hS)
    | (go_at_call 21; with_reducible refine hS.mono ?_; rintro e w10 ⟨rfl, hb10⟩
       obtain ⟨_, q0, q1, q2, _, _, _⟩ := (B3.new w9 (.int .i64 1) (.int .i64 2) (.int .u32 3) 25).below hb10 (by omega)
       have HB10 : Hid (Below w.heap.size w w10) := Lib.hid ((HB9.out.alloc HB9.out.size _).trans (hb10.mono (by have := HB9.out.size; omega))); clear hb10))
  go_ret
  exact ⟨rfl, HB10.out⟩
end Go.Proofs.Ytjhpheepimbbdaa
