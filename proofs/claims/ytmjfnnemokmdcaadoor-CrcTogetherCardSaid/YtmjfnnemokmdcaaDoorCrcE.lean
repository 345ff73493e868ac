/- The contracts once more, each with what a law keeps from call to call; and what each law asks first. -/
import Derived.Test.YtmjfnnemokmdcaaDoorCrcD
namespace Go.Proofs.YtmjfnnemokmdcaaDoor
open Go.RowKit
open Caulk.Crc (W P stp stpN byt nib tabV bit bitsTo tabN)

/-- What holds all through a law: the table lies, and nothing that was there when the law began has changed. -/
def Ok (w0 w : World) : Prop := Tab w ∧ Below w0.heap.size w0 w
theorem Ok.start {w : World} (h : Tab w) : Ok w w := ⟨h, Below.refl _ _⟩
theorem Ok.drew {w0 w : World} (h : Ok w0 w) : Ok w0 w.drew := ⟨h.1, h.2.drew⟩
theorem Ok.drewN {w0 w : World} (h : Ok w0 w) (n : Nat) : Ok w0 (w.drewN n) := ⟨h.1, below_drewN h.2 n⟩
theorem Ok.below {w0 w w' : World} (h : Ok w0 w) (hb : Below w.heap.size w w') : Ok w0 w' :=
  ⟨h.1.below hb (Nat.le_refl _), h.2.trans (hb.mono h.2.size)⟩
theorem Ok.frame {w0 w : World} (h : Ok w0 w) : Below w0.heap.size w0 w := h.2
def ArgOk (s : ByteArray) : Prop := s.size ≤ maxLen

section
variable {w0 : World}
theorem start_ok (w : World) (h : Ok w0 w) : Calls Tryd.prog 18 #[] w fun e w' => e = .returned (.int .u32 (U32 0xffffffff#32)) ∧ Ok w0 w' :=
  (crcStart_any w).mono fun _ _ ⟨he, hw⟩ => ⟨he, hw ▸ h⟩
theorem end_ok (r : W) (w : World) (h : Ok w0 w) : Calls Tryd.prog 17 #[.int .u32 (U32 r)] w fun e w' => e = .returned (.int .u32 (U32 (~~~r))) ∧ Ok w0 w' :=
  (crcEnd_any r w).mono fun _ _ ⟨he, hw⟩ => ⟨he, hw ▸ h⟩
theorem add_ok (r : W) (s : ByteArray) (hs : ArgOk s) (w : World) (h : Ok w0 w) : Calls Tryd.prog 15 #[.int .u32 (U32 r), .string s] w fun e w' => e = .returned (.int .u32 (U32 (Caulk.Crc.add r s.data.toList))) ∧ Ok w0 w' :=
  (crcAdd_any r s hs w h.1).mono fun _ _ ⟨he, hw⟩ => ⟨he, hw ▸ h⟩
theorem sum_ok (s : ByteArray) (hs : ArgOk s) (w : World) (h : Ok w0 w) : Calls Tryd.prog 9 #[.string s] w fun e w' => e = .returned (.int .u32 (U32 (Caulk.Crc.sum s.data.toList))) ∧ Ok w0 w' :=
  (crcSum_any s hs w h.1).mono fun _ _ ⟨he, hw⟩ => ⟨he, hw ▸ h⟩
theorem bytes_ok (s : ByteArray) (hs : ArgOk s) (w : World) (h : Ok w0 w) : Calls Tryd.prog 11 #[.string s] w fun e w' => e = .returned (.string (sumBytes (Caulk.Crc.sum s.data.toList))) ∧ Ok w0 w' :=
  (crcBytes_any s hs w h.1).mono fun _ _ ⟨he, hw⟩ => ⟨he, h.below hw⟩
theorem good_ok (s : ByteArray) (hs : ArgOk s) (w : World) (h : Ok w0 w) : Calls Tryd.prog 13 #[.string s] w fun e w' => e = .returned (.bool (goodB s)) ∧ Ok w0 w' :=
  (crcGood_any s hs w h.1).mono fun _ _ ⟨he, hw⟩ => ⟨he, h.below hw⟩
theorem refAdd_ok (r : W) (s : ByteArray) (hs : ArgOk s) (w : World) (h : Ok w0 w) : Calls Tryd.prog 16 #[.int .u32 (U32 r), .string s] w fun e w' => e = .returned (.int .u32 (U32 (Caulk.Crc.add r s.data.toList))) ∧ Ok w0 w' :=
  (refAdd_any r s hs w).mono fun _ _ ⟨he, hw⟩ => ⟨he, hw ▸ h⟩
theorem refSum_ok (s : ByteArray) (hs : ArgOk s) (w : World) (h : Ok w0 w) : Calls Tryd.prog 10 #[.string s] w fun e w' => e = .returned (.int .u32 (U32 (Caulk.Crc.sum s.data.toList))) ∧ Ok w0 w' :=
  (refSum_any s hs w).mono fun _ _ ⟨he, hw⟩ => ⟨he, hw ▸ h⟩
theorem refBytes_ok (s : ByteArray) (hs : ArgOk s) (w : World) (h : Ok w0 w) : Calls Tryd.prog 12 #[.string s] w fun e w' => e = .returned (.string (sumBytes (Caulk.Crc.sum s.data.toList))) ∧ Ok w0 w' :=
  (refBytes_any s hs w).mono fun _ _ ⟨he, hw⟩ => ⟨he, h.below hw⟩
theorem refGood_ok (s : ByteArray) (hs : ArgOk s) (w : World) (h : Ok w0 w) : Calls Tryd.prog 14 #[.string s] w fun e w' => e = .returned (.bool (goodB s)) ∧ Ok w0 w' :=
  (refGood_any s hs w).mono fun _ _ ⟨he, hw⟩ => ⟨he, h.below hw⟩
end

def s9 : ByteArray := ⟨#[49, 50, 51, 52, 53, 54, 55, 56, 57]⟩
def s13 : ByteArray := ⟨#[49, 50, 51, 52, 53, 54, 55, 56, 57, 131, 146, 6, 227]⟩
def sAbc : ByteArray := ⟨#[97, 98, 99]⟩
theorem lives_sum : U32 (Caulk.Crc.sum [49, 50, 51, 52, 53, 54, 55, 56, 57]) = 3808858755 := by decide +kernel
theorem lives_bytes : (sumBytes (Caulk.Crc.sum [49, 50, 51, 52, 53, 54, 55, 56, 57])) = ⟨#[131, 146, 6, 227]⟩ := by
  rw [show Caulk.Crc.sum [49, 50, 51, 52, 53, 54, 55, 56, 57] = 0xe3069283#32 from Caulk.Crc.sum_check]; decide +kernel
theorem lives_good : goodB ⟨#[49, 50, 51, 52, 53, 54, 55, 56, 57, 131, 146, 6, 227]⟩ = true := by decide +kernel
theorem lives_bad : goodB ⟨#[97, 98, 99]⟩ = false := by decide +kernel
theorem lives_start : U32 0xffffffff#32 = 4294967295 := by decide +kernel
theorem lives_none : U32 (Caulk.Crc.sum []) = 0 := by decide +kernel
set_option maxHeartbeats 400000 in
theorem lives_any {w0 : World} (w : World) (h : Ok w0 w) : Calls Tryd.prog 8 #[] w fun e w' => e = .returned (.bool true) ∧ Ok w0 w' := by
  have e1 := lives_sum
  have e2 := lives_bytes
  have e3 := lives_good
  have e4 := lives_bad
  have e5 := lives_start
  have e6 := lives_none
  have e7 : U32 (~~~ 0#32) = 4294967295 := by decide +kernel
  have a1 : ArgOk ⟨#[49, 50, 51, 52, 53, 54, 55, 56, 57]⟩ := by unfold ArgOk maxLen; decide
  have a2 : ArgOk ⟨#[49, 50, 51, 52, 53, 54, 55, 56, 57, 131, 146, 6, 227]⟩ := by unfold ArgOk maxLen; decide
  have a3 : ArgOk ⟨#[97, 98, 99]⟩ := by unfold ArgOk maxLen; decide
  have a4 : ArgOk ⟨#[]⟩ := by unfold ArgOk maxLen; decide
  go_enter Tryd.func8, Tryd.ntmps8
  go_wp2_with (first
      | (go_at_call 9; refine (sum_ok (w0 := w0) _ ?_ _ ?_).mono ?_; (assumption); (assumption); rintro e w' ⟨rfl, hok⟩)
      | (go_at_call 11; refine (bytes_ok (w0 := w0) _ ?_ _ ?_).mono ?_; (assumption); (assumption); rintro e w' ⟨rfl, hok⟩)
      | (go_at_call 13; refine (good_ok (w0 := w0) _ ?_ _ ?_).mono ?_; (assumption); (assumption); rintro e w' ⟨rfl, hok⟩)
      | (go_at_call 18; refine (start_ok (w0 := w0) _ ?_).mono ?_; (assumption); rintro e w' ⟨rfl, hok⟩)
      | (go_at_call 17; refine (end_ok (w0 := w0) 0#32 _ ?_).mono ?_; (assumption); rintro e w' ⟨rfl, hok⟩))
  go_ret
  exact ⟨rfl, by assumption⟩
end Go.Proofs.YtmjfnnemokmdcaaDoor
