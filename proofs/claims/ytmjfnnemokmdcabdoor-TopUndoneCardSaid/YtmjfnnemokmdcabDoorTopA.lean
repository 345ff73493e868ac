/- What TopUndone calls, in the form in which it calls it. -/
import Derived.Test.YtmjfnnemokmdcabDoorGfH
import Derived.Test.YtmjfnnemokmdcabDoorOwnB
import Derived.Test.YtmjfnnemokmdcabDoorCrcC
import Derived.Test.YtmjfnnemokmdcabDoorIsBytes
namespace Go.Proofs.YtmjfnnemokmdcabDoor
open Go.RowKit
open Caulk.Crc (W)
open Caulk.Gf (dbl mul putL scaleL)

theorem begins_sum : U32 (Caulk.Crc.sum [49, 50, 51, 52, 53, 54, 55, 56, 57]) = 3808858755 := by decide +kernel
theorem begins_any (w : World) (hT : Tab w) : Calls Tryd.prog 4 #[] w fun e w' => e = .returned (.bool true) ∧ w = w' := by
  have e1 := begins_sum
  have HT := Lib.hid hT
  clear hT
  have a1 : (ByteArray.mk #[49, 50, 51, 52, 53, 54, 55, 56, 57]).size ≤ maxLen := by unfold maxLen; decide
  go_enter Tryd.func4, Tryd.ntmps4
  go_wp2_with (go_at_call 8; refine (crcSum_any _ ?_ _ ?_).mono ?_; (assumption); (exact HT.out); rintro e w' ⟨rfl, rfl⟩)
  go_ret
  exact ⟨rfl, rfl⟩
theorem scale_zero_any (c : UInt8) (hc : c = 0) (s : ByteArray) (hs : s.size ≤ 16384) (w : World) :
    Calls Tryd.prog 7 #[.int .u8 (c.toNat : Int), .string s] w fun e w' => e = .returned (.string ⟨(List.replicate s.size (0 : UInt8)).toArray⟩) ∧ Below w.heap.size w w' := by
  refine (scale_any c s (by omega) w).mono ?_
  rintro e w' ⟨rfl, hb⟩
  refine ⟨?_, hb⟩
  subst hc
  rw [Caulk.Gf.scale_zero, show s.data.toList.length = s.size by simp]
def scaled (c : UInt8) (s : ByteArray) : ByteArray := ⟨(scaleL c s.data.toList).toArray⟩
theorem scale_fwd_any (c : UInt8) (s : ByteArray) (hs : s.size ≤ 16384) (w : World) :
    Calls Tryd.prog 7 #[.int .u8 (c.toNat : Int), .string s] w fun e w' => e = .returned (.string (scaled c s)) ∧ Below w.heap.size w w' := scale_any c s (by omega) w
theorem scale_back_any (c : UInt8) (hc : c ≠ 0) (s : ByteArray) (hs : s.size ≤ 16384) (w : World) :
    Calls Tryd.prog 7 #[.int .u8 ((invB c).toNat : Int), .string (scaled c s)] w fun e w' => e = .returned (.string s) ∧ Below w.heap.size w w' := by
  have hsz : (scaled c s).size = s.size := by
    show (scaleL c s.data.toList).toArray.size = s.size
    rw [List.size_toArray]; unfold scaleL; rw [List.length_map]; simp
  refine (scale_any (invB c) (scaled c s) (by omega) w).mono ?_
  rintro e w' ⟨rfl, hb⟩
  refine ⟨?_, hb⟩
  have e1 : (scaled c s).data.toList = scaleL c s.data.toList := rfl
  have e2 : invB c = Caulk.Gf.inv c := by unfold invB; rw [if_neg hc]
  rw [e1, e2, Caulk.Gf.scale_back c hc]
theorem to_string_any {w0 w : World} {A : Option Addr} {len cap : Nat} {l : List UInt8} (h : IsBytes w0 A len cap l) (hb : Below w0.heap.size w0 w) :
    (convert 22 9 (.slice A len cap)).run Tryd.prog w = .ok (.string ⟨l.toArray⟩) w := by
  obtain ⟨hlen, _, hA⟩ := h
  rcases hA with ⟨rfl, rfl, rfl⟩ | ⟨ad, rfl, hA⟩
  · obtain rfl : l = [] := List.eq_nil_of_length_eq_zero hlen
    rw [run_convert_bytes_string w 22 9 5 none 0 0 Tryd.underlying22 Tryd.underlying5 Tryd.underlying9]
    simp [Conv.bytesToString, Sem.run_pure]
    rfl
  · rw [← hlen]
    refine run_convert_bytes_back w 22 9 5 ad cap l Tryd.underlying22 Tryd.underlying5 Tryd.underlying9 (fun j hj => ?_)
    rcases hA with h0 | ⟨b, off, rfl, hbl, hc⟩
    · omega
    · rw [show (⟨b, off, none⟩ : Addr).add j = ⟨b, off + j, none⟩ by unfold Addr.add; split <;> simp_all, hb.cell (p := ⟨b, off + j, none⟩) hbl, hc j (by omega)]
      rw [List.getD, List.getElem?_eq_getElem hj]; rfl
theorem sum_size (x : W) : (sumBytes x).size = 4 := rfl
theorem good_with (A : ByteArray) : goodB (A ++ sumBytes (Caulk.Crc.sum A.data.toList)) = true := by
  have hs : (A ++ sumBytes (Caulk.Crc.sum A.data.toList)).size = A.size + 4 := by rw [ByteArray.size_append]; rfl
  rw [good_long _ (by omega), hs, Nat.add_sub_cancel]
  have h1 : (A ++ sumBytes (Caulk.Crc.sum A.data.toList)).data.toList.take A.size = A.data.toList := by
    rw [ByteArray.data_append, Array.toList_append, List.take_append_of_le_length (by simp), List.take_of_length_le (by simp)]
  have h2 : ((A ++ sumBytes (Caulk.Crc.sum A.data.toList)).extract A.size (A.size + 4)).toList = (sumBytes (Caulk.Crc.sum A.data.toList)).toList := by
    congr 1
    apply ByteArray.ext
    rw [ByteArray.data_extract, ByteArray.data_append]
    apply Array.ext'
    simp [sumBytes]
  rw [h1, h2]; exact beq_self_eq_true _
end Go.Proofs.YtmjfnnemokmdcabDoor
