/- The walk of CrcPieces. -/
import Derived.Test.YtmjfnnemokmdcaaDoorCrcF
import Derived.SliceStrings
import Derived.Deep.RegionHeld3
import Derived.Outline
namespace Go.Proofs.YtmjfnnemokmdcaaDoor
open Go.RowKit
open Caulk.Crc (W P)
open Go.ChangeShapes (open_strings)

/-- A slice of strings that came in. -/
def IsStrs (w : World) (A : Option Addr) (len cap : Nat) (ss : List ByteArray) : Prop :=
  len = 0 ∨ ∃ b off, A = some ⟨b, off, none⟩ ∧ b < w.heap.size ∧ len ≤ cap ∧ cap ≤ maxLen ∧ len ≤ ss.length ∧ (∀ i, i < len → w.cell? ⟨b, off + i, none⟩ = some (.string (ss.getD i ByteArray.empty))) ∧ ∀ s ∈ ss, s.size ≤ maxLen
theorem isStrs_of {H : Type} {enc : TypeId × Value → H} {P : Program} {w : World} {base : Nat} {held : Bool} {fuel t e : Nat} {A : Option Addr} {len cap : Nat} {x : DataW H × List MemPlace}
    (ht : P.underlying t = some (.slice e)) (he : P.underlying e = some .string) (hc : P.cellsOf e = 1)
    (h : DataW.trod enc P w base (fun _ => true) held fuel t (Value.slice A len cap).cells.toList = some x) : ∃ ss, IsStrs w A len cap ss := by

  rcases open_strings ht he hc h with ⟨hcs, _⟩ | ⟨x, l, c, ss, hcs, _, hl, hm, hz, _, hcell, hss⟩
  · simp [Value.cells] at hcs
    exact ⟨[], .inl hcs.2.1⟩
  · simp [Value.cells] at hcs
    obtain ⟨rfl, rfl, rfl⟩ := hcs
    simp only [if_true] at hz
    by_cases h0 : len = 0
    · exact ⟨[], .inl h0⟩
    · obtain ⟨b, off, spot⟩ := x
      have hc0 := hcell 0 (by omega)
      have hspot : spot = none := by simpa [Addr.add] using World.cell?_spot hc0
      subst hspot
      have hc1 : ∀ i, i < len → w.cell? ⟨b, off + i, none⟩ = some (.string (ss.getD i ByteArray.empty)) := fun i hi => by
        have := hcell i (by omega)
        have e : (⟨b, off, none⟩ : Addr).add i = ⟨b, off + i, none⟩ := by unfold Addr.add; split <;> simp_all
        rw [e] at this; exact this
      exact ⟨ss, .inr ⟨b, off, rfl, World.block_lt_of_cell? w _ (hc1 0 (by omega)), hl, hm, by omega, hc1, hss⟩⟩
theorem getD_mem' {α : Type} (l : List α) (i : Nat) (d : α) (h : i < l.length) : l.getD i d ∈ l := by
  rw [List.getD, List.getElem?_eq_getElem h]; exact List.getElem_mem h

theorem size_sumBytes (x : W) : (sumBytes x).size = 4 := rfl
theorem good_own (A : ByteArray) : goodB (A ++ sumBytes (Caulk.Crc.sum A.data.toList)) = true := by
  have hs : (A ++ sumBytes (Caulk.Crc.sum A.data.toList)).size = A.size + 4 := by rw [ByteArray.size_append]; rfl
  rw [good_long _ (by omega), hs, Nat.add_sub_cancel]
  have h1 : (A ++ sumBytes (Caulk.Crc.sum A.data.toList)).data.toList.take A.size = A.data.toList := by
    rw [ByteArray.data_append, Array.toList_append, List.take_append_of_le_length (by simp), List.take_of_length_le (by simp)]
  have h2 : ((A ++ sumBytes (Caulk.Crc.sum A.data.toList)).extract A.size (A.size + 4)).toList = (sumBytes (Caulk.Crc.sum A.data.toList)).toList := by
    congr 1
    apply ByteArray.ext
    rw [ByteArray.data_extract, ByteArray.data_append]
    apply Array.ext'
    simp [sumBytes]
  rw [h1, h2]; exact beq_self_eq_true _
theorem pieces_end (l : List UInt8) : (U32 (~~~ Caulk.Crc.add 0xffffffff#32 l) == U32 (Caulk.Crc.sum l)) = true := beq_self_eq_true _
theorem add_more (r : W) (A x : ByteArray) : Caulk.Crc.add r (A ++ x).data.toList = Caulk.Crc.add (Caulk.Crc.add r A.data.toList) x.data.toList := by
  rw [ByteArray.data_append, Array.toList_append, Caulk.Crc.add_append]

set_option maxHeartbeats 1000000 in
theorem crcPieces_walk (Ad : Option Addr) (len cap : Nat) (ss : List ByteArray) (w : World) (h : IsStrs w Ad len cap ss) (hT : Tab w) :
    Calls Tryd.prog 5 #[.slice Ad len cap] w fun e w' => e = .returned (.bool true) ∧ Below w.heap.size w w' := by
  have h0 := Ok.start hT
  clear hT
  have hE := pieces_end
  have hG := good_own
  have hl : len ≤ maxLen := by rcases h with h | ⟨_, _, _, _, h1, h2, _⟩ <;> omega
  unfold maxLen at hl
  go_enter Tryd.func5, Tryd.ntmps5
  go_wp2_with (first
    | (go_at_call 8; refine (lives_any (w0 := w) _ ?_).mono ?_; (assumption); rintro e w' ⟨rfl, hok⟩)
    | (go_at_call 18; refine (crcStart_any _).mono ?_; rintro e w' ⟨rfl, rfl⟩))
  have h1 : ∀ k, k < len → ∃ b off, Ad = some ⟨b, off, none⟩ ∧ w'.cell? ⟨b, off + k, none⟩ = some (.string (ss.getD k ByteArray.empty)) ∧ (ss.getD k ByteArray.empty).size ≤ maxLen := by
    intro k hk
    rcases h with h | ⟨b, off, h1, h2, h3, h4, h5, h6, h7⟩
    · omega
    · exact ⟨b, off, h1, (hok.2.cell (p := ⟨b, off + k, none⟩) h2).trans (h6 k hk), h7 _ (getD_mem' _ _ _ (by omega))⟩
  have H1 := Lib.hid h1
  clear h1 h h0
  go_loop [3, 4, 12] (fun x r i => ∃ (k : Nat) (A : ByteArray), k ≤ len ∧ A.size ≤ 262144 ∧ i = .int .i64 k ∧ x = .string A ∧ r = .int .u32 (U32 (Caulk.Crc.add 0xffffffff#32 A.data.toList))) (fun _ _ i => len - (intOf i).toNat)
  case atStart => exact ⟨0, ⟨#[]⟩, by omega, by decide, rfl, rfl, rfl⟩
  case round =>
    obtain ⟨k, A, hk, hA, rfl, rfl, rfl⟩ := hrel
    have a1 : ArgOk A := by unfold ArgOk maxLen; omega
    have a2 : ArgOk (A ++ sumBytes (Caulk.Crc.sum A.data.toList)) := by unfold ArgOk maxLen; rw [ByteArray.size_append]; have := size_sumBytes (Caulk.Crc.sum A.data.toList); omega
    have s4 := size_sumBytes
    by_cases hlt : k < len
    · obtain ⟨b, off, rfl, hc, hx⟩ := H1.out k hlt
      generalize ss.getD k ByteArray.empty = x at hc hx
      by_cases h60 : k = 60
      · have e1 : ((k : Int) == 60) = true := by simp; omega
        clear h60
        go_wp2_with (first
          | (go_at_call 17; refine (end_ok (w0 := w) _ _ ?_).mono ?_; (assumption); rintro e w' ⟨rfl, hok⟩)
          | (go_at_call 9; refine (sum_ok (w0 := w) _ ?_ _ ?_).mono ?_; (assumption); (assumption); rintro e w' ⟨rfl, hok⟩)
          | (go_at_call 11; refine (bytes_ok (w0 := w) _ ?_ _ ?_).mono ?_; (assumption); (assumption); rintro e w' ⟨rfl, hok⟩)
          | (go_at_call 13; refine (good_ok (w0 := w) _ ?_ _ ?_).mono ?_; (assumption); (assumption); rintro e w' ⟨rfl, hok⟩))
        go_ret
        exact ⟨rfl, Ok.frame (by assumption)⟩
      · have e1 : ((k : Int) == 60) = false := by simp; omega
        clear h60
        by_cases hA2 : 131072 < A.size
        · have e2 : decide ((131072 : Int) < (A.size : Int)) = true := by simp; omega
          go_wp2_with (first
            | (go_at_call 17; refine (end_ok (w0 := w) _ _ ?_).mono ?_; (assumption); rintro e w' ⟨rfl, hok⟩)
            | (go_at_call 9; refine (sum_ok (w0 := w) _ ?_ _ ?_).mono ?_; (assumption); (assumption); rintro e w' ⟨rfl, hok⟩)
            | (go_at_call 11; refine (bytes_ok (w0 := w) _ ?_ _ ?_).mono ?_; (assumption); (assumption); rintro e w' ⟨rfl, hok⟩)
            | (go_at_call 13; refine (good_ok (w0 := w) _ ?_ _ ?_).mono ?_; (assumption); (assumption); rintro e w' ⟨rfl, hok⟩))
          go_ret
          exact ⟨rfl, Ok.frame (by assumption)⟩
        · have e2 : decide ((131072 : Int) < (A.size : Int)) = false := by simp; omega
          by_cases hx2 : 131072 < x.size
          · have e3 : decide ((131072 : Int) < (x.size : Int)) = true := by simp; omega
            go_wp2_with (first
              | (go_at_call 17; refine (end_ok (w0 := w) _ _ ?_).mono ?_; (assumption); rintro e w' ⟨rfl, hok⟩)
              | (go_at_call 9; refine (sum_ok (w0 := w) _ ?_ _ ?_).mono ?_; (assumption); (assumption); rintro e w' ⟨rfl, hok⟩)
              | (go_at_call 11; refine (bytes_ok (w0 := w) _ ?_ _ ?_).mono ?_; (assumption); (assumption); rintro e w' ⟨rfl, hok⟩)
              | (go_at_call 13; refine (good_ok (w0 := w) _ ?_ _ ?_).mono ?_; (assumption); (assumption); rintro e w' ⟨rfl, hok⟩))
            go_ret
            exact ⟨rfl, Ok.frame (by assumption)⟩
          · have e3 : decide ((131072 : Int) < (x.size : Int)) = false := by simp; omega
            have a3 : ArgOk x := hx
            have HM := Lib.hid (add_more 0xffffffff#32 A x)
            go_wp2_with (go_at_call 15; refine (crcAdd_any _ _ ?_ _ ?_).mono ?_; (assumption); (exact hok.1); rintro e w' ⟨rfl, rfl⟩)
            go_round
            case rel => exact ⟨k + 1, A ++ x, by omega, by rw [ByteArray.size_append]; omega, by go_num, rfl, by rw [HM.out]⟩
            case measure => simp [intOf]; omega
    · obtain rfl : k = len := by omega
      go_wp2_with (first
        | (go_at_call 17; refine (end_ok (w0 := w) _ _ ?_).mono ?_; (assumption); rintro e w' ⟨rfl, hok⟩)
        | (go_at_call 9; refine (sum_ok (w0 := w) _ ?_ _ ?_).mono ?_; (assumption); (assumption); rintro e w' ⟨rfl, hok⟩)
        | (go_at_call 11; refine (bytes_ok (w0 := w) _ ?_ _ ?_).mono ?_; (assumption); (assumption); rintro e w' ⟨rfl, hok⟩)
        | (go_at_call 13; refine (good_ok (w0 := w) _ ?_ _ ?_).mono ?_; (assumption); (assumption); rintro e w' ⟨rfl, hok⟩))
      go_ret
      exact ⟨rfl, Ok.frame (by assumption)⟩
end Go.Proofs.YtmjfnnemokmdcaaDoor
