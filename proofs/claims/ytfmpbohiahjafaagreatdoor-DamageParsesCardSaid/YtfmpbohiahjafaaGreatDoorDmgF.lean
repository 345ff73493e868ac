/- Reports of damage: the document's numerals. -/
import Derived.Test.YtfmpbohiahjafaaGreatDoorDmgB
import Derived.Test.YtfmpbohiahjafaaGreatDoorRows8
import Derived.RegionTactic
import Derived.Deep.RegionWith
import Derived.Deep.RegionHeld3
namespace Go.Proofs.YtfmpbohiahjafaaGreatDoor
open Go.RowKit Go.Lib

theorem row_one (W : World) (b : UInt8) : Row8 (W.alloc (.cells #[.int .u8 (b.toNat : Int)] 5)) W.heap.size 0 [b] := by
  refine ⟨by simp, fun j hj => ?_⟩
  obtain rfl : j = 0 := by simpa using hj
  constructor
  · rw [cell_of_row _ _ _ _ 5 (0, 0) (heap_alloc_new W _)]; rfl
  · exact frozen_of_row _ _ _ _ 5 (heap_alloc_new W _)
theorem conv_row {W : World} {B : Nat} {b : UInt8} (h : Row8 W B 0 [b]) : (convert 48 9 (.slice (some ⟨B, 0, none⟩) 1 1)).run Tryz.prog W = .ok (.string ⟨#[b]⟩) W :=
  string_of_row (P := Tryz.prog) (cap := 1) 1 rfl h 48 9 5 Tryz.underlying48 Tryz.underlying5 Tryz.underlying9
theorem sapp (a b : List UInt8) : (⟨a.toArray⟩ : ByteArray) ++ (⟨b.toArray⟩ : ByteArray) = ⟨(a ++ b).toArray⟩ := by
  apply ByteArray.ext
  rw [ByteArray.data_append]
  simp
theorem dig_byte {m : Nat} (h : m < 10) : ((UInt8.ofNat (48 + m)).toNat : Int) = 48 + (m : Int) ∧ IntKind.u8.wrap (48 + (m : Int)) = ((UInt8.ofNat (48 + m)).toNat : Int) := by
  have e : (UInt8.ofNat (48 + m)).toNat = 48 + m := by rw [UInt8.toNat_ofNat']; omega
  refine ⟨by rw [e]; omega, ?_⟩
  rw [e, IntKind.wrap_u8']
  omega
theorem wrap_few {n : Nat} (h : n ≤ 4294967296) : IntKind.i64.wrap (n : Int) = (n : Int) := by rw [IntKind.wrap_i64]; omega
theorem wrap_eqB (x : Int) : IntKind.i64.wrap x = wrap64 x := by rw [IntKind.wrap_i64]; unfold wrap64; omega
theorem conv_keep {w w2 : World} {b : UInt8} (h : ∀ W : World, Row8 (W.alloc (.cells #[.int .u8 (b.toNat : Int)] 5)) W.heap.size 0 [b]) (hb : Below ((w.alloc (.cells #[.int .u8 (b.toNat : Int)] 5)).drew).heap.size ((w.alloc (.cells #[.int .u8 (b.toNat : Int)] 5)).drew) w2) : Row8 w2 w.heap.size 0 [b] :=
  Row8.below (h w).drew hb (by simp)
set_option maxHeartbeats 4000000 in
set_option maxRecDepth 100000 in
theorem refNum_any (u : Nat) (hu : u ≤ 2147483648) : ∀ (w : World), Calls Tryz.prog 46 #[.int .i64 (u : Int)] w fun e w' => e = .returned (Bs (decDigits u)) ∧ Below w.heap.size w w' := by
  induction u using Nat.strongRecOn with
  | _ u ih =>
    intro w
    have d0 : decide ((u : Int) < 0) = false := decide_eq_false (by omega)
    by_cases h : u < 10
    · have d1 : decide ((u : Int) < 10) = true := decide_eq_true (by omega)
      obtain ⟨b, hb⟩ : ∃ b, b = UInt8.ofNat (48 + u) := ⟨_, rfl⟩
      obtain ⟨e1, e2⟩ := dig_byte h
      rw [← hb] at e1 e2
      have e3 : wrap64 (48 + (u : Int)) = 48 + (u : Int) := by unfold wrap64; omega
      have e4 : decDigits u = [b] := by rw [decDigits, dif_pos h, hb]
      have hc := conv_row (row_one w b)
      rw [e4]
      have HB := Lib.hid ((Below.refl w.heap.size w).alloc (Nat.le_refl _) (.cells #[.int .u8 (b.toNat : Int)] 5))
      rw [e1] at hc HB e2
      clear e4 hb h e1 ih
      go_enter Tryz.func46, Tryz.ntmps46
      go_wp2
      go_ret
      exact ⟨rfl, HB.out⟩
    · have d1 : decide ((u : Int) < 10) = false := decide_eq_false (by omega)
      obtain ⟨q, hq⟩ : ∃ q, q = u / 10 := ⟨_, rfl⟩
      obtain ⟨m, hm⟩ : ∃ m, m = u % 10 := ⟨_, rfl⟩
      have hc := ih q (by omega) (by omega)
      have hm10 : m < 10 := by omega
      have hl : (decDigits q).length ≤ 10 := dec_short (by omega)
      have hs2 : ¬ 9223372036854775807 < (decDigits q).length + 1 := by omega
      clear hl
      have e1 : ((u : Int).tdiv 10) = (q : Int) := by rw [hq, Int.tdiv_eq_ediv_of_nonneg (by omega)]; omega
      have e2 : ((u : Int).tmod 10) = (m : Int) := by rw [hm, Int.tmod_eq_emod_of_nonneg (by omega)]; omega
      have e5 : IntKind.i64.wrap (q : Int) = (q : Int) := wrap_few (by omega)
      have e6 : IntKind.i64.wrap (m : Int) = (m : Int) := wrap_few (by omega)
      have e7 : IntKind.i64.wrap (48 + (m : Int)) = 48 + (m : Int) := by have := wrap_few (n := 48 + m) (by omega); rwa [show ((48 + m : Nat) : Int) = 48 + (m : Int) by omega] at this
      obtain ⟨b, hb⟩ : ∃ b, b = UInt8.ofNat (48 + m) := ⟨_, rfl⟩
      obtain ⟨f1, f2⟩ := dig_byte hm10
      rw [← hb] at f1 f2
      have e3 : wrap64 (48 + (m : Int)) = 48 + (m : Int) := by rw [← wrap_eqB]; exact e7
      have e4 : decDigits u = decDigits q ++ [b] := by rw [decDigits, dif_neg h, hb, hq, hm]
      rw [e4]
      have HV := Lib.hid (sapp (decDigits q) [b])
      have HR : Hid (∀ W : World, Row8 (W.alloc (.cells #[.int .u8 (b.toNat : Int)] 5)) W.heap.size 0 [b]) := Lib.hid (fun W => row_one W b)
      generalize decDigits q = l at hc HV hs2 ⊢
      clear e4 hb h f1 ih hq hm hu hm10
      go_enter Tryz.func46, Tryz.ntmps46
      go_upto_region 5 with fail
      have hc0 := conv_row (HR.out w)
      have hc1 : (convert 48 9 (.slice (some ⟨w.heap.size, 0, none⟩) 1 1)).run Tryz.prog (w.alloc (.cells #[.int .u8 (b.toNat : Int)] 5)).drew = .ok (.string ⟨#[b]⟩) (w.alloc (.cells #[.int .u8 (b.toNat : Int)] 5)).drew := conv_row (HR.out w).drew
      have HB0 : Hid (Below w.heap.size w w.drew ∧ Below w.heap.size w (w.alloc (.cells #[.int .u8 (b.toNat : Int)] 5)).drew) := Lib.hid ⟨(Below.refl _ _).drew, ((Below.refl _ _).alloc (Nat.le_refl _) _).drew⟩
      go_region_with (go_at_call 46; (with_reducible refine (hc _).mono ?_); rintro e w2 ⟨rfl, hb2⟩; have hcA := conv_row (HR.out w2); have HB2 := Lib.hid hb2; (first | (have hcB := conv_row (conv_keep HR.out hb2); clear hb2) | clear hb2))
      all_goals go_wp2
      all_goals go_ret
      all_goals first
        | exact ⟨ret_str HV.out, (HB0.out.1.trans HB2.out).alloc (Nat.le_trans HB0.out.1.size HB2.out.size) _⟩
        | exact ⟨ret_str HV.out, HB0.out.2.trans (HB2.out.mono HB0.out.2.size)⟩
end Go.Proofs.YtfmpbohiahjafaaGreatDoor
