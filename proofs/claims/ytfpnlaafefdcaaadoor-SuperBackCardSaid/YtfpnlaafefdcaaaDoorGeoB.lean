/- The contracts of geom.First, Cluster, Fan, Entries and Blocks. -/
import Derived.Test.YtfpnlaafefdcaaaDoorGeoA
namespace Go.Proofs.YtfpnlaafefdcaaaDoor
open Go.RowKit

theorem ret_two {k1 k2 : IntKind} {a b c d : Int} (h : a = b) (g : c = d) : Ending.returned (.tuple #[.int k1 a, .int k2 c]) = Ending.returned (.tuple #[.int k1 b, .int k2 d]) := by rw [h, g]

set_option maxHeartbeats 400000 in
theorem geoFirst_any (s k m c a : Int) (hk : W64 k) (hm : W64 m) (hc : W64 c) (w : World) :
    Calls Tryd.prog 111 #[geoV s k m c, .int .i64 a] w fun e w' => e = .returned (.tuple #[.int .i64 (geoFv s k m c a), .int .i64 (geoFe s k m c a)]) ∧ Below w.heap.size w w' := by
  by_cases ho : GeoOk s k m c
  · have hE := geo_yes hk hm hc ho
    obtain ⟨h0, h7, h4, hc2, p1, p2, hM, hM0⟩ := geoOk_b ho
    by_cases hin : 0 ≤ a ∧ a < c
    · have hr : wrap64 (a * 2 ^ s.toNat) = a * tw s := wrap_in (by
        have h1 : a * tw s ≤ c * tw s := Int.mul_le_mul_of_nonneg_right (by omega) (by omega)
        have h2 : 0 ≤ a * tw s := Int.mul_nonneg (by omega) (by omega)
        show _ ≤ a * tw s ∧ a * tw s ≤ _; omega)
      have he : geoFv s k m c a = a * tw s := if_pos ⟨ho, hin⟩
      have he2 : geoFe s k m c a = 0 := by unfold geoFe; rw [if_pos ho, if_pos hin]
      rw [he, he2]
      have hb1 : decide (a < 0) = false := decide_eq_false (by omega)
      have hb2 : decide (c ≤ a) = false := decide_eq_false (by omega)
      have HR := Lib.hid hr
      clear he he2 ho hk hm hc hin hr hM hM0
      unfold geoV
      go_enter Tryd.func111, Tryd.ntmps111
      go_wp2_with (go_at_call 43; refine (hE _).mono ?_; rintro e w' ⟨rfl, hb⟩; obtain ⟨hc, hf⟩ := olds hb)
      go_ret2
      exact ⟨ret_two HR.out rfl, ((Below.refl _ _).alloc (Nat.le_refl _) _).trans (hb.mono (by simp))⟩
    · have he : geoFv s k m c a = 0 := if_neg (fun h => hin h.2)
      have he2 : geoFe s k m c a = 1 := by unfold geoFe; rw [if_pos ho, if_neg hin]
      rw [he, he2]
      by_cases hn : a < 0
      · have hb1 : decide (a < 0) = true := decide_eq_true hn
        clear he he2 ho hk hm hc hin hM hM0
        unfold geoV
        go_enter Tryd.func111, Tryd.ntmps111
        go_wp2_with (go_at_call 43; refine (hE _).mono ?_; rintro e w' ⟨rfl, hb⟩; obtain ⟨hc, hf⟩ := olds hb)
        go_ret2
        exact ⟨rfl, ((Below.refl _ _).alloc (Nat.le_refl _) _).trans (hb.mono (by simp))⟩
      · have hb1 : decide (a < 0) = false := decide_eq_false hn
        have hb2 : decide (c ≤ a) = true := decide_eq_true (by omega)
        clear he he2 ho hk hm hc hin hM hM0
        unfold geoV
        go_enter Tryd.func111, Tryd.ntmps111
        go_wp2_with (go_at_call 43; refine (hE _).mono ?_; rintro e w' ⟨rfl, hb⟩; obtain ⟨hc, hf⟩ := olds hb)
        go_ret2
        exact ⟨rfl, ((Below.refl _ _).alloc (Nat.le_refl _) _).trans (hb.mono (by simp))⟩
  · have hE := geo_no hk hm hc ho
    have he : geoFv s k m c a = 0 := if_neg (fun h => ho h.1)
    have he2 : geoFe s k m c a = 2 := if_neg ho
    rw [he, he2]
    clear he he2 ho hk hm hc
    unfold geoV
    go_enter Tryd.func111, Tryd.ntmps111
    go_wp2_with (go_at_call 43; refine (hE _).mono ?_; rintro e w' ⟨rfl, hb⟩; obtain ⟨hc, hf⟩ := olds hb)
    go_ret2
    exact ⟨rfl, ((Below.refl _ _).alloc (Nat.le_refl _) _).trans (hb.mono (by simp))⟩
theorem geoSz_b (s k m c : Int) : 0 ≤ geoSz s k m c ∧ geoSz s k m c ≤ 65536 := by
  unfold geoSz
  by_cases h : GeoOk s k m c
  · rw [if_pos h]; have := geoOk_b h; omega
  · rw [if_neg h]; omega
set_option maxHeartbeats 400000 in
theorem geoFan_any (s k m c : Int) (hk : W64 k) (hm : W64 m) (hc : W64 c) (w : World) :
    Calls Tryd.prog 64 #[geoV s k m c] w fun e w' => e = .returned (.int .i64 (geoSz s k m c / 12)) ∧ Below w.heap.size w w' := by
  have hS := geoSize_any s k m c hk hm hc
  obtain ⟨b1, b2⟩ := geoSz_b s k m c
  generalize geoSz s k m c = z at hS b1 b2 ⊢
  clear hk hm hc
  unfold geoV at hS ⊢
  go_enter Tryd.func64, Tryd.ntmps64
  go_wp2_with (go_at_call 67; refine (hS _).mono ?_; rintro e w' ⟨rfl, hb⟩; obtain ⟨hc, hf⟩ := olds hb)
  go_ret
  exact ⟨rfl, ((Below.refl _ _).alloc (Nat.le_refl _) _).trans (hb.mono (by simp))⟩
end Go.Proofs.YtfpnlaafefdcaaaDoor
