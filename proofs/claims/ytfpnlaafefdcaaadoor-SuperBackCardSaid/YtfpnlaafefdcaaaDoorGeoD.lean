/- The contracts of caulkref06's other functions. -/
import Derived.Test.YtfpnlaafefdcaaaDoorGeoC
namespace Go.Proofs.YtfpnlaafefdcaaaDoor
open Go.RowKit
attribute [local go_sem ↓] Go.wp_at_zero Go.wp_at_succ

/-- The four cells of a boxed geometry, behind whatever leaves old memory alone. -/
theorem geo_box {w w1 : World} {s k m c : Int} {t : Nat} (hb : Below (w.alloc (.cells #[.int .i64 s, .int .i64 k, .int .i64 m, .int .i64 c] t)).heap.size (w.alloc (.cells #[.int .i64 s, .int .i64 k, .int .i64 m, .int .i64 c] t)) w1) :
    w1.cell? ⟨w.heap.size, 0, none⟩ = some (.int .i64 s) ∧ w1.cell? ⟨w.heap.size, 1, none⟩ = some (.int .i64 k) ∧ w1.cell? ⟨w.heap.size, 2, none⟩ = some (.int .i64 m) ∧ w1.cell? ⟨w.heap.size, 3, none⟩ = some (.int .i64 c) := by
  have h := (olds hb).1
  refine ⟨?_, ?_, ?_, ?_⟩ <;> rw [h _ _ (by simp)] <;> simp [go_sem]
theorem refGeoCheck_any (s k m c : Int) (hk : W64 k) (hm : W64 m) (w : World) :
    Calls Tryd.prog 45 #[.agg #[.int .i64 s, .int .i64 k, .int .i64 m, .int .i64 c]] w fun e w' => e = .returned (.int .i64 (geoE s k m c)) ∧ Below w.heap.size w w' := by
  by_cases h1 : s < 0
  · rw [show geoE s k m c = 2 from if_neg (by unfold GeoOk; omega)]
    exact refCk1 s k m c h1 w
  by_cases h2 : 7 < s
  · rw [show geoE s k m c = 2 from if_neg (by unfold GeoOk; omega)]
    exact refCk2 s k m c h2 w
  have h0 : 0 ≤ s := by omega
  have h7 : s ≤ 7 := by omega
  by_cases hr : rsE k m = 0
  · have CR : ∀ W, Calls Tryd.prog 103 #[.int .i64 k, .int .i64 m] W fun e w' => e = .returned (.int .i64 0) ∧ W = w' := fun W => by
      have := refRsCheck_any k m hk hm W; rw [hr] at this; exact this
    have CE := refEach_any s k m c h0 h7
    by_cases h4 : c < 4
    · rw [show geoE s k m c = 2 from if_neg (by unfold GeoOk; omega)]
      exact refCk4 s k m c h0 h7 h4 CR w
    by_cases h5 : 4096 < c
    · rw [show geoE s k m c = 2 from if_neg (by unfold GeoOk; omega)]
      exact refCk5 s k m c h0 h7 h5 CR w
    obtain ⟨p1, p2⟩ := tw_le h0 h7
    by_cases h6 : c * tw s ≤ 32768
    · rw [show geoE s k m c = 0 from if_pos ⟨h0, h7, hr, by omega, by omega, h6⟩]
      exact refCk7 s k m c (tw s) h0 h7 (by omega) (by omega) (Int.mul_nonneg (by omega) (by omega)) h6 CR CE w
    · rw [show geoE s k m c = 2 from if_neg (fun h => h6 h.2.2.2.2.2)]
      exact refCk6 s k m c (tw s) h0 h7 (by omega) (by omega) (by omega) (by
        have : c * tw s ≤ 4096 * tw s := Int.mul_le_mul_of_nonneg_right (by omega) (by omega)
        omega) CR CE w
  · rw [show geoE s k m c = 2 from if_neg (fun h => hr h.2.2.1)]
    exact refCk3 s k m c h0 h7 (fun W => by have := refRsCheck_any k m hk hm W; rw [rsE_one hr] at this; exact this) w
theorem rgeo_yes {s k m c : Int} (hk : W64 k) (hm : W64 m) (ho : GeoOk s k m c) (w : World) :
    Calls Tryd.prog 45 #[.agg #[.int .i64 s, .int .i64 k, .int .i64 m, .int .i64 c]] w fun e w' => e = .returned (.int .i64 0) ∧ Below w.heap.size w w' := by
  have := refGeoCheck_any s k m c hk hm w
  rw [show geoE s k m c = 0 from if_pos ho] at this; exact this
theorem rgeo_no {s k m c : Int} (hk : W64 k) (hm : W64 m) (ho : ¬ GeoOk s k m c) (w : World) :
    Calls Tryd.prog 45 #[.agg #[.int .i64 s, .int .i64 k, .int .i64 m, .int .i64 c]] w fun e w' => e = .returned (.int .i64 2) ∧ Below w.heap.size w w' := by
  have := refGeoCheck_any s k m c hk hm w
  rw [show geoE s k m c = 2 from if_neg ho] at this; exact this

set_option maxHeartbeats 1000000 in
theorem refSize_any (s k m c : Int) (hk : W64 k) (hm : W64 m) (w : World) :
    Calls Tryd.prog 105 #[.agg #[.int .i64 s, .int .i64 k, .int .i64 m, .int .i64 c]] w fun e w' => e = .returned (.int .i64 (geoSz s k m c)) ∧ Below w.heap.size w w' := by
  by_cases ho : GeoOk s k m c
  · have hE := rgeo_yes hk hm ho
    obtain ⟨h0, h7, h4, hc2, p1, p2, hM, hM0⟩ := geoOk_b ho
    have hEa := refEach_any s k m c h0 h7
    rw [show geoSz s k m c = 512 * tw s from if_pos ho]
    clear ho hk hm hM hM0
    generalize tw s = p at hEa p1 p2 ⊢
    go_enter Tryd.func105, Tryd.ntmps105
    go_wp2_with (first | (go_at_call 45; refine (hE _).mono ?_; rintro e w1 ⟨rfl, hb1⟩; obtain ⟨kb0, kb1, kb2, kb3⟩ := geo_box hb1; have hz1 := hb1.size; simp at hz1; have hz2 : w.heap.size < w1.heap.size := by omega) | (go_at_call 60; refine (hEa _).mono ?_; rintro e w2 ⟨rfl, hb2⟩; obtain ⟨hc2, hf2⟩ := olds hb2; have hz4 : w.heap.size < w2.heap.size := (by have h := hb2.size; (try simp at h); omega)))
    go_ret
    exact ⟨rfl, (((Below.refl _ _).alloc (Nat.le_refl _) _).trans (hb1.mono (by simp))).trans (hb2.mono (by omega))⟩
  · have hE := rgeo_no hk hm ho
    rw [show geoSz s k m c = 0 from if_neg ho]
    clear ho hk hm
    go_enter Tryd.func105, Tryd.ntmps105
    go_wp2_with (first | (go_at_call 45; refine (hE _).mono ?_; rintro e w1 ⟨rfl, hb1⟩; obtain ⟨kb0, kb1, kb2, kb3⟩ := geo_box hb1; have hz1 := hb1.size; simp at hz1; have hz2 : w.heap.size < w1.heap.size := by omega))
    go_ret
    exact ⟨rfl, ((Below.refl _ _).alloc (Nat.le_refl _) _).trans (hb1.mono (by simp))⟩

set_option maxHeartbeats 1000000 in
theorem refSectors_any (s k m c : Int) (hk : W64 k) (hm : W64 m) (w : World) :
    Calls Tryd.prog 42 #[.agg #[.int .i64 s, .int .i64 k, .int .i64 m, .int .i64 c]] w fun e w' => e = .returned (.int .i64 (geoSec s k m c)) ∧ Below w.heap.size w w' := by
  by_cases ho : GeoOk s k m c
  · have hE := rgeo_yes hk hm ho
    obtain ⟨h0, h7, h4, hc2, p1, p2, hM, hM0⟩ := geoOk_b ho
    have hEa := refEach_any s k m c h0 h7
    rw [show geoSec s k m c = c * tw s from if_pos ho]
    clear ho hk hm
    generalize tw s = p at hEa p1 p2 hM hM0 ⊢
    have hw : IntKind.i64.wrap (c * p) = c * p := IntWalk.i64_in _ (by omega)
    go_enter Tryd.func42, Tryd.ntmps42
    go_wp2_with (first | (go_at_call 45; refine (hE _).mono ?_; rintro e w1 ⟨rfl, hb1⟩; obtain ⟨kb0, kb1, kb2, kb3⟩ := geo_box hb1; have hz1 := hb1.size; simp at hz1; have hz2 : w.heap.size < w1.heap.size := by omega) | (go_at_call 60; refine (hEa _).mono ?_; rintro e w2 ⟨rfl, hb2⟩; obtain ⟨hc2, hf2⟩ := olds hb2; have hz4 : w.heap.size < w2.heap.size := (by have h := hb2.size; (try simp at h); omega)))
    have kd0 : w1.drew.cell? ⟨w.heap.size, 0, none⟩ = some (.int .i64 s) := kb0
    have kd1 : w1.drew.cell? ⟨w.heap.size, 1, none⟩ = some (.int .i64 k) := kb1
    have kd2 : w1.drew.cell? ⟨w.heap.size, 2, none⟩ = some (.int .i64 m) := kb2
    have kd3 : w1.drew.cell? ⟨w.heap.size, 3, none⟩ = some (.int .i64 c) := kb3
    go_region_with (first | (go_at_call 60; refine (hEa _).mono ?_; rintro e w2 ⟨rfl, hb2⟩; have q3 : w2.cell? ⟨w.heap.size, 3, none⟩ = some (.int .i64 c) := (hb2.cell (p := ⟨w.heap.size, 3, none⟩) hz2).trans kb3))
    all_goals go_wp2
    all_goals go_ret
    all_goals first
      | exact ⟨rfl, (((Below.refl _ _).alloc (Nat.le_refl _) _).trans (hb1.mono (by simp))).trans (hb2.mono (by omega))⟩
      | exact ⟨rfl, (((Below.refl _ _).alloc (Nat.le_refl _) _).trans (hb1.mono (by simp))).drew.trans (hb2.mono (by simp; omega))⟩
      | exact ⟨rfl, ((((Below.refl _ _).alloc (Nat.le_refl _) _).trans (hb1.mono (by simp))).trans (hb2.mono (by omega))).drew⟩
  · have hE := rgeo_no hk hm ho
    rw [show geoSec s k m c = 0 from if_neg ho]
    clear ho hk hm
    go_enter Tryd.func42, Tryd.ntmps42
    go_wp2_with (first | (go_at_call 45; refine (hE _).mono ?_; rintro e w1 ⟨rfl, hb1⟩; obtain ⟨kb0, kb1, kb2, kb3⟩ := geo_box hb1; have hz1 := hb1.size; simp at hz1; have hz2 : w.heap.size < w1.heap.size := by omega))
    go_ret
    exact ⟨rfl, ((Below.refl _ _).alloc (Nat.le_refl _) _).trans (hb1.mono (by simp))⟩

set_option maxHeartbeats 1000000 in
theorem refFirst_any (s k m c a : Int) (hk : W64 k) (hm : W64 m) (w : World) :
    Calls Tryd.prog 18 #[.agg #[.int .i64 s, .int .i64 k, .int .i64 m, .int .i64 c], .int .i64 a] w fun e w' => e = .returned (.tuple #[.int .i64 (geoFv s k m c a), .int .i64 (geoFe s k m c a)]) ∧ Below w.heap.size w w' := by
  by_cases ho : GeoOk s k m c
  · have hE := rgeo_yes hk hm ho
    obtain ⟨h0, h7, h4, hc2, p1, p2, hM, hM0⟩ := geoOk_b ho
    have hEa := refEach_any s k m c h0 h7
    by_cases hin : 0 ≤ a ∧ a < c
    · rw [show geoFv s k m c a = a * tw s from if_pos ⟨ho, hin⟩, show geoFe s k m c a = 0 by unfold geoFe; rw [if_pos ho, if_pos hin]]
      obtain ⟨hi1, hi2⟩ := hin
      have hb1 : decide (a < 0) = false := decide_eq_false (by omega)
      have hb2 : decide (c ≤ a) = false := decide_eq_false (by omega)
      have hq1 : a * tw s ≤ c * tw s := Int.mul_le_mul_of_nonneg_right (by omega) (by omega)
      have hq2 : 0 ≤ a * tw s := Int.mul_nonneg (by omega) (by omega)
      clear ho hk hm
      generalize tw s = p at hEa p1 p2 hM hM0 hq1 hq2 ⊢
      have hw : wrap64 (a * p) = a * p := wrap_in (by omega)
      clear hM hM0 hq1 hq2
      go_enter Tryd.func18, Tryd.ntmps18
      go_wp2_with (first | (go_at_call 45; refine (hE _).mono ?_; rintro e w1 ⟨rfl, hb1⟩; obtain ⟨kb0, kb1, kb2, kb3⟩ := geo_box hb1; have hz1 := hb1.size; simp at hz1; have hz2 : w.heap.size < w1.heap.size := by omega) | (go_at_call 60; refine (hEa _).mono ?_; rintro e w2 ⟨rfl, hb2⟩; have hz4 : w.heap.size < w2.heap.size := (by have h := hb2.size; (try simp at h); omega)))
      go_ret2
      exact ⟨ret_two hw rfl, (((Below.refl _ _).alloc (Nat.le_refl _) _).trans (hb1.mono (by simp))).trans (hb2.mono (by omega))⟩
    · rw [show geoFv s k m c a = 0 from if_neg (fun h => hin h.2), show geoFe s k m c a = 1 by unfold geoFe; rw [if_pos ho, if_neg hin]]
      by_cases hn : a < 0
      · have hb1 : decide (a < 0) = true := decide_eq_true hn
        clear ho hk hm hM hM0 hin
        go_enter Tryd.func18, Tryd.ntmps18
        go_wp2_with (first | (go_at_call 45; refine (hE _).mono ?_; rintro e w1 ⟨rfl, hb1⟩; obtain ⟨kb0, kb1, kb2, kb3⟩ := geo_box hb1; have hz1 := hb1.size; simp at hz1; have hz2 : w.heap.size < w1.heap.size := by omega) | (go_at_call 60; refine (hEa _).mono ?_; rintro e w2 ⟨rfl, hb2⟩; have hz4 : w.heap.size < w2.heap.size := (by have h := hb2.size; (try simp at h); omega)))
        go_ret2
        exact ⟨rfl, ((Below.refl _ _).alloc (Nat.le_refl _) _).trans (hb1.mono (by simp))⟩
      · have hb1 : decide (a < 0) = false := decide_eq_false hn
        have hb2 : decide (c ≤ a) = true := decide_eq_true (by omega)
        clear ho hk hm hM hM0 hin
        go_enter Tryd.func18, Tryd.ntmps18
        go_wp2_with (first | (go_at_call 45; refine (hE _).mono ?_; rintro e w1 ⟨rfl, hb1⟩; obtain ⟨kb0, kb1, kb2, kb3⟩ := geo_box hb1; have hz1 := hb1.size; simp at hz1; have hz2 : w.heap.size < w1.heap.size := by omega) | (go_at_call 60; refine (hEa _).mono ?_; rintro e w2 ⟨rfl, hb2⟩; have hz4 : w.heap.size < w2.heap.size := (by have h := hb2.size; (try simp at h); omega)))
        go_ret2
        exact ⟨rfl, ((Below.refl _ _).alloc (Nat.le_refl _) _).trans (hb1.mono (by simp))⟩
  · have hE := rgeo_no hk hm ho
    rw [show geoFv s k m c a = 0 from if_neg (fun h => ho h.1), show geoFe s k m c a = 2 from if_neg ho]
    clear ho hk hm
    go_enter Tryd.func18, Tryd.ntmps18
    go_wp2_with (first | (go_at_call 45; refine (hE _).mono ?_; rintro e w1 ⟨rfl, hb1⟩; obtain ⟨kb0, kb1, kb2, kb3⟩ := geo_box hb1; have hz1 := hb1.size; simp at hz1; have hz2 : w.heap.size < w1.heap.size := by omega))
    go_ret2
    exact ⟨rfl, ((Below.refl _ _).alloc (Nat.le_refl _) _).trans (hb1.mono (by simp))⟩


set_option maxHeartbeats 400000 in
theorem refFan_any (s k m c : Int) (hk : W64 k) (hm : W64 m) (w : World) :
    Calls Tryd.prog 54 #[.agg #[.int .i64 s, .int .i64 k, .int .i64 m, .int .i64 c]] w fun e w' => e = .returned (.int .i64 (geoSz s k m c / 12)) ∧ Below w.heap.size w w' := by
  have hS := refSize_any s k m c hk hm
  obtain ⟨b1, b2⟩ := geoSz_b s k m c
  generalize geoSz s k m c = z at hS b1 b2 ⊢
  clear hk hm
  go_enter Tryd.func54, Tryd.ntmps54
  go_wp2_with (go_at_call 105; refine (hS _).mono ?_; rintro e w' ⟨rfl, hb⟩; obtain ⟨hc, hf⟩ := olds hb)
  go_ret
  exact ⟨rfl, ((Below.refl _ _).alloc (Nat.le_refl _) _).trans (hb.mono (by simp))⟩


theorem blocks_eq {s a : Int} (h0 : 0 ≤ s) (h7 : s ≤ 7) : ((a + 512 - 1) / 512 + tw s - 1) / tw s = if 0 < a % (512 * tw s) then a / (512 * tw s) + 1 else a / (512 * tw s) := by
  have : s = 0 ∨ s = 1 ∨ s = 2 ∨ s = 3 ∨ s = 4 ∨ s = 5 ∨ s = 6 ∨ s = 7 := by omega
  by_cases hr : 0 < a % (512 * tw s)
  · rw [if_pos hr]
    rcases this with rfl | rfl | rfl | rfl | rfl | rfl | rfl | rfl <;> simp only [tw, Int.toNat_zero, Int.reducePow, Int.reduceMul, Int.reduceToNat] at hr ⊢ <;> omega
  · rw [if_neg hr]
    rcases this with rfl | rfl | rfl | rfl | rfl | rfl | rfl | rfl <;> simp only [tw, Int.toNat_zero, Int.reducePow, Int.reduceMul, Int.reduceToNat] at hr ⊢ <;> omega

end Go.Proofs.YtfpnlaafefdcaaaDoor
