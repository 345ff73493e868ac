/- Geometries: the contracts of rs.Check, caulkref04.Check and of geom's functions. -/
import Derived.Test.YtfpnlaafefdcaaaDoorW64
import Derived.Test.YtfpnlaafefdcaaaDoorKit
import Derived.Deep.RegionHeld3
import Derived.IntWalk
namespace Go.Proofs.YtfpnlaafefdcaaaDoor
open Go.RowKit

/-- What Check answers. -/
def rsE (k m : Int) : Int := if 1 ≤ k ∧ 0 ≤ m ∧ k + m ≤ 255 then 0 else 1
theorem rsCheck_any (k m : Int) (hkw : -9223372036854775808 ≤ k ∧ k ≤ 9223372036854775807) (hmw : -9223372036854775808 ≤ m ∧ m ≤ 9223372036854775807) (w : World) :
    Calls Tryd.prog 100 #[.int .i64 k, .int .i64 m] w fun e w' => e = .returned (.int .i64 (rsE k m)) ∧ w = w' := by
  obtain ⟨hk1, hk2⟩ := hkw
  obtain ⟨hm1, hm2⟩ := hmw
  by_cases h0 : k < 1
  · have d0 : decide (k < 1) = true := decide_eq_true h0
    have he : rsE k m = 1 := if_neg (by omega)
    rw [he]
    clear he h0
    go_enter Tryd.func100, Tryd.ntmps100
    go_wp2
    go_ret
    exact ⟨rfl, rfl⟩
  · have d0 : decide (k < 1) = false := decide_eq_false h0
    by_cases h1 : m < 0
    · have d1 : decide (m < 0) = true := decide_eq_true h1
      have he : rsE k m = 1 := if_neg (by omega)
      rw [he]
      clear he h0 h1
      go_enter Tryd.func100, Tryd.ntmps100
      go_wp2
      go_ret
      exact ⟨rfl, rfl⟩
    · have d1 : decide (m < 0) = false := decide_eq_false h1
      by_cases h2 : 255 < k
      · have d2 : decide ((255 : Int) < k) = true := decide_eq_true h2
        have he : rsE k m = 1 := if_neg (by omega)
        rw [he]
        clear he h1 h2
        go_enter Tryd.func100, Tryd.ntmps100
        go_wp2
        go_ret
        exact ⟨rfl, rfl⟩
      · have d2 : decide ((255 : Int) < k) = false := decide_eq_false h2
        have hk3 : 1 ≤ k := by omega
        have hk4 : k ≤ 255 := by omega
        by_cases h3 : (255 : Int) - k < m
        · have d3 : decide ((255 : Int) - k < m) = true := decide_eq_true h3
          have he : rsE k m = 1 := if_neg (by omega)
          rw [he]
          clear he h0 h1 h2 h3
          go_enter Tryd.func100, Tryd.ntmps100
          go_wp2
          go_ret
          exact ⟨rfl, rfl⟩
        · have d3 : decide ((255 : Int) - k < m) = false := decide_eq_false h3
          have he : rsE k m = 0 := if_pos (by omega)
          rw [he]
          clear he h0 h1 h2 h3
          go_enter Tryd.func100, Tryd.ntmps100
          go_wp2
          go_ret
          exact ⟨rfl, rfl⟩
theorem refRsCheck_any (k m : Int) (hkw : -9223372036854775808 ≤ k ∧ k ≤ 9223372036854775807) (hmw : -9223372036854775808 ≤ m ∧ m ≤ 9223372036854775807) (w : World) :
    Calls Tryd.prog 103 #[.int .i64 k, .int .i64 m] w fun e w' => e = .returned (.int .i64 (rsE k m)) ∧ w = w' := by
  obtain ⟨hk1, hk2⟩ := hkw
  obtain ⟨hm1, hm2⟩ := hmw
  by_cases h0 : k < 1
  · have d0 : decide (k < 1) = true := decide_eq_true h0
    have he : rsE k m = 1 := if_neg (by omega)
    rw [he]
    clear he
    go_enter Tryd.func103, Tryd.ntmps103
    go_wp2
    go_ret
    exact ⟨rfl, rfl⟩
  have d0 : decide (k < 1) = false := decide_eq_false h0
  by_cases h1 : m < 0
  · have d1 : decide (m < 0) = true := decide_eq_true h1
    have he : rsE k m = 1 := if_neg (by omega)
    rw [he]
    clear he
    go_enter Tryd.func103, Tryd.ntmps103
    go_wp2
    go_ret
    exact ⟨rfl, rfl⟩
  have d1 : decide (m < 0) = false := decide_eq_false h1
  by_cases h2 : 255 < k
  · have d2 : decide ((255 : Int) < k) = true := decide_eq_true h2
    have he : rsE k m = 1 := if_neg (by omega)
    rw [he]
    clear he
    go_enter Tryd.func103, Tryd.ntmps103
    go_wp2
    go_ret
    exact ⟨rfl, rfl⟩
  have d2 : decide ((255 : Int) < k) = false := decide_eq_false h2
  by_cases h3 : 255 < m
  · have d3 : decide ((255 : Int) < m) = true := decide_eq_true h3
    have he : rsE k m = 1 := if_neg (by omega)
    rw [he]
    clear he
    go_enter Tryd.func103, Tryd.ntmps103
    go_wp2
    go_ret
    exact ⟨rfl, rfl⟩
  have d3 : decide ((255 : Int) < m) = false := decide_eq_false h3
  by_cases h4 : 255 < k + m
  · have d4 : decide ((255 : Int) < k + m) = true := decide_eq_true h4
    have he : rsE k m = 1 := if_neg (by omega)
    rw [he]
    clear he
    go_enter Tryd.func103, Tryd.ntmps103
    go_wp2
    go_ret
    exact ⟨rfl, rfl⟩
  have d4 : decide ((255 : Int) < k + m) = false := decide_eq_false h4
  have he : rsE k m = 0 := if_pos (by omega)
  rw [he]
  clear he
  go_enter Tryd.func103, Tryd.ntmps103
  go_wp2
  go_ret
  exact ⟨rfl, rfl⟩

theorem olds {W w1 : World} (hb : Below W.heap.size W w1) : (∀ b o, b < W.heap.size → w1.cell? ⟨b, o, none⟩ = W.cell? ⟨b, o, none⟩) ∧ (∀ b o, b < W.heap.size → w1.frozen? ⟨b, o, none⟩ = W.frozen? ⟨b, o, none⟩) :=
  ⟨fun b o h => hb.cell (p := ⟨b, o, none⟩) h, fun b o h => hb.frozen (p := ⟨b, o, none⟩) h⟩
/-- A geometry. -/
def geoV (s k m c : Int) : Value := .agg #[.int .i64 s, .int .i64 k, .int .i64 m, .int .i64 c]
/-- Two to the power of the shift. -/
def tw (s : Int) : Int := 2 ^ s.toNat
/-- A geometry that is right. -/
def GeoOk (s k m c : Int) : Prop := 0 ≤ s ∧ s ≤ 7 ∧ rsE k m = 0 ∧ 4 ≤ c ∧ c ≤ 4096 ∧ c * tw s ≤ 32768
instance (s k m c : Int) : Decidable (GeoOk s k m c) := by unfold GeoOk; infer_instance
/-- What Check answers. -/
def geoE (s k m c : Int) : Int := if GeoOk s k m c then 0 else 2
theorem tw_le {s : Int} (h0 : 0 ≤ s) (h7 : s ≤ 7) : 1 ≤ tw s ∧ tw s ≤ 128 := by
  have : s = 0 ∨ s = 1 ∨ s = 2 ∨ s = 3 ∨ s = 4 ∨ s = 5 ∨ s = 6 ∨ s = 7 := by omega
  rcases this with rfl | rfl | rfl | rfl | rfl | rfl | rfl | rfl <;> decide
theorem tw_succ {j : Int} (h : 0 ≤ j) : tw j * 2 = tw (j + 1) := by
  unfold tw
  rw [show (j + 1).toNat = j.toNat + 1 by omega, Int.pow_succ]
theorem wrap_in {x : Int} (h : -9223372036854775808 ≤ x ∧ x ≤ 9223372036854775807) : wrap64 x = x := by
  unfold wrap64; omega
theorem mn_dec {s c : Int} (h0 : 0 ≤ s) (h7 : s ≤ 7) : ∃ q : Int, 32768 / 2 ^ s.toNat = q ∧ (0 ≤ q ∧ q ≤ 32768) ∧ (c ≤ 4096 ∧ c * tw s ≤ 32768 ↔ c ≤ 4096 ∧ c ≤ q) := by
  refine ⟨_, rfl, ?_⟩
  have : s = 0 ∨ s = 1 ∨ s = 2 ∨ s = 3 ∨ s = 4 ∨ s = 5 ∨ s = 6 ∨ s = 7 := by omega
  rcases this with rfl | rfl | rfl | rfl | rfl | rfl | rfl | rfl <;> simp [tw] <;> omega
theorem rsE_one {k m : Int} (h : ¬ rsE k m = 0) : rsE k m = 1 := by
  unfold rsE at h ⊢
  by_cases g : 1 ≤ k ∧ 0 ≤ m ∧ k + m ≤ 255
  · rw [if_pos g] at h; exact absurd rfl h
  · rw [if_neg g]

set_option maxHeartbeats 400000 in
theorem geoCheck_neg (s k m c : Int) (h : s < 0 ∨ 7 < s) (w : World) :
    Calls Tryd.prog 43 #[geoV s k m c] w fun e w' => e = .returned (.int .i64 2) ∧ Below w.heap.size w w' := by
  unfold geoV
  rcases h with h | h
  · have d0 : decide (s < 0) = true := decide_eq_true h
    go_enter Tryd.func43, Tryd.ntmps43
    go_wp2
    go_ret
    exact ⟨rfl, (Below.refl _ _).alloc (Nat.le_refl _) _⟩
  · have d0 : decide (s < 0) = false := decide_eq_false (by omega)
    have d1 : decide (7 < s) = true := decide_eq_true h
    go_enter Tryd.func43, Tryd.ntmps43
    go_wp2
    go_ret
    exact ⟨rfl, (Below.refl _ _).alloc (Nat.le_refl _) _⟩
set_option maxHeartbeats 400000 in
theorem geoCheck_in (s k m c : Int) (h0 : 0 ≤ s) (h7 : s ≤ 7) (hk : W64 k) (hm : W64 m) (hc : W64 c) (w : World) :
    Calls Tryd.prog 43 #[geoV s k m c] w fun e w' => e = .returned (.int .i64 (geoE s k m c)) ∧ Below w.heap.size w w' := by
  unfold W64 at hk hm hc
  unfold geoV
  have d0 : decide (s < 0) = false := decide_eq_false (by omega)
  have d1 : decide (7 < s) = false := decide_eq_false (by omega)
  by_cases hr : rsE k m = 0
  · by_cases h4 : c < 4
    · have d2 : decide (c < 4) = true := decide_eq_true h4
      have he : geoE s k m c = 2 := if_neg (by unfold GeoOk; omega)
      have CR : ∀ W, Calls Tryd.prog 100 #[.int .i64 k, .int .i64 m] W fun e w' => e = .returned (.int .i64 0) ∧ W = w' := fun W => by
        have := rsCheck_any k m hk hm W; rw [hr] at this; exact this
      rw [he]
      clear he hr hk hm
      go_enter Tryd.func43, Tryd.ntmps43
      go_wp2_with (go_at_call 100; refine (CR _).mono ?_; rintro e w' ⟨rfl, rfl⟩)
      go_quiet (fail)
      go_wp2
      go_ret
      exact ⟨rfl, below_drewN ((Below.refl _ _).alloc (Nat.le_refl _) _) _⟩
    · have d2 : decide (c < 4) = false := decide_eq_false h4
      have CR : ∀ W, Calls Tryd.prog 100 #[.int .i64 k, .int .i64 m] W fun e w' => e = .returned (.int .i64 0) ∧ W = w' := fun W => by
        have := rsCheck_any k m hk hm W; rw [hr] at this; exact this
      obtain ⟨q, hq0, hq1, hd⟩ : ∃ q, 32768 / 2 ^ s.toNat = q ∧ (0 ≤ q ∧ q ≤ 32768) ∧ (c ≤ 4096 ∧ c * tw s ≤ 32768 ↔ c ≤ 4096 ∧ c ≤ q) := mn_dec h0 h7
      obtain ⟨hq1, hq2⟩ := hq1
      by_cases hq : q < 4096 <;> by_cases ho : GeoOk s k m c
      · have he : geoE s k m c = 0 := if_pos ho
        have hd2 : decide (q < c) = false := decide_eq_false (by unfold GeoOk at ho; omega)
        rw [he]
        clear he hk hm hd ho hr
        go_enter Tryd.func43, Tryd.ntmps43
        go_wp2_with (go_at_call 100; refine (CR _).mono ?_; rintro e w' ⟨rfl, rfl⟩)
        go_quiet (fail)
        go_wp2
        go_ret
        exact ⟨rfl, below_drewN ((Below.refl _ _).alloc (Nat.le_refl _) _) _⟩
      · have he : geoE s k m c = 2 := if_neg ho
        have hd2 : decide (q < c) = true := decide_eq_true (by unfold GeoOk at ho; omega)
        rw [he]
        clear he hk hm hd ho hr
        go_enter Tryd.func43, Tryd.ntmps43
        go_wp2_with (go_at_call 100; refine (CR _).mono ?_; rintro e w' ⟨rfl, rfl⟩)
        go_quiet (fail)
        go_wp2
        go_ret
        exact ⟨rfl, below_drewN ((Below.refl _ _).alloc (Nat.le_refl _) _) _⟩
      · have he : geoE s k m c = 0 := if_pos ho
        have hd2 : decide (4096 < c) = false := decide_eq_false (by unfold GeoOk at ho; omega)
        rw [he]
        clear he hk hm hd ho hr
        go_enter Tryd.func43, Tryd.ntmps43
        go_wp2_with (go_at_call 100; refine (CR _).mono ?_; rintro e w' ⟨rfl, rfl⟩)
        go_quiet (fail)
        go_wp2
        go_ret
        exact ⟨rfl, below_drewN ((Below.refl _ _).alloc (Nat.le_refl _) _) _⟩
      · have he : geoE s k m c = 2 := if_neg ho
        have hd2 : decide (4096 < c) = true := decide_eq_true (by unfold GeoOk at ho; omega)
        rw [he]
        clear he hk hm hd ho hr
        go_enter Tryd.func43, Tryd.ntmps43
        go_wp2_with (go_at_call 100; refine (CR _).mono ?_; rintro e w' ⟨rfl, rfl⟩)
        go_quiet (fail)
        go_wp2
        go_ret
        exact ⟨rfl, below_drewN ((Below.refl _ _).alloc (Nat.le_refl _) _) _⟩
  · have he : geoE s k m c = 2 := if_neg (fun ho => hr ho.2.2.1)
    have CR : ∀ W, Calls Tryd.prog 100 #[.int .i64 k, .int .i64 m] W fun e w' => e = .returned (.int .i64 1) ∧ W = w' := fun W => by
      have := rsCheck_any k m hk hm W; rw [rsE_one hr] at this; exact this
    rw [he]
    clear he hr hk hm
    go_enter Tryd.func43, Tryd.ntmps43
    go_wp2_with (go_at_call 100; refine (CR _).mono ?_; rintro e w' ⟨rfl, rfl⟩)
    go_ret
    exact ⟨rfl, (Below.refl _ _).alloc (Nat.le_refl _) _⟩
/-- geom.Check answers 0 for what is right, and 2 for all else. -/
theorem geoCheck_any (s k m c : Int) (hk : W64 k) (hm : W64 m) (hc : W64 c) (w : World) :
    Calls Tryd.prog 43 #[geoV s k m c] w fun e w' => e = .returned (.int .i64 (geoE s k m c)) ∧ Below w.heap.size w w' := by
  by_cases h : 0 ≤ s ∧ s ≤ 7
  · exact geoCheck_in s k m c h.1 h.2 hk hm hc w
  · have he : geoE s k m c = 2 := if_neg (fun ho => h ⟨ho.1, ho.2.1⟩)
    rw [he]
    exact geoCheck_neg s k m c (by omega) w

/-- What Size, Sectors, First, Cluster and Blocks answer. -/
def geoSz (s k m c : Int) : Int := if GeoOk s k m c then 512 * tw s else 0
def geoSec (s k m c : Int) : Int := if GeoOk s k m c then c * tw s else 0
def geoFe (s k m c a : Int) : Int := if GeoOk s k m c then (if 0 ≤ a ∧ a < c then 0 else 1) else 2
def geoFv (s k m c a : Int) : Int := if GeoOk s k m c ∧ 0 ≤ a ∧ a < c then a * tw s else 0
def geoCe (s k m c a : Int) : Int := if GeoOk s k m c then (if 0 ≤ a ∧ a < c * tw s then 0 else 1) else 2
def geoCv (s k m c a : Int) : Int := if GeoOk s k m c ∧ 0 ≤ a ∧ a < c * tw s then a / tw s else 0
def geoBe (s k m c b : Int) : Int := if GeoOk s k m c then (if 0 ≤ b ∧ b ≤ 1099511627776 then 0 else 1) else 2
def geoBv (s k m c b : Int) : Int := if GeoOk s k m c ∧ 0 ≤ b ∧ b ≤ 1099511627776 then ((b + 512 - 1) / 512 + tw s - 1) / tw s else 0

/-- The bounds of a geometry that is right. -/
theorem geoOk_b {s k m c : Int} (h : GeoOk s k m c) : 0 ≤ s ∧ s ≤ 7 ∧ 4 ≤ c ∧ c ≤ 4096 ∧ 1 ≤ tw s ∧ tw s ≤ 128 ∧ c * tw s ≤ 32768 ∧ 0 ≤ c * tw s := by
  obtain ⟨h0, h7, _, h4, hc, hm⟩ := h
  obtain ⟨p1, p2⟩ := tw_le h0 h7
  exact ⟨h0, h7, h4, hc, p1, p2, hm, Int.mul_nonneg (by omega) (by omega)⟩
theorem geo_yes {s k m c : Int} (hk : W64 k) (hm : W64 m) (hc : W64 c) (ho : GeoOk s k m c) (w : World) :
    Calls Tryd.prog 43 #[.agg #[.int .i64 s, .int .i64 k, .int .i64 m, .int .i64 c]] w fun e w' => e = .returned (.int .i64 0) ∧ Below w.heap.size w w' := by
  have := geoCheck_any s k m c hk hm hc w
  rw [show geoE s k m c = 0 from if_pos ho] at this; exact this
theorem geo_no {s k m c : Int} (hk : W64 k) (hm : W64 m) (hc : W64 c) (ho : ¬ GeoOk s k m c) (w : World) :
    Calls Tryd.prog 43 #[.agg #[.int .i64 s, .int .i64 k, .int .i64 m, .int .i64 c]] w fun e w' => e = .returned (.int .i64 2) ∧ Below w.heap.size w w' := by
  have := geoCheck_any s k m c hk hm hc w
  rw [show geoE s k m c = 2 from if_neg ho] at this; exact this

set_option maxHeartbeats 400000 in
theorem geoSize_any (s k m c : Int) (hk : W64 k) (hm : W64 m) (hc : W64 c) (w : World) :
    Calls Tryd.prog 67 #[geoV s k m c] w fun e w' => e = .returned (.int .i64 (geoSz s k m c)) ∧ Below w.heap.size w w' := by
  by_cases ho : GeoOk s k m c
  · have hE := geo_yes hk hm hc ho
    have hr : wrap64 (512 * 2 ^ s.toNat) = 512 * tw s := wrap_in (by have := geoOk_b ho; show _ ≤ 512 * tw s ∧ 512 * tw s ≤ _; omega)
    obtain ⟨h0, h7, _⟩ := geoOk_b ho
    have he : geoSz s k m c = 512 * tw s := if_pos ho
    have HE := Lib.hid he
    clear he ho hk hm hc
    unfold geoV
    go_enter Tryd.func67, Tryd.ntmps67
    go_wp2_with (go_at_call 43; refine (hE _).mono ?_; rintro e w' ⟨rfl, hb⟩; obtain ⟨hc, hf⟩ := olds hb)
    go_ret
    exact ⟨ret_int (by rw [HE.out]; exact hr), ((Below.refl _ _).alloc (Nat.le_refl _) _).trans (hb.mono (by simp))⟩
  · have hE := geo_no hk hm hc ho
    have he : geoSz s k m c = 0 := if_neg ho
    rw [he]
    clear he ho hk hm hc
    unfold geoV
    go_enter Tryd.func67, Tryd.ntmps67
    go_wp2_with (go_at_call 43; refine (hE _).mono ?_; rintro e w' ⟨rfl, hb⟩; obtain ⟨hc, hf⟩ := olds hb)
    go_ret
    exact ⟨rfl, ((Below.refl _ _).alloc (Nat.le_refl _) _).trans (hb.mono (by simp))⟩
set_option maxHeartbeats 400000 in
theorem geoSectors_any (s k m c : Int) (hk : W64 k) (hm : W64 m) (hc : W64 c) (w : World) :
    Calls Tryd.prog 14 #[geoV s k m c] w fun e w' => e = .returned (.int .i64 (geoSec s k m c)) ∧ Below w.heap.size w w' := by
  by_cases ho : GeoOk s k m c
  · have hE := geo_yes hk hm hc ho
    have hr : wrap64 (c * 2 ^ s.toNat) = c * tw s := wrap_in (by have := geoOk_b ho; show _ ≤ c * tw s ∧ c * tw s ≤ _; omega)
    obtain ⟨h0, h7, _⟩ := geoOk_b ho
    have he : geoSec s k m c = c * tw s := if_pos ho
    have HE := Lib.hid he
    clear he ho hk hm hc
    unfold geoV
    go_enter Tryd.func14, Tryd.ntmps14
    go_wp2_with (go_at_call 43; refine (hE _).mono ?_; rintro e w' ⟨rfl, hb⟩; obtain ⟨hc, hf⟩ := olds hb)
    go_ret
    exact ⟨ret_int (by rw [HE.out]; exact hr), ((Below.refl _ _).alloc (Nat.le_refl _) _).trans (hb.mono (by simp))⟩
  · have hE := geo_no hk hm hc ho
    have he : geoSec s k m c = 0 := if_neg ho
    rw [he]
    clear he ho hk hm hc
    unfold geoV
    go_enter Tryd.func14, Tryd.ntmps14
    go_wp2_with (go_at_call 43; refine (hE _).mono ?_; rintro e w' ⟨rfl, hb⟩; obtain ⟨hc, hf⟩ := olds hb)
    go_ret
    exact ⟨rfl, ((Below.refl _ _).alloc (Nat.le_refl _) _).trans (hb.mono (by simp))⟩
end Go.Proofs.YtfpnlaafefdcaaaDoor
