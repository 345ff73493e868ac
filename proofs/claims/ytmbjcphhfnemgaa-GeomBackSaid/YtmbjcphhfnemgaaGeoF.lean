/- The walks of GeomTells and GeomBack. -/
import Derived.Test.YtmbjcphhfnemgaaGeoE
import Derived.Test.YtmbjcphhfnemgaaReg
namespace Go.Proofs.Ytmbjcphhfnemgaa
open Go.RowKit

theorem GK.drew {w W : World} {s k m c : Int} (h : GK w W s k m c) : GK w W.drew s k m c :=
  ⟨h.c0, h.c1, h.c2, h.c3, h.lt, h.be.drew⟩
set_option maxHeartbeats 2000000 in
set_option maxRecDepth 100000 in
theorem geomTells_walk {s k m c a b : Int} (hk : W64 k) (hm : W64 m) (hc : W64 c) (w : World) :
    Calls Try.prog 6 #[.agg #[.int .i64 s, .int .i64 k, .int .i64 m, .int .i64 c], .int .i64 a, .int .i64 b] w fun e w' => e = .returned (.bool true) ∧ Below w.heap.size w w' := by
  have a1 := geoFirst_any s k m c a hk hm hc
  have a2 := refFirst_any s k m c a hk hm
  have a3 := geoCluster_any s k m c a hk hm hc
  have a4 := refCluster_any s k m c a hk hm
  have a5 := geoBlocks_any s k m c b hk hm hc
  have a6 := refBlocks_any s k m c b hk hm
  have a7 := geoCheck_any s k m c hk hm hc
  have a8 := refGeoCheck_any s k m c hk hm
  have a9 := geoSize_any s k m c hk hm hc
  have a10 := refSize_any s k m c hk hm
  have a11 := geoSectors_any s k m c hk hm hc
  have a12 := refSectors_any s k m c hk hm
  have a13 := geoFan_any s k m c hk hm hc
  have a14 := refFan_any s k m c hk hm
  have a15 := geoEntries_any s k m c hk hm hc
  have a16 := refEntries_any s k m c hk hm
  have a17 := geoLives_any
  generalize geoFv s k m c a = r1 at a1 a2
  generalize geoFe s k m c a = r2 at a1 a2
  generalize geoCv s k m c a = r3 at a3 a4
  generalize geoCe s k m c a = r4 at a3 a4
  generalize geoBv s k m c b = r5 at a5 a6
  generalize geoBe s k m c b = r6 at a5 a6
  generalize geoE s k m c = r7 at a7 a8
  generalize geoSz s k m c / 12 = r9 at a13 a14
  generalize geoSz s k m c / 8 = r10 at a15 a16
  generalize geoSz s k m c = r8 at a9 a10
  generalize geoSec s k m c = r11 at a11 a12
  unfold geoV at a1 a3 a5 a7 a9 a11 a13 a15
  clear hk hm hc
  go_enter Try.func6, Try.ntmps6
  go_wp2_with (first
    | (go_at_call 30; (with_reducible refine (a1 _).mono ?_); rintro e w' ⟨rfl, hb⟩; have g : GK w w' s k m c := (by first | exact GK.next (by assumption) hb | exact GK.next (GK.start _ _ _ _ _ _) hb); have z0 := g.c0; have z1 := g.c1; have z2 := g.c2; have z3 := g.c3; clear hb)
    | (go_at_call 31; (with_reducible refine (a2 _).mono ?_); rintro e w' ⟨rfl, hb⟩; have g : GK w w' s k m c := (by first | exact GK.next (by assumption) hb | exact GK.next (GK.start _ _ _ _ _ _) hb); have z0 := g.c0; have z1 := g.c1; have z2 := g.c2; have z3 := g.c3; clear hb)
    | (go_at_call 32; (with_reducible refine (a3 _).mono ?_); rintro e w' ⟨rfl, hb⟩; have g : GK w w' s k m c := (by first | exact GK.next (by assumption) hb | exact GK.next (GK.start _ _ _ _ _ _) hb); have z0 := g.c0; have z1 := g.c1; have z2 := g.c2; have z3 := g.c3; clear hb)
    | (go_at_call 33; (with_reducible refine (a4 _).mono ?_); rintro e w' ⟨rfl, hb⟩; have g : GK w w' s k m c := (by first | exact GK.next (by assumption) hb | exact GK.next (GK.start _ _ _ _ _ _) hb); have z0 := g.c0; have z1 := g.c1; have z2 := g.c2; have z3 := g.c3; clear hb)
    | (go_at_call 34; (with_reducible refine (a5 _).mono ?_); rintro e w' ⟨rfl, hb⟩; have g : GK w w' s k m c := (by first | exact GK.next (by assumption) hb | exact GK.next (GK.start _ _ _ _ _ _) hb); have z0 := g.c0; have z1 := g.c1; have z2 := g.c2; have z3 := g.c3; clear hb)
    | (go_at_call 35; (with_reducible refine (a6 _).mono ?_); rintro e w' ⟨rfl, hb⟩; have g : GK w w' s k m c := (by first | exact GK.next (by assumption) hb | exact GK.next (GK.start _ _ _ _ _ _) hb); have z0 := g.c0; have z1 := g.c1; have z2 := g.c2; have z3 := g.c3; clear hb)
    | (go_at_call 37; (with_reducible refine (a7 _).mono ?_); rintro e w' ⟨rfl, hb⟩; have g : GK w w' s k m c := (by first | exact GK.next (by assumption) hb | exact GK.next (GK.start _ _ _ _ _ _) hb); have z0 := g.c0; have z1 := g.c1; have z2 := g.c2; have z3 := g.c3; clear hb)
    | (go_at_call 38; (with_reducible refine (a8 _).mono ?_); rintro e w' ⟨rfl, hb⟩; have g : GK w w' s k m c := (by first | exact GK.next (by assumption) hb | exact GK.next (GK.start _ _ _ _ _ _) hb); have z0 := g.c0; have z1 := g.c1; have z2 := g.c2; have z3 := g.c3; clear hb)
    | (go_at_call 39; (with_reducible refine (a9 _).mono ?_); rintro e w' ⟨rfl, hb⟩; have g : GK w w' s k m c := (by first | exact GK.next (by assumption) hb | exact GK.next (GK.start _ _ _ _ _ _) hb); have z0 := g.c0; have z1 := g.c1; have z2 := g.c2; have z3 := g.c3; clear hb)
    | (go_at_call 40; (with_reducible refine (a10 _).mono ?_); rintro e w' ⟨rfl, hb⟩; have g : GK w w' s k m c := (by first | exact GK.next (by assumption) hb | exact GK.next (GK.start _ _ _ _ _ _) hb); have z0 := g.c0; have z1 := g.c1; have z2 := g.c2; have z3 := g.c3; clear hb)
    | (go_at_call 41; (with_reducible refine (a11 _).mono ?_); rintro e w' ⟨rfl, hb⟩; have g : GK w w' s k m c := (by first | exact GK.next (by assumption) hb | exact GK.next (GK.start _ _ _ _ _ _) hb); have z0 := g.c0; have z1 := g.c1; have z2 := g.c2; have z3 := g.c3; clear hb)
    | (go_at_call 42; (with_reducible refine (a12 _).mono ?_); rintro e w' ⟨rfl, hb⟩; have g : GK w w' s k m c := (by first | exact GK.next (by assumption) hb | exact GK.next (GK.start _ _ _ _ _ _) hb); have z0 := g.c0; have z1 := g.c1; have z2 := g.c2; have z3 := g.c3; clear hb)
    | (go_at_call 43; (with_reducible refine (a13 _).mono ?_); rintro e w' ⟨rfl, hb⟩; have g : GK w w' s k m c := (by first | exact GK.next (by assumption) hb | exact GK.next (GK.start _ _ _ _ _ _) hb); have z0 := g.c0; have z1 := g.c1; have z2 := g.c2; have z3 := g.c3; clear hb)
    | (go_at_call 44; (with_reducible refine (a14 _).mono ?_); rintro e w' ⟨rfl, hb⟩; have g : GK w w' s k m c := (by first | exact GK.next (by assumption) hb | exact GK.next (GK.start _ _ _ _ _ _) hb); have z0 := g.c0; have z1 := g.c1; have z2 := g.c2; have z3 := g.c3; clear hb)
    | (go_at_call 45; (with_reducible refine (a15 _).mono ?_); rintro e w' ⟨rfl, hb⟩; have g : GK w w' s k m c := (by first | exact GK.next (by assumption) hb | exact GK.next (GK.start _ _ _ _ _ _) hb); have z0 := g.c0; have z1 := g.c1; have z2 := g.c2; have z3 := g.c3; clear hb)
    | (go_at_call 46; (with_reducible refine (a16 _).mono ?_); rintro e w' ⟨rfl, hb⟩; have g : GK w w' s k m c := (by first | exact GK.next (by assumption) hb | exact GK.next (GK.start _ _ _ _ _ _) hb); have z0 := g.c0; have z1 := g.c1; have z2 := g.c2; have z3 := g.c3; clear hb)
    | (go_at_call 36; (with_reducible refine (a17 _).mono ?_); rintro e w' ⟨rfl, hb⟩; have g : GK w w' s k m c := (by first | exact GK.next (by assumption) hb | exact GK.next (GK.start _ _ _ _ _ _) hb); have z0 := g.c0; have z1 := g.c1; have z2 := g.c2; have z3 := g.c3; clear hb))
  have gd : GK w _ s k m c := GK.drew (by assumption : GK w _ s k m c)
  have z0 : ∀ p : Wk (fun W => GK w W s k m c), p.W.cell? ⟨w.heap.size, 0, none⟩ = some (.int .i64 s) := fun p => p.h.c0
  have z1 : ∀ p : Wk (fun W => GK w W s k m c), p.W.cell? ⟨w.heap.size, 1, none⟩ = some (.int .i64 k) := fun p => p.h.c1
  have z2 : ∀ p : Wk (fun W => GK w W s k m c), p.W.cell? ⟨w.heap.size, 2, none⟩ = some (.int .i64 m) := fun p => p.h.c2
  have z3 : ∀ p : Wk (fun W => GK w W s k m c), p.W.cell? ⟨w.heap.size, 3, none⟩ = some (.int .i64 c) := fun p => p.h.c3
  refine wp_region_wk (fun W => GK w W s k m c) (by kernel_rfl) (by kernel_rfl) gd ?_
  have ne : Nonempty (Wk (fun W => GK w W s k m c)) := ⟨⟨_, gd⟩⟩
  clear gd
  repeat (refine wpQuiet_step (fun K hK => ?_); go_simp; first
    | (refine hK _ ?_; clear hK K)
    | (apply Exists.intro
       refine ⟨fun p => ?_, hK _ ?_⟩
       (first
        | (go_at_call 37; exact (a7 _).mono fun _ _ h => ⟨h.1, ⟨_, GK.next p.h h.2⟩, rfl⟩)
        | (go_at_call 38; exact (a8 _).mono fun _ _ h => ⟨h.1, ⟨_, GK.next p.h h.2⟩, rfl⟩)
        | (go_at_call 39; exact (a9 _).mono fun _ _ h => ⟨h.1, ⟨_, GK.next p.h h.2⟩, rfl⟩)
        | (go_at_call 40; exact (a10 _).mono fun _ _ h => ⟨h.1, ⟨_, GK.next p.h h.2⟩, rfl⟩)
        | (go_at_call 41; exact (a11 _).mono fun _ _ h => ⟨h.1, ⟨_, GK.next p.h h.2⟩, rfl⟩)
        | (go_at_call 42; exact (a12 _).mono fun _ _ h => ⟨h.1, ⟨_, GK.next p.h h.2⟩, rfl⟩)
        | (go_at_call 43; exact (a13 _).mono fun _ _ h => ⟨h.1, ⟨_, GK.next p.h h.2⟩, rfl⟩)
        | (go_at_call 44; exact (a14 _).mono fun _ _ h => ⟨h.1, ⟨_, GK.next p.h h.2⟩, rfl⟩)
        | (go_at_call 45; exact (a15 _).mono fun _ _ h => ⟨h.1, ⟨_, GK.next p.h h.2⟩, rfl⟩)
        | (go_at_call 46; exact (a16 _).mono fun _ _ h => ⟨h.1, ⟨_, GK.next p.h h.2⟩, rfl⟩)
        | (go_at_call 36; exact (a17 _).mono fun _ _ h => ⟨h.1, ⟨_, GK.next p.h h.2⟩, rfl⟩))
       clear hK K))
  refine wpQuiet_nil ?_
  intro p
  have gp := p.h
  go_wp2
  go_ret
  exact ⟨rfl, GK.be (by assumption)⟩

set_option maxHeartbeats 2000000 in
set_option maxRecDepth 100000 in
theorem geomBack_no {s k m c a o b : Int} (hk : W64 k) (hm : W64 m) (hc : W64 c) (ho : ¬ GeoOk s k m c) (w : World) :
    Calls Try.prog 7 #[.agg #[.int .i64 s, .int .i64 k, .int .i64 m, .int .i64 c], .int .i64 a, .int .i64 o, .int .i64 b] w fun e w' => e = .returned (.bool true) ∧ Below w.heap.size w w' := by
  have a7 := geo_no hk hm hc ho
  have a9 := geoSize_any s k m c hk hm hc
  have a11 := geoSectors_any s k m c hk hm hc
  have a17 := geoLives_any
  rw [show geoSz s k m c = 0 from if_neg ho] at a9
  rw [show geoSec s k m c = 0 from if_neg ho] at a11
  unfold geoV at a9 a11
  clear hk hm hc ho
  go_enter Try.func7, Try.ntmps7
  go_wp2_with (first
    | (go_at_call 37; (with_reducible refine (a7 _).mono ?_); rintro e w' ⟨rfl, hb⟩; have g : GK w w' s k m c := (by first | exact GK.next (by assumption) hb | exact GK.next (GK.start _ _ _ _ _ _) hb); have z0 := g.c0; have z1 := g.c1; have z2 := g.c2; have z3 := g.c3; clear hb)
    | (go_at_call 39; (with_reducible refine (a9 _).mono ?_); rintro e w' ⟨rfl, hb⟩; have g : GK w w' s k m c := (by first | exact GK.next (by assumption) hb | exact GK.next (GK.start _ _ _ _ _ _) hb); have z0 := g.c0; have z1 := g.c1; have z2 := g.c2; have z3 := g.c3; clear hb)
    | (go_at_call 41; (with_reducible refine (a11 _).mono ?_); rintro e w' ⟨rfl, hb⟩; have g : GK w w' s k m c := (by first | exact GK.next (by assumption) hb | exact GK.next (GK.start _ _ _ _ _ _) hb); have z0 := g.c0; have z1 := g.c1; have z2 := g.c2; have z3 := g.c3; clear hb)
    | (go_at_call 36; (with_reducible refine (a17 _).mono ?_); rintro e w' ⟨rfl, hb⟩; have g : GK w w' s k m c := (by first | exact GK.next (by assumption) hb | exact GK.next (GK.start _ _ _ _ _ _) hb); have z0 := g.c0; have z1 := g.c1; have z2 := g.c2; have z3 := g.c3; clear hb))
  go_ret
  exact ⟨rfl, GK.be (by assumption)⟩

/-- What Blocks says of the bytes. -/
theorem blocks_facts {s k m c b : Int} (ho : GeoOk s k m c) : ∃ n e z : Int, geoBv s k m c b = n ∧ geoBe s k m c b = e ∧ geoSz s k m c = z ∧ z / 512 = tw s ∧ 512 ≤ z ∧ z ≤ 65536 ∧
    ((e = 1 ∧ n = 0) ∨ (e = 0 ∧ n = 0 ∧ b = 0) ∨ (e = 0 ∧ 0 < n ∧ n * z < 9223372036854775807 ∧ 0 ≤ (n - 1) * z ∧ (n - 1) * z < 9223372036854775807 ∧ b ≤ n * z ∧ (n - 1) * z < b ∧ n < 9223372036854775807)) := by
  refine ⟨_, _, _, rfl, rfl, rfl, ?_⟩
  obtain ⟨h0, h7, h4, hc2, p1, p2, hM, hM0⟩ := geoOk_b ho
  have hz : geoSz s k m c = 512 * tw s := if_pos ho
  rw [hz]
  refine ⟨by omega, by omega, by omega, ?_⟩
  by_cases hin : 0 ≤ b ∧ b ≤ 1099511627776
  · right
    have he : geoBe s k m c b = 0 := by unfold geoBe; rw [if_pos ho, if_pos hin]
    have hv : geoBv s k m c b = ((b + 512 - 1) / 512 + tw s - 1) / tw s := if_pos ⟨ho, hin⟩
    rw [he, hv, blocks_eq h0 h7]
    obtain ⟨z, hzz⟩ : ∃ z, z = 512 * tw s := ⟨_, rfl⟩
    rw [← hzz]
    have hz0 : 512 ≤ z := by omega
    have hz1 : z ≤ 65536 := by omega
    have e1 := Int.emod_add_mul_ediv b z
    have e2 := Int.emod_nonneg b (show z ≠ 0 by omega)
    have e3 := Int.emod_lt_of_pos b (show 0 < z by omega)
    have e4 : 0 ≤ b / z := Int.ediv_nonneg hin.1 (by omega)
    have e5 : b / z ≤ b := Int.ediv_le_self _ hin.1
    have c1 : b / z * z = z * (b / z) := Int.mul_comm _ _
    have c2 : (b / z + 1) * z = z * (b / z) + z := by rw [Int.add_mul, Int.one_mul, c1]
    have c3 : (b / z - 1) * z = z * (b / z) - z := by rw [Int.sub_mul, Int.one_mul, c1]
    have c4 : 0 ≤ z * (b / z) := Int.mul_nonneg (by omega) e4
    by_cases hr : 0 < b % z
    · rw [if_pos hr]
      right
      rw [show b / z + 1 - 1 = b / z by omega, c1, c2]
      generalize z * (b / z) = Z at *
      omega
    · rw [if_neg hr]
      by_cases hq : b / z = 0
      · left
        rw [hq] at e1
        exact ⟨rfl, hq, by simp at e1; omega⟩
      · right
        have c5 : z ≤ z * (b / z) := by
          have : z * 1 ≤ z * (b / z) := Int.mul_le_mul_of_nonneg_left (by omega) (by omega)
          omega
        rw [c1, c3]
        generalize z * (b / z) = Z at *
        omega
  · left
    exact ⟨by unfold geoBe; rw [if_pos ho, if_neg hin], if_neg (fun h => hin h.2)⟩

/-- What First and Cluster say of the cluster. -/
theorem first_facts {s k m c a o : Int} (ho : GeoOk s k m c) : ∃ f e S p : Int, geoFv s k m c a = f ∧ geoFe s k m c a = e ∧ geoSec s k m c = S ∧ tw s = p ∧ 1 ≤ p ∧ p ≤ 128 ∧ 0 ≤ S ∧ S ≤ 32768 ∧
    ((e = 1 ∧ f = 0) ∨ (e = 0 ∧ 0 ≤ f ∧ f ≤ 32768 ∧ o < 0) ∨ (e = 0 ∧ 0 ≤ f ∧ f ≤ 32768 ∧ 0 ≤ o ∧ p ≤ o) ∨ (e = 0 ∧ 0 ≤ f ∧ f ≤ 32768 ∧ 0 ≤ o ∧ o < p ∧ f + p ≤ S ∧ geoCv s k m c (f + o) = a ∧ geoCe s k m c (f + o) = 0)) := by
  refine ⟨_, _, _, _, rfl, rfl, rfl, rfl, ?_⟩
  obtain ⟨h0, h7, h4, hc2, p1, p2, hM, hM0⟩ := geoOk_b ho
  have hS : geoSec s k m c = c * tw s := if_pos ho
  rw [hS]
  refine ⟨p1, p2, hM0, hM, ?_⟩
  by_cases hin : 0 ≤ a ∧ a < c
  · right
    have he : geoFe s k m c a = 0 := by unfold geoFe; rw [if_pos ho, if_pos hin]
    have hv : geoFv s k m c a = a * tw s := if_pos ⟨ho, hin⟩
    rw [he, hv]
    have q1 : (a + 1) * tw s ≤ c * tw s := Int.mul_le_mul_of_nonneg_right (by omega) (by omega)
    rw [Int.add_mul, Int.one_mul] at q1
    have q2 : 0 ≤ a * tw s := Int.mul_nonneg (by omega) (by omega)
    by_cases g1 : o < 0
    · left; omega
    · right
      by_cases g2 : tw s ≤ o
      · left; omega
      · right
        have r1 : 0 ≤ a * tw s + o ∧ a * tw s + o < c * tw s := by omega
        refine ⟨rfl, q2, by omega, by omega, by omega, q1, ?_, ?_⟩
        · rw [show geoCv s k m c (a * tw s + o) = (a * tw s + o) / tw s from if_pos ⟨ho, r1⟩]
          rw [Int.add_comm, Int.add_mul_ediv_right _ _ (by omega), Int.ediv_eq_zero_of_lt (by omega) (by omega)]
          omega
        · unfold geoCe; rw [if_pos ho, if_pos r1]
  · left
    exact ⟨by unfold geoFe; rw [if_pos ho, if_neg hin], if_neg (fun h => hin h.2)⟩

set_option maxHeartbeats 4000000 in
set_option maxRecDepth 100000 in
theorem geomBack_yes {s k m c a o b : Int} (hk : W64 k) (hm : W64 m) (hc : W64 c) (hw : W64 o) (ho : GeoOk s k m c) (w : World) :
    Calls Try.prog 7 #[.agg #[.int .i64 s, .int .i64 k, .int .i64 m, .int .i64 c], .int .i64 a, .int .i64 o, .int .i64 b] w fun e w' => e = .returned (.bool true) ∧ Below w.heap.size w w' := by
  have a1 := geoFirst_any s k m c a hk hm hc
  have a3 := fun x => geoCluster_any s k m c x hk hm hc
  have a5 := geoBlocks_any s k m c b hk hm hc
  have a7 := geo_yes hk hm hc ho
  have a9 := geoSize_any s k m c hk hm hc
  have a11 := geoSectors_any s k m c hk hm hc
  have a17 := geoLives_any
  obtain ⟨n, be, z, hn, hbe, hz, hzp, z0, z1, hbl⟩ := blocks_facts (b := b) ho
  obtain ⟨f, fe, S, p, hf, hfe, hS, hp, p0, p1, S0, S1, hfl⟩ := first_facts (a := a) (o := o) ho
  rw [hf, hfe] at a1
  rw [hn, hbe] at a5
  rw [hz] at a9
  rw [hS] at a11
  rw [hp] at hzp
  unfold geoV at a1 a3 a5 a9 a11
  unfold W64 at hw
  obtain ⟨o1, o2⟩ := hw
  clear hk hm hc ho hn hbe hz hf hfe hS hp
  rcases hbl with ⟨rfl, rfl⟩ | ⟨rfl, rfl, rfl⟩ | ⟨rfl, n1, n2, n3, n4, n5, n6, n7⟩
  all_goals rcases hfl with ⟨rfl, rfl⟩ | ⟨rfl, f1, f2, g1⟩ | ⟨rfl, f1, f2, g1, g2⟩ | ⟨rfl, f1, f2, g1, g2, g3, g4, g5⟩
  · clear a3
    go_enter Try.func7, Try.ntmps7
    go_wp2_with (first
      | (go_at_call 36; (with_reducible refine (a17 _).mono ?_); rintro e w' ⟨rfl, hb⟩; have g : GK w w' s k m c := (by first | exact GK.next (by assumption) hb | exact GK.next (GK.start _ _ _ _ _ _) hb); have z0 := g.c0; have z1 := g.c1; have z2 := g.c2; have z3 := g.c3; clear hb)
      | (go_at_call 37; (with_reducible refine (a7 _).mono ?_); rintro e w' ⟨rfl, hb⟩; have g : GK w w' s k m c := (by first | exact GK.next (by assumption) hb | exact GK.next (GK.start _ _ _ _ _ _) hb); have z0 := g.c0; have z1 := g.c1; have z2 := g.c2; have z3 := g.c3; clear hb)
      | (go_at_call 39; (with_reducible refine (a9 _).mono ?_); rintro e w' ⟨rfl, hb⟩; have g : GK w w' s k m c := (by first | exact GK.next (by assumption) hb | exact GK.next (GK.start _ _ _ _ _ _) hb); have z0 := g.c0; have z1 := g.c1; have z2 := g.c2; have z3 := g.c3; clear hb)
      | (go_at_call 34; (with_reducible refine (a5 _).mono ?_); rintro e w' ⟨rfl, hb⟩; have g : GK w w' s k m c := (by first | exact GK.next (by assumption) hb | exact GK.next (GK.start _ _ _ _ _ _) hb); have z0 := g.c0; have z1 := g.c1; have z2 := g.c2; have z3 := g.c3; clear hb)
      | (go_at_call 30; (with_reducible refine (a1 _).mono ?_); rintro e w' ⟨rfl, hb⟩; have g : GK w w' s k m c := (by first | exact GK.next (by assumption) hb | exact GK.next (GK.start _ _ _ _ _ _) hb); have z0 := g.c0; have z1 := g.c1; have z2 := g.c2; have z3 := g.c3; clear hb)
      | (go_at_call 41; (with_reducible refine (a11 _).mono ?_); rintro e w' ⟨rfl, hb⟩; have g : GK w w' s k m c := (by first | exact GK.next (by assumption) hb | exact GK.next (GK.start _ _ _ _ _ _) hb); have z0 := g.c0; have z1 := g.c1; have z2 := g.c2; have z3 := g.c3; clear hb))
    go_ret
    exact ⟨rfl, GK.be (by assumption)⟩
  · have x1 : decide (o < 0) = true := decide_eq_true g1
    clear a3
    go_enter Try.func7, Try.ntmps7
    go_wp2_with (first
      | (go_at_call 36; (with_reducible refine (a17 _).mono ?_); rintro e w' ⟨rfl, hb⟩; have g : GK w w' s k m c := (by first | exact GK.next (by assumption) hb | exact GK.next (GK.start _ _ _ _ _ _) hb); have z0 := g.c0; have z1 := g.c1; have z2 := g.c2; have z3 := g.c3; clear hb)
      | (go_at_call 37; (with_reducible refine (a7 _).mono ?_); rintro e w' ⟨rfl, hb⟩; have g : GK w w' s k m c := (by first | exact GK.next (by assumption) hb | exact GK.next (GK.start _ _ _ _ _ _) hb); have z0 := g.c0; have z1 := g.c1; have z2 := g.c2; have z3 := g.c3; clear hb)
      | (go_at_call 39; (with_reducible refine (a9 _).mono ?_); rintro e w' ⟨rfl, hb⟩; have g : GK w w' s k m c := (by first | exact GK.next (by assumption) hb | exact GK.next (GK.start _ _ _ _ _ _) hb); have z0 := g.c0; have z1 := g.c1; have z2 := g.c2; have z3 := g.c3; clear hb)
      | (go_at_call 34; (with_reducible refine (a5 _).mono ?_); rintro e w' ⟨rfl, hb⟩; have g : GK w w' s k m c := (by first | exact GK.next (by assumption) hb | exact GK.next (GK.start _ _ _ _ _ _) hb); have z0 := g.c0; have z1 := g.c1; have z2 := g.c2; have z3 := g.c3; clear hb)
      | (go_at_call 30; (with_reducible refine (a1 _).mono ?_); rintro e w' ⟨rfl, hb⟩; have g : GK w w' s k m c := (by first | exact GK.next (by assumption) hb | exact GK.next (GK.start _ _ _ _ _ _) hb); have z0 := g.c0; have z1 := g.c1; have z2 := g.c2; have z3 := g.c3; clear hb)
      | (go_at_call 41; (with_reducible refine (a11 _).mono ?_); rintro e w' ⟨rfl, hb⟩; have g : GK w w' s k m c := (by first | exact GK.next (by assumption) hb | exact GK.next (GK.start _ _ _ _ _ _) hb); have z0 := g.c0; have z1 := g.c1; have z2 := g.c2; have z3 := g.c3; clear hb))
    go_ret
    exact ⟨rfl, GK.be (by assumption)⟩
  · have x1 : decide (o < 0) = false := decide_eq_false (by omega)
    have x2 : decide (p ≤ o) = true := decide_eq_true g2
    clear a3
    go_enter Try.func7, Try.ntmps7
    go_wp2_with (first
      | (go_at_call 36; (with_reducible refine (a17 _).mono ?_); rintro e w' ⟨rfl, hb⟩; have g : GK w w' s k m c := (by first | exact GK.next (by assumption) hb | exact GK.next (GK.start _ _ _ _ _ _) hb); have z0 := g.c0; have z1 := g.c1; have z2 := g.c2; have z3 := g.c3; clear hb)
      | (go_at_call 37; (with_reducible refine (a7 _).mono ?_); rintro e w' ⟨rfl, hb⟩; have g : GK w w' s k m c := (by first | exact GK.next (by assumption) hb | exact GK.next (GK.start _ _ _ _ _ _) hb); have z0 := g.c0; have z1 := g.c1; have z2 := g.c2; have z3 := g.c3; clear hb)
      | (go_at_call 39; (with_reducible refine (a9 _).mono ?_); rintro e w' ⟨rfl, hb⟩; have g : GK w w' s k m c := (by first | exact GK.next (by assumption) hb | exact GK.next (GK.start _ _ _ _ _ _) hb); have z0 := g.c0; have z1 := g.c1; have z2 := g.c2; have z3 := g.c3; clear hb)
      | (go_at_call 34; (with_reducible refine (a5 _).mono ?_); rintro e w' ⟨rfl, hb⟩; have g : GK w w' s k m c := (by first | exact GK.next (by assumption) hb | exact GK.next (GK.start _ _ _ _ _ _) hb); have z0 := g.c0; have z1 := g.c1; have z2 := g.c2; have z3 := g.c3; clear hb)
      | (go_at_call 30; (with_reducible refine (a1 _).mono ?_); rintro e w' ⟨rfl, hb⟩; have g : GK w w' s k m c := (by first | exact GK.next (by assumption) hb | exact GK.next (GK.start _ _ _ _ _ _) hb); have z0 := g.c0; have z1 := g.c1; have z2 := g.c2; have z3 := g.c3; clear hb)
      | (go_at_call 41; (with_reducible refine (a11 _).mono ?_); rintro e w' ⟨rfl, hb⟩; have g : GK w w' s k m c := (by first | exact GK.next (by assumption) hb | exact GK.next (GK.start _ _ _ _ _ _) hb); have z0 := g.c0; have z1 := g.c1; have z2 := g.c2; have z3 := g.c3; clear hb))
    go_ret
    exact ⟨rfl, GK.be (by assumption)⟩
  · have x1 : decide (o < 0) = false := decide_eq_false (by omega)
    have x2 : decide (p ≤ o) = false := decide_eq_false (by omega)
    have x3 : decide (f + p ≤ S) = true := decide_eq_true g3
    have b3 := a3 (f + o)
    rw [g4, g5] at b3
    clear a3 g4 g5
    go_enter Try.func7, Try.ntmps7
    go_wp2_with (first
      | (go_at_call 36; (with_reducible refine (a17 _).mono ?_); rintro e w' ⟨rfl, hb⟩; have g : GK w w' s k m c := (by first | exact GK.next (by assumption) hb | exact GK.next (GK.start _ _ _ _ _ _) hb); have z0 := g.c0; have z1 := g.c1; have z2 := g.c2; have z3 := g.c3; clear hb)
      | (go_at_call 37; (with_reducible refine (a7 _).mono ?_); rintro e w' ⟨rfl, hb⟩; have g : GK w w' s k m c := (by first | exact GK.next (by assumption) hb | exact GK.next (GK.start _ _ _ _ _ _) hb); have z0 := g.c0; have z1 := g.c1; have z2 := g.c2; have z3 := g.c3; clear hb)
      | (go_at_call 39; (with_reducible refine (a9 _).mono ?_); rintro e w' ⟨rfl, hb⟩; have g : GK w w' s k m c := (by first | exact GK.next (by assumption) hb | exact GK.next (GK.start _ _ _ _ _ _) hb); have z0 := g.c0; have z1 := g.c1; have z2 := g.c2; have z3 := g.c3; clear hb)
      | (go_at_call 34; (with_reducible refine (a5 _).mono ?_); rintro e w' ⟨rfl, hb⟩; have g : GK w w' s k m c := (by first | exact GK.next (by assumption) hb | exact GK.next (GK.start _ _ _ _ _ _) hb); have z0 := g.c0; have z1 := g.c1; have z2 := g.c2; have z3 := g.c3; clear hb)
      | (go_at_call 30; (with_reducible refine (a1 _).mono ?_); rintro e w' ⟨rfl, hb⟩; have g : GK w w' s k m c := (by first | exact GK.next (by assumption) hb | exact GK.next (GK.start _ _ _ _ _ _) hb); have z0 := g.c0; have z1 := g.c1; have z2 := g.c2; have z3 := g.c3; clear hb)
      | (go_at_call 32; (with_reducible refine (b3 _).mono ?_); rintro e w' ⟨rfl, hb⟩; have g : GK w w' s k m c := (by first | exact GK.next (by assumption) hb | exact GK.next (GK.start _ _ _ _ _ _) hb); have z0 := g.c0; have z1 := g.c1; have z2 := g.c2; have z3 := g.c3; clear hb)
      | (go_at_call 41; (with_reducible refine (a11 _).mono ?_); rintro e w' ⟨rfl, hb⟩; have g : GK w w' s k m c := (by first | exact GK.next (by assumption) hb | exact GK.next (GK.start _ _ _ _ _ _) hb); have z0 := g.c0; have z1 := g.c1; have z2 := g.c2; have z3 := g.c3; clear hb))
    go_ret
    exact ⟨rfl, GK.be (by assumption)⟩
  · clear a3
    go_enter Try.func7, Try.ntmps7
    go_wp2_with (first
      | (go_at_call 36; (with_reducible refine (a17 _).mono ?_); rintro e w' ⟨rfl, hb⟩; have g : GK w w' s k m c := (by first | exact GK.next (by assumption) hb | exact GK.next (GK.start _ _ _ _ _ _) hb); have z0 := g.c0; have z1 := g.c1; have z2 := g.c2; have z3 := g.c3; clear hb)
      | (go_at_call 37; (with_reducible refine (a7 _).mono ?_); rintro e w' ⟨rfl, hb⟩; have g : GK w w' s k m c := (by first | exact GK.next (by assumption) hb | exact GK.next (GK.start _ _ _ _ _ _) hb); have z0 := g.c0; have z1 := g.c1; have z2 := g.c2; have z3 := g.c3; clear hb)
      | (go_at_call 39; (with_reducible refine (a9 _).mono ?_); rintro e w' ⟨rfl, hb⟩; have g : GK w w' s k m c := (by first | exact GK.next (by assumption) hb | exact GK.next (GK.start _ _ _ _ _ _) hb); have z0 := g.c0; have z1 := g.c1; have z2 := g.c2; have z3 := g.c3; clear hb)
      | (go_at_call 34; (with_reducible refine (a5 _).mono ?_); rintro e w' ⟨rfl, hb⟩; have g : GK w w' s k m c := (by first | exact GK.next (by assumption) hb | exact GK.next (GK.start _ _ _ _ _ _) hb); have z0 := g.c0; have z1 := g.c1; have z2 := g.c2; have z3 := g.c3; clear hb)
      | (go_at_call 30; (with_reducible refine (a1 _).mono ?_); rintro e w' ⟨rfl, hb⟩; have g : GK w w' s k m c := (by first | exact GK.next (by assumption) hb | exact GK.next (GK.start _ _ _ _ _ _) hb); have z0 := g.c0; have z1 := g.c1; have z2 := g.c2; have z3 := g.c3; clear hb)
      | (go_at_call 41; (with_reducible refine (a11 _).mono ?_); rintro e w' ⟨rfl, hb⟩; have g : GK w w' s k m c := (by first | exact GK.next (by assumption) hb | exact GK.next (GK.start _ _ _ _ _ _) hb); have z0 := g.c0; have z1 := g.c1; have z2 := g.c2; have z3 := g.c3; clear hb))
    go_ret
    exact ⟨rfl, GK.be (by assumption)⟩
  · have x1 : decide (o < 0) = true := decide_eq_true g1
    clear a3
    go_enter Try.func7, Try.ntmps7
    go_wp2_with (first
      | (go_at_call 36; (with_reducible refine (a17 _).mono ?_); rintro e w' ⟨rfl, hb⟩; have g : GK w w' s k m c := (by first | exact GK.next (by assumption) hb | exact GK.next (GK.start _ _ _ _ _ _) hb); have z0 := g.c0; have z1 := g.c1; have z2 := g.c2; have z3 := g.c3; clear hb)
      | (go_at_call 37; (with_reducible refine (a7 _).mono ?_); rintro e w' ⟨rfl, hb⟩; have g : GK w w' s k m c := (by first | exact GK.next (by assumption) hb | exact GK.next (GK.start _ _ _ _ _ _) hb); have z0 := g.c0; have z1 := g.c1; have z2 := g.c2; have z3 := g.c3; clear hb)
      | (go_at_call 39; (with_reducible refine (a9 _).mono ?_); rintro e w' ⟨rfl, hb⟩; have g : GK w w' s k m c := (by first | exact GK.next (by assumption) hb | exact GK.next (GK.start _ _ _ _ _ _) hb); have z0 := g.c0; have z1 := g.c1; have z2 := g.c2; have z3 := g.c3; clear hb)
      | (go_at_call 34; (with_reducible refine (a5 _).mono ?_); rintro e w' ⟨rfl, hb⟩; have g : GK w w' s k m c := (by first | exact GK.next (by assumption) hb | exact GK.next (GK.start _ _ _ _ _ _) hb); have z0 := g.c0; have z1 := g.c1; have z2 := g.c2; have z3 := g.c3; clear hb)
      | (go_at_call 30; (with_reducible refine (a1 _).mono ?_); rintro e w' ⟨rfl, hb⟩; have g : GK w w' s k m c := (by first | exact GK.next (by assumption) hb | exact GK.next (GK.start _ _ _ _ _ _) hb); have z0 := g.c0; have z1 := g.c1; have z2 := g.c2; have z3 := g.c3; clear hb)
      | (go_at_call 41; (with_reducible refine (a11 _).mono ?_); rintro e w' ⟨rfl, hb⟩; have g : GK w w' s k m c := (by first | exact GK.next (by assumption) hb | exact GK.next (GK.start _ _ _ _ _ _) hb); have z0 := g.c0; have z1 := g.c1; have z2 := g.c2; have z3 := g.c3; clear hb))
    go_ret
    exact ⟨rfl, GK.be (by assumption)⟩
  · have x1 : decide (o < 0) = false := decide_eq_false (by omega)
    have x2 : decide (p ≤ o) = true := decide_eq_true g2
    clear a3
    go_enter Try.func7, Try.ntmps7
    go_wp2_with (first
      | (go_at_call 36; (with_reducible refine (a17 _).mono ?_); rintro e w' ⟨rfl, hb⟩; have g : GK w w' s k m c := (by first | exact GK.next (by assumption) hb | exact GK.next (GK.start _ _ _ _ _ _) hb); have z0 := g.c0; have z1 := g.c1; have z2 := g.c2; have z3 := g.c3; clear hb)
      | (go_at_call 37; (with_reducible refine (a7 _).mono ?_); rintro e w' ⟨rfl, hb⟩; have g : GK w w' s k m c := (by first | exact GK.next (by assumption) hb | exact GK.next (GK.start _ _ _ _ _ _) hb); have z0 := g.c0; have z1 := g.c1; have z2 := g.c2; have z3 := g.c3; clear hb)
      | (go_at_call 39; (with_reducible refine (a9 _).mono ?_); rintro e w' ⟨rfl, hb⟩; have g : GK w w' s k m c := (by first | exact GK.next (by assumption) hb | exact GK.next (GK.start _ _ _ _ _ _) hb); have z0 := g.c0; have z1 := g.c1; have z2 := g.c2; have z3 := g.c3; clear hb)
      | (go_at_call 34; (with_reducible refine (a5 _).mono ?_); rintro e w' ⟨rfl, hb⟩; have g : GK w w' s k m c := (by first | exact GK.next (by assumption) hb | exact GK.next (GK.start _ _ _ _ _ _) hb); have z0 := g.c0; have z1 := g.c1; have z2 := g.c2; have z3 := g.c3; clear hb)
      | (go_at_call 30; (with_reducible refine (a1 _).mono ?_); rintro e w' ⟨rfl, hb⟩; have g : GK w w' s k m c := (by first | exact GK.next (by assumption) hb | exact GK.next (GK.start _ _ _ _ _ _) hb); have z0 := g.c0; have z1 := g.c1; have z2 := g.c2; have z3 := g.c3; clear hb)
      | (go_at_call 41; (with_reducible refine (a11 _).mono ?_); rintro e w' ⟨rfl, hb⟩; have g : GK w w' s k m c := (by first | exact GK.next (by assumption) hb | exact GK.next (GK.start _ _ _ _ _ _) hb); have z0 := g.c0; have z1 := g.c1; have z2 := g.c2; have z3 := g.c3; clear hb))
    go_ret
    exact ⟨rfl, GK.be (by assumption)⟩
  · have x1 : decide (o < 0) = false := decide_eq_false (by omega)
    have x2 : decide (p ≤ o) = false := decide_eq_false (by omega)
    have x3 : decide (f + p ≤ S) = true := decide_eq_true g3
    have b3 := a3 (f + o)
    rw [g4, g5] at b3
    clear a3 g4 g5
    go_enter Try.func7, Try.ntmps7
    go_wp2_with (first
      | (go_at_call 36; (with_reducible refine (a17 _).mono ?_); rintro e w' ⟨rfl, hb⟩; have g : GK w w' s k m c := (by first | exact GK.next (by assumption) hb | exact GK.next (GK.start _ _ _ _ _ _) hb); have z0 := g.c0; have z1 := g.c1; have z2 := g.c2; have z3 := g.c3; clear hb)
      | (go_at_call 37; (with_reducible refine (a7 _).mono ?_); rintro e w' ⟨rfl, hb⟩; have g : GK w w' s k m c := (by first | exact GK.next (by assumption) hb | exact GK.next (GK.start _ _ _ _ _ _) hb); have z0 := g.c0; have z1 := g.c1; have z2 := g.c2; have z3 := g.c3; clear hb)
      | (go_at_call 39; (with_reducible refine (a9 _).mono ?_); rintro e w' ⟨rfl, hb⟩; have g : GK w w' s k m c := (by first | exact GK.next (by assumption) hb | exact GK.next (GK.start _ _ _ _ _ _) hb); have z0 := g.c0; have z1 := g.c1; have z2 := g.c2; have z3 := g.c3; clear hb)
      | (go_at_call 34; (with_reducible refine (a5 _).mono ?_); rintro e w' ⟨rfl, hb⟩; have g : GK w w' s k m c := (by first | exact GK.next (by assumption) hb | exact GK.next (GK.start _ _ _ _ _ _) hb); have z0 := g.c0; have z1 := g.c1; have z2 := g.c2; have z3 := g.c3; clear hb)
      | (go_at_call 30; (with_reducible refine (a1 _).mono ?_); rintro e w' ⟨rfl, hb⟩; have g : GK w w' s k m c := (by first | exact GK.next (by assumption) hb | exact GK.next (GK.start _ _ _ _ _ _) hb); have z0 := g.c0; have z1 := g.c1; have z2 := g.c2; have z3 := g.c3; clear hb)
      | (go_at_call 32; (with_reducible refine (b3 _).mono ?_); rintro e w' ⟨rfl, hb⟩; have g : GK w w' s k m c := (by first | exact GK.next (by assumption) hb | exact GK.next (GK.start _ _ _ _ _ _) hb); have z0 := g.c0; have z1 := g.c1; have z2 := g.c2; have z3 := g.c3; clear hb)
      | (go_at_call 41; (with_reducible refine (a11 _).mono ?_); rintro e w' ⟨rfl, hb⟩; have g : GK w w' s k m c := (by first | exact GK.next (by assumption) hb | exact GK.next (GK.start _ _ _ _ _ _) hb); have z0 := g.c0; have z1 := g.c1; have z2 := g.c2; have z3 := g.c3; clear hb))
    go_ret
    exact ⟨rfl, GK.be (by assumption)⟩
  · have y1 : decide (n * z < b) = false := decide_eq_false (by omega)
    have y2 : decide (b ≤ (n - 1) * z) = false := decide_eq_false (by omega)
    have y3 : decide (0 < n) = true := decide_eq_true n1
    have y4 : 0 ≤ n * z := by have := Int.mul_nonneg (show 0 ≤ n by omega) (show 0 ≤ z by omega); exact this
    clear a3
    go_enter Try.func7, Try.ntmps7
    go_wp2_with (first
      | (go_at_call 36; (with_reducible refine (a17 _).mono ?_); rintro e w' ⟨rfl, hb⟩; have g : GK w w' s k m c := (by first | exact GK.next (by assumption) hb | exact GK.next (GK.start _ _ _ _ _ _) hb); have z0 := g.c0; have z1 := g.c1; have z2 := g.c2; have z3 := g.c3; clear hb)
      | (go_at_call 37; (with_reducible refine (a7 _).mono ?_); rintro e w' ⟨rfl, hb⟩; have g : GK w w' s k m c := (by first | exact GK.next (by assumption) hb | exact GK.next (GK.start _ _ _ _ _ _) hb); have z0 := g.c0; have z1 := g.c1; have z2 := g.c2; have z3 := g.c3; clear hb)
      | (go_at_call 39; (with_reducible refine (a9 _).mono ?_); rintro e w' ⟨rfl, hb⟩; have g : GK w w' s k m c := (by first | exact GK.next (by assumption) hb | exact GK.next (GK.start _ _ _ _ _ _) hb); have z0 := g.c0; have z1 := g.c1; have z2 := g.c2; have z3 := g.c3; clear hb)
      | (go_at_call 34; (with_reducible refine (a5 _).mono ?_); rintro e w' ⟨rfl, hb⟩; have g : GK w w' s k m c := (by first | exact GK.next (by assumption) hb | exact GK.next (GK.start _ _ _ _ _ _) hb); have z0 := g.c0; have z1 := g.c1; have z2 := g.c2; have z3 := g.c3; clear hb)
      | (go_at_call 30; (with_reducible refine (a1 _).mono ?_); rintro e w' ⟨rfl, hb⟩; have g : GK w w' s k m c := (by first | exact GK.next (by assumption) hb | exact GK.next (GK.start _ _ _ _ _ _) hb); have z0 := g.c0; have z1 := g.c1; have z2 := g.c2; have z3 := g.c3; clear hb)
      | (go_at_call 41; (with_reducible refine (a11 _).mono ?_); rintro e w' ⟨rfl, hb⟩; have g : GK w w' s k m c := (by first | exact GK.next (by assumption) hb | exact GK.next (GK.start _ _ _ _ _ _) hb); have z0 := g.c0; have z1 := g.c1; have z2 := g.c2; have z3 := g.c3; clear hb))
    go_ret
    exact ⟨rfl, GK.be (by assumption)⟩
  · have y1 : decide (n * z < b) = false := decide_eq_false (by omega)
    have y2 : decide (b ≤ (n - 1) * z) = false := decide_eq_false (by omega)
    have y3 : decide (0 < n) = true := decide_eq_true n1
    have y4 : 0 ≤ n * z := by have := Int.mul_nonneg (show 0 ≤ n by omega) (show 0 ≤ z by omega); exact this
    have x1 : decide (o < 0) = true := decide_eq_true g1
    clear a3
    go_enter Try.func7, Try.ntmps7
    go_wp2_with (first
      | (go_at_call 36; (with_reducible refine (a17 _).mono ?_); rintro e w' ⟨rfl, hb⟩; have g : GK w w' s k m c := (by first | exact GK.next (by assumption) hb | exact GK.next (GK.start _ _ _ _ _ _) hb); have z0 := g.c0; have z1 := g.c1; have z2 := g.c2; have z3 := g.c3; clear hb)
      | (go_at_call 37; (with_reducible refine (a7 _).mono ?_); rintro e w' ⟨rfl, hb⟩; have g : GK w w' s k m c := (by first | exact GK.next (by assumption) hb | exact GK.next (GK.start _ _ _ _ _ _) hb); have z0 := g.c0; have z1 := g.c1; have z2 := g.c2; have z3 := g.c3; clear hb)
      | (go_at_call 39; (with_reducible refine (a9 _).mono ?_); rintro e w' ⟨rfl, hb⟩; have g : GK w w' s k m c := (by first | exact GK.next (by assumption) hb | exact GK.next (GK.start _ _ _ _ _ _) hb); have z0 := g.c0; have z1 := g.c1; have z2 := g.c2; have z3 := g.c3; clear hb)
      | (go_at_call 34; (with_reducible refine (a5 _).mono ?_); rintro e w' ⟨rfl, hb⟩; have g : GK w w' s k m c := (by first | exact GK.next (by assumption) hb | exact GK.next (GK.start _ _ _ _ _ _) hb); have z0 := g.c0; have z1 := g.c1; have z2 := g.c2; have z3 := g.c3; clear hb)
      | (go_at_call 30; (with_reducible refine (a1 _).mono ?_); rintro e w' ⟨rfl, hb⟩; have g : GK w w' s k m c := (by first | exact GK.next (by assumption) hb | exact GK.next (GK.start _ _ _ _ _ _) hb); have z0 := g.c0; have z1 := g.c1; have z2 := g.c2; have z3 := g.c3; clear hb)
      | (go_at_call 41; (with_reducible refine (a11 _).mono ?_); rintro e w' ⟨rfl, hb⟩; have g : GK w w' s k m c := (by first | exact GK.next (by assumption) hb | exact GK.next (GK.start _ _ _ _ _ _) hb); have z0 := g.c0; have z1 := g.c1; have z2 := g.c2; have z3 := g.c3; clear hb))
    go_ret
    exact ⟨rfl, GK.be (by assumption)⟩
  · have y1 : decide (n * z < b) = false := decide_eq_false (by omega)
    have y2 : decide (b ≤ (n - 1) * z) = false := decide_eq_false (by omega)
    have y3 : decide (0 < n) = true := decide_eq_true n1
    have y4 : 0 ≤ n * z := by have := Int.mul_nonneg (show 0 ≤ n by omega) (show 0 ≤ z by omega); exact this
    have x1 : decide (o < 0) = false := decide_eq_false (by omega)
    have x2 : decide (p ≤ o) = true := decide_eq_true g2
    clear a3
    go_enter Try.func7, Try.ntmps7
    go_wp2_with (first
      | (go_at_call 36; (with_reducible refine (a17 _).mono ?_); rintro e w' ⟨rfl, hb⟩; have g : GK w w' s k m c := (by first | exact GK.next (by assumption) hb | exact GK.next (GK.start _ _ _ _ _ _) hb); have z0 := g.c0; have z1 := g.c1; have z2 := g.c2; have z3 := g.c3; clear hb)
      | (go_at_call 37; (with_reducible refine (a7 _).mono ?_); rintro e w' ⟨rfl, hb⟩; have g : GK w w' s k m c := (by first | exact GK.next (by assumption) hb | exact GK.next (GK.start _ _ _ _ _ _) hb); have z0 := g.c0; have z1 := g.c1; have z2 := g.c2; have z3 := g.c3; clear hb)
      | (go_at_call 39; (with_reducible refine (a9 _).mono ?_); rintro e w' ⟨rfl, hb⟩; have g : GK w w' s k m c := (by first | exact GK.next (by assumption) hb | exact GK.next (GK.start _ _ _ _ _ _) hb); have z0 := g.c0; have z1 := g.c1; have z2 := g.c2; have z3 := g.c3; clear hb)
      | (go_at_call 34; (with_reducible refine (a5 _).mono ?_); rintro e w' ⟨rfl, hb⟩; have g : GK w w' s k m c := (by first | exact GK.next (by assumption) hb | exact GK.next (GK.start _ _ _ _ _ _) hb); have z0 := g.c0; have z1 := g.c1; have z2 := g.c2; have z3 := g.c3; clear hb)
      | (go_at_call 30; (with_reducible refine (a1 _).mono ?_); rintro e w' ⟨rfl, hb⟩; have g : GK w w' s k m c := (by first | exact GK.next (by assumption) hb | exact GK.next (GK.start _ _ _ _ _ _) hb); have z0 := g.c0; have z1 := g.c1; have z2 := g.c2; have z3 := g.c3; clear hb)
      | (go_at_call 41; (with_reducible refine (a11 _).mono ?_); rintro e w' ⟨rfl, hb⟩; have g : GK w w' s k m c := (by first | exact GK.next (by assumption) hb | exact GK.next (GK.start _ _ _ _ _ _) hb); have z0 := g.c0; have z1 := g.c1; have z2 := g.c2; have z3 := g.c3; clear hb))
    go_ret
    exact ⟨rfl, GK.be (by assumption)⟩
  · have y1 : decide (n * z < b) = false := decide_eq_false (by omega)
    have y2 : decide (b ≤ (n - 1) * z) = false := decide_eq_false (by omega)
    have y3 : decide (0 < n) = true := decide_eq_true n1
    have y4 : 0 ≤ n * z := by have := Int.mul_nonneg (show 0 ≤ n by omega) (show 0 ≤ z by omega); exact this
    have x1 : decide (o < 0) = false := decide_eq_false (by omega)
    have x2 : decide (p ≤ o) = false := decide_eq_false (by omega)
    have x3 : decide (f + p ≤ S) = true := decide_eq_true g3
    have b3 := a3 (f + o)
    rw [g4, g5] at b3
    clear a3 g4 g5
    go_enter Try.func7, Try.ntmps7
    go_wp2_with (first
      | (go_at_call 36; (with_reducible refine (a17 _).mono ?_); rintro e w' ⟨rfl, hb⟩; have g : GK w w' s k m c := (by first | exact GK.next (by assumption) hb | exact GK.next (GK.start _ _ _ _ _ _) hb); have z0 := g.c0; have z1 := g.c1; have z2 := g.c2; have z3 := g.c3; clear hb)
      | (go_at_call 37; (with_reducible refine (a7 _).mono ?_); rintro e w' ⟨rfl, hb⟩; have g : GK w w' s k m c := (by first | exact GK.next (by assumption) hb | exact GK.next (GK.start _ _ _ _ _ _) hb); have z0 := g.c0; have z1 := g.c1; have z2 := g.c2; have z3 := g.c3; clear hb)
      | (go_at_call 39; (with_reducible refine (a9 _).mono ?_); rintro e w' ⟨rfl, hb⟩; have g : GK w w' s k m c := (by first | exact GK.next (by assumption) hb | exact GK.next (GK.start _ _ _ _ _ _) hb); have z0 := g.c0; have z1 := g.c1; have z2 := g.c2; have z3 := g.c3; clear hb)
      | (go_at_call 34; (with_reducible refine (a5 _).mono ?_); rintro e w' ⟨rfl, hb⟩; have g : GK w w' s k m c := (by first | exact GK.next (by assumption) hb | exact GK.next (GK.start _ _ _ _ _ _) hb); have z0 := g.c0; have z1 := g.c1; have z2 := g.c2; have z3 := g.c3; clear hb)
      | (go_at_call 30; (with_reducible refine (a1 _).mono ?_); rintro e w' ⟨rfl, hb⟩; have g : GK w w' s k m c := (by first | exact GK.next (by assumption) hb | exact GK.next (GK.start _ _ _ _ _ _) hb); have z0 := g.c0; have z1 := g.c1; have z2 := g.c2; have z3 := g.c3; clear hb)
      | (go_at_call 32; (with_reducible refine (b3 _).mono ?_); rintro e w' ⟨rfl, hb⟩; have g : GK w w' s k m c := (by first | exact GK.next (by assumption) hb | exact GK.next (GK.start _ _ _ _ _ _) hb); have z0 := g.c0; have z1 := g.c1; have z2 := g.c2; have z3 := g.c3; clear hb)
      | (go_at_call 41; (with_reducible refine (a11 _).mono ?_); rintro e w' ⟨rfl, hb⟩; have g : GK w w' s k m c := (by first | exact GK.next (by assumption) hb | exact GK.next (GK.start _ _ _ _ _ _) hb); have z0 := g.c0; have z1 := g.c1; have z2 := g.c2; have z3 := g.c3; clear hb))
    go_ret
    exact ⟨rfl, GK.be (by assumption)⟩
end Go.Proofs.Ytmbjcphhfnemgaa
