/- The law's lives for geometries. -/
import Derived.Test.YtmbjcphhfnemgaaGeoD
namespace Go.Proofs.Ytmbjcphhfnemgaa
open Go.RowKit

/-- A geometry that lies in a block of the walk's own, and what lay before the call lies as it lay. -/
structure GK (w W : World) (s k m c : Int) : Prop where
  c0 : W.cell? ⟨w.heap.size, 0, none⟩ = some (.int .i64 s)
  c1 : W.cell? ⟨w.heap.size, 1, none⟩ = some (.int .i64 k)
  c2 : W.cell? ⟨w.heap.size, 2, none⟩ = some (.int .i64 m)
  c3 : W.cell? ⟨w.heap.size, 3, none⟩ = some (.int .i64 c)
  lt : w.heap.size < W.heap.size
  be : Below w.heap.size w W
theorem GK.next {w W W' : World} {s k m c : Int} (h : GK w W s k m c) (hb : Below W.heap.size W W') : GK w W' s k m c :=
  ⟨(hb.cell (p := ⟨w.heap.size, 0, none⟩) h.lt).trans h.c0, (hb.cell (p := ⟨w.heap.size, 1, none⟩) h.lt).trans h.c1, (hb.cell (p := ⟨w.heap.size, 2, none⟩) h.lt).trans h.c2, (hb.cell (p := ⟨w.heap.size, 3, none⟩) h.lt).trans h.c3, Nat.lt_of_lt_of_le h.lt hb.size, h.be.trans (hb.mono (Nat.le_of_lt h.lt))⟩
theorem GK.start (w : World) (s k m c : Int) (t : Nat) : GK w (w.alloc (.cells #[.int .i64 s, .int .i64 k, .int .i64 m, .int .i64 c] t)) s k m c :=
  ⟨by simp [go_sem], by simp [go_sem], by simp [go_sem], by simp [go_sem], by simp, (Below.refl _ _).alloc (Nat.le_refl _) _⟩

theorem w64 {x : Int} (h : -9223372036854775808 ≤ x ∧ x ≤ 9223372036854775807) : W64 x := h
set_option maxHeartbeats 1000000 in
set_option maxRecDepth 100000 in
theorem geoLives_any (w : World) : Calls Try.prog 36 #[] w fun e w' => e = .returned (.bool true) ∧ Below w.heap.size w w' := by
  have G : GeoOk 1 2 1 10 := by decide
  have c1 := fun W => geoFirst_any 1 2 1 10 9 (w64 (by omega)) (w64 (by omega)) (w64 (by omega)) W
  have c2 := fun W => geoFirst_any 1 2 1 10 10 (w64 (by omega)) (w64 (by omega)) (w64 (by omega)) W
  have c3 := fun W => geoCluster_any 1 2 1 10 19 (w64 (by omega)) (w64 (by omega)) (w64 (by omega)) W
  have c4 := fun W => geoBlocks_any 1 2 1 10 1025 (w64 (by omega)) (w64 (by omega)) (w64 (by omega)) W
  have c5 := fun W => geoBlocks_any 0 0 0 0 0 (w64 (by omega)) (w64 (by omega)) (w64 (by omega)) W
  have c6 := fun W => geoCheck_any 1 2 1 10 (w64 (by omega)) (w64 (by omega)) (w64 (by omega)) W
  have c7 := fun W => geoSize_any 1 2 1 10 (w64 (by omega)) (w64 (by omega)) (w64 (by omega)) W
  have c8 := fun W => geoSectors_any 1 2 1 10 (w64 (by omega)) (w64 (by omega)) (w64 (by omega)) W
  have c9 := fun W => geoFan_any 1 2 1 10 (w64 (by omega)) (w64 (by omega)) (w64 (by omega)) W
  have c10 := fun W => geoEntries_any 1 2 1 10 (w64 (by omega)) (w64 (by omega)) (w64 (by omega)) W
  have c11 := fun W => geoCheck_any 0 0 0 0 (w64 (by omega)) (w64 (by omega)) (w64 (by omega)) W
  rw [show geoFv 1 2 1 10 9 = 18 by decide, show geoFe 1 2 1 10 9 = 0 by decide] at c1
  rw [show geoFv 1 2 1 10 10 = 0 by decide, show geoFe 1 2 1 10 10 = 1 by decide] at c2
  rw [show geoCv 1 2 1 10 19 = 9 by decide, show geoCe 1 2 1 10 19 = 0 by decide] at c3
  rw [show geoBv 1 2 1 10 1025 = 2 by decide, show geoBe 1 2 1 10 1025 = 0 by decide] at c4
  rw [show geoBv 0 0 0 0 0 = 0 by decide, show geoBe 0 0 0 0 0 = 2 by decide] at c5
  rw [show geoE 1 2 1 10 = 0 by decide] at c6
  rw [show geoSz 1 2 1 10 = 1024 by decide] at c7 c9 c10
  rw [show geoSec 1 2 1 10 = 20 by decide] at c8
  rw [show geoE 0 0 0 0 = 2 by decide] at c11
  unfold geoV at c1 c2 c3 c4 c5 c6 c7 c8 c9 c10 c11
  clear G
  go_enter Try.func36, Try.ntmps36
  go_wp2_with (first
    | (go_at_call 30; (with_reducible refine (c1 _).mono ?_); rintro e w' ⟨rfl, hb⟩; have g : GK w w' 1 2 1 10 := (by first | exact GK.next (by assumption) hb | exact GK.next (GK.start _ _ _ _ _ _) hb); have z0 := g.c0; have z1 := g.c1; have z2 := g.c2; have z3 := g.c3; clear hb)
    | (go_at_call 30; (with_reducible refine (c2 _).mono ?_); rintro e w' ⟨rfl, hb⟩; have g : GK w w' 1 2 1 10 := (by first | exact GK.next (by assumption) hb | exact GK.next (GK.start _ _ _ _ _ _) hb); have z0 := g.c0; have z1 := g.c1; have z2 := g.c2; have z3 := g.c3; clear hb)
    | (go_at_call 32; (with_reducible refine (c3 _).mono ?_); rintro e w' ⟨rfl, hb⟩; have g : GK w w' 1 2 1 10 := (by first | exact GK.next (by assumption) hb | exact GK.next (GK.start _ _ _ _ _ _) hb); have z0 := g.c0; have z1 := g.c1; have z2 := g.c2; have z3 := g.c3; clear hb)
    | (go_at_call 34; (with_reducible refine (c4 _).mono ?_); rintro e w' ⟨rfl, hb⟩; have g : GK w w' 1 2 1 10 := (by first | exact GK.next (by assumption) hb | exact GK.next (GK.start _ _ _ _ _ _) hb); have z0 := g.c0; have z1 := g.c1; have z2 := g.c2; have z3 := g.c3; clear hb)
    | (go_at_call 34; (with_reducible refine (c5 _).mono ?_); rintro e w' ⟨rfl, hb⟩; have g : GK w w' 1 2 1 10 := (by first | exact GK.next (by assumption) hb | exact GK.next (GK.start _ _ _ _ _ _) hb); have z0 := g.c0; have z1 := g.c1; have z2 := g.c2; have z3 := g.c3; clear hb)
    | (go_at_call 37; (with_reducible refine (c6 _).mono ?_); rintro e w' ⟨rfl, hb⟩; have g : GK w w' 1 2 1 10 := (by first | exact GK.next (by assumption) hb | exact GK.next (GK.start _ _ _ _ _ _) hb); have z0 := g.c0; have z1 := g.c1; have z2 := g.c2; have z3 := g.c3; clear hb)
    | (go_at_call 39; (with_reducible refine (c7 _).mono ?_); rintro e w' ⟨rfl, hb⟩; have g : GK w w' 1 2 1 10 := (by first | exact GK.next (by assumption) hb | exact GK.next (GK.start _ _ _ _ _ _) hb); have z0 := g.c0; have z1 := g.c1; have z2 := g.c2; have z3 := g.c3; clear hb)
    | (go_at_call 41; (with_reducible refine (c8 _).mono ?_); rintro e w' ⟨rfl, hb⟩; have g : GK w w' 1 2 1 10 := (by first | exact GK.next (by assumption) hb | exact GK.next (GK.start _ _ _ _ _ _) hb); have z0 := g.c0; have z1 := g.c1; have z2 := g.c2; have z3 := g.c3; clear hb)
    | (go_at_call 43; (with_reducible refine (c9 _).mono ?_); rintro e w' ⟨rfl, hb⟩; have g : GK w w' 1 2 1 10 := (by first | exact GK.next (by assumption) hb | exact GK.next (GK.start _ _ _ _ _ _) hb); have z0 := g.c0; have z1 := g.c1; have z2 := g.c2; have z3 := g.c3; clear hb)
    | (go_at_call 45; (with_reducible refine (c10 _).mono ?_); rintro e w' ⟨rfl, hb⟩; have g : GK w w' 1 2 1 10 := (by first | exact GK.next (by assumption) hb | exact GK.next (GK.start _ _ _ _ _ _) hb); have z0 := g.c0; have z1 := g.c1; have z2 := g.c2; have z3 := g.c3; clear hb)
    | (go_at_call 37; (with_reducible refine (c11 _).mono ?_); rintro e w' ⟨rfl, hb⟩; have g : GK w w' 1 2 1 10 := (by first | exact GK.next (by assumption) hb | exact GK.next (GK.start _ _ _ _ _ _) hb); have z0 := g.c0; have z1 := g.c1; have z2 := g.c2; have z3 := g.c3; clear hb))
  go_ret
  exact ⟨rfl, GK.be (by assumption)⟩
end Go.Proofs.Ytmbjcphhfnemgaa
