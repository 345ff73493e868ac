/- A geometry that comes in. -/
import Derived.Test.YtjhpheepimbbdaaGreatDoorZGeoA
import Derived.OpenShut
import Derived.Lib.SmallJoins
namespace Go.Proofs.YtjhpheepimbbdaaGreatDoor
open Go.RowKit Go.Joins

/-- A value that is a geometry. -/
def GeoVal (v : Value) : Prop := ∃ s k m c : Int, v = .agg #[.int .i64 s, .int .i64 k, .int .i64 m, .int .i64 c] ∧ W64 s ∧ W64 k ∧ W64 m ∧ W64 c
set_option maxRecDepth 100000 in
theorem geoVal_of {H : Type} {enc : TypeId × Value → H} {w : World} {base : Nat} {spare : Nat → Bool} {held : Bool} {r : Reach} {b0 : Nat} {v : Value} {d : DataW H} {p : List MemPlace}
    (hv : Value.okWide Tryz.prog w r b0 23 v) (h : DataW.Trod enc Tryz.prog w base spare held 23 v d p) : GeoVal v := by
  obtain ⟨v0, v1, v2, v3, y0, y1, y2, y3, n, rfl, _, _, t0, t1, t2, t3⟩ := open_agg4 Tryz.underlying23 (by kernel_rfl) (by kernel_rfl) hv h
  obtain ⟨s, e0, _, w0⟩ := DataW.trod_int Tryz.underlying3 t0
  obtain ⟨k, e1, _, w1⟩ := DataW.trod_int Tryz.underlying3 t1
  obtain ⟨m, e2, _, w2⟩ := DataW.trod_int Tryz.underlying3 t2
  obtain ⟨c, e3, _, w3⟩ := DataW.trod_int Tryz.underlying3 t3
  simp only [List.cons.injEq, and_true] at e0 e1 e2 e3
  subst e0 e1 e2 e3
  exact ⟨s, k, m, c, rfl, w64_of_wf w0, w64_of_wf w1, w64_of_wf w2, w64_of_wf w3⟩
end Go.Proofs.YtjhpheepimbbdaaGreatDoor
