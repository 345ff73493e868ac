/- What comes in at TopClusters, and the law at whatever comes in. -/
import Derived.Test.YtmbjcphhfnemgaaDoorTopC
import Derived.OpenShut
import Derived.Deep.Grids
import Derived.Lib.SmallJoins
namespace Go.Proofs.YtmbjcphhfnemgaaDoor
open Go.RowKit Go.Joins
open Go.Deep (open_bools boolRow)

theorem adr_plain {w : World} {x : Addr} {v : Value} (h : w.cell? (x.add 0) = some v) : ∃ b off, x = ⟨b, off, none⟩ ∧ b < w.heap.size := by
  obtain ⟨b, off, spot⟩ := x
  have hspot : spot = none := by simpa [Addr.add] using World.cell?_spot h
  subst hspot
  exact ⟨b, off, rfl, by have := World.block_lt_of_cell? w _ h; simpa [Addr.add] using this⟩
theorem adr_add (b off j : Nat) : (⟨b, off, none⟩ : Addr).add j = ⟨b, off + j, none⟩ := by unfold Addr.add; split <;> simp_all
theorem boolsS_of {H : Type} {enc : TypeId × Value → H} {P : Program} {w : World} {base : Nat} {held : Bool} {fuel t e : Nat} {A : Option Addr} {len cap : Nat} {x : DataW H × List MemPlace}
    (ht : P.underlying t = some (.slice e)) (he : P.underlying e = some .bool) (hc : P.cellsOf e = 1)
    (h : DataW.trod enc P w base (fun _ => true) held fuel t (Value.slice A len cap).cells.toList = some x) : ∃ Q, BoolsS w (.slice A len cap) Q := by
  rcases open_bools ht he hc h with ⟨hcs, _⟩ | ⟨a, len', cap', B, hcs, _, hl, hm, _, hcell⟩
  · simp [Value.cells] at hcs
    obtain ⟨rfl, rfl, rfl⟩ := hcs
    exact ⟨[], none, 0, rfl, Nat.le_refl _, Nat.zero_le _, .inl rfl⟩
  · simp [Value.cells] at hcs
    obtain ⟨rfl, rfl, rfl⟩ := hcs
    have hlen : ((List.range len).map B).length = len := by simp
    refine ⟨(List.range len).map B, some a, cap, by rw [hlen], by rw [hlen]; exact hl, hm, ?_⟩
    by_cases h0 : len = 0
    · left; subst h0; rfl
    · right
      obtain ⟨b, off, rfl, hb⟩ := adr_plain (hcell 0 (by omega))
      refine ⟨b, off, rfl, hb, fun j hj => ?_⟩
      rw [hlen] at hj
      have hc := hcell j (by omega)
      rw [adr_add] at hc
      rw [hc]
      simp [List.getD, hj]
theorem bools_len {H : Type} {enc : TypeId × Value → H} {P : Program} {w : World} {base : Nat} {held : Bool} {fuel t e : Nat} {A : Option Addr} {len cap : Nat} {d : DataW H} {p : List MemPlace}
    (ht : P.underlying t = some (.slice e)) (he : P.underlying e = some .bool) (hc : P.cellsOf e = 1)
    (h : DataW.trod enc P w base (fun _ => true) held fuel t (Value.slice A len cap).cells.toList = some (d, p)) : len = 0 ∨ ∃ elems spare, d = .slice elems spare ∧ elems.length = len := by
  rcases open_bools ht he hc h with ⟨hcs, _⟩ | ⟨a, len', cap', B, hcs, _, hl, hm, hx, hcell⟩
  · simp [Value.cells] at hcs
    exact .inl hcs.2.1
  · simp [Value.cells] at hcs
    obtain ⟨rfl, rfl, rfl⟩ := hcs
    simp only [Prod.mk.injEq, boolRow] at hx
    exact .inr ⟨_, _, hx.1, by simp⟩
/-- A value that is a geometry. -/
def GeoVal (v : Value) : Prop := ∃ s k m c : Int, v = .agg #[.int .i64 s, .int .i64 k, .int .i64 m, .int .i64 c] ∧ W64 s ∧ W64 k ∧ W64 m ∧ W64 c
theorem w64_of_wf {x : Int} (h : (Lit.int .i64 x).wf = true) : W64 x := by
  unfold W64
  simp [Lit.wf, IntKind.min, IntKind.max, IntKind.signed, IntKind.bits] at h
  omega
set_option maxRecDepth 100000 in
theorem geoVal_of {H : Type} {enc : TypeId × Value → H} {w : World} {base : Nat} {spare : Nat → Bool} {held : Bool} {r : Reach} {b0 : Nat} {v : Value} {d : DataW H} {p : List MemPlace}
    (hv : Value.okWide Tryd.prog w r b0 23 v) (h : DataW.Trod enc Tryd.prog w base spare held 23 v d p) : GeoVal v := by
  obtain ⟨v0, v1, v2, v3, y0, y1, y2, y3, n, rfl, _, _, t0, t1, t2, t3⟩ := open_agg4 Tryd.underlying23 (by kernel_rfl) (by kernel_rfl) hv h
  obtain ⟨s, e0, _, w0⟩ := DataW.trod_int Tryd.underlying3 t0
  obtain ⟨k, e1, _, w1⟩ := DataW.trod_int Tryd.underlying3 t1
  obtain ⟨m, e2, _, w2⟩ := DataW.trod_int Tryd.underlying3 t2
  obtain ⟨c, e3, _, w3⟩ := DataW.trod_int Tryd.underlying3 t3
  simp only [List.cons.injEq, and_true] at e0 e1 e2 e3
  subst e0 e1 e2 e3
  exact ⟨s, k, m, c, rfl, w64_of_wf w0, w64_of_wf w1, w64_of_wf w2, w64_of_wf w3⟩

theorem topClusters_any {w : World} {v : Value} (h : GeoVal v) (a : Int) (ha : (Lit.int .i64 a).wf = true) (c : Int) (hc : (Lit.int .u8 c).wf = true) {k : Value} {Q : List Bool} (hQ : BoolsS w k Q) (hQs : Q.length * 1 ≤ 140737488351232) (hT : Tab w) :
    Calls Tryd.prog 3 #[v, .int .i64 a, .int .u8 c, k] w fun e w' => e = .returned (.bool true) ∧ Below w.heap.size w w' := by
  obtain ⟨s, k, m, n, rfl, _, hk, hm, hn⟩ := h
  obtain ⟨x, rfl⟩ : ∃ x : UInt8, c = (x.toNat : Int) := by
    have : 0 ≤ c ∧ c < 256 := by
      simp [Lit.wf, IntKind.min, IntKind.max, IntKind.signed, IntKind.bits] at hc
      omega
    exact ⟨UInt8.ofNat c.toNat, by rw [UInt8.toNat_ofNat']; omega⟩
  exact topClusters_walk hk hm hn (w64_of_wf ha) hQ (by omega) hT
end Go.Proofs.YtmbjcphhfnemgaaDoor
