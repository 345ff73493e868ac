/- TopRecords, at whatever comes in. -/
import Derived.Test.YtjhpheepimbbdaaDoorTopRec
import Derived.Test.YtjhpheepimbbdaaDoorGeoVal
import Derived.Test.YtjhpheepimbbdaaDoorNums
namespace Go.Proofs.YtjhpheepimbbdaaDoor
open Go.RowKit

theorem topRecords_any {w : World} {v : Value} (h : GeoVal v) (a : Int) (_ha : (Lit.int .i64 a).wf = true) {x : Value} {ks : List Int} (hk : NumV w x (i64s ks)) {u : Value} {ns : List Nat} (hu : NumV w u (u64s ns) ∧ ∀ n ∈ ns, n < 18446744073709551616) (off : Int) (_ho : (Lit.int .i64 off).wf = true) (y : Int) (hy : (Lit.int .u32 y).wf = true) (hT : Tab w) :
    Calls Tryd.prog 4 #[v, .int .i64 a, x, u, .int .i64 off, .int .u32 y] w fun e w' => e = .returned (.bool true) ∧ Below w.heap.size w w' := by
  obtain ⟨s, k, m, c, rfl, _, hk', hm, hc⟩ := h
  have hb := fu32_of_wf hy
  obtain ⟨n, rfl⟩ : ∃ n : Nat, y = (n : Int) := ⟨y.toNat, by omega⟩
  exact topRecords_walk hk' hm hc hT hk hu.1 (by omega)
end Go.Proofs.YtjhpheepimbbdaaDoor
