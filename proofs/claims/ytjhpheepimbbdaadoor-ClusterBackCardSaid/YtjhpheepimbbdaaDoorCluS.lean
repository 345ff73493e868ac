/- ClusterBack, at whatever comes in. -/
import Derived.Test.YtjhpheepimbbdaaDoorCluK
import Derived.Test.YtjhpheepimbbdaaDoorGeoVal
namespace Go.Proofs.YtjhpheepimbbdaaDoor
open Go.RowKit

theorem clusterBack_any {w : World} {v : Value} (h : GeoVal v) (a : Int) (_ha : (Lit.int .i64 a).wf = true) (b : Int) (_hb : (Lit.int .i64 b).wf = true) (t : ByteArray) (_ht : t.size ≤ maxLen) (hz : t.size ≤ 140737488351232) (u : Int) (_hu : (Lit.int .u32 u).wf = true) (hT : Tab w) :
    Calls Tryd.prog 3 #[v, .int .i64 a, .int .i64 b, .string t, .int .u32 u] w fun e w' => e = .returned (.bool true) ∧ Below w.heap.size w w' := by
  obtain ⟨s, k, m, c, rfl, _, hk, hm, hc⟩ := h
  exact clusterBack_walk (by omega) hk hm hc hT
end Go.Proofs.YtjhpheepimbbdaaDoor
