/- ClusterPlays, at whatever comes in. -/
import Derived.Test.YtjhpheepimbbdaaGreatDoorDoW
import Derived.Test.YtjhpheepimbbdaaGreatDoorGeoVal
namespace Go.Proofs.YtjhpheepimbbdaaGreatDoor
open Go.RowKit

theorem clusterPlays_any {w : World} {v : Value} (h : GeoVal v) (n : Int) (_hn : (Lit.int .i64 n).wf = true) {va : Value} {L : List AM8} (hL : Acts8 w va L) (hT : Tab w) :
    Calls Tryz.prog 3 #[v, .int .i64 n, va] w fun e w' => e = .returned (.bool true) ∧ Below w.heap.size w w' := by
  obtain ⟨s, k, m, c, rfl, _, hk, hm, hc⟩ := h
  by_cases g : n < 1 ∨ 128 < n ∨ 60 < L.length
  · exact clu_early hT hL g
  · obtain ⟨N, rfl⟩ : ∃ N : Nat, n = (N : Int) := ⟨n.toNat, by omega⟩
    exact clu_plays hT hk hm hc N (by omega) (by omega) hL (by omega)
end Go.Proofs.YtjhpheepimbbdaaGreatDoor
