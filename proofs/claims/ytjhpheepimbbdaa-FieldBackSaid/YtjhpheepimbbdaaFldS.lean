/- The three laws of fields, at whatever comes in. -/
import Derived.Test.YtjhpheepimbbdaaFldP
import Derived.Test.YtjhpheepimbbdaaFldR
import Derived.Test.YtjhpheepimbbdaaPlain
namespace Go.Proofs.Ytjhpheepimbbdaa
open Go.RowKit

theorem fieldTells_any {w : World} (k : Int) (_hk : (Lit.int .i64 k).wf = true) (n : Int) (hn : (Lit.int .u64 n).wf = true) (s : ByteArray) (_hs : s.size ≤ maxLen) {v : Value} (hv : PtrVal v) :
    Calls Try.prog 3 #[.int .i64 k, .int .u64 n, .string s, v] w fun e w' => e = .returned (.bool true) ∧ Below w.heap.size w w' := by
  obtain ⟨a, b, c, rfl, ha, hb, hc⟩ := hv
  have h := fu64_of_wf hn
  obtain ⟨m, rfl⟩ : ∃ m : Nat, n = (m : Int) := ⟨n.toNat, by omega⟩
  exact fieldTells_walk (by omega) hc ha hb
theorem fieldAll_any {w : World} (s : ByteArray) (_hs : s.size ≤ maxLen) {v : Value} {ks : List Int} (hk : NumV w v (i64s ks)) {u : Value} {ns : List Nat} (hu : NumV w u (u64s ns) ∧ ∀ n ∈ ns, n < 18446744073709551616) :
    Calls Try.prog 4 #[.string s, v, u] w fun e w' => e = .returned (.bool true) ∧ Below w.heap.size w w' :=
  fieldAll_walk hk hu.1 hu.2
theorem fieldBack_any {w : World} {v : Value} {ks : List Int} (hk : NumV w v (i64s ks)) {u : Value} {ns : List Nat} (hu : NumV w u (u64s ns) ∧ ∀ n ∈ ns, n < 18446744073709551616) (s : ByteArray) (_hs : s.size ≤ maxLen) (hz : s.size ≤ 140737488351232) {p : Value} (hp : PtrVal p) :
    Calls Try.prog 5 #[v, u, .string s, p] w fun e w' => e = .returned (.bool true) ∧ Below w.heap.size w w' := by
  obtain ⟨a, b, c, rfl, ha, hb, hc⟩ := hp
  exact fieldBack_walk hk hu.1 (by omega) hc ha hb
end Go.Proofs.Ytjhpheepimbbdaa
