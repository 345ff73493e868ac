/- A slice of bytes among the arguments. -/
import Derived.Test.YtmbjcphhfnemgaaKit
import Derived.ChangeSlices
import Derived.OpenShut
namespace Go.Proofs.Ytmbjcphhfnemgaa
open Go.RowKit
open Go.ChangeShapes (open_ints)
/-- A slice of bytes that came in: the bytes l; where there are some, they lie in a block that was there. -/
def IsBytes (w : World) (A : Option Addr) (len cap : Nat) (l : List UInt8) : Prop :=
  l.length = len ∧ len ≤ maxLen ∧ ((A = none ∧ len = 0 ∧ cap = 0) ∨ ∃ ad, A = some ad ∧ (len = 0 ∨ ∃ b off, ad = ⟨b, off, none⟩ ∧ b < w.heap.size ∧ ∀ j, j < len → w.cell? ⟨b, off + j, none⟩ = some (.int .u8 ((l.getD j 0).toNat : Int))))
theorem u8_of_wf {n : Int} (h : (Lit.int .u8 n).wf = true) : n = ((UInt8.ofNat n.toNat).toNat : Int) := by
  have : 0 ≤ n ∧ n < 256 := by
    simp [Lit.wf, IntKind.min, IntKind.max, IntKind.signed, IntKind.bits] at h
    omega
  rw [UInt8.toNat_ofNat']
  omega
theorem isBytes_of {H : Type} {enc : TypeId × Value → H} {P : Program} {w : World} {base : Nat} {held : Bool} {fuel t e : Nat} {A : Option Addr} {len cap : Nat} {x : DataW H × List MemPlace}
    (ht : P.underlying t = some (.slice e)) (he : P.underlying e = some (.int .u8)) (hc : P.cellsOf e = 1)
    (h : DataW.trod enc P w base (fun _ => true) held fuel t (Value.slice A len cap).cells.toList = some x) : ∃ l, IsBytes w A len cap l := by
  rcases open_ints ht he hc h with ⟨hcs, _⟩ | ⟨x, l, c, zs, hcs, _, hl, hm, hz, _, hcell, hwz⟩
  · simp [Value.cells] at hcs
    obtain ⟨rfl, rfl, rfl⟩ := hcs
    exact ⟨[], rfl, Nat.zero_le _, .inl ⟨rfl, rfl, rfl⟩⟩
  · simp [Value.cells] at hcs
    obtain ⟨rfl, rfl, rfl⟩ := hcs
    simp only [if_true] at hz
    by_cases h0 : len = 0
    · exact ⟨[], h0.symm, by omega, .inr ⟨x, rfl, .inl h0⟩⟩
    · obtain ⟨b, off, spot⟩ := x
      have hc0 := hcell 0 (by omega)
      have hspot : spot = none := by simpa [Addr.add] using World.cell?_spot hc0
      subst hspot
      have hadd : ∀ i, (⟨b, off, none⟩ : Addr).add i = ⟨b, off + i, none⟩ := fun i => by unfold Addr.add; split <;> simp_all
      have hlen : ((zs.take len).map fun n => UInt8.ofNat n.toNat).length = len := by simp; omega
      have hc1 : ∀ j, j < len → w.cell? ⟨b, off + j, none⟩ = some (.int .u8 ((((zs.take len).map fun n => UInt8.ofNat n.toNat).getD j 0).toNat : Int)) := fun j hj => by
        have h1 := hcell j (by omega)
        rw [hadd] at h1
        rw [h1]
        have hjz : j < zs.length := by omega
        have hmem : zs.getD j 0 ∈ zs := by rw [List.getD, List.getElem?_eq_getElem hjz]; exact List.getElem_mem hjz
        have e2 : ((zs.take len).map fun n => UInt8.ofNat n.toNat).getD j 0 = UInt8.ofNat (zs.getD j 0).toNat := by
          rw [List.getD, List.getElem?_map, List.getElem?_take, if_pos hj, List.getElem?_eq_getElem hjz, List.getD, List.getElem?_eq_getElem hjz]; rfl
        rw [e2, ← u8_of_wf (hwz _ hmem)]
      exact ⟨_, hlen, by omega, .inr ⟨_, rfl, .inr ⟨b, off, rfl, World.block_lt_of_cell? w _ (hc1 0 (by omega)), hc1⟩⟩⟩
end Go.Proofs.Ytmbjcphhfnemgaa
