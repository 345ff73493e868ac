/- Matrices and numbers among the arguments. -/
import Derived.Test.YtpldnbfbpajbkaaLawA
import Derived.Test.YtpldnbfbpajbkaaIsBytes
import Derived.Deep.Matrix
namespace Go.Proofs.Ytpldnbfbpajbkaa
open Go.RowKit
open Go.ChangeShapes (open_ints)
open Go.Deep (open_int_rows)

theorem addr_plain {w : World} {x : Addr} {v : Value} (h : w.cell? (x.add 0) = some v) : ∃ b off, x = ⟨b, off, none⟩ ∧ b < w.heap.size := by
  obtain ⟨b, off, spot⟩ := x
  have hspot : spot = none := by simpa [Addr.add] using World.cell?_spot h
  subst hspot
  exact ⟨b, off, rfl, by have := World.block_lt_of_cell? w _ h; simpa [Addr.add] using this⟩
theorem addr_add (b off j : Nat) : (⟨b, off, none⟩ : Addr).add j = ⟨b, off + j, none⟩ := by unfold Addr.add; split <;> simp_all
theorem rowV_of {w : World} {A : Option Addr} {L C : Nat} {Z : List Int} (h1 : L ≤ C) (h2 : C ≤ maxLen) (h3 : Z.length = C) (h4 : ∀ n ∈ Z, (Lit.int .u8 n).wf = true) (h5 : A = none → C = 0)
    (h6 : ∀ a', A = some a' → ∀ c, c < C → w.cell? (a'.add c) = some (.int .u8 (Z.getD c 0))) : RowV w w.heap.size (.slice A L C) ((List.range L).map fun j => UInt8.ofNat (Z.getD j 0).toNat) := by
  have hlen : ((List.range L).map fun j => UInt8.ofNat (Z.getD j 0).toNat).length = L := by simp
  refine ⟨A, C, by rw [hlen], h5, by rw [hlen]; exact h1, h2, ?_⟩
  by_cases h0 : L = 0
  · left; subst h0; rfl
  · right
    obtain ⟨x, rfl⟩ : ∃ x, A = some x := by
      cases A with
      | none => have := h5 rfl; omega
      | some x => exact ⟨x, rfl⟩
    obtain ⟨b, off, rfl, hb⟩ := addr_plain (h6 x rfl 0 (by omega))
    refine ⟨b, off, rfl, hb, fun j hj => ?_⟩
    rw [hlen] at hj
    have hc := h6 _ rfl j (by omega)
    rw [addr_add] at hc
    rw [hc]
    have hjz : j < Z.length := by omega
    have hmem : Z.getD j 0 ∈ Z := by rw [List.getD, List.getElem?_eq_getElem hjz]; exact List.getElem_mem hjz
    have e2 : ((List.range L).map fun j => UInt8.ofNat (Z.getD j 0).toNat).getD j 0 = UInt8.ofNat (Z.getD j 0).toNat := by
      simp [List.getD, hj]
    rw [e2, ← u8_of_wf (h4 _ hmem)]
theorem matV_of {H : Type} {enc : TypeId × Value → H} {P : Program} {w : World} {base : Nat} {held : Bool} {fuel t e q : Nat} {A : Option Addr} {len cap : Nat} {x : DataW H × List MemPlace}
    (ht : P.underlying t = some (.slice e)) (he : P.underlying e = some (.slice q)) (hq : P.underlying q = some (.int .u8)) (ce : P.cellsOf e = 1) (cq : P.cellsOf q = 1)
    (h : DataW.trod enc P w base (fun _ => true) held fuel t (Value.slice A len cap).cells.toList = some x) : ∃ M, MatV w w.heap.size (.slice A len cap) M := by
  rcases open_int_rows ht he hq ce cq h with ⟨hcs, _⟩ | ⟨a, len', cap', A', L, C, Z, hcs, _, hl, hm, _, hr⟩
  · simp [Value.cells] at hcs
    obtain ⟨rfl, rfl, rfl⟩ := hcs
    exact ⟨[], matV_nil _ _⟩
  · simp [Value.cells] at hcs
    obtain ⟨rfl, rfl, rfl⟩ := hcs
    have hlen : ((List.range len).map fun i => (List.range (L i)).map fun j => UInt8.ofNat ((Z i).getD j 0).toNat).length = len := by simp
    refine ⟨(List.range len).map fun i => (List.range (L i)).map fun j => UInt8.ofNat ((Z i).getD j 0).toNat, some a, cap, by rw [hlen], by simp, by rw [hlen]; exact hl, hm, ?_⟩
    by_cases h0 : len = 0
    · left; subst h0; rfl
    · right
      obtain ⟨b, off, rfl, hb⟩ := addr_plain (hr 0 (by omega)).1
      refine ⟨b, off, rfl, hb, fun i hi => ?_⟩
      rw [hlen] at hi
      obtain ⟨c1, c2, c3, c4, c5, c6, c7⟩ := hr i (by omega)
      rw [addr_add] at c1
      refine ⟨_, c1, ?_⟩
      have e2 : ((List.range len).map fun i => (List.range (L i)).map fun j => UInt8.ofNat ((Z i).getD j 0).toNat).getD i [] = (List.range (L i)).map fun j => UInt8.ofNat ((Z i).getD j 0).toNat := by
        simp [List.getD, hi]
      rw [e2]
      exact rowV_of c2 c3 c4 c5 c6 (fun a' ha' => (c7 a' ha').2)
theorem i64_of_wf {n : Int} (h : (Lit.int .i64 n).wf = true) : -9223372036854775808 ≤ n ∧ n ≤ 9223372036854775807 := by
  simp [Lit.wf, IntKind.min, IntKind.max, IntKind.signed, IntKind.bits] at h
  omega
theorem intsV_of {H : Type} {enc : TypeId × Value → H} {P : Program} {w : World} {base : Nat} {held : Bool} {fuel t e : Nat} {A : Option Addr} {len cap : Nat} {x : DataW H × List MemPlace}
    (ht : P.underlying t = some (.slice e)) (he : P.underlying e = some (.int .i64)) (hc : P.cellsOf e = 1)
    (h : DataW.trod enc P w base (fun _ => true) held fuel t (Value.slice A len cap).cells.toList = some x) : ∃ R, IntsV w w.heap.size (.slice A len cap) R := by
  rcases open_ints ht he hc h with ⟨hcs, _⟩ | ⟨a, len', cap', zs, hcs, _, hl, hm, hz, _, hcell, hwz⟩
  · simp [Value.cells] at hcs
    obtain ⟨rfl, rfl, rfl⟩ := hcs
    exact ⟨[], none, 0, rfl, Nat.le_refl _, Nat.zero_le _, fun x hx => by simp at hx, .inl rfl⟩
  · simp [Value.cells] at hcs
    obtain ⟨rfl, rfl, rfl⟩ := hcs
    simp only [if_true] at hz
    have hlen : (zs.take len).length = len := by simp; omega
    refine ⟨zs.take len, some a, cap, by rw [hlen], by rw [hlen]; exact hl, hm, fun x hx => i64_of_wf (hwz x (List.mem_of_mem_take hx)), ?_⟩
    by_cases h0 : len = 0
    · left; subst h0; rfl
    · right
      obtain ⟨b, off, rfl, hb⟩ := addr_plain (hcell 0 (by omega))
      refine ⟨b, off, rfl, hb, fun j hj => ?_⟩
      rw [hlen] at hj
      have hc := hcell j (by omega)
      rw [addr_add] at hc
      rw [hc, List.getD, List.getD, List.getElem?_take, if_pos hj]
end Go.Proofs.Ytpldnbfbpajbkaa
