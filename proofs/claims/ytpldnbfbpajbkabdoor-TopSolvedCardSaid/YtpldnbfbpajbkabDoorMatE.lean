/- The contract of caulkref03.Same; what Cauchy answers where there is none. -/
import Derived.Test.YtpldnbfbpajbkabDoorMatD
import Derived.BigQuiet
namespace Go.Proofs.YtpldnbfbpajbkabDoor
open Go.RowKit
open Caulk.Lin (Fn2)

theorem RowV.string {w : World} {B : Nat} {v : Value} {l : List UInt8} (h : RowV w B v l) :
    (convert 40 9 v).run Tryd.prog w = .ok (.string ⟨l.toArray⟩) w := by
  obtain ⟨A, cap, rfl, h1, h2, h3, h4⟩ := h
  by_cases hl : l = []
  · subst hl
    rw [run_convert_bytes_string w 40 9 5 A _ cap Tryd.underlying40 Tryd.underlying5 Tryd.underlying9]
    cases A <;> simp [Conv.bytesToString, Sem.run_pure, loadCells, loadCellsFrom] <;> rfl
  · rcases h4 with h4 | ⟨b, off, rfl, _, hc⟩
    · exact absurd h4 hl
    · refine run_convert_bytes_back w 40 9 5 ⟨b, off, none⟩ cap l Tryd.underlying40 Tryd.underlying5 Tryd.underlying9 (fun j hj => ?_)
      rw [show (⟨b, off, none⟩ : Addr).add j = ⟨b, off + j, none⟩ by unfold Addr.add; split <;> simp_all]
      rw [hc j hj, List.getD, List.getElem?_eq_getElem hj]; rfl
theorem drewN_below (w : World) (n : Nat) : Below w.heap.size w (w.drewN n) := below_drewN (Below.refl _ w) n
/-- Row i of a matrix, read at any later world. -/
theorem MatV.rowAt {w : World} {B b off n cap : Nat} {M : List (List UInt8)} (h : MatV w B (.slice (some ⟨b, off, none⟩) n cap) M) (i : Nat) (hi : i < M.length) :
    ∃ x, w.cell? ⟨b, off + i, none⟩ = some x ∧ RowV w B x (M.getD i []) := by
  obtain ⟨A, cap', e, h1, h2, h3, h4⟩ := h
  injection e with e1 e2 e3
  rcases h4 with h4 | ⟨b', off', e4, hlt, hc⟩
  · rw [h4] at hi; simp at hi
  · rw [e4] at e1
    injection e1 with e1
    injection e1 with e5 e6
    subst e5; subst e6
    exact hc i hi
theorem bytes_ne {l s : List UInt8} (h : l ≠ s) : ((ByteArray.mk l.toArray).toList == (ByteArray.mk s.toArray).toList) = false := by
  rw [byte_toList, byte_toList, beq_eq_false_iff_ne]
  simpa using h

end Go.Proofs.YtpldnbfbpajbkabDoor
