/- Reading matrices and numbers at later worlds; copies into a row. -/
import Derived.Test.YtpldnbfbpajbkabDoorMatE
import Derived.Laws.IdiomCopy
namespace Go.Proofs.YtpldnbfbpajbkabDoor
open Go.RowKit
open Caulk.Lin (Fn2)

theorem right_rowsL {r k : Nat} {F : Fn2} (hr1 : 1 ≤ r) (hr2 : r ≤ 255) (hk1 : 1 ≤ k) (hk2 : k ≤ 255) : RightM (rowsL r k F) := by
  have h0 : ∀ i, i < r → ((rowsL r k F).getD i []).length = k := fun i hi => by rw [rowsL_getD F hi, rowL_len]
  refine ⟨by rw [rowsL_len]; exact hr1, by rw [rowsL_len]; exact hr2, by rw [h0 0 hr1]; exact hk1, by rw [h0 0 hr1]; exact hk2, fun i hi => ?_⟩
  rw [rowsL_len] at hi
  rw [h0 i hi, h0 0 hr1]
/-- A right matrix is rows of one length. -/
theorem right_open {M : List (List UInt8)} (h : RightM M) : ∃ (r k : Nat) (F : Fn2), M = rowsL r k F ∧ 1 ≤ r ∧ r ≤ 255 ∧ 1 ≤ k ∧ k ≤ 255 := by
  obtain ⟨h1, h2, h3, h4, h5⟩ := h
  refine ⟨M.length, (M.getD 0 []).length, fun i j => (M.getD i []).getD j 0, ?_, h1, h2, h3, h4⟩
  apply List.ext_getElem (by rw [rowsL_len])
  intro i hi1 hi2
  have e : M.getD i [] = M[i] := by simp [List.getD, hi1]
  have e2 : (rowsL M.length (M.getD 0 []).length (fun i j => (M.getD i []).getD j 0)).getD i [] = (rowsL M.length (M.getD 0 []).length (fun i j => (M.getD i []).getD j 0))[i] := by rw [List.getD, List.getElem?_eq_getElem hi2]; rfl
  rw [← e, ← e2, rowsL_getD _ hi1, ← h5 i hi1]
  exact (list_rowL _).symm
/-- What is read of a matrix, at any later world. -/
theorem MatV.reads {w : World} {B : Nat} {v : Value} {r k : Nat} {F : Fn2} (h : MatV w B v (rowsL r k F)) (hB : B ≤ w.heap.size) (hr : 0 < r) (hk : 0 < k) :
    ∃ b off cap, v = .slice (some ⟨b, off, none⟩) r cap ∧ r ≤ cap ∧ cap ≤ maxLen ∧ ∀ W, Below w.heap.size w W → ∀ i, i < r → ∃ b' off' cap', W.cell? ⟨b, off + i, none⟩ = some (.slice (some ⟨b', off', none⟩) k cap') ∧ b' < B ∧ k ≤ cap' ∧ cap' ≤ maxLen ∧ ∀ j, j < k → W.cell? ⟨b', off' + j, none⟩ = some (.int .u8 ((F i j).toNat : Int)) := by
  obtain ⟨b, off, cap, e, hb, h1, h2, h3⟩ := h.opened hr hk
  refine ⟨b, off, cap, e, h1, h2, fun W hW i hi => ?_⟩
  obtain ⟨b', off', cap', a1, a2, a3, a4, a5⟩ := h3 i hi
  exact ⟨b', off', cap', (hW.cell (p := ⟨b, off + i, none⟩) (Nat.lt_of_lt_of_le hb hB)).trans a1, a2, a3, a4, fun j hj => (hW.cell (p := ⟨b', off' + j, none⟩) (Nat.lt_of_lt_of_le a2 hB)).trans (a5 j hj)⟩
/-- A slice of whole numbers. -/
def IntsV (w : World) (B : Nat) (v : Value) (R : List Int) : Prop :=
  ∃ A cap, v = .slice A R.length cap ∧ R.length ≤ cap ∧ cap ≤ maxLen ∧ (∀ x ∈ R, -9223372036854775808 ≤ x ∧ x ≤ 9223372036854775807) ∧ (R = [] ∨ ∃ b off, A = some ⟨b, off, none⟩ ∧ b < B ∧ ∀ j, j < R.length → w.cell? ⟨b, off + j, none⟩ = some (.int .i64 (R.getD j 0)))
theorem IntsV.below {w w' : World} {B B' : Nat} {v : Value} {R : List Int} (h : IntsV w B v R) (hb : Below B' w w') (hB : B ≤ B') : IntsV w' B v R := by
  obtain ⟨A, cap, rfl, h2, h3, h4, h5⟩ := h
  refine ⟨A, cap, rfl, h2, h3, h4, ?_⟩
  rcases h5 with h5 | ⟨b, off, rfl, hlt, hc⟩
  · exact .inl h5
  · exact .inr ⟨b, off, rfl, hlt, fun j hj => (hb.cell (p := ⟨b, off + j, none⟩) (Nat.lt_of_lt_of_le hlt hB)).trans (hc j hj)⟩
theorem IntsV.reads {w : World} {B : Nat} {v : Value} {R : List Int} (h : IntsV w B v R) (hB : B ≤ w.heap.size) (hr : 0 < R.length) :
    ∃ b off cap, v = .slice (some ⟨b, off, none⟩) R.length cap ∧ R.length ≤ cap ∧ cap ≤ maxLen ∧ ∀ W, Below w.heap.size w W → ∀ i, i < R.length → W.cell? ⟨b, off + i, none⟩ = some (.int .i64 (R.getD i 0)) ∧ -9223372036854775808 ≤ R.getD i 0 ∧ R.getD i 0 ≤ 9223372036854775807 := by
  obtain ⟨A, cap, rfl, h2, h3, h4, h5⟩ := h
  rcases h5 with h5 | ⟨b, off, rfl, hlt, hc⟩
  · rw [h5] at hr; simp at hr
  · refine ⟨b, off, cap, rfl, h2, h3, fun W hW i hi => ⟨(hW.cell (p := ⟨b, off + i, none⟩) (Nat.lt_of_lt_of_le hlt hB)).trans (hc i hi), ?_⟩⟩
    apply h4
    rw [List.getD, List.getElem?_eq_getElem hi]
    exact List.getElem_mem hi

/-! Copies. -/
theorem Only.setCells {b lo hi : Nat} : ∀ (vs : List Value) (o : Nat) (w : World), lo ≤ o → o + vs.length ≤ hi → b < w.heap.size → Only w (w.setCells b o vs) b lo hi
  | [], _, w, _, _, hb => Only.of_below (Below.refl _ w) hb _ _
  | v :: r, o, w, h1, h2, hb => by
    simp only [List.length_cons] at h2
    exact (Only.set w b o v h1 (by omega)).trans (Only.setCells r (o + 1) _ (by omega) (by omega) (by rw [World.size_setCell]; exact hb))
theorem Row8.setCells {w : World} {b off : Nat} {l s : List UInt8} (h : Row8 w b off l) (hl : s.length = l.length) : Row8 (w.setCells b off (U8s s)) b off s := by
  have ho := Only.setCells (b := b) (lo := off) (hi := off + (U8s s).length) (U8s s) off w (Nat.le_refl _) (Nat.le_refl _) h.1
  refine ⟨Nat.lt_of_lt_of_le h.1 ho.size, fun j hj => ⟨?_, ?_⟩⟩
  · have hj' : j < (U8s s).length := by rw [u8s_len]; exact hj
    rw [World.cell?_setCells_in b (U8s s) off w (fun i hi => by rw [u8s_len] at hi; rw [(h.2 i (by omega)).1]; rfl) j hj']
    have := u8s_at s j hj
    rw [List.getElem?_eq_getElem hj'] at this
    exact this
  · rw [World.frozen?_setCells]
    exact (h.2 j (by omega)).2
theorem infoU8size : (Tryd.prog.info? 5).map (·.size) = some 1 := by kernel_rfl
/-- copy of one row to another. -/
theorem run_copy_rows {w : World} {b off k cap b2 off2 cap2 : Nat} {f g : Nat → UInt8} (h : Row8 w b off (rowL k f)) (hs : ∀ j, j < k → w.cell? ⟨b2, off2 + j, none⟩ = some (.int .u8 ((g j).toNat : Int))) (ty : TypeId) :
    (Builtin.copy_ #[40, 40] ty #[.slice (some ⟨b, off, none⟩) k cap, .slice (some ⟨b2, off2, none⟩) k cap2]).run Tryd.prog w = .ok (goInt k) (w.setCells b off (U8s (rowL k g))) := by
  have hl : (U8s (rowL k g)).length = k := by rw [u8s_len, rowL_len]
  have := run_copy_cells (P := Tryd.prog) w 40 40 ty 5 b off k cap ⟨b2, off2, none⟩ k cap2 (U8s (rowL k g)) Tryd.underlying40 infoU8size (by rw [hl]; simp)
    (fun j v hv => by
      have hj : j < k := by have := (List.getElem?_eq_some_iff.1 hv).1; omega
      rw [u8s_at _ j (by rw [rowL_len]; exact hj), rowL_getD g hj] at hv
      injection hv with hv
      rw [show (⟨b2, off2, none⟩ : Addr).add j = ⟨b2, off2 + j, none⟩ by unfold Addr.add; split <;> simp_all, hs j hj, hv])
    (fun j hj => by rw [(h.2 j (by rw [rowL_len]; omega)).1]; rfl) (fun j hj => (h.2 j (by rw [rowL_len]; omega)).2) (u8s_one _)
  rw [hl] at this
  exact this
/-- copy of a string to a row. -/
theorem run_copy_str {w : World} {b off k cap : Nat} {f : Nat → UInt8} {s : ByteArray} (h : Row8 w b off (rowL k f)) (hs : s.size = k) (ty : TypeId) :
    (Builtin.copy_ #[40, 9] ty #[.slice (some ⟨b, off, none⟩) k cap, .string s]).run Tryd.prog w = .ok (goInt k) (w.setCells b off (U8s s.data.toList)) := by
  have hlen : s.data.toList.length = k := by simpa using hs
  have hst := run_storeCells_cells (P := Tryd.prog) b off (U8s s.data.toList) 0 w (fun j hj => by rw [u8s_len, hlen] at hj; rw [Nat.add_zero, (h.2 j (by rw [rowL_len]; omega)).1]; rfl) (fun j hj => by rw [u8s_len, hlen] at hj; rw [Nat.add_zero]; exact (h.2 j (by rw [rowL_len]; omega)).2) (u8s_one _)
  have hfc : List.take k (List.map (fun b : UInt8 => Value.int .u8 (b.toNat : Int)) s.data.toList) = U8s s.data.toList := by
    unfold U8s
    rw [List.take_of_length_le (by rw [List.length_map, hlen]; exact Nat.le_refl _)]
  cases hq : Tryd.prog.info? 5 with
  | none => have := infoU8size; rw [hq] at this; cases this
  | some i =>
    have hi : i.size = 1 := by have := infoU8size; rw [hq] at this; simpa using this
    simp [Builtin.copy_, run_underlying Tryd.underlying40, Builtin.lenOf, Builtin.firstCells, sizeOf, typeInfo, hq, hs]
    rw [hfc]
    simp [hst]
end Go.Proofs.YtpldnbfbpajbkabDoor
