/- Charts: append(l, make(..)...) of entries; the document's own Resize. -/
import Derived.Test.YtjocdbacdbhemaaChuA
import Derived.Test.YtjocdbacdbhemaaChvQ
import Derived.Lib.AppendZerosOnto
namespace Go.Proofs.Ytjocdbacdbhemaa
open Go.RowKit

theorem zeroCells_at (k j : Nat) (hj : j < k * 4) : (Builtin.zeroCells zeroC k)[j]? = some (zeroC[j % 4]!) := by
  unfold Builtin.zeroCells
  rw [Array.getElem?_map, Array.getElem?_range, if_pos (by show j < k * 4; exact hj)]; rfl
theorem zeroC_at {q : Nat} (h : q < 4) : EN.zero.cells[q]? = some (zeroC[q]!) := by
  match q, h with
  | 0, _ => rfl
  | 1, _ => rfl
  | 2, _ => rfl
  | 3, _ => rfl
theorem made_at (F : List EN) (k r : Nat) {i q : Nat} (hi : i < F.length + k) (hq : q < 4) : ((eCells F).toArray ++ Builtin.zeroCells zeroC k ++ Builtin.zeroCells zeroC r)[i * 4 + q]? = ((F ++ List.replicate k EN.zero).getD i EN.zero).cells[q]? := by
  have hs : ((eCells F).toArray ++ Builtin.zeroCells zeroC k).size = (F.length + k) * 4 := by
    rw [Array.size_append, List.size_toArray, eCells_len, size_zeroCells]; show F.length * 4 + k * 4 = _; omega
  rw [Array.getElem?_append_left (by rw [hs]; omega)]
  by_cases h : i < F.length
  · rw [Array.getElem?_append_left (by rw [List.size_toArray, eCells_len]; omega), List.getElem?_toArray, eCells_at F i h q hq]
    congr 2
    rw [List.getD, List.getD, List.getElem?_append_left h]
  · rw [Array.getElem?_append_right (by rw [List.size_toArray, eCells_len]; omega), List.size_toArray, eCells_len, zeroCells_at _ _ (by omega), show (i * 4 + q - F.length * 4) % 4 = q by omega, ← zeroC_at hq]
    congr 2
    rw [List.getD, List.getElem?_append_right (by omega), List.getElem?_replicate, if_pos (by omega)]; rfl
theorem ent_of_cells {W : World} {g i : Nat} {x : EN} (h : ∀ q, q < 4 → W.cell? ⟨g, i * 4 + q, none⟩ = x.cells[q]?) : EntAt W g (i * 4) x := ⟨h 0 (by omega), h 1 (by omega), h 2 (by omega), h 3 (by omega)⟩
theorem row_cells {W : World} {g : Nat} {F : List EN} (h : RowE W g F) : ∀ j u, (eCells F)[j]? = some u → W.cell? ((⟨g, 0, none⟩ : Addr).add j) = some u := by
  intro j u hu
  have hj : j < F.length * 4 := by have := (List.getElem?_eq_some_iff.1 hu).1; rwa [eCells_len] at this
  have e : ((⟨g, 0, none⟩ : Addr).add j) = ⟨g, j, none⟩ := by unfold Addr.add; split <;> simp_all
  obtain ⟨i, q, hq, rfl⟩ : ∃ i q, q < 4 ∧ j = i * 4 + q := ⟨j / 4, j % 4, Nat.mod_lt _ (by omega), by omega⟩
  rw [eCells_at _ i (by omega) q hq] at hu
  have := h.2.1 i (by omega)
  rw [e, ← hu]
  match q, hq with
  | 0, _ => exact this.c0
  | 1, _ => exact this.c1
  | 2, _ => exact this.c2
  | 3, _ => exact this.c3
/-- append(l, make([]Entry, k)...), where l is full. -/
theorem app_made (W : World) (g n k : Nat) (F : List EN) (hF : RowE W g F) (hn : F.length = n) (hb : n ≤ 65536) (hk : k ≤ 65536) (ty : TypeId) :
    ∃ g' c' W', (Builtin.append_ #[36, 3] ty #[.slice (some ⟨g, 0, none⟩) n n, .int .i64 (k : Int)]).run Try.prog W = .ok (.slice (some ⟨g', 0, none⟩) (n + k) c') W' ∧ n + k ≤ c' ∧ c' ≤ maxLen ∧ Below W.heap.size W W' ∧ g' < W'.heap.size ∧ ∀ i, i < n + k → EntAt W' g' (i * 4) ((F ++ List.replicate k EN.zero).getD i EN.zero) := by
  subst hn
  obtain ⟨iE, hi, hz0, hz1, hz2⟩ := entInfo'
  by_cases h0 : k = 0
  · subst h0
    refine ⟨g, F.length, W, ?_, Nat.le_refl _, by unfold maxLen; omega, Below.refl _ _, hF.1, fun i hi => ?_⟩
    · simp [Builtin.append_, run_underlying Try.underlying36, run_underlying Try.underlying3, sizeOf, typeInfo, hi, asInt, asIntOf, IntKind.wrap_i64, storeCells]
    · rw [List.replicate_zero, List.append_nil]; exact hF.2.1 i hi
  · have hold : (Builtin.firstCells iE.size F.length (.slice (some ⟨g, 0, none⟩) F.length F.length)).run Try.prog W.drew = .ok (eCells F).toArray W.drew := by
      rw [hz1]
      exact run_firstCells_some W.drew 4 F.length ⟨g, 0, none⟩ F.length F.length (eCells F) (eCells_len F) (fun j v hj => row_cells hF j v hj)
    have h := Lib.run_append_grow_zeros W 36 3 ty 26 iE _ .i64 .i64 Try.underlying36 Try.underlying3 hi hz0 (some ⟨g, 0, none⟩) F.length F.length (eCells F) hold k (by omega) (by rw [hz1]; omega) (by omega) (by omega) (by rw [hz2]; omega) (by rw [hz2]; exact growslice_fits (by omega) (by omega))
    have hG1 := grownCap_ge W (F.length + k) F.length 26
    have hG2 := grownCap_le_maxLen W (F.length + k) F.length 26 (by unfold maxLen; omega)
    generalize grownCap W (F.length + k) F.length 26 = G at h hG1 hG2
    refine ⟨_, _, _, h, hG1, hG2, (Below.refl W.heap.size W).drew.alloc (Nat.le_refl _) _, by simp, fun i hi => ent_of_cells fun q hq => ?_⟩
    exact (cell_of_row _ W.heap.size _ _ 26 (0, 0) (heap_alloc_new W.drew _)).trans (made_at F k _ hi hq)
theorem step_append_run {P : Program} {ops : Array Oper} {o : Oper} {a : Act} {K : Act → World → Prop} {Q : Exit → Act → World → Prop} {E : Prop} (w : World) (hgd : o.guard = none) (s x : Operand) (t tn : TypeId)
    (ho : o.op = .call { callee := .builtin .append, args := #[s, x], argTypes := #[t, tn] }) (vs vx : Value) (hs : a.eval s = vs) (hx : a.eval x = vx)
    (v' : Value) (w' : World) (hr : (Builtin.append_ #[t, tn] o.type #[vs, vx]).run P w = .ok v' w') (h : K (a.put o.dst v') w') : if Region.wanted o (yielded ops a.tmps) = true then Oper.wp P o a w K Q else E := by
  have hw : Region.wanted o (yielded ops a.tmps) = true := by simp [Region.wanted, hgd]
  rw [if_pos hw]
  exact Lib.wp_append_run w s x t tn ho vs vx hs hx v' w' hr h
end Go.Proofs.Ytjocdbacdbhemaa
