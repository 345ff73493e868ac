/- Fields: slices of numbers. -/
import Derived.Test.YtifhbaacljkleaaFldE
import Derived.Laws.MakeOwn
namespace Go.Proofs.Ytifhbaacljkleaa
open Go.RowKit

def i64s (ks : List Int) : List Value := ks.map (Value.int .i64)
def u64s (ns : List Nat) : List Value := ns.map fun n : Nat => Value.int .u64 (n : Int)
theorem i64s_len (ks : List Int) : (i64s ks).length = ks.length := by simp [i64s]
theorem u64s_len (ns : List Nat) : (u64s ns).length = ns.length := by simp [u64s]
theorem i64s_at {ks : List Int} {j : Nat} (h : j < ks.length) : (i64s ks)[j]? = some (.int .i64 (ks.getD j 0)) := by
  unfold i64s; rw [List.getElem?_map, List.getElem?_eq_getElem h, List.getD, List.getElem?_eq_getElem h]; rfl
theorem u64s_at {ns : List Nat} {j : Nat} (h : j < ns.length) : (u64s ns)[j]? = some (.int .u64 ((ns.getD j 0 : Nat) : Int)) := by
  unfold u64s; rw [List.getElem?_map, List.getElem?_eq_getElem h, List.getD, List.getElem?_eq_getElem h]; rfl
theorem u64s_one (ns : List Nat) : ∀ u ∈ u64s ns, u.oneCell' = true := by
  intro u hu
  obtain ⟨b, _, rfl⟩ := List.mem_map.1 hu
  rfl
/-- A slice that reads as these values, a cell each. -/
def NumV (w : World) (v : Value) (xs : List Value) : Prop :=
  ∃ A cap, v = .slice A xs.length cap ∧ xs.length ≤ cap ∧ cap ≤ maxLen ∧ (xs = [] ∨ ∃ b off, A = some ⟨b, off, none⟩ ∧ b < w.heap.size ∧ ∀ j, j < xs.length → w.cell? ⟨b, off + j, none⟩ = xs[j]?)
theorem NumV.below {B : Nat} {w w' : World} {v : Value} {xs : List Value} (k : NumV w v xs) (hb : Below B w w') (hB : w.heap.size ≤ B) : NumV w' v xs := by
  obtain ⟨A, cap, hv, h1, h2, h3⟩ := k
  refine ⟨A, cap, hv, h1, h2, ?_⟩
  rcases h3 with h3 | ⟨b, off, hA, hlt, hc⟩
  · exact .inl h3
  · exact .inr ⟨b, off, hA, Nat.lt_of_lt_of_le hlt hb.size, fun j hj => (hb.cell (p := ⟨b, off + j, none⟩) (by show b < B; omega)).trans (hc j hj)⟩
/-- What a call owns reads as that. -/
theorem NumV.of_own {w : World} {base e : Nat} {v : Value} {xs : List Value} (h : w.ownsRow base e 1 v xs.length xs) : NumV w v xs := by
  rcases h.2 with ⟨rfl, h0⟩ | ⟨g, cap, cur, rfl, hb, hh, hn, hm, hs, ht⟩
  · obtain rfl : xs = [] := List.eq_nil_of_length_eq_zero h0
    exact ⟨none, 0, rfl, Nat.le_refl _, Nat.zero_le _, .inl rfl⟩
  · refine ⟨_, cap, rfl, hn, hm, .inr ⟨g, 0, rfl, (Array.getElem?_eq_some_iff.1 hh).1, fun j hj => ?_⟩⟩
    rw [Nat.zero_add, cell_of_row w g j cur e (0, 0) hh]
    rw [Nat.mul_one] at ht
    have h1 : (cur.toList.take xs.length)[j]? = xs[j]? := by rw [ht]
    rw [List.getElem?_take, if_pos hj, Array.getElem?_toList] at h1
    exact h1
/-- A slice of the call's own that holds these numbers. -/
def OwnN (w : World) (base : Nat) (v : Value) (ns : List Nat) : Prop := w.ownsRow base 65 1 v ns.length (u64s ns)
theorem OwnN.num {w : World} {base : Nat} {v : Value} {ns : List Nat} (h : OwnN w base v ns) : NumV w v (u64s ns) :=
  NumV.of_own (base := base) (e := 65) (by rw [u64s_len]; exact h)
theorem OwnN.at {w : World} {base : Nat} {v : Value} {ns : List Nat} (h : OwnN w base v ns) (n : Nat) (hn : n = ns.length) : w.ownsRow base 65 1 v n (u64s ns) := by subst hn; exact h
theorem infoU64 : (Try.prog.info? 65).map (fun i => (i.zero, i.size, i.bytes)) = some (some (.int .u64 0), 1, 8) := by kernel_rfl
theorem makeN (n : Nat) (h : n ≤ 200) (W : World) : (Instr.makeSlice 68 (.int .i64 0) (.int .i64 (n : Int))).run Try.prog W = .ok (.slice (some ⟨W.heap.size, 0, none⟩) 0 n) (W.alloc (.cells (madeCells #[.int .u64 0] n) 65)) := by
  obtain ⟨i, hi, hz, hs, hb⟩ := info_parts infoU64
  have := run_make (P := Try.prog) W 68 65 i (.int .u64 0) Try.underlying68 hi hz .i64 .i64 0 n (by omega) (by omega) (by rw [hb]; omega) (by omega)
  rw [hs, Int.toNat_natCast, Nat.mul_one] at this
  exact this
theorem ownN_made (n : Nat) (h : n ≤ 200) (W : World) : OwnN (W.alloc (.cells (madeCells #[.int .u64 0] n) 65)) W.heap.size (.slice (some ⟨W.heap.size, 0, none⟩) 0 n) [] :=
  ⟨rfl, .inr ⟨W.heap.size, n, madeCells #[.int .u64 0] n, rfl, Nat.le_refl _, heap_alloc_new W _, Nat.zero_le _, (by unfold maxLen; omega), by simp [madeCells], by simp [u64s]⟩⟩
end Go.Proofs.Ytifhbaacljkleaa
