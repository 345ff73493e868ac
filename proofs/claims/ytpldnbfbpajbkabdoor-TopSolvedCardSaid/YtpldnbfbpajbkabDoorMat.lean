/- Matrices in memory: slices of slices of bytes, read as lists; rows that a call owns. -/
import Derived.Test.YtpldnbfbpajbkabDoorRows8
import Derived.Test.YtpldnbfbpajbkabDoorOwnB
import Derived.Test.YtpldnbfbpajbkabDoorGfPut
import Derived.Test.YtpldnbfbpajbkabDoorLin
import Derived.Deep.OwnRows
namespace Go.Proofs.YtpldnbfbpajbkabDoor
open Go.RowKit
open Caulk.Gf (mul putL)
open Caulk.Lin (Fn2)

def rowL (k : Nat) (f : Nat → UInt8) : List UInt8 := (List.range k).map f
theorem rowL_len (k : Nat) (f : Nat → UInt8) : (rowL k f).length = k := by simp [rowL]
theorem rowL_getD {k j : Nat} (f : Nat → UInt8) (h : j < k) : (rowL k f).getD j 0 = f j := by
  simp [rowL, List.getD, h]
theorem rowL_congr {k : Nat} {f g : Nat → UInt8} (h : ∀ j, j < k → f j = g j) : rowL k f = rowL k g :=
  List.map_congr_left (fun j hj => h j (List.mem_range.1 hj))
theorem rowL_inj {k : Nat} {f g : Nat → UInt8} (h : rowL k f = rowL k g) : ∀ j, j < k → f j = g j := fun j hj => by
  rw [← rowL_getD f hj, h, rowL_getD g hj]
theorem list_rowL (l : List UInt8) : rowL l.length (fun j => l.getD j 0) = l := by
  apply List.ext_getElem (by rw [rowL_len])
  intro i h1 h2
  rw [rowL_len] at h1
  simp [rowL, List.getD, h1]
theorem list_ext {l s : List UInt8} (hl : l.length = s.length) (h : ∀ j, j < l.length → l.getD j 0 = s.getD j 0) : l = s := by
  apply List.ext_getElem hl
  intro i h1 h2
  have := h i h1
  simpa [List.getD, h1, h2] using this
theorem putL_getAt (c : UInt8) : ∀ (l s : List UInt8) (k : Nat), k < l.length → k < s.length → (putL c l s).getD k 0 = l.getD k 0 ^^^ mul c (s.getD k 0)
  | [], _, k, h, _ => by simp at h
  | x :: l, [], k, _, h => by simp at h
  | x :: l, y :: s, 0, _, _ => rfl
  | x :: l, y :: s, k + 1, h1, h2 => by
    simp only [putL, List.getD_cons_succ]
    exact putL_getAt c l s k (by simpa using h1) (by simpa using h2)
theorem putL_rowL (c : UInt8) (k n : Nat) (f g : Nat → UInt8) (h : k ≤ n) : putL c (rowL k f) (rowL n g) = rowL k (fun j => f j ^^^ mul c (g j)) := by
  apply list_ext (by rw [Caulk.Gf.putL_len, rowL_len, rowL_len])
  intro j hj
  rw [Caulk.Gf.putL_len, rowL_len] at hj
  rw [putL_getAt c _ _ j (by rw [rowL_len]; exact hj) (by rw [rowL_len]; omega), rowL_getD f hj, rowL_getD g (by omega), rowL_getD _ hj]
/-- Rows of one length. -/
def rowsL (r k : Nat) (f : Fn2) : List (List UInt8) := (List.range r).map fun i => rowL k (f i)
theorem rowsL_len (r k : Nat) (f : Fn2) : (rowsL r k f).length = r := by simp [rowsL]
theorem rowsL_getD {r k i : Nat} (f : Fn2) (h : i < r) : (rowsL r k f).getD i [] = rowL k (f i) := by
  simp [rowsL, List.getD, h]
theorem rowsL_congr {r k : Nat} {f g : Fn2} (h : ∀ i, i < r → ∀ j, j < k → f i j = g i j) : rowsL r k f = rowsL r k g :=
  List.map_congr_left (fun i hi => rowL_congr (h i (List.mem_range.1 hi)))
theorem rowsL_inj {r k : Nat} {f g : Fn2} (h : rowsL r k f = rowsL r k g) : ∀ i, i < r → ∀ j, j < k → f i j = g i j := fun i hi => by
  apply rowL_inj
  rw [← rowsL_getD f hi, h, rowsL_getD g hi]

/-- A value that is a slice and reads as the bytes l, in blocks below B. -/
def RowV (w : World) (B : Nat) (v : Value) (l : List UInt8) : Prop :=
  ∃ A cap, v = .slice A l.length cap ∧ (A = none → cap = 0) ∧ l.length ≤ cap ∧ cap ≤ maxLen ∧ (l = [] ∨ ∃ b off, A = some ⟨b, off, none⟩ ∧ b < B ∧ ∀ j, j < l.length → w.cell? ⟨b, off + j, none⟩ = some (.int .u8 ((l.getD j 0).toNat : Int)))
/-- A value that is a slice of slices and reads as the rows M, in blocks below B. -/
def MatV (w : World) (B : Nat) (v : Value) (M : List (List UInt8)) : Prop :=
  ∃ A cap, v = .slice A M.length cap ∧ (A = none → cap = 0) ∧ M.length ≤ cap ∧ cap ≤ maxLen ∧ (M = [] ∨ ∃ b off, A = some ⟨b, off, none⟩ ∧ b < B ∧ ∀ i, i < M.length → ∃ x, w.cell? ⟨b, off + i, none⟩ = some x ∧ RowV w B x (M.getD i []))
theorem RowV.below {w w' : World} {B B' : Nat} {v : Value} {l : List UInt8} (h : RowV w B v l) (hb : Below B' w w') (hB : B ≤ B') : RowV w' B v l := by
  obtain ⟨A, cap, rfl, h1, h2, h3, h4⟩ := h
  refine ⟨A, cap, rfl, h1, h2, h3, ?_⟩
  rcases h4 with h4 | ⟨b, off, rfl, hlt, hc⟩
  · exact .inl h4
  · exact .inr ⟨b, off, rfl, hlt, fun j hj => (hb.cell (p := ⟨b, off + j, none⟩) (Nat.lt_of_lt_of_le hlt hB)).trans (hc j hj)⟩
theorem RowV.wider {w : World} {B B' : Nat} {v : Value} {l : List UInt8} (h : RowV w B v l) (hB : B ≤ B') : RowV w B' v l := by
  obtain ⟨A, cap, rfl, h1, h2, h3, h4⟩ := h
  refine ⟨A, cap, rfl, h1, h2, h3, ?_⟩
  rcases h4 with h4 | ⟨b, off, rfl, hlt, hc⟩
  · exact .inl h4
  · exact .inr ⟨b, off, rfl, Nat.lt_of_lt_of_le hlt hB, hc⟩
theorem MatV.below {w w' : World} {B B' : Nat} {v : Value} {M : List (List UInt8)} (h : MatV w B v M) (hb : Below B' w w') (hB : B ≤ B') : MatV w' B v M := by
  obtain ⟨A, cap, rfl, h1, h2, h3, h4⟩ := h
  refine ⟨A, cap, rfl, h1, h2, h3, ?_⟩
  rcases h4 with h4 | ⟨b, off, rfl, hlt, hc⟩
  · exact .inl h4
  · refine .inr ⟨b, off, rfl, hlt, fun i hi => ?_⟩
    obtain ⟨x, hx, hr⟩ := hc i hi
    exact ⟨x, (hb.cell (p := ⟨b, off + i, none⟩) (Nat.lt_of_lt_of_le hlt hB)).trans hx, hr.below hb hB⟩
theorem MatV.wider {w : World} {B B' : Nat} {v : Value} {M : List (List UInt8)} (h : MatV w B v M) (hB : B ≤ B') : MatV w B' v M := by
  obtain ⟨A, cap, rfl, h1, h2, h3, h4⟩ := h
  refine ⟨A, cap, rfl, h1, h2, h3, ?_⟩
  rcases h4 with h4 | ⟨b, off, rfl, hlt, hc⟩
  · exact .inl h4
  · refine .inr ⟨b, off, rfl, Nat.lt_of_lt_of_le hlt hB, fun i hi => ?_⟩
    obtain ⟨x, hx, hr⟩ := hc i hi
    exact ⟨x, hx, hr.wider hB⟩
theorem matV_nil (w : World) (B : Nat) : MatV w B (.slice none 0 0) [] := ⟨none, 0, rfl, fun _ => rfl, Nat.le_refl _, Nat.zero_le _, .inl rfl⟩
/-- A matrix with rows and columns, opened: where its rows' heads lie. -/
theorem MatV.opened {w : World} {B : Nat} {v : Value} {r k : Nat} {f : Fn2} (h : MatV w B v (rowsL r k f)) (hr : 0 < r) (hk : 0 < k) :
    ∃ b off cap, v = .slice (some ⟨b, off, none⟩) r cap ∧ b < B ∧ r ≤ cap ∧ cap ≤ maxLen ∧
      ∀ i, i < r → ∃ b' off' cap', w.cell? ⟨b, off + i, none⟩ = some (.slice (some ⟨b', off', none⟩) k cap') ∧ b' < B ∧ k ≤ cap' ∧ cap' ≤ maxLen ∧ ∀ j, j < k → w.cell? ⟨b', off' + j, none⟩ = some (.int .u8 ((f i j).toNat : Int)) := by
  obtain ⟨A, cap, rfl, h1, h2, h3, h4⟩ := h
  rw [rowsL_len] at *
  rcases h4 with h4 | ⟨b, off, rfl, hlt, hc⟩
  · have := rowsL_len r k f; rw [h4] at this; simp at this; omega
  · refine ⟨b, off, cap, rfl, hlt, h2, h3, fun i hi => ?_⟩
    obtain ⟨x, hx, A', cap', rfl, g1, g2, g3, g4⟩ := hc i hi
    rw [rowsL_getD f hi, rowL_len] at *
    rcases g4 with g4 | ⟨b', off', rfl, hlt', hc'⟩
    · have := rowL_len k (f i); rw [g4] at this; simp at this; omega
    · exact ⟨b', off', cap', hx, hlt', g2, g3, fun j hj => by rw [hc' j hj, rowL_getD (f i) hj]⟩

/-- Rows of the call's own, from block B on: a block of heads, and the rows apart from one another. -/
def Grid (w : World) (B : Nat) (v : Value) (r k : Nat) (f : Fn2) : Prop :=
  ∃ b n hf, v = .slice (some ⟨b, 0, none⟩) r n ∧ B ≤ b ∧ w.rowIs b 40 n hf ∧ r ≤ n ∧ n ≤ maxLen ∧
    ∃ pl : Nat → Nat × Nat × Nat, (∀ i, i < r → hf i = .slice (some ⟨(pl i).1, (pl i).2.1, none⟩) k (pl i).2.2 ∧ B ≤ (pl i).1 ∧ (pl i).1 ≠ b ∧ k ≤ (pl i).2.2 ∧ (pl i).2.2 ≤ maxLen ∧ Row8 w (pl i).1 (pl i).2.1 (rowL k (f i))) ∧
      ∀ i j, i < r → j < r → i ≠ j → (pl i).1 ≠ (pl j).1 ∨ (pl i).2.1 + k ≤ (pl j).2.1 ∨ (pl j).2.1 + k ≤ (pl i).2.1
theorem Grid.below {w w' : World} {B : Nat} {v : Value} {r k : Nat} {f : Fn2} (h : Grid w B v r k f) (hb : Below w.heap.size w w') : Grid w' B v r k f := by
  obtain ⟨b, n, hf, rfl, h1, h2, h3, h4, pl, h5, h6⟩ := h
  exact ⟨b, n, hf, rfl, h1, h2.of_block (hb.block b h2.lt), h3, h4, pl, fun i hi => by
    obtain ⟨a1, a2, a3, a4, a5, a6⟩ := h5 i hi
    exact ⟨a1, a2, a3, a4, a5, a6.below hb a6.1⟩, h6⟩
theorem Grid.drew {w : World} {B : Nat} {v : Value} {r k : Nat} {f : Fn2} (h : Grid w B v r k f) : Grid w.drew B v r k f := h
theorem Grid.congr {w : World} {B : Nat} {v : Value} {r k : Nat} {f g : Fn2} (h : Grid w B v r k f) (he : ∀ i, i < r → ∀ j, j < k → f i j = g i j) : Grid w B v r k g := by
  obtain ⟨b, n, hf, rfl, h1, h2, h3, h4, pl, h5, h6⟩ := h
  exact ⟨b, n, hf, rfl, h1, h2, h3, h4, pl, fun i hi => by rw [← rowL_congr (he i hi)]; exact h5 i hi, h6⟩
theorem Grid.lower {w : World} {B B' : Nat} {v : Value} {r k : Nat} {f : Fn2} (h : Grid w B v r k f) (hB : B' ≤ B) : Grid w B' v r k f := by
  obtain ⟨b, n, hf, rfl, h1, h2, h3, h4, pl, h5, h6⟩ := h
  exact ⟨b, n, hf, rfl, Nat.le_trans hB h1, h2, h3, h4, pl, fun i hi => by
    obtain ⟨a1, a2, a3⟩ := h5 i hi
    exact ⟨a1, Nat.le_trans hB a2, a3⟩, h6⟩
/-- The rows, read. -/
theorem Grid.mat {w : World} {B : Nat} {v : Value} {r k : Nat} {f : Fn2} (h : Grid w B v r k f) : MatV w w.heap.size v (rowsL r k f) := by
  obtain ⟨b, n, hf, rfl, h1, h2, h3, h4, pl, h5, h6⟩ := h
  refine ⟨some ⟨b, 0, none⟩, n, by rw [rowsL_len], by simp, by rw [rowsL_len]; exact h3, h4, .inr ⟨b, 0, rfl, h2.lt, fun i hi => ?_⟩⟩
  rw [rowsL_len] at hi
  obtain ⟨a1, a2, a3, a4, a5, a6⟩ := h5 i hi
  refine ⟨_, by rw [Nat.zero_add]; exact h2.cell (by omega), ?_⟩
  rw [rowsL_getD f hi, a1]
  exact ⟨_, _, by rw [rowL_len], by simp, by rw [rowL_len]; exact a4, a5, .inr ⟨_, _, rfl, a6.1, fun j hj => (a6.2 j hj).1⟩⟩

/-! Steps that write to one row's places. -/
/-- Behind the step the world is as it was, but for the places lo to hi of block b, and what is new. -/
structure Only (w w' : World) (b lo hi : Nat) : Prop where
  os : w'.os = w.os
  tape : w'.tape = w.tape
  output : w'.output = w.output
  size : w.heap.size ≤ w'.heap.size
  block : ∀ k, k < w.heap.size → k ≠ b → w'.heap[k]? = w.heap[k]?
  cell : ∀ o, ¬ (lo ≤ o ∧ o < hi) → w'.cell? ⟨b, o, none⟩ = w.cell? ⟨b, o, none⟩ ∧ w'.frozen? ⟨b, o, none⟩ = w.frozen? ⟨b, o, none⟩
theorem Only.trans {a b c : World} {p lo hi : Nat} (h : Only a b p lo hi) (k : Only b c p lo hi) : Only a c p lo hi :=
  ⟨k.os.trans h.os, k.tape.trans h.tape, k.output.trans h.output, Nat.le_trans h.size k.size, fun i hi1 hi2 => (k.block i (Nat.lt_of_lt_of_le hi1 h.size) hi2).trans (h.block i hi1 hi2),
    fun o ho => ⟨(k.cell o ho).1.trans (h.cell o ho).1, (k.cell o ho).2.trans (h.cell o ho).2⟩⟩
theorem Only.of_below {w w' : World} {b : Nat} (h : Below w.heap.size w w') (hb : b < w.heap.size) (lo hi : Nat) : Only w w' b lo hi :=
  ⟨h.os, h.tape, h.output, h.size, fun k hk _ => h.block k hk, fun o _ => ⟨h.cell (p := ⟨b, o, none⟩) hb, h.frozen (p := ⟨b, o, none⟩) hb⟩⟩
theorem Only.of_grown {w w' : World} {b : Nat} (h : w.grownBy w' none) (hb : b < w.heap.size) (lo hi : Nat) : Only w w' b lo hi :=
  Only.of_below ⟨h.os, h.tape, h.output, h.size, fun k hk => h.block k hk (by simp)⟩ hb lo hi
theorem Only.set (w : World) (b o : Nat) (v : Value) {lo hi : Nat} (h1 : lo ≤ o) (h2 : o < hi) : Only w (w.setCell ⟨b, o, none⟩ v) b lo hi :=
  ⟨rfl, rfl, rfl, by rw [World.size_setCell]; exact Nat.le_refl _, fun k _ hne => Below.heap_setCell w _ v k hne, fun o' ho' =>
    ⟨World.cell?_setCell_other _ _ _ _ (by intro e; injection e with _ e2; omega), World.frozen?_setCell _ _ _ _⟩⟩
theorem Only.drew {w w' : World} {b lo hi : Nat} (h : Only w w' b lo hi) : Only w w'.drew b lo hi := ⟨h.os, h.tape, h.output, h.size, h.block, h.cell⟩
theorem Only.below {w w' : World} {b lo hi B : Nat} (h : Only w w' b lo hi) (hB : B ≤ b) (hs : B ≤ w.heap.size) : Below B w w' :=
  ⟨h.os, h.tape, h.output, h.size, fun k hk => h.block k (by omega) (by omega)⟩
theorem Row8.only {w w' : World} {b lo hi b' off : Nat} {l : List UInt8} (h : Row8 w b' off l) (ho : Only w w' b lo hi) (ha : b' ≠ b ∨ off + l.length ≤ lo ∨ hi ≤ off) : Row8 w' b' off l := by
  refine ⟨Nat.lt_of_lt_of_le h.1 ho.size, fun j hj => ?_⟩
  by_cases e : b' = b
  · subst e
    have := ho.cell (off + j) (by omega)
    rw [this.1, this.2]; exact h.2 j hj
  · have hb := ho.block b' h.1 e
    rw [World.cell?_of_block (a := ⟨b', off + j, none⟩) hb, World.frozen?_of_block (a := ⟨b', off + j, none⟩) hb]; exact h.2 j hj
/-- A row of a grid, as the function that is called gets it. -/
theorem Grid.row {w : World} {B : Nat} {v : Value} {r k : Nat} {f : Fn2} (h : Grid w B v r k f) :
    ∃ b n, v = .slice (some ⟨b, 0, none⟩) r n ∧ B ≤ b ∧ b < w.heap.size ∧ r ≤ n ∧ n ≤ maxLen ∧ ∀ i, i < r → ∃ b' off' cap', (w.cell? ⟨b, i, none⟩ = some (.slice (some ⟨b', off', none⟩) k cap') ∧ w.frozen? ⟨b, i, none⟩ = false) ∧ k ≤ cap' ∧ cap' ≤ maxLen ∧ B ≤ b' ∧ b' ≠ b ∧ Row8 w b' off' (rowL k (f i)) ∧
      ∀ (w' : World) (g : Nat → UInt8), Only w w' b' off' (off' + k) → Row8 w' b' off' (rowL k g) → Grid w' B v r k (fun i' => if i' = i then g else f i') := by
  obtain ⟨b, n, hf, rfl, h1, h2, h3, h4, pl, h5, h6⟩ := h
  refine ⟨b, n, rfl, h1, h2.lt, h3, h4, fun i hi => ?_⟩
  obtain ⟨a1, a2, a3, a4, a5, a6⟩ := h5 i hi
  refine ⟨(pl i).1, (pl i).2.1, (pl i).2.2, ⟨by rw [h2.cell (by omega), a1], h2.frozen i⟩, a4, a5, a2, a3, a6, fun w' g ho hg => ?_⟩
  refine ⟨b, n, hf, rfl, h1, h2.of_block (ho.block b h2.lt (Ne.symm a3)), h3, h4, pl, fun i' hi' => ?_, h6⟩
  obtain ⟨c1, c2, c3, c4, c5, c6⟩ := h5 i' hi'
  refine ⟨c1, c2, c3, c4, c5, ?_⟩
  by_cases e : i' = i
  · subst e; simp only [if_true]; exact hg
  · simp only [if_neg e]
    refine c6.only ho ?_
    rw [rowL_len]
    rcases h6 i' i hi' hi e with q | q | q
    · exact .inl q
    · exact .inr (.inl q)
    · exact .inr (.inr q)
theorem Row8.other {w : World} {b off : Nat} {l : List UInt8} (h : Row8 w b off l) {a : Addr} (ha : a.block ≠ b) (v : Value) : Row8 (w.setCell a v) b off l :=
  ⟨by rw [World.size_setCell]; exact h.1, fun j hj => ⟨(World.cell?_of_block (a := ⟨b, off + j, none⟩) (Below.heap_setCell w a v b (Ne.symm ha))).trans (h.2 j hj).1, (World.frozen?_of_block (a := ⟨b, off + j, none⟩) (Below.heap_setCell w a v b (Ne.symm ha))).trans (h.2 j hj).2⟩⟩
theorem Row8.grown {w w' : World} {row : Option Nat} {b off : Nat} {l : List UInt8} (h : Row8 w b off l) (hg : w.grownBy w' row) (hne : some b ≠ row) : Row8 w' b off l :=
  ⟨Nat.lt_of_lt_of_le h.1 hg.size, fun j hj => ⟨hg.cell (a := ⟨b, off + j, none⟩) (h.2 j hj).1 hne, by
    rw [World.frozen?_of_block (a := ⟨b, off + j, none⟩) (hg.block b h.1 hne)]; exact (h.2 j hj).2⟩⟩
/-- The heads of rows that lie at these places. -/
def hdL (r k : Nat) (pl : Nat → Nat × Nat × Nat) : List Value := (List.range r).map fun i => .slice (some ⟨(pl i).1, (pl i).2.1, none⟩) k (pl i).2.2
theorem hdL_len (r k : Nat) (pl : Nat → Nat × Nat × Nat) : (hdL r k pl).length = r := by simp [hdL]
theorem hdL_at {r k i : Nat} (pl : Nat → Nat × Nat × Nat) (h : i < r) : (hdL r k pl)[i]? = some (.slice (some ⟨(pl i).1, (pl i).2.1, none⟩) k (pl i).2.2) := by
  simp [hdL, h]
theorem hdL_congr {r k : Nat} {pl qs : Nat → Nat × Nat × Nat} (h : ∀ i, i < r → pl i = qs i) : hdL r k pl = hdL r k qs :=
  List.map_congr_left (fun i hi => by rw [h i (List.mem_range.1 hi)])
theorem hdL_succ (r k : Nat) (pl : Nat → Nat × Nat × Nat) : hdL (r + 1) k pl = hdL r k pl ++ [.slice (some ⟨(pl r).1, (pl r).2.1, none⟩) k (pl r).2.2] := by
  simp [hdL, List.range_succ]
/-- The same, its heads as a slice that may grow. -/
def GridO (w : World) (B : Nat) (v : Value) (r k : Nat) (f : Fn2) : Prop :=
  ∃ pl : Nat → Nat × Nat × Nat, w.ownsRow B 40 1 v r (hdL r k pl) ∧ (∀ i, i < r → B ≤ (pl i).1 ∧ k ≤ (pl i).2.2 ∧ (pl i).2.2 ≤ maxLen ∧ some (pl i).1 ≠ v.ownBlock ∧ Row8 w (pl i).1 (pl i).2.1 (rowL k (f i))) ∧
    ∀ i j, i < r → j < r → i ≠ j → (pl i).1 ≠ (pl j).1 ∨ (pl i).2.1 + k ≤ (pl j).2.1 ∨ (pl j).2.1 + k ≤ (pl i).2.1
theorem ownsRow_row {w : World} {B g n cap : Nat} {t : TypeId} {xs : List Value} (h : w.ownsRow B t 1 (.slice (some ⟨g, 0, none⟩) n cap) n xs) :
    B ≤ g ∧ n ≤ cap ∧ cap ≤ maxLen ∧ ∃ hf, w.rowIs g t cap hf ∧ ∀ i, i < n → xs[i]? = some (hf i) := by
  obtain ⟨hl, h⟩ := h
  rcases h with ⟨e, _⟩ | ⟨g', cap', cur, e, hb, hh, hn, hm, hs, ht⟩
  · cases e
  · injection e with e1 e2 e3
    have hgg : g = g' := by simpa using e1
    subst hgg; subst e3
    rw [Nat.mul_one] at *
    refine ⟨hb, hn, hm, fun i => cur.getD i default, ⟨cur, hh, hs, fun i hi => by simp [hs, hi]⟩, fun i hi => ?_⟩
    rw [← ht, List.getElem?_take, if_pos hi]
    have : i < cur.size := by omega
    simp [this]
theorem ownsRow_of_row {w : World} {B g n cap : Nat} {t : TypeId} {hf : Nat → Value} (hB : B ≤ g) (hn : n ≤ cap) (hm : cap ≤ maxLen) (h : w.rowIs g t cap hf) :
    w.ownsRow B t 1 (.slice (some ⟨g, 0, none⟩) n cap) n ((List.range n).map hf) := by
  obtain ⟨c, hb, hs, hc⟩ := h
  refine ⟨by simp, .inr ⟨g, cap, c, rfl, hB, hb, hn, hm, by rw [hs, Nat.mul_one], ?_⟩⟩
  apply List.ext_getElem?
  intro i
  rw [Nat.mul_one, List.getElem?_take]
  by_cases hi : i < n
  · rw [if_pos hi]; simp [hi]; simpa using hc i (by omega)
  · rw [if_neg hi]; simp [hi]
theorem Grid.own {w : World} {B : Nat} {v : Value} {r k : Nat} {f : Fn2} (h : Grid w B v r k f) : GridO w B v r k f := by
  obtain ⟨b, n, hf, rfl, h1, h2, h3, h4, pl, h5, h6⟩ := h
  refine ⟨pl, ?_, fun i hi => ?_, h6⟩
  · have := ownsRow_of_row h1 h3 h4 h2
    rw [show hdL r k pl = (List.range r).map hf from List.map_congr_left (fun i hi => (h5 i (List.mem_range.1 hi)).1.symm)]
    exact this
  · obtain ⟨a1, a2, a3, a4, a5, a6⟩ := h5 i hi
    exact ⟨a2, a4, a5, by simpa [Value.ownBlock] using a3, a6⟩
theorem GridO.grid {w : World} {B : Nat} {v : Value} {r k : Nat} {f : Fn2} (h : GridO w B v r k f) (hr : 0 < r) : Grid w B v r k f := by
  obtain ⟨pl, ho, h5, h6⟩ := h
  obtain ⟨g, cap, rfl⟩ : ∃ g cap, v = .slice (some ⟨g, 0, none⟩) r cap := by
    rcases ho.2 with ⟨_, e⟩ | ⟨g, cap, cur, e, _⟩
    · omega
    · exact ⟨g, cap, e⟩
  obtain ⟨a1, a2, a3, hf, a4, a5⟩ := ownsRow_row ho
  refine ⟨g, cap, hf, rfl, a1, a4, a2, a3, pl, fun i hi => ?_, h6⟩
  obtain ⟨b1, b2, b3, b4, b5⟩ := h5 i hi
  have e := a5 i hi
  rw [hdL_at pl hi] at e
  exact ⟨(Option.some.inj e).symm, b1, by simpa [Value.ownBlock] using b4, b2, b3, b5⟩
theorem gridO_nil (w : World) (B k : Nat) (f : Fn2) : GridO w B (.slice none 0 0) 0 k f :=
  ⟨fun _ => (0, 0, 0), World.ownsRow_nil _ _ _ _, fun i hi => by omega, fun i j hi => by omega⟩
/-- A slice of heads is no slice of bytes. -/
theorem own_not_row {w : World} {B : Nat} {v : Value} {r : Nat} {xs : List Value} (ho : w.ownsRow B 40 1 v r xs) (hr : 0 < r) {A : Option Addr} {a c : Nat} (hx : xs[0]? = some (.slice A a c)) {b : Nat} {l : List UInt8} (h : Row8 w b 0 l) (hl : 0 < l.length) : some b ≠ v.ownBlock := by
  intro e
  rcases ho.2 with ⟨_, h0⟩ | ⟨g, cap, cur, rfl, _⟩
  · omega
  · simp only [Value.ownBlock, Option.some.injEq] at e
    subst e
    have h1 := ho.cells (g := b) rfl 0 _ hx
    have h2 := (h.2 0 hl).1
    rw [show (⟨b, 0, none⟩ : Addr).add 0 = ⟨b, 0 + 0, none⟩ by rfl, h2] at h1
    cases h1
theorem rowL_set {k j : Nat} (f : Nat → UInt8) (_hj : j < k) (x : UInt8) : (rowL k f).set j x = rowL k (fun j' => if j' = j then x else f j') := by
  apply list_ext (by rw [List.length_set, rowL_len, rowL_len])
  intro i hi
  rw [List.length_set, rowL_len] at hi
  rw [rowL_getD _ hi, List.getD, List.getElem?_set]
  by_cases e : j = i
  · subst e; simp [rowL_len, hi]
  · rw [if_neg e, if_neg (fun h => e h.symm), ← rowL_getD f hi]; rfl
theorem Grid.shape {w : World} {B : Nat} {v : Value} {r k : Nat} {f : Fn2} (h : Grid w B v r k f) : ∃ b n, v = .slice (some ⟨b, 0, none⟩) r n ∧ r ≤ n ∧ n ≤ maxLen ∧ B ≤ b := by
  obtain ⟨b, n, hf, rfl, h1, h2, h3, h4, _⟩ := h
  exact ⟨b, n, rfl, h3, h4, h1⟩
/-- Row i of a grid: its head, its places, and what a step on them makes. -/
theorem Grid.at {w : World} {B b n r k : Nat} {f : Fn2} (h : Grid w B (.slice (some ⟨b, 0, none⟩) r n) r k f) (i : Nat) (hi : i < r) :
    ∃ b' off' cap', w.cell? ⟨b, i, none⟩ = some (.slice (some ⟨b', off', none⟩) k cap') ∧ w.frozen? ⟨b, i, none⟩ = false ∧ k ≤ cap' ∧ cap' ≤ maxLen ∧ B ≤ b' ∧ b' ≠ b ∧ Row8 w b' off' (rowL k (f i)) ∧
      ∀ (w' : World) (g : Nat → UInt8), Only w w' b' off' (off' + k) → Row8 w' b' off' (rowL k g) → Grid w' B (.slice (some ⟨b, 0, none⟩) r n) r k (fun i' => if i' = i then g else f i') := by
  obtain ⟨b2, n2, e, h1, h2, h3, h4, h5⟩ := h.row
  injection e with e1 e2 e3
  have e1 : b = b2 := by simpa using e1
  subst e1; subst e3
  obtain ⟨b', off', cap', ⟨a1, a2⟩, a3, a4, a5, a5', a6, a7⟩ := h5 i hi
  exact ⟨b', off', cap', a1, a2, a3, a4, a5, a5', a6, a7⟩
/-- A byte of a grid: where it lies, and what a store to it makes. -/
theorem Grid.byte {w : World} {B b n r k : Nat} {f : Fn2} (h : Grid w B (.slice (some ⟨b, 0, none⟩) r n) r k f) (i j : Nat) (hi : i < r) (hj : j < k) :
    ∃ b' off' cap', w.cell? ⟨b, i, none⟩ = some (.slice (some ⟨b', off', none⟩) k cap') ∧ w.cell? ⟨b', off' + j, none⟩ = some (.int .u8 ((f i j).toNat : Int)) ∧ w.frozen? ⟨b', off' + j, none⟩ = false ∧ B ≤ b' ∧ b' < w.heap.size ∧ b' ≠ b ∧
      ∀ x : UInt8, Grid (w.setCell ⟨b', off' + j, none⟩ (.int .u8 (x.toNat : Int))) B (.slice (some ⟨b, 0, none⟩) r n) r k (fun i' j' => if i' = i ∧ j' = j then x else f i' j') := by
  obtain ⟨b', off', cap', a1, a2, a3, a4, a5, a5', a6, a7⟩ := h.at i hi
  have hc := a6.2 j (by rw [rowL_len]; exact hj)
  rw [rowL_getD _ hj] at hc
  refine ⟨b', off', cap', a1, hc.1, hc.2, a5, a6.1, a5', fun x => ?_⟩
  have := a7 _ (fun j' => if j' = j then x else f i j') (Only.set w b' (off' + j) (.int .u8 (x.toNat : Int)) (by omega) (by omega)) (by rw [← rowL_set (f i) hj x]; exact a6.set j (by rw [rowL_len]; exact hj) x)
  refine this.congr (fun i' _ j' _ => ?_)
  by_cases e : i' = i
  · subst e
    by_cases e2 : j' = j
    · simp only [e2, if_true, and_self]
    · simp only [if_true, e2, and_false, if_false]
  · simp only [e, if_false, false_and]
/-- The rows at these places. -/
def GridP (w : World) (B : Nat) (v : Value) (r k : Nat) (f : Fn2) (pl : Nat → Nat × Nat × Nat) : Prop :=
  w.ownsRow B 40 1 v r (hdL r k pl) ∧ (∀ i, i < r → B ≤ (pl i).1 ∧ k ≤ (pl i).2.2 ∧ (pl i).2.2 ≤ maxLen ∧ some (pl i).1 ≠ v.ownBlock ∧ Row8 w (pl i).1 (pl i).2.1 (rowL k (f i))) ∧
    ∀ i j, i < r → j < r → i ≠ j → (pl i).1 ≠ (pl j).1 ∨ (pl i).2.1 + k ≤ (pl j).2.1 ∨ (pl j).2.1 + k ≤ (pl i).2.1
theorem GridP.below {w w' : World} {B : Nat} {v : Value} {r k : Nat} {f : Fn2} {pl : Nat → Nat × Nat × Nat} (h : GridP w B v r k f pl) (hb : Below w.heap.size w w') : GridP w' B v r k f pl := by
  obtain ⟨h1, h5, h6⟩ := h
  refine ⟨?_, fun i hi => ?_, h6⟩
  · refine ⟨h1.1, ?_⟩
    rcases h1.2 with q | ⟨g, cap, cur, rfl, q1, q2, q3⟩
    · exact .inl q
    · exact .inr ⟨g, cap, cur, rfl, q1, (hb.block g (Array.getElem?_eq_some_iff.1 q2).1).trans q2, q3⟩
  · obtain ⟨a1, a2, a3, a4, a5⟩ := h5 i hi
    exact ⟨a1, a2, a3, a4, a5.below hb a5.1⟩
/-- One row more: the new bytes lay in a block that is new since w. -/
theorem gridP_more {w w1 w2 : World} {B k bn cp : Nat} {v v' : Value} {r : Nat} {f : Fn2} {pl : Nat → Nat × Nat × Nat} (h : GridP w B v r k f pl) (hkc : k ≤ cp) (hkm : cp ≤ maxLen) {g : Nat → UInt8}
    (hw : Below w.heap.size w w1) (hB : B ≤ w.heap.size) (hn : w.heap.size ≤ bn) (hrow : Row8 w1 bn 0 (rowL k g)) (hg : w1.grownBy w2 v.ownBlock)
    (ho : w2.ownsRow B 40 1 v' (r + 1) (hdL r k pl ++ [.slice (some ⟨bn, 0, none⟩) k cp])) (hat : v'.ownBlock = v.ownBlock ∨ v'.ownBlock = some w1.heap.size) :
    GridP w2 B v' (r + 1) k (fun i => if i = r then g else f i) (fun i => if i = r then (bn, 0, cp) else pl i) := by
  have h' := h.below hw
  obtain ⟨h1, h5, h6⟩ := h
  obtain ⟨_, h5', _⟩ := h'
  have hnb : some bn ≠ v.ownBlock := by
    intro e
    have := (World.ownsRow.lt h1 _ e.symm).2
    omega
  have hlt : ∀ i, i < r → (pl i).1 < w.heap.size := fun i hi => (h5 i hi).2.2.2.2.1
  refine ⟨?_, fun i hi => ?_, fun i j hi hj hne => ?_⟩
  · rw [hdL_succ, hdL_congr (qs := pl) (fun i hi => if_neg (by omega))]
    simp only [if_true]
    exact ho
  · by_cases e : i = r
    · subst e
      simp only [if_true]
      refine ⟨by omega, hkc, hkm, ?_, hrow.grown hg hnb⟩
      rcases hat with q | q
      · rw [q]; exact hnb
      · rw [q]; have := hrow.1; intro e; injection e with e; omega
    · simp only [if_neg e]
      obtain ⟨a1, a2, a3, a4, a5⟩ := h5' i (by omega)
      refine ⟨a1, a2, a3, ?_, a5.grown hg a4⟩
      rcases hat with q | q
      · rw [q]; exact a4
      · rw [q]; have := a5.1; intro e; injection e with e; omega
  · by_cases e : i = r
    · have e2 : j ≠ r := by omega
      simp only [if_pos e, if_neg e2]
      left
      have := hlt j (by omega)
      show bn ≠ (pl j).1
      omega
    · by_cases e2 : j = r
      · simp only [if_neg e, if_pos e2]
        left
        have := hlt i (by omega)
        show (pl i).1 ≠ bn
        omega
      · simp only [if_neg e, if_neg e2]
        exact h6 i j (by omega) (by omega) hne
end Go.Proofs.YtpldnbfbpajbkabDoor
