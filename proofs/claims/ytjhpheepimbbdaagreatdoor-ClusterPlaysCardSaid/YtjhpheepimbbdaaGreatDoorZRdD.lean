/- The document's answers for devices: Waiting, Bad. append(b, make([]byte, 512)...) is as the append of a string of noughts. -/
import Derived.Test.YtjhpheepimbbdaaGreatDoorZRdA
import Derived.Lib.AppendZeros
import Derived.Lib.AppendStr
namespace Go.Proofs.YtjhpheepimbbdaaGreatDoor
open Go.RowKit Go.Maps

theorem own_below {W W' : World} {B e s n : Nat} {v : Value} {xs : List Value} (h : W.ownsRow B e s v n xs) (hb : Below W.heap.size W W') : W'.ownsRow B e s v n xs := by
  refine ⟨h.1, ?_⟩
  rcases h.2 with h0 | ⟨g, cap, cur, hv, hg, hh, r⟩
  · exact .inl h0
  · exact .inr ⟨g, cap, cur, hv, hg, (hb.block g (Array.getElem?_eq_some_iff.1 hh).1).trans hh, r⟩
def intL (l : List Nat) : List Value := l.map fun i : Nat => .int .i64 (i : Int)
theorem own_ints {W : World} {B : Nat} {v : Value} {l : List Nat} (h : W.ownsRow B 3 1 v l.length (intL l)) : IntsR W v (l.map fun i : Nat => (i : Int)) := by
  rcases h.2 with ⟨rfl, h0⟩ | ⟨g, cap, cur, rfl, _, hh, hn, hm, _, ht⟩
  · have : l = [] := List.eq_nil_of_length_eq_zero h0
    subst this
    exact ⟨none, 0, rfl, Nat.le_refl _, by omega, .inl rfl⟩
  · refine ⟨some ⟨g, 0, none⟩, cap, by rw [List.length_map], by rw [List.length_map]; exact hn, by unfold maxLen at hm; omega, .inr ⟨g, 0, rfl, fun j hj => ?_⟩⟩
    rw [List.length_map] at hj
    rw [Nat.zero_add, cell_of_row W g j cur 3 (0, 0) hh]
    have h1 : (cur.toList.take (l.length * 1))[j]? = (intL l)[j]? := by rw [ht]
    rw [List.getElem?_take, if_pos (by omega), Array.getElem?_toList] at h1
    rw [h1]
    simp [intL, List.getD, hj]
theorem infoIntX : ∃ i, Tryz.prog.info? 3 = some i ∧ i.zero = some (.int .i64 0) ∧ i.size = 1 ∧ i.bytes = 8 := by
  have h : (Tryz.prog.info? 3).map (fun i => (i.zero, i.size, i.bytes)) = some (some (.int .i64 0), 1, 8) := by kernel_rfl
  cases hq : Tryz.prog.info? 3 with
  | none => rw [hq] at h; cases h
  | some i => rw [hq] at h; simp only [Option.map_some, Option.some.injEq, Prod.mk.injEq] at h; exact ⟨i, rfl, h.1, h.2.1, h.2.2⟩
theorem fl_len (p : Nat → Bool) (n : Nat) : (fl p n).length ≤ n := by
  have := List.length_filter_le p (List.range n)
  rw [List.length_range] at this
  exact this
/-- append(out, j). -/
theorem wpList_app_int {W : World} {ops : Array Oper} {rest : List Oper} {o : Oper} {a : Act} {K : Exit → Act → World → Prop} (hgd : o.guard = none) (s x : Operand)
    (ho : o.op = .call { callee := .builtin .append, args := #[s, x], argTypes := #[104, 104] }) {B : Nat} {v : Value} {l : List Nat} {j gb : Nat} (hs : a.eval s = v) (hown : W.ownsRow B 3 1 v l.length (intL l)) (hB : B ≤ W.heap.size)
    (hgb : gb = W.heap.size) (hx : a.eval x = .slice (some ⟨gb, 0, none⟩) 1 1) (hl : l.length ≤ 100)
    (hK : ∀ v' w', w'.ownsRow B 3 1 v' (l ++ [j]).length (intL (l ++ [j])) → Below B W w' → wpList Tryz.prog ops K rest (a.put o.dst v') w') :
    wpList Tryz.prog ops K (o :: rest) a (W.alloc (.cells #[.int .i64 (j : Int)] 3)) := by
  subst hgb
  obtain ⟨i, hi, hz, hsz, hby⟩ := infoIntX
  refine wpList_append_own_at _ hgd s x 104 ho B 3 i _ 1 8 Tryz.underlying104 hi hz hsz hby rfl (by decide) v l.length (intL l) hs (own_below hown (below1 _ _)) ⟨W.heap.size, 0, none⟩ 1 1 [.int .i64 (j : Int)] hx rfl (fun q u hu => ?_) (fun u hu => ?_) (by unfold maxLen; omega) (by omega) (by simp; omega) ?_
  · have hq : q = 0 := by have := (List.getElem?_eq_some_iff.1 hu).1; simpa using this
    subst hq
    rw [adr_add]
    have e : u = .int .i64 (j : Int) := by simpa using hu.symm
    rw [e]
    simp [go_sem]
  · have e : u = .int .i64 (j : Int) := by simpa using hu
    rw [e]; rfl
  · intro v' w' hown' hg _ _
    refine hK v' w' ?_ ?_
    · rw [List.length_append, show intL (l ++ [j]) = intL l ++ [.int .i64 (j : Int)] by simp [intL]]
      exact hown'
    · exact ((below1 W (.cells #[.int .i64 (j : Int)] 3)).mono hB).trans (Below.grown (Below.refl _ _) hg (by simp; omega) (fun k hk => (World.ownsRow.lt hown k hk).1))
end Go.Proofs.YtjhpheepimbbdaaGreatDoor
namespace Go.Proofs.YtjhpheepimbbdaaGreatDoor
open Go.RowKit Go.Maps

def zeroStr : ByteArray := ⟨blankB.toArray⟩
theorem zeroStr_size : zeroStr.size = 512 := by show blankB.toArray.size = 512; rw [List.size_toArray, blankB_len]
theorem zeros_gen (m : Nat) : Builtin.zeroCells (Value.int .u8 0).cells m = (Lib.strCells ⟨(List.replicate m (0 : UInt8)).toArray⟩).toArray := by
  apply Array.ext'
  have e1 : (Lib.strCells ⟨(List.replicate m (0 : UInt8)).toArray⟩) = List.replicate m (.int .u8 0) := by
    unfold Lib.strCells
    simp
  rw [e1]
  refine List.ext_getElem ?_ (fun j h1 h2 => ?_)
  · simp [Builtin.zeroCells, Value.cells]
  · simp [Builtin.zeroCells, Value.cells, Nat.mod_one]
theorem zeros_cells : Builtin.zeroCells (Value.int .u8 0).cells 512 = (Lib.strCells zeroStr).toArray := zeros_gen 512
theorem append_zeros_str {P : Program} (w : World) (t tn u ty e : TypeId) (i : TypeInfo) (ht : P.underlying t = some (.slice e)) (htn : P.underlying tn = some (.int .i64)) (hu : P.underlying u = some .string) (hi : P.info? e = some i) (hz : i.zero = some (.int .u8 0)) (hsize : i.size = 1) (hby : i.bytes = 1)
    (A : Option Addr) (n cap : Nat) (hn : n ≤ 1000000) :
    (Builtin.append_ #[t, tn] ty #[.slice A n cap, .int .i64 512]).run P w = (Builtin.append_ #[t, u] ty #[.slice A n cap, .string zeroStr]).run P w := by
  have hZ := zeroStr_size
  have hc := zeros_cells
  have hf : ∀ W : World, (Builtin.firstCells 1 512 (.string zeroStr)).run P W = .ok (Lib.strCells zeroStr).toArray W := fun W => by
    have h := Lib.run_firstCells_string (P := P) W 1 zeroStr
    rw [hZ] at h
    exact h
  have hw : IntKind.i64.wrap (512 : Int) = 512 := by rw [IntKind.wrap_i64]; omega
  by_cases hroom : n + 512 ≤ cap
  · simp [Builtin.append_, run_underlying ht, run_underlying htn, run_underlying hu, sizeOf, typeInfo, zeroValue, hi, hz, hsize, asInt, asIntOf, hw, Builtin.lenOf, hZ, hroom, hf, hc, hby]
  · have hle := nextslicecap_le (need := n + 512) (old := cap) (by omega)
    have h48 : ¬ (281474976710656 < Builtin.nextslicecap (n + 512) cap) := by omega
    have h63 : ¬ (9223372036854775807 < ((n : Int) + 512)) := by omega
    simp [Builtin.append_, run_underlying ht, run_underlying htn, run_underlying hu, sizeOf, typeInfo, zeroValue, hi, hz, hsize, asInt, asIntOf, hw, Builtin.lenOf, hZ, hroom, hf, hc, hby, h48, h63]
    intro h; omega
theorem strCells_u8 (s : ByteArray) : Lib.strCells s = U8s s.data.toList := by
  unfold Lib.strCells U8s; simp
/-- append(b, make([]byte, 512)...). -/
theorem wpList_app_zeros {W : World} {ops : Array Oper} {rest : List Oper} {o : Oper} {a : Act} {K : Exit → Act → World → Prop} (hgd : o.guard = none) (s : Operand)
    (ho : o.op = .call { callee := .builtin .append, args := #[s, .const (.int .i64 512)], argTypes := #[56, 3] }) {B : Nat} {v : Value} {l : List UInt8} (hs : a.eval s = v) (hown : OwnB W B v l) (hB : B ≤ W.heap.size) (hl : l.length ≤ 200000)
    (hK : ∀ v' w', OwnB w' B v' (l ++ blankB) → Below B W w' → wpList Tryz.prog ops K rest (a.put o.dst v') w') : wpList Tryz.prog ops K (o :: rest) a W := by
  obtain ⟨i, hi, hz, hsz, hby⟩ := infoU8x
  obtain ⟨v', w', hr, h2, h3, _⟩ := Lib.run_append_own_string (P := Tryz.prog) W B 56 9 o.type 5 i Tryz.underlying56 Tryz.underlying9 hi hz hsz hby v l.length (U8s l) hown zeroStr (by rw [zeroStr_size]; unfold maxLen; omega) (by rw [zeroStr_size]; omega) hB
  obtain ⟨A, cap, rfl⟩ : ∃ A cap, v = .slice A l.length cap := by
    rcases hown.2 with ⟨rfl, h0⟩ | ⟨g, cap, cur, rfl, _⟩
    · exact ⟨none, 0, by rw [h0]⟩
    · exact ⟨_, _, rfl⟩
  have hq := append_zeros_str (P := Tryz.prog) W 56 3 9 o.type 5 i Tryz.underlying56 Tryz.underlying3 Tryz.underlying9 hi hz hsz hby A l.length cap (by omega)
  rw [← hq] at hr
  refine Lib.wpList_append_run W hgd s (.const (.int .i64 512)) 56 3 ho _ _ hs rfl v' w' hr (hK v' w' ?_ (Below.grown (Below.refl _ _) h3 hB (fun k hk => (World.ownsRow.lt hown k hk).1)))
  rw [strCells_u8, zeroStr_size] at h2
  unfold OwnB
  rw [List.length_append, blankB_len, show U8s (l ++ blankB) = U8s l ++ U8s zeroStr.data.toList by unfold U8s zeroStr; rw [List.map_append]]
  exact h2
/-- append(b, s...). -/
theorem wpList_app_str {W : World} {ops : Array Oper} {rest : List Oper} {o : Oper} {a : Act} {K : Exit → Act → World → Prop} (hgd : o.guard = none) (s x : Operand)
    (ho : o.op = .call { callee := .builtin .append, args := #[s, x], argTypes := #[56, 9] }) {B : Nat} {v : Value} {l r : List UInt8} (hs : a.eval s = v) (hown : OwnB W B v l) (hx : a.eval x = .string ⟨r.toArray⟩) (hB : B ≤ W.heap.size) (hl : l.length ≤ 200000) (hr : r.length ≤ 1000)
    (hK : ∀ v' w', OwnB w' B v' (l ++ r) → Below B W w' → wpList Tryz.prog ops K rest (a.put o.dst v') w') : wpList Tryz.prog ops K (o :: rest) a W := by
  obtain ⟨i, hi, hz, hsz, hby⟩ := infoU8x
  have hsr : ByteArray.size ⟨r.toArray⟩ = r.length := by show r.toArray.size = _; rw [List.size_toArray]
  refine Lib.wpList_append_own_string W hgd s x 56 9 ho B 5 i Tryz.underlying56 Tryz.underlying9 hi hz hsz hby v l.length (U8s l) hs hown ⟨r.toArray⟩ hx (by rw [hsr]; unfold maxLen; omega) (by rw [hsr]; omega) hB ?_
  intro v' w' h2 h3 _
  refine hK v' w' ?_ (Below.grown (Below.refl _ _) h3 hB (fun k hk => (World.ownsRow.lt hown k hk).1))
  rw [strCells_u8, hsr] at h2
  unfold OwnB
  rw [List.length_append, show U8s (l ++ r) = U8s l ++ U8s r by unfold U8s; rw [List.map_append]]
  exact h2
end Go.Proofs.YtjhpheepimbbdaaGreatDoor
