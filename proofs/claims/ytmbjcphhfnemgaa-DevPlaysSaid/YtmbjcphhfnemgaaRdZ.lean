/- append(b, make([]byte, 512)...) is as the append of a string of noughts. -/
import Derived.Test.YtmbjcphhfnemgaaRdC
import Derived.Lib.AppendZeros
import Derived.Lib.AppendStr
namespace Go.Proofs.Ytmbjcphhfnemgaa
open Go.RowKit Go.Maps

def zeroStr : ByteArray := ⟨blankB.toArray⟩
theorem zeroStr_size : zeroStr.size = 512 := by show blankB.toArray.size = 512; rw [List.size_toArray, blankB_len]
theorem zeros_gen (m : Nat) : Builtin.zeroCells (Value.int .u8 0).cells m = (Lib.strCells ⟨(List.replicate m (0 : UInt8)).toArray⟩).toArray := by
  apply Array.ext'
  have e1 : (Lib.strCells ⟨(List.replicate m (0 : UInt8)).toArray⟩) = List.replicate m (.int .u8 0) := by
    unfold Lib.strCells
    simp
  rw [e1]
  refine List.ext_getElem ?_ (fun j h1 h2 => ?_)
  · simp [Builtin.zeroCells, Value.cells]
  · simp [Builtin.zeroCells, Value.cells, Nat.mod_one]
theorem zeros_cells : Builtin.zeroCells (Value.int .u8 0).cells 512 = (Lib.strCells zeroStr).toArray := zeros_gen 512
theorem append_zeros_str {P : Program} (w : World) (t tn u ty e : TypeId) (i : TypeInfo) (ht : P.underlying t = some (.slice e)) (htn : P.underlying tn = some (.int .i64)) (hu : P.underlying u = some .string) (hi : P.info? e = some i) (hz : i.zero = some (.int .u8 0)) (hsize : i.size = 1) (hby : i.bytes = 1)
    (A : Option Addr) (n cap : Nat) (hn : n ≤ 1000000) :
    (Builtin.append_ #[t, tn] ty #[.slice A n cap, .int .i64 512]).run P w = (Builtin.append_ #[t, u] ty #[.slice A n cap, .string zeroStr]).run P w := by
  have hZ := zeroStr_size
  have hc := zeros_cells
  have hf : ∀ W : World, (Builtin.firstCells 1 512 (.string zeroStr)).run P W = .ok (Lib.strCells zeroStr).toArray W := fun W => by
    have h := Lib.run_firstCells_string (P := P) W 1 zeroStr
    rw [hZ] at h
    exact h
  have hw : IntKind.i64.wrap (512 : Int) = 512 := by rw [IntKind.wrap_i64]; omega
  by_cases hroom : n + 512 ≤ cap
  · simp [Builtin.append_, run_underlying ht, run_underlying htn, run_underlying hu, sizeOf, typeInfo, zeroValue, hi, hz, hsize, asInt, asIntOf, hw, Builtin.lenOf, hZ, hroom, hf, hc, hby]
  · have hle := nextslicecap_le (need := n + 512) (old := cap) (by omega)
    have h48 : ¬ (281474976710656 < Builtin.nextslicecap (n + 512) cap) := by omega
    have h63 : ¬ (9223372036854775807 < ((n : Int) + 512)) := by omega
    simp [Builtin.append_, run_underlying ht, run_underlying htn, run_underlying hu, sizeOf, typeInfo, zeroValue, hi, hz, hsize, asInt, asIntOf, hw, Builtin.lenOf, hZ, hroom, hf, hc, hby, h48, h63]
    intro h; omega
theorem strCells_u8 (s : ByteArray) : Lib.strCells s = U8s s.data.toList := by
  unfold Lib.strCells U8s; simp
/-- append(b, make([]byte, 512)...). -/
theorem wpList_app_zeros {W : World} {ops : Array Oper} {rest : List Oper} {o : Oper} {a : Act} {K : Exit → Act → World → Prop} (hgd : o.guard = none) (s : Operand)
    (ho : o.op = .call { callee := .builtin .append, args := #[s, .const (.int .i64 512)], argTypes := #[73, 3] }) {B : Nat} {v : Value} {l : List UInt8} (hs : a.eval s = v) (hown : OwnB W B v l) (hB : B ≤ W.heap.size) (hl : l.length ≤ 100000)
    (hK : ∀ v' w', OwnB w' B v' (l ++ blankB) → Below B W w' → wpList Try.prog ops K rest (a.put o.dst v') w') : wpList Try.prog ops K (o :: rest) a W := by
  obtain ⟨i, hi, hz, hsz, hby⟩ := infoU8x
  obtain ⟨v', w', hr, h2, h3, _⟩ := Lib.run_append_own_string (P := Try.prog) W B 73 9 o.type 5 i Try.underlying73 Try.underlying9 hi hz hsz hby v l.length (U8s l) hown zeroStr (by rw [zeroStr_size]; unfold maxLen; omega) (by rw [zeroStr_size]; omega) hB
  obtain ⟨A, cap, rfl⟩ : ∃ A cap, v = .slice A l.length cap := by
    rcases hown.2 with ⟨rfl, h0⟩ | ⟨g, cap, cur, rfl, _⟩
    · exact ⟨none, 0, by rw [h0]⟩
    · exact ⟨_, _, rfl⟩
  have hq := append_zeros_str (P := Try.prog) W 73 3 9 o.type 5 i Try.underlying73 Try.underlying3 Try.underlying9 hi hz hsz hby A l.length cap (by omega)
  rw [← hq] at hr
  refine Lib.wpList_append_run W hgd s (.const (.int .i64 512)) 73 3 ho _ _ hs rfl v' w' hr (hK v' w' ?_ (Below.grown (Below.refl _ _) h3 hB (fun k hk => (World.ownsRow.lt hown k hk).1)))
  rw [strCells_u8, zeroStr_size] at h2
  unfold OwnB
  rw [List.length_append, blankB_len, show U8s (l ++ blankB) = U8s l ++ U8s zeroStr.data.toList by unfold U8s zeroStr; rw [List.map_append]]
  exact h2
/-- append(b, s...). -/
theorem wpList_app_str {W : World} {ops : Array Oper} {rest : List Oper} {o : Oper} {a : Act} {K : Exit → Act → World → Prop} (hgd : o.guard = none) (s x : Operand)
    (ho : o.op = .call { callee := .builtin .append, args := #[s, x], argTypes := #[73, 9] }) {B : Nat} {v : Value} {l r : List UInt8} (hs : a.eval s = v) (hown : OwnB W B v l) (hx : a.eval x = .string ⟨r.toArray⟩) (hB : B ≤ W.heap.size) (hl : l.length ≤ 100000) (hr : r.length ≤ 1000)
    (hK : ∀ v' w', OwnB w' B v' (l ++ r) → Below B W w' → wpList Try.prog ops K rest (a.put o.dst v') w') : wpList Try.prog ops K (o :: rest) a W := by
  obtain ⟨i, hi, hz, hsz, hby⟩ := infoU8x
  have hsr : ByteArray.size ⟨r.toArray⟩ = r.length := by show r.toArray.size = _; rw [List.size_toArray]
  refine Lib.wpList_append_own_string W hgd s x 73 9 ho B 5 i Try.underlying73 Try.underlying9 hi hz hsz hby v l.length (U8s l) hs hown ⟨r.toArray⟩ hx (by rw [hsr]; unfold maxLen; omega) (by rw [hsr]; omega) hB ?_
  intro v' w' h2 h3 _
  refine hK v' w' ?_ (Below.grown (Below.refl _ _) h3 hB (fun k hk => (World.ownsRow.lt hown k hk).1))
  rw [strCells_u8, hsr] at h2
  unfold OwnB
  rw [List.length_append, show U8s (l ++ r) = U8s l ++ U8s r by unfold U8s; rw [List.map_append]]
  exact h2
end Go.Proofs.Ytmbjcphhfnemgaa
