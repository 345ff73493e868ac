/- References: RefsAll, where it is looked at. -/
import Derived.Test.YthhbaccbhfngbaaRfaB
import Derived.RegionTactic
import Derived.Lib.AppendZerosOnto
namespace Go.Proofs.Ythhbaccbhfngbaa
open Go.RowKit

theorem step_append_runC {P : Program} {ops : Array Oper} {o : Oper} {a : Act} {K : Act → World → Prop} {Q : Exit → Act → World → Prop} {E : Prop} (w : World) (hgd : o.guard = none) (s x : Operand) (t tn : TypeId)
    (ho : o.op = .call { callee := .builtin .append, args := #[s, x], argTypes := #[t, tn] }) (vs vx : Value) (hs : a.eval s = vs) (hx : a.eval x = vx)
    (v' : Value) (w' : World) (hr : (Builtin.append_ #[t, tn] o.type #[vs, vx]).run P w = .ok v' w') (h : K (a.put o.dst v') w') : if Region.wanted o (yielded ops a.tmps) = true then Oper.wp P o a w K Q else E := by
  have hw : Region.wanted o (yielded ops a.tmps) = true := by simp [Region.wanted, hgd]
  rw [if_pos hw]
  exact Lib.wp_append_run w s x t tn ho vs vx hs hx v' w' hr h
theorem step_append_exC {P : Program} {ops : Array Oper} {o : Oper} {a : Act} {K : Act → World → Prop} {Q : Exit → Act → World → Prop} {E : Prop} (w : World) (hgd : o.guard = none) (s x : Operand) (t tn : TypeId)
    (ho : o.op = .call { callee := .builtin .append, args := #[s, x], argTypes := #[t, tn] }) (vs vx : Value) (hs : a.eval s = vs) (hx : a.eval x = vx)
    (Z : Value → World → Prop) (hr : ∃ v' w', (Builtin.append_ #[t, tn] o.type #[vs, vx]).run P w = .ok v' w' ∧ Z v' w') (h : ∀ v' w', Z v' w' → K (a.put o.dst v') w') : if Region.wanted o (yielded ops a.tmps) = true then Oper.wp P o a w K Q else E := by
  obtain ⟨v', w', hr, hz⟩ := hr
  exact step_append_runC w hgd s x t tn ho vs vx hs hx v' w' hr (h v' w' hz)
theorem chs_one {W : World} {B : Int} {T : List TB} {tA : Option Addr} {tc : Nat} (ht : TabsS W (.slice tA T.length tc) T) : ChsS (W.alloc (.cells #[.int .i64 B, .slice tA T.length tc] 44)) (.slice (some ⟨W.heap.size, 0, none⟩) 1 1) [⟨B, T⟩] := by
  have g := heap_alloc_new W (.cells #[.int .i64 B, .slice tA T.length tc] 44)
  have ht' := ht.below (below_new W (.cells #[.int .i64 B, .slice tA T.length tc] 44))
  refine ⟨_, 1, rfl, Nat.le_refl _, by unfold maxLen; omega, .inr ⟨W.heap.size, 0, rfl, by simp, fun j hj => ?_⟩⟩
  have hj : j < 1 := hj
  obtain rfl : j = 0 := by omega
  exact ⟨_, _, (cell_lit g).trans rfl, (cell_lit g).trans rfl, ht'⟩
theorem rfOk_app (e : Int) (A B : List CH) : rfOk e (A ++ B) = (rfOk e A && rfOk e B) := by unfold rfOk; rw [List.all_append]
theorem rfEnts_app {e : Int} {A B : List CH} (ha : rfOk e A = true) (hb : rfOk e B = true) : rfEnts e (A ++ B) = rfEnts e A ++ rfEnts e B := by
  unfold rfEnts
  rw [if_pos ha, if_pos hb, if_pos (by rw [rfOk_app, ha, hb]; rfl), List.flatMap_append]
theorem few_snoc {C : List CH} {c : CH} (h : FewC C) (h8 : C.length ≤ 8) (hc : c.blocks ≤ 400) : FewC (C ++ [c]) :=
  ⟨by simp; omega, fun x hx => by rcases List.mem_append.1 hx with hx | hx; exact h.2 x hx; rw [List.mem_singleton.1 hx]; exact hc⟩
/-- What the two appends of a slice of maps, and one more, come to. -/
structure AddC (X : World) (v : Value) (B : Int) (T : List TB) (tA : Option Addr) (tc : Nat) (ps : List ChB) : Prop where
  e : ∀ (W : World) (g : Nat), Below X.heap.size X W → X.heap.size ≤ g → W.heap[g]? = some (.cells #[] 44) → ∃ v1 w1, (Builtin.append_ #[22, 22] 22 #[.slice (some ⟨g, 0, none⟩) 0 0, v]).run Try.prog W = .ok v1 w1 ∧ w1.ownsRow X.heap.size 44 2 v1 ps.length (ps.flatMap chEnc) ∧ Ap (fun k => k = g) W w1
  f : ∀ (W : World) (g : Nat) (v1 : Value), X.heap.size ≤ W.heap.size → W.ownsRow X.heap.size 44 2 v1 ps.length (ps.flatMap chEnc) → W.heap[g]? = some (.cells #[.int .i64 B, .slice tA T.length tc] 44) → ∃ v2 w2, (Builtin.append_ #[22, 22] 22 #[v1, .slice (some ⟨g, 0, none⟩) 1 1]).run Try.prog W = .ok v2 w2 ∧ w2.ownsRow X.heap.size 44 2 v2 (ps ++ [(⟨B, tA, T.length, tc⟩ : ChB)]).length ((ps ++ [(⟨B, tA, T.length, tc⟩ : ChB)]).flatMap chEnc) ∧ Below X.heap.size W w2
theorem AddC.of {X : World} {v : Value} {B : Int} {T : List TB} {tA : Option Addr} {tc : Nat} {ps : List ChB} (hs : ∀ W, Below X.heap.size X W → SrcS chEnc W v ps) (hn : ps.length ≤ 1000) : AddC X v B T tA tc ps :=
  ⟨fun W _ hb hg he => appC1 (hs W hb) he hg hn hb.size, fun _ _ _ hs' ho hg => appC2 ho ⟨B, tA, T.length, tc⟩ hg hn hs'⟩
theorem AddC.chs {X W : World} {v2 : Value} {B : Int} {T : List TB} {tA : Option Addr} {tc : Nat} {ps : List ChB} {C : List CH} (hp : ChP X ps C) (ht : TabsS X (.slice tA T.length tc) T) (hb : Below X.heap.size X W) (ho : W.ownsRow X.heap.size 44 2 v2 (ps ++ [(⟨B, tA, T.length, tc⟩ : ChB)]).length ((ps ++ [(⟨B, tA, T.length, tc⟩ : ChB)]).flatMap chEnc)) : ChsS W v2 (C ++ [⟨B, T⟩]) :=
  chs_of_row ho (chp_snoc (c := ⟨B, T⟩) (hp.below hb) (ht.below hb))
/-- The worlds in which the first of both may be asked. -/
structure Ord3 (X : World) (B : Int) (u : Value) : Prop where
  a : Below X.heap.size X (X.alloc (.cells #[] 44)).drew ∧ (X.alloc (.cells #[] 44)).drew.heap[X.heap.size]? = some (.cells #[] 44)
  b : Below X.heap.size X ((X.alloc (.cells #[] 44)).alloc (.cells #[.int .i64 B, u] 44)).drew ∧ ((X.alloc (.cells #[] 44)).alloc (.cells #[.int .i64 B, u] 44)).drew.heap[X.heap.size]? = some (.cells #[] 44) ∧ ((X.alloc (.cells #[] 44)).alloc (.cells #[.int .i64 B, u] 44)).drew.heap[X.heap.size + 1]? = some (.cells #[.int .i64 B, u] 44) ∧ X.heap.size + 1 < ((X.alloc (.cells #[] 44)).alloc (.cells #[.int .i64 B, u] 44)).drew.heap.size
  c : Below X.heap.size X ((X.alloc (.cells #[.int .i64 B, u] 44)).alloc (.cells #[] 44)).drew ∧ ((X.alloc (.cells #[.int .i64 B, u] 44)).alloc (.cells #[] 44)).drew.heap[X.heap.size + 1]? = some (.cells #[] 44) ∧ ((X.alloc (.cells #[.int .i64 B, u] 44)).alloc (.cells #[] 44)).drew.heap[X.heap.size]? = some (.cells #[.int .i64 B, u] 44) ∧ X.heap.size < ((X.alloc (.cells #[.int .i64 B, u] 44)).alloc (.cells #[] 44)).drew.heap.size
theorem alloc_two (X : World) (o o' : Obj) : Below X.heap.size X ((X.alloc o).alloc o').drew ∧ ((X.alloc o).alloc o').drew.heap[X.heap.size]? = some o ∧ ((X.alloc o).alloc o').drew.heap[X.heap.size + 1]? = some o' ∧ X.heap.size + 1 < ((X.alloc o).alloc o').drew.heap.size := by
  have h := heap_alloc_new (X.alloc o) o'
  rw [World.size_alloc] at h
  exact ⟨((below_new X o).alloc (by simp) _).drew, ((below_new (X.alloc o) o').block X.heap.size (by simp)).trans (heap_alloc_new X o), h, by show X.heap.size + 1 < ((X.alloc o).alloc o').heap.size; simp⟩
theorem Ord3.of (X : World) (B : Int) (u : Value) : Ord3 X B u := by
  obtain ⟨b1, b2, b3, b4⟩ := alloc_two X (.cells #[] 44) (.cells #[.int .i64 B, u] 44)
  obtain ⟨c1, c2, c3, c4⟩ := alloc_two X (.cells #[.int .i64 B, u] 44) (.cells #[] 44)
  exact ⟨⟨(below_new X _).drew, heap_alloc_new X _⟩, ⟨b1, b2, b3, b4⟩, ⟨c1, c3, c2, by omega⟩⟩
end Go.Proofs.Ythhbaccbhfngbaa
