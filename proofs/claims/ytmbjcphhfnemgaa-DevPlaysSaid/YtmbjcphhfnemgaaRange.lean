/- A range over a method value that tells N things, one by one, and whose body never leaves it: a law for the walk inside a fence; loads and stores of many cells there. -/
import Derived.Test.YtmbjcphhfnemgaaDevJ
import Derived.RangeFuncNested
import Derived.RangeFuncBound
import Derived.RangeFuncCalls
import Derived.RangeFuncLeaves
import Derived.Shelf.Abstract
import Derived.Shelf.RegionOpen
import Derived.OwnWalkIn
import Derived.TacticsInMore
import Derived.LoopNIn
import Derived.LoopIn
namespace Go.Proofs.Ytmbjcphhfnemgaa
open Go.RowKit Go.Shelf

/-- All cells, and all that is older than B, lie as they lay. -/
structure KeepsCells (B : Nat) (A C : World) : Prop where
  os : C.os = A.os
  tape : C.tape = A.tape
  output : C.output = A.output
  size : A.heap.size ≤ C.heap.size
  same : ∀ (k : Nat) (o : Obj), A.heap[k]? = some o → (o.isCells = true ∨ k < B) → C.heap[k]? = some o
theorem KeepsCells.of_below {B : Nat} {A C : World} (h : Below A.heap.size A C) : KeepsCells B A C :=
  ⟨h.os, h.tape, h.output, h.size, fun k _ ho _ => (h.block k (Array.getElem?_eq_some_iff.1 ho).1).trans ho⟩
theorem KeepsCells.put {B l : Nat} {A : World} {o : Obj} (hB : B ≤ l) (hl : A.heap[l]? = some o) (ho : o.isCells = false) (o' : Obj) : KeepsCells B A (A.putObj l o') := by
  have hg := grownBy_putObj' A l o'
  refine ⟨hg.os, hg.tape, hg.output, hg.size, fun k x hx hc => ?_⟩
  have hne : k ≠ l := by
    rintro rfl
    rcases hc with hc | hc
    · rw [hl] at hx; cases hx; rw [ho] at hc; cases hc
    · omega
  exact (hg.block k (Array.getElem?_eq_some_iff.1 hx).1 (fun e => hne (by cases e; rfl))).trans hx
theorem KeepsCells.below {n₀ B : Nat} {A C : World} (h : KeepsCells B A C) (hn : n₀ ≤ B) (hA : n₀ ≤ A.heap.size) : Below n₀ A C := by
  refine ⟨h.os, h.tape, h.output, h.size, fun k hk => ?_⟩
  have hlt : k < A.heap.size := by omega
  rw [Array.getElem?_eq_getElem hlt]
  exact h.same k _ (Array.getElem?_eq_getElem hlt) (.inr (by omega))
section
variable {F : Fence} {n : Nat} {P : Program}
/-- The function tells N things, in order, to whatever round keeps what is older than n0. -/
def Tells (F : Fence) (n : Nat) (P : Program) (gf : Nat) (x0 : Value) (encs : Nat → Array Value) (N n₀ : Nat) (w : World) : Prop :=
  ∀ (l : Nat) (J : Nat → World → Prop) (W : World), Below w.heap.size w W → (∀ k A C, J k A → Below A.heap.size A C → J k C) →
    (∀ k A, J k A → k < N → YieldAt F (n - 1) P l (encs k) A fun e C => e = .returned (.bool true) ∧ J (k + 1) C ∧ Below n₀ A C) → J 0 W →
    CallsIn F n P gf #[x0, .func (.yield l) #[] #[]] W fun e C => (∃ v, e = .returned v) ∧ J N C
/-- What a body that never leaves owes. -/
def stays (n₀ : Nat) (I : Nat → World → Prop) (k : Nat) (W : World) : Exit → Act → World → Prop
  | .normal, _, W' => KeepsOthers W W' ∧ Below n₀ W W' ∧ I (k + 1) W'
  | _, _, _ => False
/-- The law. -/
theorem wpIn_range_told {g : Operand} {ps : Array Tmp} {assign body : Code} {Q : Exit → Act → World → Prop} {a : Act} {w : World} (hro : F.round = none) (h1 : 1 ≤ n)
    {gf : Nat} {x0 : Value} (hg : a.eval g = .func (.func gf) #[x0] #[]) (hFg : F.fn gf) (eg : ∀ args w, (callFunc gf args).run P w = .ok (.enter gf args) w)
    {encs : Nat → Array Value} (hps : ∀ k, (encs k).size = ps.size) {N n₀ : Nat} (hn₀ : n₀ ≤ w.heap.size) (hseq : Tells F (n - 1) P gf x0 encs N n₀ w)
    (I : Nat → World → Prop) (hI : ∀ k A C, I k A → KeepsCells w.heap.size A C → I k C) (h0 : I 0 w)
    (R : Nat → Act → World → Prop) (hR : ∀ k a' A C, R k a' A → KeepsCells w.heap.size A C → R k a' C)
    (hassign : ∀ (l k : Nat) (W : World) (K : Act → World → Prop), I k W → k < N → (∀ a' W', KeepsOthers W W' → Below n₀ W W' → R k a' W' → K a' W') →
      assign.wpIn (F.inRound l) (n - 1 - 1) P (Exit.then K (fun _ _ _ => False)) { tmps := (ps.zip (encs k)).foldl (fun t (p, v) => t.setIfInBounds p v) a.tmps, defers := [] } W)
    (hbody : ∀ (l k : Nat) (a' : Act) (W : World), R k a' W → k < N → body.wpIn (F.inRound l) (n - 1 - 1) P (stays n₀ I k W) a' W)
    (hdone : ∀ (D : Nat) (W : World), w.heap.size ≤ D → I N W → W.heap[D]? = some (.deferred (some [])) → Q .normal { a with defers := { target := .collected D, args := #[] } :: a.defers } W) :
    (Code.rangeFunc g ps assign body).wpIn F n P Q a w := by
  refine wpIn_rangeFunc fun fn hfn => ?_
  rw [hro]
  obtain ⟨rc, hrc⟩ : ∃ rc : LoopState → Option Code → Loop, rc = fun st pe => { state := st, pending := pe, fn, tmps := a.tmps, params := ps, assign, body, defers := w.heap.size } := ⟨_, rfl⟩
  obtain ⟨V, hV⟩ : ∃ V, V = (w.alloc (.deferred (some []))).alloc (.loop (rc .ready none)) := ⟨_, rfl⟩
  have hbV : Below w.heap.size w V := by rw [hV]; exact ((Below.refl _ _).alloc (Nat.le_refl _) _).alloc (by simp) _
  have hlV : V.heap[w.heap.size + 1]? = some (.loop (rc .ready none)) := by
    have h := World.alloc_heap_new (w.alloc (.deferred (some []))) (.loop (rc .ready none))
    rw [World.size_alloc] at h
    rw [hV]; exact h
  have hdV : V.heap[w.heap.size]? = some (.deferred (some [])) := by
    rw [hV]; exact (Below.heap_alloc _ _ _ (by simp)).trans (World.alloc_heap_new w _)
  refine ⟨w.heap.size + 1, [{ target := .collected w.heap.size, args := #[] }], V, { target := .fn (.func gf) #[], args := #[x0, .func (.yield (w.heap.size + 1)) #[] #[]] }, V, gf,
    #[x0, .func (.yield (w.heap.size + 1)) #[] #[]], V, ?_, ?_, ?_, ?_, fun _ => h1, ?_⟩
  · rw [hV, hrc]; exact run_enterLoop_outer _ _ _ _ _
  · simp only [resolve, hg]
    simp [go_sem]
  · intro f' hf'; simp [Target.leads] at hf'; subst hf'; exact hFg
  · simp [invoke, go_sem, eg]
  · refine (hseq (w.heap.size + 1) (fun k W => I k W ∧ W.heap[w.heap.size + 1]? = some (.loop (rc .ready none)) ∧ W.heap[w.heap.size]? = some (.deferred (some []))) V hbV
      (fun k A C hA hb => ⟨hI k A C hA.1 (KeepsCells.of_below hb), (hb.block _ (Array.getElem?_eq_some_iff.1 hA.2.1).1).trans hA.2.1, (hb.block _ (Array.getElem?_eq_some_iff.1 hA.2.2).1).trans hA.2.2⟩)
      ?_ ⟨hI 0 w V h0 (KeepsCells.of_below hbV), hlV, hdV⟩).mono ?_
    · rintro k A ⟨hi, hl, hd⟩ hkN
      have hy := run_yield (P := P) (args := encs k) hl (by rw [hrc]; exact hps k)
      rw [hrc] at hy
      refine ⟨fn, _, assign, body, hy, roundIn_of_wpIn hfn (hassign _ k A _ hi hkN fun a' A1 ho1 hb1 hr1 => ?_)⟩
      have hl1 := ho1.same _ _ hl rfl
      have hd1 := ho1.same _ _ hd rfl
      have hlt := (Array.getElem?_eq_some_iff.1 hl1).1
      have hp := run_beginRound (P := P) hl1 (by rw [hrc])
      refine ⟨_, hp, ?_⟩
      have hl2 : (A1.putObj (w.heap.size + 1) (.loop { rc .ready none with state := .busy })).heap[w.heap.size + 1]? = some (.loop { rc .ready none with state := .busy }) := World.putObj_heap_same hlt
      have hd2 : (A1.putObj (w.heap.size + 1) (.loop { rc .ready none with state := .busy })).heap[w.heap.size]? = some (.deferred (some [])) := (World.putObj_heap_other (by omega)).trans hd1
      have hk2 := KeepsCells.put (B := w.heap.size) (by omega) hl1 rfl (.loop { rc .ready none with state := .busy })
      have hnA : n₀ ≤ A1.heap.size := by omega
      refine wpIn_mono (hbody _ k a' _ (hR k a' _ _ hr1 hk2) hkN) ?_
      intro e a3 A3 hp3
      cases e with
      | normal =>
        obtain ⟨ho3, hb3, hi3⟩ := hp3
        have hl3 := ho3.same _ _ hl2 rfl
        have hd3 := ho3.same _ _ hd2 rfl
        have hlt3 := (Array.getElem?_eq_some_iff.1 hl3).1
        have he := run_endRound (P := P) none hl3
        have hk3 := KeepsCells.put (B := w.heap.size) (by omega) hl3 rfl (.loop (rc .ready none))
        have hnA3 : n₀ ≤ A3.heap.size := by omega
        have e1 : ({ ({ rc .ready none with state := .busy } : Loop) with state := .ready, pending := none } : Loop) = rc .ready none := by rw [hrc]
        simp only [Option.isNone_none, if_true, e1] at he
        exact ⟨_, _, he, rfl, ⟨hI _ _ _ hi3 hk3, World.putObj_heap_same hlt3, (World.putObj_heap_other (by omega)).trans hd3⟩,
          hb1.trans ((hk2.below hn₀ hnA).trans (hb3.trans (hk3.below hn₀ hnA3)))⟩
      | ret => exact hp3.elim
      | exit id => exact hp3.elim
      | goto t => exact hp3.elim
      | panic ch => exact hp3.elim
      | outgrown => exact hp3.elim
    · rintro e C ⟨⟨v, rfl⟩, hi, hl, hd⟩
      have he := run_endLoop (P := P) hl (by rw [hrc]; simp)
      have hk := KeepsCells.put (B := w.heap.size) (by omega) hl rfl (.loop { rc .ready none with state := .exhausted })
      refine ⟨none, _, by rw [hrc] at he ⊢; exact he, hdone _ _ (Nat.le_refl _) (hI _ _ _ hi hk) ((World.putObj_heap_other (by omega)).trans hd)⟩
end
section
variable {F : Fence} {nF : Nat} {P : Program} {ops : Array Oper} {rest : List Oper} {o : Oper} {a : Act} {w : World} {Q : Exit → Act → World → Prop}
theorem wpListIn_load_mid (hgd : o.guard = none) (ty : TypeId) (x : Operand) (ho : o.op = .load ty x)
    (b off : Nat) (hx : a.eval x = .pointer (some ⟨b, off, none⟩)) (cs : List Value) (d : TypeDesc) (hc : w.rangeAt b off cs)
    (hu : P.underlying ty = some d) (hd : d.isRow = true) (hi : (P.info? ty).map (·.size) = some cs.length)
    (h : wpListIn F nF P ops Q rest (a.put o.dst (.agg cs.toArray)) w) : wpListIn F nF P ops Q (o :: rest) a w := by
  refine wpListIn_plain hgd fun K' hK' => ?_
  unfold Oper.wpIn
  refine ⟨by simp [Oper.about, ho], ?_⟩
  rw [Oper.semAt_plain F _ _ (by rw [ho]; intro c hc'; cases hc')]
  unfold execOp
  simp only [ho, hx, Sem.run_bind, Sem.run_pure, Result.andThen_ok, run_loadAt_mid w b off ty cs d hc hu hd hi]
  exact hK' _ _ h
theorem wpListIn_store_mid (hgd : o.guard = none) (ty : TypeId) (x y : Operand) (ho : o.op = .store ty x y)
    (b off : Nat) (cells : Array Value) (hx : a.eval x = .pointer (some ⟨b, off, none⟩)) (hy : a.eval y = .agg cells)
    (ht : w.there b off cells.size) (hi : (P.info? ty).map (·.size) = some cells.size) (h1 : cells.all (·.oneCell') = true)
    (h : wpListIn F nF P ops Q rest (a.put o.dst undef) (w.setCells b off cells.toList)) : wpListIn F nF P ops Q (o :: rest) a w := by
  refine wpListIn_plain hgd fun K' hK' => ?_
  unfold Oper.wpIn
  refine ⟨by simp [Oper.about, ho], ?_⟩
  rw [Oper.semAt_plain F _ _ (by rw [ho]; intro c hc'; cases hc')]
  unfold execOp
  simp only [ho, hx, hy, Sem.run_bind, Sem.run_pure, Result.andThen_ok, run_storeAt_mid w b off ty cells ht hi h1]
  exact hK' _ _ h
end
end Go.Proofs.Ytmbjcphhfnemgaa
