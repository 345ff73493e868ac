/- A range over a closure that tells N things and has blocks of its own between them; its body never leaves it: a law by the number of the round. -/
import Derived.Test.YtfmpbohiahjafaaGreatDoorRangeI
import Derived.RangeFuncNested
import Derived.RangeFuncBound
import Derived.RangeFuncCalls
import Derived.RangeFuncLeaves
import Derived.Shelf.Abstract
import Derived.Shelf.RegionOpen
import Derived.OwnWalkIn
import Derived.TacticsInMore
import Derived.LoopNIn
import Derived.LoopIn
namespace Go.Proofs.YtfmpbohiahjafaaGreatDoor
open Go.RowKit Go.Shelf

section
variable {F : Fence} {n : Nat} {P : Program}
/-- The closure tells N things, in order, as long as the rounds keep what it reads, and the blocks that it makes. -/
def TellsX (F : Fence) (n : Nat) (P : Program) (gf : Nat) (lb : Array Value) (encs : Nat → Array Value) (N : Nat) (RD : Nat → World → Prop) (w : World) : Prop :=
  ∀ (l : Nat) (J : List (Nat × Obj) → Nat → World → Prop) (W : World), Below w.heap.size w W → (∀ X k A C, J X k A → Below A.heap.size A C → J X k C) →
    (∀ X k A o, J X k A → o.isCells = true → J ((A.heap.size, o) :: X) k (A.alloc o)) → (∀ X k A b o, J X k A → (b, o) ∈ X → A.heap[b]? = some o) → (∀ X k A, J X k A → RD k A) →
    (∀ X k A, J X k A → k < N → YieldAt F (n - 1) P l (encs k) A fun e C => e = .returned (.bool true) ∧ J X (k + 1) C) → J [] 0 W →
    CallsIn F n P gf (#[.func (.yield l) #[] #[]] ++ lb) W fun e C => (∃ v, e = .returned v) ∧ ∃ X, J X N C
/-- How a round may be left. -/
def stayX (B : Nat) (I : Nat → World → Prop) (k : Nat) (W : World) : Exit → Act → World → Prop
  | .normal, _, W' => KeepsFrom B W W' ∧ I (k + 1) W'
  | _, _, _ => False
theorem wpIn_range_ox {g : Operand} {ps : Array Tmp} {assign body : Code} {Q : Exit → Act → World → Prop} {a : Act} {w : World} (hro : F.round = none) (h1 : 1 ≤ n)
    {gf : Nat} {lb : Array Value} (hg : a.eval g = .func (.func gf) #[] lb) (hFg : F.fn gf) (eg : ∀ args w, (callFunc gf args).run P w = .ok (.enter gf args) w)
    {encs : Nat → Array Value} (hps : ∀ k, (encs k).size = ps.size) {N : Nat} {RD : Nat → World → Prop} (hseq : TellsX F (n - 1) P gf lb encs N RD w)
    (I : List (Nat × Obj) → Nat → World → Prop) (hI : ∀ X, OwnFrom w.heap.size (I X)) (hadd : ∀ X k A o, I X k A → o.isCells = true → w.heap.size ≤ A.heap.size → I ((A.heap.size, o) :: X) k (A.alloc o))
    (hread : ∀ X k A b o, I X k A → (b, o) ∈ X → A.heap[b]? = some o) (hRD : ∀ X k A, I X k A → RD k A) (h0 : I [] 0 w) (a₁ : Nat → Act)
    (hassign : ∀ (l k : Nat) (W : World) (K : Act → World → Prop), K (a₁ k) W →
      assign.wpIn (F.inRound l) (n - 1 - 1) P (Exit.then K (fun _ _ _ => False)) { tmps := (ps.zip (encs k)).foldl (fun t (p, v) => t.setIfInBounds p v) a.tmps, defers := [] } W)
    (hbody : ∀ (l : Nat) (X : List (Nat × Obj)) (k : Nat) (W : World), I X k W → k < N → w.heap.size ≤ W.heap.size → body.wpIn (F.inRound l) (n - 1 - 1) P (stayX w.heap.size (I X) k W) (a₁ k) W)
    (hdone : ∀ (D : Nat) (X : List (Nat × Obj)) (W : World), w.heap.size ≤ D → I X N W → W.heap[D]? = some (.deferred (some [])) → Q .normal { a with defers := { target := .collected D, args := #[] } :: a.defers } W) :
    (Code.rangeFunc g ps assign body).wpIn F n P Q a w := by
  refine wpIn_rangeFunc fun fn hfn => ?_
  rw [hro]
  obtain ⟨rc, hrc⟩ : ∃ rc : LoopState → Option Code → Loop, rc = fun st pe => { state := st, pending := pe, fn, tmps := a.tmps, params := ps, assign, body, defers := w.heap.size } := ⟨_, rfl⟩
  obtain ⟨V, hV⟩ : ∃ V, V = (w.alloc (.deferred (some []))).alloc (.loop (rc .ready none)) := ⟨_, rfl⟩
  have hbV : Below w.heap.size w V := by rw [hV]; exact ((Below.refl _ _).alloc (Nat.le_refl _) _).alloc (by simp) _
  have hlV : V.heap[w.heap.size + 1]? = some (.loop (rc .ready none)) := by
    have h := World.alloc_heap_new (w.alloc (.deferred (some []))) (.loop (rc .ready none))
    rw [World.size_alloc] at h
    rw [hV]; exact h
  have hdV : V.heap[w.heap.size]? = some (.deferred (some [])) := by
    rw [hV]; exact (Below.heap_alloc _ _ _ (by simp)).trans (World.alloc_heap_new w _)
  have hIV : I [] 0 V := hI [] 0 w V none h0 (belowG hbV) (fun r e => by cases e)
  refine ⟨w.heap.size + 1, [{ target := .collected w.heap.size, args := #[] }], V, { target := .fn (.func gf) lb, args := #[.func (.yield (w.heap.size + 1)) #[] #[]] }, V, gf,
    #[.func (.yield (w.heap.size + 1)) #[] #[]] ++ lb, V, ?_, ?_, ?_, ?_, fun _ => h1, ?_⟩
  · rw [hV, hrc]; exact run_enterLoop_outer _ _ _ _ _
  · simp only [resolve, hg]
    simp [go_sem]
  · intro f' hf'; simp [Target.leads] at hf'; subst hf'; exact hFg
  · simp [invoke, go_sem, eg]
  · refine (hseq (w.heap.size + 1) (fun X k W => I X k W ∧ W.heap[w.heap.size + 1]? = some (.loop (rc .ready none)) ∧ W.heap[w.heap.size]? = some (.deferred (some []))) V hbV
      (fun X k A C hA hb => ⟨hI X k A C none hA.1 (belowG hb) (fun r e => by cases e), (hb.block _ (Array.getElem?_eq_some_iff.1 hA.2.1).1).trans hA.2.1, (hb.block _ (Array.getElem?_eq_some_iff.1 hA.2.2).1).trans hA.2.2⟩)
      (fun X k A o hA ho => by
        have hlt := (Array.getElem?_eq_some_iff.1 hA.2.2).1
        have hb : Below A.heap.size A (A.alloc o) := (Below.refl _ _).alloc (Nat.le_refl _) o
        exact ⟨hadd X k A o hA.1 ho (Nat.le_of_lt hlt), (hb.block _ (Array.getElem?_eq_some_iff.1 hA.2.1).1).trans hA.2.1, (hb.block _ hlt).trans hA.2.2⟩)
      (fun X k A b o hA hm => hread X k A b o hA.1 hm)
      (fun X k A hA => hRD X k A hA.1) ?_ ⟨hIV, hlV, hdV⟩).mono ?_
    · rintro X k A ⟨hi, hl, hd⟩ hkN
      have hlt : w.heap.size + 1 < A.heap.size := (Array.getElem?_eq_some_iff.1 hl).1
      have hy := run_yield (P := P) (args := encs k) hl (by rw [hrc]; exact hps k)
      rw [hrc] at hy
      have hp := run_beginRound (P := P) hl (by rw [hrc])
      refine ⟨fn, _, assign, body, hy, roundIn_of_wpIn hfn (hassign _ k A _ ⟨_, hp, ?_⟩)⟩
      have hl2 : (A.putObj (w.heap.size + 1) (.loop { rc .ready none with state := .busy })).heap[w.heap.size + 1]? = some (.loop { rc .ready none with state := .busy }) := World.putObj_heap_same hlt
      have hd2 : (A.putObj (w.heap.size + 1) (.loop { rc .ready none with state := .busy })).heap[w.heap.size]? = some (.deferred (some [])) := (World.putObj_heap_other (by omega)).trans hd
      have hsz : w.heap.size ≤ (A.putObj (w.heap.size + 1) (.loop { rc .ready none with state := .busy })).heap.size := by
        have := (Array.getElem?_eq_some_iff.1 hd2).1; omega
      refine wpIn_mono (hbody _ X k _ ((hI X).putObj _ hi (by omega) hl rfl) hkN hsz) ?_
      intro e a3 A3 hp3
      cases e with
      | normal =>
        obtain ⟨hk3, hi3⟩ := hp3
        have hl3 := hk3.same _ _ (by omega) hl2 rfl
        have := run_endRound (P := P) none hl3
        rw [hrc] at this
        have hl3' : A3.heap[w.heap.size + 1]? = some (.loop { rc .ready none with state := .busy }) := hl3
        rw [hrc] at hl3
        refine ⟨_, _, this, rfl, ?_, ?_, ?_⟩
        · exact (hI X).putObj _ hi3 (by omega) hl3' rfl
        · rw [hrc]; exact World.putObj_heap_same (Array.getElem?_eq_some_iff.1 hl3').1
        · exact (World.putObj_heap_other (by omega)).trans (hk3.same _ _ (Nat.le_refl _) hd2 rfl)
      | ret => exact hp3.elim
      | exit id => exact hp3.elim
      | goto t => exact hp3.elim
      | panic ch => exact hp3.elim
      | outgrown => exact hp3.elim
    · rintro e C ⟨⟨v, rfl⟩, X, hi, hl, hd⟩
      exact ⟨none, _, by have := run_endLoop (P := P) hl (by rw [hrc]; simp); rw [hrc] at this; exact this, hdone _ X _ (Nat.le_refl _) ((hI X).putObj _ hi (by omega) hl rfl) ((World.putObj_heap_other (by omega)).trans hd)⟩
end
/-- The blocks that the closure made lie as they lay. -/
def KX (B : Nat) (X : List (Nat × Obj)) (W : World) : Prop := ∀ p ∈ X, p.2.isCells = true ∧ B ≤ p.1 ∧ W.heap[p.1]? = some p.2
theorem KX.nil (B : Nat) (W : World) : KX B [] W := fun p h => by cases h
theorem KX.lt {B : Nat} {X : List (Nat × Obj)} {W : World} (h : KX B X W) {p : Nat × Obj} (hp : p ∈ X) : p.1 < W.heap.size := (Array.getElem?_eq_some_iff.1 (h p hp).2.2).1
theorem KX.grown {B : Nat} {X : List (Nat × Obj)} {W W' : World} {row : Option Nat} (h : KX B X W) (hg : W.grownBy W' row) (hr : ∀ p ∈ X, row ≠ some p.1) : KX B X W' := fun p hp => ⟨(h p hp).1, (h p hp).2.1, (hg.block _ (h.lt hp) (fun e => hr p hp e.symm)).trans (h p hp).2.2⟩
theorem KX.own {B : Nat} {X : List (Nat × Obj)} {W W' : World} {row : Option Nat} (h : KX B X W) (hg : W.grownBy W' row) (hr : ∀ r, row = some r → B ≤ r ∧ ∃ o : Obj, W.heap[r]? = some o ∧ o.isCells = false) : KX B X W' :=
  h.grown hg (fun p hp e => by
    obtain ⟨_, o, ho, hc⟩ := hr p.1 e
    rw [(h p hp).2.2] at ho
    injection ho with ho
    rw [← ho, (h p hp).1] at hc
    cases hc)
theorem KX.add {B : Nat} {X : List (Nat × Obj)} {W : World} {o : Obj} (h : KX B X W) (ho : o.isCells = true) (hB : B ≤ W.heap.size) : KX B ((W.heap.size, o) :: X) (W.alloc o) := by
  intro p hp
  rcases List.mem_cons.1 hp with rfl | hp
  · exact ⟨ho, hB, World.alloc_heap_new W o⟩
  · exact ⟨(h p hp).1, (h p hp).2.1, (((Below.refl _ _).alloc (Nat.le_refl _) o).block _ (h.lt hp)).trans (h p hp).2.2⟩
end Go.Proofs.YtfmpbohiahjafaaGreatDoor
