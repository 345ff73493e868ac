/- A range over a closure that tells N things, the k-th one known beforehand, and that writes a box of its own between them; its body may return: a law by the number of the round. -/
import Derived.Test.YtfmpbohiahjafaaDoorRangeI
import Derived.RangeFuncNested
import Derived.RangeFuncBound
import Derived.RangeFuncCalls
import Derived.RangeFuncLeaves
import Derived.Shelf.Abstract
import Derived.Shelf.RegionOpen
import Derived.OwnWalkIn
import Derived.TacticsInMore
import Derived.LoopNIn
import Derived.LoopIn
namespace Go.Proofs.YtfmpbohiahjafaaDoor
open Go.RowKit Go.Shelf

section
variable {F : Fence} {n : Nat} {P : Program}
/-- The closure tells N things, in order, as long as the rounds keep its box, and none says 'no more'; it writes its box. -/
def TellsL (F : Fence) (n : Nat) (P : Program) (gf : Nat) (lb : Array Value) (encs : Nat → Array Value) (N b : Nat) (t0 : Value) (RD : World → Prop) (w : World) : Prop :=
  ∀ (l : Nat) (J : Value → Nat → World → Prop) (Jx : Nat → World → Prop) (W : World), Below w.heap.size w W → (∀ t k A C, J t k A → Below A.heap.size A C → J t k C) → (∀ t k A, J t k A → A.cell? ⟨b, 0, none⟩ = some t ∧ A.frozen? ⟨b, 0, none⟩ = false ∧ RD A) →
    (∀ t t' k A, J t k A → J t' k (A.setCell ⟨b, 0, none⟩ t')) →
    (∀ t k A, J t k A → k < N → YieldAt F (n - 1) P l (encs k) A fun e C => (e = .returned (.bool true) ∧ J t (k + 1) C) ∨ (e = .returned (.bool false) ∧ Jx k C)) → J t0 0 W →
    CallsIn F n P gf (#[.func (.yield l) #[] #[]] ++ lb) W fun e C => (∃ v, e = .returned v) ∧ ((∃ t, J t N C) ∨ ∃ k, k < N ∧ Jx k C)
theorem set_heap {W : World} {b i k : Nat} {v : Value} (h : i ≠ b) : (W.setCell ⟨b, k, none⟩ v).heap[i]? = W.heap[i]? := by
  show (W.heap.modify b _)[i]? = _
  rw [Array.getElem?_modify, if_neg (Ne.symm h)]
theorem wpIn_range_il {g : Operand} {ps : Array Tmp} {assign body : Code} {Q : Exit → Act → World → Prop} {a : Act} {w : World} (hro : F.round = none) (h1 : 1 ≤ n)
    {gf : Nat} {lb : Array Value} (hg : a.eval g = .func (.func gf) #[] lb) (hFg : F.fn gf) (eg : ∀ args w, (callFunc gf args).run P w = .ok (.enter gf args) w)
    {encs : Nat → Array Value} (hps : ∀ k, (encs k).size = ps.size) {N b : Nat} {t0 : Value} {RD : World → Prop} (hseq : TellsL F (n - 1) P gf lb encs N b t0 RD w) (hbw : b < w.heap.size)
    (I : Value → Nat → World → Prop) (Ix : Nat → World → Prop) (hI : ∀ t, OwnFrom w.heap.size (I t)) (hIx : OwnFrom w.heap.size Ix) (hcl : ∀ t k A, I t k A → A.cell? ⟨b, 0, none⟩ = some t ∧ A.frozen? ⟨b, 0, none⟩ = false ∧ RD A) (hst : ∀ t t' k A, I t k A → I t' k (A.setCell ⟨b, 0, none⟩ t')) (h0 : I t0 0 w) (a₁ : Nat → Act)
    (hassign : ∀ (l k : Nat) (W : World) (K : Act → World → Prop), K (a₁ k) W →
      assign.wpIn (F.inRound l) (n - 1 - 1) P (Exit.then K (fun _ _ _ => False)) { tmps := (ps.zip (encs k)).foldl (fun t (p, v) => t.setIfInBounds p v) a.tmps, defers := [] } W)
    (hbody : ∀ (l k : Nat) (t : Value) (W : World), I t k W → k < N → body.wpIn (F.inRound l) (n - 1 - 1) P (stayI w.heap.size (I t) Ix k W) (a₁ k) W)
    (hdone : ∀ (D : Nat) (t : Value) (W : World), w.heap.size ≤ D → I t N W → W.heap[D]? = some (.deferred (some [])) → Q .normal { a with defers := { target := .collected D, args := #[] } :: a.defers } W)
    (hstop : ∀ (D k : Nat) (W : World), w.heap.size ≤ D → k < N → Ix k W → W.heap[D]? = some (.deferred (some [])) → Code.ret.wpIn F n P Q { a with defers := { target := .collected D, args := #[] } :: a.defers } W) :
    (Code.rangeFunc g ps assign body).wpIn F n P Q a w := by
  refine wpIn_rangeFunc fun fn hfn => ?_
  rw [hro]
  obtain ⟨rc, hrc⟩ : ∃ rc : LoopState → Option Code → Loop, rc = fun st pe => { state := st, pending := pe, fn, tmps := a.tmps, params := ps, assign, body, defers := w.heap.size } := ⟨_, rfl⟩
  obtain ⟨V, hV⟩ : ∃ V, V = (w.alloc (.deferred (some []))).alloc (.loop (rc .ready none)) := ⟨_, rfl⟩
  have hbV : Below w.heap.size w V := by rw [hV]; exact ((Below.refl _ _).alloc (Nat.le_refl _) _).alloc (by simp) _
  have hlV : V.heap[w.heap.size + 1]? = some (.loop (rc .ready none)) := by
    have h := World.alloc_heap_new (w.alloc (.deferred (some []))) (.loop (rc .ready none))
    rw [World.size_alloc] at h
    rw [hV]; exact h
  have hdV : V.heap[w.heap.size]? = some (.deferred (some [])) := by
    rw [hV]; exact (Below.heap_alloc _ _ _ (by simp)).trans (World.alloc_heap_new w _)
  have hIV : I t0 0 V := hI t0 0 w V none h0 (belowG hbV) (fun r e => by cases e)
  refine ⟨w.heap.size + 1, [{ target := .collected w.heap.size, args := #[] }], V, { target := .fn (.func gf) lb, args := #[.func (.yield (w.heap.size + 1)) #[] #[]] }, V, gf,
    #[.func (.yield (w.heap.size + 1)) #[] #[]] ++ lb, V, ?_, ?_, ?_, ?_, fun _ => h1, ?_⟩
  · rw [hV, hrc]; exact run_enterLoop_outer _ _ _ _ _
  · simp only [resolve, hg]
    simp [go_sem]
  · intro f' hf'; simp [Target.leads] at hf'; subst hf'; exact hFg
  · simp [invoke, go_sem, eg]
  · refine (hseq (w.heap.size + 1) (fun t k W => I t k W ∧ W.heap[w.heap.size + 1]? = some (.loop (rc .ready none)) ∧ W.heap[w.heap.size]? = some (.deferred (some [])))
      (fun k W => Ix k W ∧ W.heap[w.heap.size + 1]? = some (.loop (rc .done (some .ret))) ∧ W.heap[w.heap.size]? = some (.deferred (some []))) V hbV
      (fun t k A C hA hb => ⟨hI t k A C none hA.1 (belowG hb) (fun r e => by cases e), (hb.block _ (Array.getElem?_eq_some_iff.1 hA.2.1).1).trans hA.2.1, (hb.block _ (Array.getElem?_eq_some_iff.1 hA.2.2).1).trans hA.2.2⟩)
      (fun t k A hA => hcl t k A hA.1) (fun t t' k A hA => ⟨hst t t' k A hA.1, (set_heap (by omega)).trans hA.2.1, (set_heap (by omega)).trans hA.2.2⟩) ?_ ⟨hIV, hlV, hdV⟩).mono ?_
    · rintro t k A ⟨hi, hl, hd⟩ hkN
      have hlt : w.heap.size + 1 < A.heap.size := (Array.getElem?_eq_some_iff.1 hl).1
      have hy := run_yield (P := P) (args := encs k) hl (by rw [hrc]; exact hps k)
      rw [hrc] at hy
      have hp := run_beginRound (P := P) hl (by rw [hrc])
      refine ⟨fn, _, assign, body, hy, roundIn_of_wpIn hfn (hassign _ k A _ ⟨_, hp, ?_⟩)⟩
      have hl2 : (A.putObj (w.heap.size + 1) (.loop { rc .ready none with state := .busy })).heap[w.heap.size + 1]? = some (.loop { rc .ready none with state := .busy }) := World.putObj_heap_same hlt
      have hd2 : (A.putObj (w.heap.size + 1) (.loop { rc .ready none with state := .busy })).heap[w.heap.size]? = some (.deferred (some [])) := (World.putObj_heap_other (by omega)).trans hd
      refine wpIn_mono (hbody _ k t _ ((hI t).putObj _ hi (by omega) hl rfl) hkN) ?_
      have fin : ∀ (jump : Option Code) (W3 : World), KeepsFrom w.heap.size (A.putObj (w.heap.size + 1) (.loop { rc .ready none with state := .busy })) W3 →
          (Instr.endRound (w.heap.size + 1) jump).run P W3 = .ok (.bool jump.isNone) (W3.putObj (w.heap.size + 1) (.loop (rc (if jump.isNone then .ready else .done) jump))) ∧
          W3.heap[w.heap.size + 1]? = some (.loop { rc .ready none with state := .busy }) ∧
          (W3.putObj (w.heap.size + 1) (.loop (rc (if jump.isNone then .ready else .done) jump))).heap[w.heap.size + 1]? = some (.loop (rc (if jump.isNone then .ready else .done) jump)) ∧
          (W3.putObj (w.heap.size + 1) (.loop (rc (if jump.isNone then .ready else .done) jump))).heap[w.heap.size]? = some (.deferred (some [])) := fun jump W3 hk3 => by
        have hl3 := hk3.same _ _ (by omega) hl2 rfl
        have := run_endRound (P := P) jump hl3
        rw [hrc] at this ⊢
        exact ⟨this, by rw [hrc] at hl3; exact hl3, World.putObj_heap_same (Array.getElem?_eq_some_iff.1 hl3).1, (World.putObj_heap_other (by omega)).trans (hk3.same _ _ (Nat.le_refl _) hd2 rfl)⟩
      intro e a3 A3 hp3
      cases e with
      | normal =>
        obtain ⟨hk3, hi3⟩ := hp3
        obtain ⟨hr, hl3, hl4, hk4⟩ := fin none A3 hk3
        exact ⟨_, _, hr, .inl ⟨rfl, (hI t).putObj _ hi3 (by omega) hl3 rfl, hl4, hk4⟩⟩
      | ret =>
        obtain ⟨hk3, hi3⟩ := hp3
        obtain ⟨hr, hl3, hl4, hk4⟩ := fin (some .ret) A3 hk3
        exact ⟨_, _, hr, .inr ⟨rfl, hIx.putObj _ hi3 (by omega) hl3 rfl, hl4, hk4⟩⟩
      | exit id => exact hp3.elim
      | goto t => exact hp3.elim
      | panic ch => exact hp3.elim
      | outgrown => exact hp3.elim
    · rintro e C ⟨⟨v, rfl⟩, (⟨t, hi, hl, hd⟩ | ⟨k, hk, hi, hl, hd⟩)⟩
      · exact ⟨none, _, by have := run_endLoop (P := P) hl (by rw [hrc]; simp); rw [hrc] at this; exact this, hdone _ t _ (Nat.le_refl _) ((hI t).putObj _ hi (by omega) hl rfl) ((World.putObj_heap_other (by omega)).trans hd)⟩
      · exact ⟨some .ret, _, by have := run_endLoop (P := P) hl (by rw [hrc]; simp); rw [hrc] at this; exact this, hstop _ k _ (Nat.le_refl _) hk (hIx.putObj _ hi (by omega) hl rfl) ((World.putObj_heap_other (by omega)).trans hd)⟩
end
end Go.Proofs.YtfmpbohiahjafaaDoor
