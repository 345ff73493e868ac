/- A range over a closure that tells N things, has blocks of its own between them, and may be told to stop; the range variable is a box of its own: a law by the number of the round. -/
import Derived.Test.YtfmpbohiahjafaaGreatDoorRangeX
namespace Go.Proofs.YtfmpbohiahjafaaGreatDoor
open Go.RowKit Go.Shelf

section
variable {F : Fence} {n : Nat} {P : Program}
/-- The closure tells N things, in order, as long as the rounds keep what it reads, and the blocks that it makes, and none says 'no more'. -/
def TellsZ (F : Fence) (n : Nat) (P : Program) (gf : Nat) (lb : Array Value) (encs : Nat → Array Value) (N : Nat) (RD : Nat → World → Prop) (w : World) : Prop :=
  ∀ (l : Nat) (J : List (Nat × Obj) → Nat → World → Prop) (Jx : Nat → World → Prop) (W : World), Below w.heap.size w W → (∀ X k A C, J X k A → Below A.heap.size A C → J X k C) →
    (∀ X k A C b o, J X k A → Below A.heap.size A C → A.heap.size ≤ b → C.heap[b]? = some o → o.isCells = true → J ((b, o) :: X) k C) → (∀ X k A b o, J X k A → (b, o) ∈ X → A.heap[b]? = some o) → (∀ X k A, J X k A → RD k A) →
    (∀ X k A, J X k A → k < N → YieldAt F (n - 1) P l (encs k) A fun e C => (e = .returned (.bool true) ∧ J X (k + 1) C) ∨ (e = .returned (.bool false) ∧ Jx k C)) → J [] 0 W →
    CallsIn F n P gf (#[.func (.yield l) #[] #[]] ++ lb) W fun e C => (∃ v, e = .returned v) ∧ ((∃ X, J X N C) ∨ ∃ k, k < N ∧ Jx k C)
/-- How a round may be left. -/
def stayZ (B : Nat) (I Ix : Nat → World → Prop) (k : Nat) (W : World) : Exit → Act → World → Prop
  | .normal, _, W' => KeepsFrom B W W' ∧ I (k + 1) W'
  | .ret, _, W' => KeepsFrom B W W' ∧ Ix k W'
  | _, _, _ => False
theorem wpIn_range_oz {g : Operand} {ps : Array Tmp} {assign body : Code} {Q : Exit → Act → World → Prop} {a : Act} {w : World} (hro : F.round = none) (h1 : 1 ≤ n)
    {gf : Nat} {lb : Array Value} (hg : a.eval g = .func (.func gf) #[] lb) (hFg : F.fn gf) (eg : ∀ args w, (callFunc gf args).run P w = .ok (.enter gf args) w)
    {encs : Nat → Array Value} (hps : ∀ k, (encs k).size = ps.size) {N : Nat} {RD : Nat → World → Prop} (hseq : TellsZ F (n - 1) P gf lb encs N RD w)
    (I : List (Nat × Obj) → Nat → World → Prop) (Ix : Nat → World → Prop) (hI : ∀ X, OwnFrom w.heap.size (I X)) (hIx : OwnFrom w.heap.size Ix)
    (hadd : ∀ X k A C b o, I X k A → Below A.heap.size A C → A.heap.size ≤ b → C.heap[b]? = some o → o.isCells = true → w.heap.size ≤ A.heap.size → I ((b, o) :: X) k C)
    (hread : ∀ X k A b o, I X k A → (b, o) ∈ X → A.heap[b]? = some o) (hRD : ∀ X k A, I X k A → RD k A) (h0 : I [] 0 w) (ob : Nat → Obj) (a₁ : Nat → Nat → Act)
    (hassign : ∀ (l k B : Nat) (W : World) (K : Act → World → Prop), W.heap.size = B → K (a₁ k B) (W.alloc (ob k)) →
      assign.wpIn (F.inRound l) (n - 1 - 1) P (Exit.then K (fun _ _ _ => False)) { tmps := (ps.zip (encs k)).foldl (fun t (p, v) => t.setIfInBounds p v) a.tmps, defers := [] } W)
    (hbody : ∀ (l : Nat) (X : List (Nat × Obj)) (k B : Nat) (W : World), I X k W → k < N → w.heap.size ≤ B → W.heap[B]? = some (ob k) → (∀ p ∈ X, p.1 < B) → body.wpIn (F.inRound l) (n - 1 - 1) P (stayZ w.heap.size (I X) Ix k W) (a₁ k B) W)
    (hdone : ∀ (D : Nat) (X : List (Nat × Obj)) (W : World), w.heap.size ≤ D → I X N W → W.heap[D]? = some (.deferred (some [])) → Q .normal { a with defers := { target := .collected D, args := #[] } :: a.defers } W)
    (hstop : ∀ (D k : Nat) (W : World), w.heap.size ≤ D → k < N → Ix k W → W.heap[D]? = some (.deferred (some [])) → Code.ret.wpIn F n P Q { a with defers := { target := .collected D, args := #[] } :: a.defers } W) :
    (Code.rangeFunc g ps assign body).wpIn F n P Q a w := by
  refine wpIn_rangeFunc fun fn hfn => ?_
  rw [hro]
  obtain ⟨rc, hrc⟩ : ∃ rc : LoopState → Option Code → Loop, rc = fun st pe => { state := st, pending := pe, fn, tmps := a.tmps, params := ps, assign, body, defers := w.heap.size } := ⟨_, rfl⟩
  obtain ⟨V, hV⟩ : ∃ V, V = (w.alloc (.deferred (some []))).alloc (.loop (rc .ready none)) := ⟨_, rfl⟩
  have hbV : Below w.heap.size w V := by rw [hV]; exact ((Below.refl _ _).alloc (Nat.le_refl _) _).alloc (by simp) _
  have hlV : V.heap[w.heap.size + 1]? = some (.loop (rc .ready none)) := by
    have h := World.alloc_heap_new (w.alloc (.deferred (some []))) (.loop (rc .ready none))
    rw [World.size_alloc] at h
    rw [hV]; exact h
  have hdV : V.heap[w.heap.size]? = some (.deferred (some [])) := by
    rw [hV]; exact (Below.heap_alloc _ _ _ (by simp)).trans (World.alloc_heap_new w _)
  have hIV : I [] 0 V := hI [] 0 w V none h0 (belowG hbV) (fun r e => by cases e)
  refine ⟨w.heap.size + 1, [{ target := .collected w.heap.size, args := #[] }], V, { target := .fn (.func gf) lb, args := #[.func (.yield (w.heap.size + 1)) #[] #[]] }, V, gf,
    #[.func (.yield (w.heap.size + 1)) #[] #[]] ++ lb, V, ?_, ?_, ?_, ?_, fun _ => h1, ?_⟩
  · rw [hV, hrc]; exact run_enterLoop_outer _ _ _ _ _
  · simp only [resolve, hg]
    simp [go_sem]
  · intro f' hf'; simp [Target.leads] at hf'; subst hf'; exact hFg
  · simp [invoke, go_sem, eg]
  · refine (hseq (w.heap.size + 1) (fun X k W => I X k W ∧ (W.heap[w.heap.size + 1]? = some (.loop (rc .ready none)) ∧ ∀ p ∈ X, p.1 < W.heap.size) ∧ W.heap[w.heap.size]? = some (.deferred (some [])))
      (fun k W => Ix k W ∧ W.heap[w.heap.size + 1]? = some (.loop (rc .done (some .ret))) ∧ W.heap[w.heap.size]? = some (.deferred (some []))) V hbV
      (fun X k A C hA hb => ⟨hI X k A C none hA.1 (belowG hb) (fun r e => by cases e), ⟨(hb.block _ (Array.getElem?_eq_some_iff.1 hA.2.1.1).1).trans hA.2.1.1, fun p hp => Nat.lt_of_lt_of_le (hA.2.1.2 p hp) hb.size⟩, (hb.block _ (Array.getElem?_eq_some_iff.1 hA.2.2).1).trans hA.2.2⟩)
      (fun X k A C b o hA hb hbA hCo ho => by
        have hlt := (Array.getElem?_eq_some_iff.1 hA.2.2).1
        refine ⟨hadd X k A C b o hA.1 hb hbA hCo ho (Nat.le_of_lt hlt), ⟨(hb.block _ (Array.getElem?_eq_some_iff.1 hA.2.1.1).1).trans hA.2.1.1, fun p hp => ?_⟩, (hb.block _ hlt).trans hA.2.2⟩
        rcases List.mem_cons.1 hp with rfl | hp
        · exact (Array.getElem?_eq_some_iff.1 hCo).1
        · exact Nat.lt_of_lt_of_le (hA.2.1.2 p hp) hb.size)
      (fun X k A b o hA hm => hread X k A b o hA.1 hm)
      (fun X k A hA => hRD X k A hA.1) ?_ ⟨hIV, ⟨hlV, fun p hp => by cases hp⟩, hdV⟩).mono ?_
    · rintro X k A0 ⟨hi, ⟨hl, hXl⟩, hd⟩ hkN
      have hlt0 : w.heap.size + 1 < A0.heap.size := (Array.getElem?_eq_some_iff.1 hl).1
      have hy := run_yield (P := P) (args := encs k) hl (by rw [hrc]; exact hps k)
      rw [hrc] at hy
      have hba : Below A0.heap.size A0 (A0.alloc (ob k)) := (Below.refl _ _).alloc (Nat.le_refl _) _
      replace hl := (hba.block _ hlt0).trans hl
      replace hd := (hba.block _ (Array.getElem?_eq_some_iff.1 hd).1).trans hd
      replace hi : I X k (A0.alloc (ob k)) := hI X k A0 _ none hi (belowG hba) (fun r e => by cases e)
      have hnb := World.alloc_heap_new A0 (ob k)
      have hsA : A0.heap.size ≤ (A0.alloc (ob k)).heap.size := hba.size
      have hp := run_beginRound (P := P) hl (by rw [hrc])
      refine ⟨fn, _, assign, body, hy, roundIn_of_wpIn hfn (hassign _ k _ A0 _ rfl ⟨_, hp, ?_⟩)⟩
      have hlt : w.heap.size + 1 < (A0.alloc (ob k)).heap.size := (Array.getElem?_eq_some_iff.1 hl).1
      have hnb2 : ∀ o, ((A0.alloc (ob k)).putObj (w.heap.size + 1) o).heap[A0.heap.size]? = some (ob k) := fun o => (World.putObj_heap_other (by omega)).trans hnb
      generalize A0.alloc (ob k) = A at hl hd hi hp hlt hnb2 hsA ⊢
      have hl2 : (A.putObj (w.heap.size + 1) (.loop { rc .ready none with state := .busy })).heap[w.heap.size + 1]? = some (.loop { rc .ready none with state := .busy }) := World.putObj_heap_same hlt
      have hd2 : (A.putObj (w.heap.size + 1) (.loop { rc .ready none with state := .busy })).heap[w.heap.size]? = some (.deferred (some [])) := (World.putObj_heap_other (by omega)).trans hd
      refine wpIn_mono (hbody _ X k A0.heap.size _ ((hI X).putObj _ hi (by omega) hl rfl) hkN (by omega) (hnb2 _) hXl) ?_
      have fin : ∀ (jump : Option Code) (W3 : World), KeepsFrom w.heap.size (A.putObj (w.heap.size + 1) (.loop { rc .ready none with state := .busy })) W3 →
          (Instr.endRound (w.heap.size + 1) jump).run P W3 = .ok (.bool jump.isNone) (W3.putObj (w.heap.size + 1) (.loop (rc (if jump.isNone then .ready else .done) jump))) ∧
          W3.heap[w.heap.size + 1]? = some (.loop { rc .ready none with state := .busy }) ∧
          (W3.putObj (w.heap.size + 1) (.loop (rc (if jump.isNone then .ready else .done) jump))).heap[w.heap.size + 1]? = some (.loop (rc (if jump.isNone then .ready else .done) jump)) ∧
          (W3.putObj (w.heap.size + 1) (.loop (rc (if jump.isNone then .ready else .done) jump))).heap[w.heap.size]? = some (.deferred (some [])) := fun jump W3 hk3 => by
        have hl3 := hk3.same _ _ (by omega) hl2 rfl
        have := run_endRound (P := P) jump hl3
        rw [hrc] at this ⊢
        exact ⟨this, by rw [hrc] at hl3; exact hl3, World.putObj_heap_same (Array.getElem?_eq_some_iff.1 hl3).1, (World.putObj_heap_other (by omega)).trans (hk3.same _ _ (Nat.le_refl _) hd2 rfl)⟩
      intro e a3 A3 hp3
      cases e with
      | normal =>
        obtain ⟨hk3, hi3⟩ := hp3
        obtain ⟨hr, hl3, hl4, hk4⟩ := fin none A3 hk3
        refine ⟨_, _, hr, .inl ⟨rfl, (hI X).putObj _ hi3 (by omega) hl3 rfl, ⟨hl4, fun p hp => ?_⟩, hk4⟩⟩
        have h3 := hread X (k + 1) A3 p.1 p.2 hi3 hp
        have := (Array.getElem?_eq_some_iff.1 h3).1
        simpa [World.putObj] using this
      | ret =>
        obtain ⟨hk3, hi3⟩ := hp3
        obtain ⟨hr, hl3, hl4, hk4⟩ := fin (some .ret) A3 hk3
        exact ⟨_, _, hr, .inr ⟨rfl, hIx.putObj _ hi3 (by omega) hl3 rfl, hl4, hk4⟩⟩
      | exit id => exact hp3.elim
      | goto t => exact hp3.elim
      | panic ch => exact hp3.elim
      | outgrown => exact hp3.elim
    · rintro e C ⟨⟨v, rfl⟩, (⟨X, hi, hl, hd⟩ | ⟨k, hk, hi, hl, hd⟩)⟩
      · exact ⟨none, _, by have := run_endLoop (P := P) hl.1 (by rw [hrc]; simp); rw [hrc] at this; exact this, hdone _ X _ (Nat.le_refl _) ((hI X).putObj _ hi (by omega) hl.1 rfl) ((World.putObj_heap_other (by omega)).trans hd)⟩
      · exact ⟨some .ret, _, by have := run_endLoop (P := P) hl (by rw [hrc]; simp); rw [hrc] at this; exact this, hstop _ k _ (Nat.le_refl _) hk (hIx.putObj _ hi (by omega) hl rfl) ((World.putObj_heap_other (by omega)).trans hd)⟩
end
end Go.Proofs.YtfmpbohiahjafaaGreatDoor
