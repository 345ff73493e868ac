/- A frame: all that lay there lies as it lay, but for some blocks. A region that draws its order, whose operations read, and whose callees leave a relation of ours alone: walked once. A range over a closure that tells N things, the k-th one known beforehand; its body may return: a law by the number of the round. A range over a closure that tells N things and has blocks of its own between them; its body never leaves it: a law by the number of the round. A region that draws its order, in a round of a range over a function: its operations are carried out as anywhere. A region that draws its order, whose operations read and whose callees leave a relation of ours alone, in a round of a range over a function: walked once. A region that draws its order, in a function that is walked inside a fence, behind no loop: walked once. Places of a row of bools that are so, in their order. -/
import Derived.Test.YtngkbcaflkinhaaDoorKit
import Derived.Test.YtngkbcaflkinhaaDoorByteAll
import Derived.Maps.OwnSet
import Derived.Laws.IdiomCopy
import Derived.Deep.MidRow
import Derived.RangeFuncNested
import Derived.RangeFuncBound
import Derived.RangeFuncCalls
import Derived.RangeFuncLeaves
import Derived.Shelf.Abstract
import Derived.Shelf.RegionOpen
import Derived.OwnWalkIn
import Derived.TacticsInMore
import Derived.LoopNIn
import Derived.LoopIn
import Derived.RegionIn
import Derived.Stop.RegionWithIn
import Derived.Sort.QuietThIn
namespace Go.Proofs.YtngkbcaflkinhaaDoor
open Go.RowKit

/-- w' is w but for the blocks of S, and for new ones. -/
structure Ap (S : Nat → Prop) (w w' : World) : Prop where
  os : w'.os = w.os
  tape : w'.tape = w.tape
  output : w'.output = w.output
  size : w.heap.size ≤ w'.heap.size
  block : ∀ k, k < w.heap.size → ¬ S k → w'.heap[k]? = w.heap[k]?
variable {S : Nat → Prop}
theorem Ap.refl (w : World) : Ap S w w := ⟨rfl, rfl, rfl, Nat.le_refl _, fun _ _ _ => rfl⟩
theorem Ap.trans {a b c : World} (h : Ap S a b) (k : Ap S b c) : Ap S a c :=
  ⟨k.os.trans h.os, k.tape.trans h.tape, k.output.trans h.output, Nat.le_trans h.size k.size, fun i hi hn => (k.block i (Nat.lt_of_lt_of_le hi h.size) hn).trans (h.block i hi hn)⟩
theorem Ap.of_below {w w' : World} (h : Below w.heap.size w w') : Ap S w w' := ⟨h.os, h.tape, h.output, h.size, fun k hk _ => h.block k hk⟩
theorem Ap.below {w w' : World} {B : Nat} (h : Ap S w w') (hB : B ≤ w.heap.size) (hS : ∀ k, S k → B ≤ k) : Below B w w' :=
  ⟨h.os, h.tape, h.output, h.size, fun k hk => h.block k (Nat.lt_of_lt_of_le hk hB) (fun hs => by have := hS k hs; omega)⟩
theorem Ap.weak {T : Nat → Prop} {w w' : World} (h : Ap S w w') (hST : ∀ k, S k → T k) : Ap T w w' := ⟨h.os, h.tape, h.output, h.size, fun k hk hn => h.block k hk (fun hs => hn (hST k hs))⟩
theorem Ap.drew {a w : World} (h : Ap S a w) : Ap S a w.drew := ⟨h.os, h.tape, h.output, h.size, h.block⟩
theorem Ap.drewN {a w : World} (h : Ap S a w) (n : Nat) : Ap S a (w.drewN n) := ⟨h.os, h.tape, h.output, h.size, h.block⟩
theorem Ap.alloc {a w : World} (h : Ap S a w) (o : Obj) : Ap S a (w.alloc o) := h.trans (Ap.of_below ((Below.refl _ _).alloc (Nat.le_refl _) o))
theorem Ap.setCell {a w : World} (h : Ap S a w) {p : Addr} (hp : S p.block ∨ a.heap.size ≤ p.block) (u : Value) : Ap S a (w.setCell p u) :=
  ⟨h.os, h.tape, h.output, by rw [World.size_setCell]; exact h.size, fun k hk hn => by
    rw [Below.heap_setCell _ _ _ _ (by rintro rfl; rcases hp with hp | hp; exact hn hp; omega)]; exact h.block k hk hn⟩
theorem Ap.setCells {a : World} {b : Nat} (hp : S b ∨ a.heap.size ≤ b) : ∀ (vs : List Value) (o : Nat) (w : World), Ap S a w → Ap S a (w.setCells b o vs)
  | [], _, _, h => h
  | v :: r, o, w, h => by rw [World.setCells]; exact Ap.setCells hp r (o + 1) _ (h.setCell (p := ⟨b, o, none⟩) hp v)
theorem Ap.turned {a w w' : World} {b : Nat} (h : Ap S a w) (hp : S b ∨ a.heap.size ≤ b) (ht : w.mapTurned w' b) : Ap S a w' := by
  have hg := ht.grown
  exact ⟨hg.os.trans h.os, hg.tape.trans h.tape, hg.output.trans h.output, Nat.le_trans h.size hg.size, fun k hk hn => (hg.block k (Nat.lt_of_lt_of_le hk h.size) (by intro e; injection e with e; subst e; rcases hp with hp | hp; exact hn hp; omega)).trans (h.block k hk hn)⟩
theorem Ap.grown {a w w' : World} {row : Option Nat} (h : Ap S a w) (hg : w.grownBy w' row) (hr : ∀ k, row = some k → S k ∨ a.heap.size ≤ k) : Ap S a w' :=
  ⟨hg.os.trans h.os, hg.tape.trans h.tape, hg.output.trans h.output, Nat.le_trans h.size hg.size, fun k hk hn => (hg.block k (Nat.lt_of_lt_of_le hk h.size) (by intro e; rcases hr k e.symm with hp | hp; exact hn hp; omega)).trans (h.block k hk hn)⟩
theorem Ap.cell {w w' : World} (h : Ap S w w') {b : Nat} (hb : b < w.heap.size) (hn : ¬ S b) (o : Nat) : w'.cell? ⟨b, o, none⟩ = w.cell? ⟨b, o, none⟩ := by
  simp only [World.cell?, h.block b hb hn]
theorem Ap.frozen {w w' : World} (h : Ap S w w') {b : Nat} (hb : b < w.heap.size) (hn : ¬ S b) (o : Nat) : w'.frozen? ⟨b, o, none⟩ = w.frozen? ⟨b, o, none⟩ := by
  simp only [World.frozen?, h.block b hb hn]
theorem Ap.owns {H : Type} {P : Program} {k : TypeId} {R : Value → Option (DataW H × List MemPlace)} {w w' : World} {b n : Nat} {D : DataW H} (h : Ap S w w') (ho : w.ownsMap P k R b n D) (hn : ¬ S b) : w'.ownsMap P k R b n D := by
  have hlt := ho.lt
  obtain ⟨es, clock, hb, r⟩ := ho
  exact ⟨es, clock, (h.block b hlt hn).trans hb, r⟩
theorem Ap.row {w w' : World} {b off : Nat} {l : List UInt8} (h : Ap S w w') (hr : Row8 w b off l) (hn : ¬ S b) : Row8 w' b off l :=
  ⟨Nat.lt_of_lt_of_le hr.1 h.size, fun j hj => ⟨(h.cell hr.1 hn _).trans (hr.2 j hj).1, (h.frozen hr.1 hn _).trans (hr.2 j hj).2⟩⟩
end Go.Proofs.YtngkbcaflkinhaaDoor
namespace Go.Proofs.YtngkbcaflkinhaaDoor
open Go.RowKit

/-- A world of a class. -/
structure Wk (C : World → Prop) where
  W : World
  h : C W

theorem wp_region_wk {P : Program} {id : Nat} {Q : Exit → Act → World → Prop} {a : Act} {w : World} {l : List Oper} (C : World → Prop) (hm : P.follows .mixedOrders = true) (hB : Region.lexB .any l.toArray = true) (h0 : C w.drew)
    (h : wpQuiet P l.toArray (fun w' => ∃ p : Wk C, w' = p.W) (fun a' => ∀ p : Wk C, Q .normal a' p.W) l a) : (Code.region id l.toArray true).wp P Q a w :=
  wp_region_quiet (C := fun w' => ∃ p : Wk C, w' = p.W) hm hB ⟨⟨_, h0⟩, rfl⟩ (by simpa using h)
end Go.Proofs.YtngkbcaflkinhaaDoor
namespace Go.Proofs.YtngkbcaflkinhaaDoor
open Go.RowKit Go.Shelf

section
variable {F : Fence} {n : Nat} {P : Program}
/-- The closure tells N things, in order, as long as the rounds keep what it reads, and none says 'no more'. -/
def TellsI (F : Fence) (n : Nat) (P : Program) (gf : Nat) (lb : Array Value) (encs : Nat → Array Value) (N : Nat) (RD : Nat → World → Prop) (w : World) : Prop :=
  ∀ (l : Nat) (J Jx : Nat → World → Prop) (W : World), Below w.heap.size w W → (∀ k A C, J k A → Below A.heap.size A C → J k C) → (∀ k A, J k A → RD k A) →
    (∀ k A, J k A → k < N → YieldAt F (n - 1) P l (encs k) A fun e C => (e = .returned (.bool true) ∧ J (k + 1) C) ∨ (e = .returned (.bool false) ∧ Jx k C)) → J 0 W →
    CallsIn F n P gf (#[.func (.yield l) #[] #[]] ++ lb) W fun e C => (∃ v, e = .returned v) ∧ (J N C ∨ ∃ k, k < N ∧ Jx k C)
/-- How a round may be left. -/
def stayI (B : Nat) (I Ix : Nat → World → Prop) (k : Nat) (W : World) : Exit → Act → World → Prop
  | .normal, _, W' => KeepsFrom B W W' ∧ I (k + 1) W'
  | .ret, _, W' => KeepsFrom B W W' ∧ Ix k W'
  | _, _, _ => False
theorem belowG {X Y : World} (a : Below X.heap.size X Y) : X.grownBy Y none := ⟨a.os, a.tape, a.output, a.size, fun k hk _ => a.block k hk⟩
theorem wpIn_range_ix {g : Operand} {ps : Array Tmp} {assign body : Code} {Q : Exit → Act → World → Prop} {a : Act} {w : World} (hro : F.round = none) (h1 : 1 ≤ n)
    {gf : Nat} {lb : Array Value} (hg : a.eval g = .func (.func gf) #[] lb) (hFg : F.fn gf) (eg : ∀ args w, (callFunc gf args).run P w = .ok (.enter gf args) w)
    {encs : Nat → Array Value} (hps : ∀ k, (encs k).size = ps.size) {N : Nat} {RD : Nat → World → Prop} (hseq : TellsI F (n - 1) P gf lb encs N RD w)
    (I Ix : Nat → World → Prop) (hI : OwnFrom w.heap.size I) (hIx : OwnFrom w.heap.size Ix) (hRD : ∀ k A, I k A → RD k A) (h0 : I 0 w) (a₁ : Nat → Act)
    (hassign : ∀ (l k : Nat) (W : World) (K : Act → World → Prop), K (a₁ k) W →
      assign.wpIn (F.inRound l) (n - 1 - 1) P (Exit.then K (fun _ _ _ => False)) { tmps := (ps.zip (encs k)).foldl (fun t (p, v) => t.setIfInBounds p v) a.tmps, defers := [] } W)
    (hbody : ∀ (l k : Nat) (W : World), I k W → k < N → body.wpIn (F.inRound l) (n - 1 - 1) P (stayI w.heap.size I Ix k W) (a₁ k) W)
    (hdone : ∀ (D : Nat) (W : World), w.heap.size ≤ D → I N W → W.heap[D]? = some (.deferred (some [])) → Q .normal { a with defers := { target := .collected D, args := #[] } :: a.defers } W)
    (hstop : ∀ (D k : Nat) (W : World), w.heap.size ≤ D → k < N → Ix k W → W.heap[D]? = some (.deferred (some [])) → Code.ret.wpIn F n P Q { a with defers := { target := .collected D, args := #[] } :: a.defers } W) :
    (Code.rangeFunc g ps assign body).wpIn F n P Q a w := by
  refine wpIn_rangeFunc fun fn hfn => ?_
  rw [hro]
  obtain ⟨rc, hrc⟩ : ∃ rc : LoopState → Option Code → Loop, rc = fun st pe => { state := st, pending := pe, fn, tmps := a.tmps, params := ps, assign, body, defers := w.heap.size } := ⟨_, rfl⟩
  obtain ⟨V, hV⟩ : ∃ V, V = (w.alloc (.deferred (some []))).alloc (.loop (rc .ready none)) := ⟨_, rfl⟩
  have hbV : Below w.heap.size w V := by rw [hV]; exact ((Below.refl _ _).alloc (Nat.le_refl _) _).alloc (by simp) _
  have hlV : V.heap[w.heap.size + 1]? = some (.loop (rc .ready none)) := by
    have h := World.alloc_heap_new (w.alloc (.deferred (some []))) (.loop (rc .ready none))
    rw [World.size_alloc] at h
    rw [hV]; exact h
  have hdV : V.heap[w.heap.size]? = some (.deferred (some [])) := by
    rw [hV]; exact (Below.heap_alloc _ _ _ (by simp)).trans (World.alloc_heap_new w _)
  have hIV : I 0 V := hI 0 w V none h0 (belowG hbV) (fun r e => by cases e)
  refine ⟨w.heap.size + 1, [{ target := .collected w.heap.size, args := #[] }], V, { target := .fn (.func gf) lb, args := #[.func (.yield (w.heap.size + 1)) #[] #[]] }, V, gf,
    #[.func (.yield (w.heap.size + 1)) #[] #[]] ++ lb, V, ?_, ?_, ?_, ?_, fun _ => h1, ?_⟩
  · rw [hV, hrc]; exact run_enterLoop_outer _ _ _ _ _
  · simp only [resolve, hg]
    simp [go_sem]
  · intro f' hf'; simp [Target.leads] at hf'; subst hf'; exact hFg
  · simp [invoke, go_sem, eg]
  · refine (hseq (w.heap.size + 1) (fun k W => I k W ∧ W.heap[w.heap.size + 1]? = some (.loop (rc .ready none)) ∧ W.heap[w.heap.size]? = some (.deferred (some [])))
      (fun k W => Ix k W ∧ W.heap[w.heap.size + 1]? = some (.loop (rc .done (some .ret))) ∧ W.heap[w.heap.size]? = some (.deferred (some []))) V hbV
      (fun k A C hA hb => ⟨hI k A C none hA.1 (belowG hb) (fun r e => by cases e), (hb.block _ (Array.getElem?_eq_some_iff.1 hA.2.1).1).trans hA.2.1, (hb.block _ (Array.getElem?_eq_some_iff.1 hA.2.2).1).trans hA.2.2⟩)
      (fun k A hA => hRD k A hA.1) ?_ ⟨hIV, hlV, hdV⟩).mono ?_
    · rintro k A ⟨hi, hl, hd⟩ hkN
      have hlt : w.heap.size + 1 < A.heap.size := (Array.getElem?_eq_some_iff.1 hl).1
      have hy := run_yield (P := P) (args := encs k) hl (by rw [hrc]; exact hps k)
      rw [hrc] at hy
      have hp := run_beginRound (P := P) hl (by rw [hrc])
      refine ⟨fn, _, assign, body, hy, roundIn_of_wpIn hfn (hassign _ k A _ ⟨_, hp, ?_⟩)⟩
      have hl2 : (A.putObj (w.heap.size + 1) (.loop { rc .ready none with state := .busy })).heap[w.heap.size + 1]? = some (.loop { rc .ready none with state := .busy }) := World.putObj_heap_same hlt
      have hd2 : (A.putObj (w.heap.size + 1) (.loop { rc .ready none with state := .busy })).heap[w.heap.size]? = some (.deferred (some [])) := (World.putObj_heap_other (by omega)).trans hd
      refine wpIn_mono (hbody _ k _ (hI.putObj _ hi (by omega) hl rfl) hkN) ?_
      have fin : ∀ (jump : Option Code) (W3 : World), KeepsFrom w.heap.size (A.putObj (w.heap.size + 1) (.loop { rc .ready none with state := .busy })) W3 →
          (Instr.endRound (w.heap.size + 1) jump).run P W3 = .ok (.bool jump.isNone) (W3.putObj (w.heap.size + 1) (.loop (rc (if jump.isNone then .ready else .done) jump))) ∧
          W3.heap[w.heap.size + 1]? = some (.loop { rc .ready none with state := .busy }) ∧
          (W3.putObj (w.heap.size + 1) (.loop (rc (if jump.isNone then .ready else .done) jump))).heap[w.heap.size + 1]? = some (.loop (rc (if jump.isNone then .ready else .done) jump)) ∧
          (W3.putObj (w.heap.size + 1) (.loop (rc (if jump.isNone then .ready else .done) jump))).heap[w.heap.size]? = some (.deferred (some [])) := fun jump W3 hk3 => by
        have hl3 := hk3.same _ _ (by omega) hl2 rfl
        have := run_endRound (P := P) jump hl3
        rw [hrc] at this ⊢
        exact ⟨this, by rw [hrc] at hl3; exact hl3, World.putObj_heap_same (Array.getElem?_eq_some_iff.1 hl3).1, (World.putObj_heap_other (by omega)).trans (hk3.same _ _ (Nat.le_refl _) hd2 rfl)⟩
      intro e a3 A3 hp3
      cases e with
      | normal =>
        obtain ⟨hk3, hi3⟩ := hp3
        obtain ⟨hr, hl3, hl4, hk4⟩ := fin none A3 hk3
        exact ⟨_, _, hr, .inl ⟨rfl, hI.putObj _ hi3 (by omega) hl3 rfl, hl4, hk4⟩⟩
      | ret =>
        obtain ⟨hk3, hi3⟩ := hp3
        obtain ⟨hr, hl3, hl4, hk4⟩ := fin (some .ret) A3 hk3
        exact ⟨_, _, hr, .inr ⟨rfl, hIx.putObj _ hi3 (by omega) hl3 rfl, hl4, hk4⟩⟩
      | exit id => exact hp3.elim
      | goto t => exact hp3.elim
      | panic ch => exact hp3.elim
      | outgrown => exact hp3.elim
    · rintro e C ⟨⟨v, rfl⟩, (⟨hi, hl, hd⟩ | ⟨k, hk, hi, hl, hd⟩)⟩
      · exact ⟨none, _, by have := run_endLoop (P := P) hl (by rw [hrc]; simp); rw [hrc] at this; exact this, hdone _ _ (Nat.le_refl _) (hI.putObj _ hi (by omega) hl rfl) ((World.putObj_heap_other (by omega)).trans hd)⟩
      · exact ⟨some .ret, _, by have := run_endLoop (P := P) hl (by rw [hrc]; simp); rw [hrc] at this; exact this, hstop _ k _ (Nat.le_refl _) hk (hIx.putObj _ hi (by omega) hl rfl) ((World.putObj_heap_other (by omega)).trans hd)⟩
end
end Go.Proofs.YtngkbcaflkinhaaDoor
namespace Go.Proofs.YtngkbcaflkinhaaDoor
open Go.RowKit Go.Shelf

section
variable {F : Fence} {n : Nat} {P : Program}
/-- The closure tells N things, in order, as long as the rounds keep what it reads, and the blocks that it makes. -/
def TellsX (F : Fence) (n : Nat) (P : Program) (gf : Nat) (lb : Array Value) (encs : Nat → Array Value) (N : Nat) (RD : Nat → World → Prop) (w : World) : Prop :=
  ∀ (l : Nat) (J : List (Nat × Obj) → Nat → World → Prop) (W : World), Below w.heap.size w W → (∀ X k A C, J X k A → Below A.heap.size A C → J X k C) →
    (∀ X k A o, J X k A → o.isCells = true → J ((A.heap.size, o) :: X) k (A.alloc o)) → (∀ X k A b o, J X k A → (b, o) ∈ X → A.heap[b]? = some o) → (∀ X k A, J X k A → RD k A) →
    (∀ X k A, J X k A → k < N → YieldAt F (n - 1) P l (encs k) A fun e C => e = .returned (.bool true) ∧ J X (k + 1) C) → J [] 0 W →
    CallsIn F n P gf (#[.func (.yield l) #[] #[]] ++ lb) W fun e C => (∃ v, e = .returned v) ∧ ∃ X, J X N C
/-- How a round may be left. -/
def stayX (B : Nat) (I : Nat → World → Prop) (k : Nat) (W : World) : Exit → Act → World → Prop
  | .normal, _, W' => KeepsFrom B W W' ∧ I (k + 1) W'
  | _, _, _ => False
theorem wpIn_range_ox {g : Operand} {ps : Array Tmp} {assign body : Code} {Q : Exit → Act → World → Prop} {a : Act} {w : World} (hro : F.round = none) (h1 : 1 ≤ n)
    {gf : Nat} {lb : Array Value} (hg : a.eval g = .func (.func gf) #[] lb) (hFg : F.fn gf) (eg : ∀ args w, (callFunc gf args).run P w = .ok (.enter gf args) w)
    {encs : Nat → Array Value} (hps : ∀ k, (encs k).size = ps.size) {N : Nat} {RD : Nat → World → Prop} (hseq : TellsX F (n - 1) P gf lb encs N RD w)
    (I : List (Nat × Obj) → Nat → World → Prop) (hI : ∀ X, OwnFrom w.heap.size (I X)) (hadd : ∀ X k A o, I X k A → o.isCells = true → w.heap.size ≤ A.heap.size → I ((A.heap.size, o) :: X) k (A.alloc o))
    (hread : ∀ X k A b o, I X k A → (b, o) ∈ X → A.heap[b]? = some o) (hRD : ∀ X k A, I X k A → RD k A) (h0 : I [] 0 w) (a₁ : Nat → Act)
    (hassign : ∀ (l k : Nat) (W : World) (K : Act → World → Prop), K (a₁ k) W →
      assign.wpIn (F.inRound l) (n - 1 - 1) P (Exit.then K (fun _ _ _ => False)) { tmps := (ps.zip (encs k)).foldl (fun t (p, v) => t.setIfInBounds p v) a.tmps, defers := [] } W)
    (hbody : ∀ (l : Nat) (X : List (Nat × Obj)) (k : Nat) (W : World), I X k W → k < N → w.heap.size ≤ W.heap.size → body.wpIn (F.inRound l) (n - 1 - 1) P (stayX w.heap.size (I X) k W) (a₁ k) W)
    (hdone : ∀ (D : Nat) (X : List (Nat × Obj)) (W : World), w.heap.size ≤ D → I X N W → W.heap[D]? = some (.deferred (some [])) → Q .normal { a with defers := { target := .collected D, args := #[] } :: a.defers } W) :
    (Code.rangeFunc g ps assign body).wpIn F n P Q a w := by
  refine wpIn_rangeFunc fun fn hfn => ?_
  rw [hro]
  obtain ⟨rc, hrc⟩ : ∃ rc : LoopState → Option Code → Loop, rc = fun st pe => { state := st, pending := pe, fn, tmps := a.tmps, params := ps, assign, body, defers := w.heap.size } := ⟨_, rfl⟩
  obtain ⟨V, hV⟩ : ∃ V, V = (w.alloc (.deferred (some []))).alloc (.loop (rc .ready none)) := ⟨_, rfl⟩
  have hbV : Below w.heap.size w V := by rw [hV]; exact ((Below.refl _ _).alloc (Nat.le_refl _) _).alloc (by simp) _
  have hlV : V.heap[w.heap.size + 1]? = some (.loop (rc .ready none)) := by
    have h := World.alloc_heap_new (w.alloc (.deferred (some []))) (.loop (rc .ready none))
    rw [World.size_alloc] at h
    rw [hV]; exact h
  have hdV : V.heap[w.heap.size]? = some (.deferred (some [])) := by
    rw [hV]; exact (Below.heap_alloc _ _ _ (by simp)).trans (World.alloc_heap_new w _)
  have hIV : I [] 0 V := hI [] 0 w V none h0 (belowG hbV) (fun r e => by cases e)
  refine ⟨w.heap.size + 1, [{ target := .collected w.heap.size, args := #[] }], V, { target := .fn (.func gf) lb, args := #[.func (.yield (w.heap.size + 1)) #[] #[]] }, V, gf,
    #[.func (.yield (w.heap.size + 1)) #[] #[]] ++ lb, V, ?_, ?_, ?_, ?_, fun _ => h1, ?_⟩
  · rw [hV, hrc]; exact run_enterLoop_outer _ _ _ _ _
  · simp only [resolve, hg]
    simp [go_sem]
  · intro f' hf'; simp [Target.leads] at hf'; subst hf'; exact hFg
  · simp [invoke, go_sem, eg]
  · refine (hseq (w.heap.size + 1) (fun X k W => I X k W ∧ W.heap[w.heap.size + 1]? = some (.loop (rc .ready none)) ∧ W.heap[w.heap.size]? = some (.deferred (some []))) V hbV
      (fun X k A C hA hb => ⟨hI X k A C none hA.1 (belowG hb) (fun r e => by cases e), (hb.block _ (Array.getElem?_eq_some_iff.1 hA.2.1).1).trans hA.2.1, (hb.block _ (Array.getElem?_eq_some_iff.1 hA.2.2).1).trans hA.2.2⟩)
      (fun X k A o hA ho => by
        have hlt := (Array.getElem?_eq_some_iff.1 hA.2.2).1
        have hb : Below A.heap.size A (A.alloc o) := (Below.refl _ _).alloc (Nat.le_refl _) o
        exact ⟨hadd X k A o hA.1 ho (Nat.le_of_lt hlt), (hb.block _ (Array.getElem?_eq_some_iff.1 hA.2.1).1).trans hA.2.1, (hb.block _ hlt).trans hA.2.2⟩)
      (fun X k A b o hA hm => hread X k A b o hA.1 hm)
      (fun X k A hA => hRD X k A hA.1) ?_ ⟨hIV, hlV, hdV⟩).mono ?_
    · rintro X k A ⟨hi, hl, hd⟩ hkN
      have hlt : w.heap.size + 1 < A.heap.size := (Array.getElem?_eq_some_iff.1 hl).1
      have hy := run_yield (P := P) (args := encs k) hl (by rw [hrc]; exact hps k)
      rw [hrc] at hy
      have hp := run_beginRound (P := P) hl (by rw [hrc])
      refine ⟨fn, _, assign, body, hy, roundIn_of_wpIn hfn (hassign _ k A _ ⟨_, hp, ?_⟩)⟩
      have hl2 : (A.putObj (w.heap.size + 1) (.loop { rc .ready none with state := .busy })).heap[w.heap.size + 1]? = some (.loop { rc .ready none with state := .busy }) := World.putObj_heap_same hlt
      have hd2 : (A.putObj (w.heap.size + 1) (.loop { rc .ready none with state := .busy })).heap[w.heap.size]? = some (.deferred (some [])) := (World.putObj_heap_other (by omega)).trans hd
      have hsz : w.heap.size ≤ (A.putObj (w.heap.size + 1) (.loop { rc .ready none with state := .busy })).heap.size := by
        have := (Array.getElem?_eq_some_iff.1 hd2).1; omega
      refine wpIn_mono (hbody _ X k _ ((hI X).putObj _ hi (by omega) hl rfl) hkN hsz) ?_
      intro e a3 A3 hp3
      cases e with
      | normal =>
        obtain ⟨hk3, hi3⟩ := hp3
        have hl3 := hk3.same _ _ (by omega) hl2 rfl
        have := run_endRound (P := P) none hl3
        rw [hrc] at this
        have hl3' : A3.heap[w.heap.size + 1]? = some (.loop { rc .ready none with state := .busy }) := hl3
        rw [hrc] at hl3
        refine ⟨_, _, this, rfl, ?_, ?_, ?_⟩
        · exact (hI X).putObj _ hi3 (by omega) hl3' rfl
        · rw [hrc]; exact World.putObj_heap_same (Array.getElem?_eq_some_iff.1 hl3').1
        · exact (World.putObj_heap_other (by omega)).trans (hk3.same _ _ (Nat.le_refl _) hd2 rfl)
      | ret => exact hp3.elim
      | exit id => exact hp3.elim
      | goto t => exact hp3.elim
      | panic ch => exact hp3.elim
      | outgrown => exact hp3.elim
    · rintro e C ⟨⟨v, rfl⟩, X, hi, hl, hd⟩
      exact ⟨none, _, by have := run_endLoop (P := P) hl (by rw [hrc]; simp); rw [hrc] at this; exact this, hdone _ X _ (Nat.le_refl _) ((hI X).putObj _ hi (by omega) hl rfl) ((World.putObj_heap_other (by omega)).trans hd)⟩
end
/-- The blocks that the closure made lie as they lay. -/
def KX (B : Nat) (X : List (Nat × Obj)) (W : World) : Prop := ∀ p ∈ X, p.2.isCells = true ∧ B ≤ p.1 ∧ W.heap[p.1]? = some p.2
theorem KX.nil (B : Nat) (W : World) : KX B [] W := fun p h => by cases h
theorem KX.lt {B : Nat} {X : List (Nat × Obj)} {W : World} (h : KX B X W) {p : Nat × Obj} (hp : p ∈ X) : p.1 < W.heap.size := (Array.getElem?_eq_some_iff.1 (h p hp).2.2).1
theorem KX.grown {B : Nat} {X : List (Nat × Obj)} {W W' : World} {row : Option Nat} (h : KX B X W) (hg : W.grownBy W' row) (hr : ∀ p ∈ X, row ≠ some p.1) : KX B X W' := fun p hp => ⟨(h p hp).1, (h p hp).2.1, (hg.block _ (h.lt hp) (fun e => hr p hp e.symm)).trans (h p hp).2.2⟩
theorem KX.own {B : Nat} {X : List (Nat × Obj)} {W W' : World} {row : Option Nat} (h : KX B X W) (hg : W.grownBy W' row) (hr : ∀ r, row = some r → B ≤ r ∧ ∃ o : Obj, W.heap[r]? = some o ∧ o.isCells = false) : KX B X W' :=
  h.grown hg (fun p hp e => by
    obtain ⟨_, o, ho, hc⟩ := hr p.1 e
    rw [(h p hp).2.2] at ho
    injection ho with ho
    rw [← ho, (h p hp).1] at hc
    cases hc)
theorem KX.add {B : Nat} {X : List (Nat × Obj)} {W : World} {o : Obj} (h : KX B X W) (ho : o.isCells = true) (hB : B ≤ W.heap.size) : KX B ((W.heap.size, o) :: X) (W.alloc o) := by
  intro p hp
  rcases List.mem_cons.1 hp with rfl | hp
  · exact ⟨ho, hB, World.alloc_heap_new W o⟩
  · exact ⟨(h p hp).1, (h p hp).2.1, (((Below.refl _ _).alloc (Nat.le_refl _) o).block _ (h.lt hp)).trans (h p hp).2.2⟩
end Go.Proofs.YtngkbcaflkinhaaDoor
namespace Go.Proofs.YtngkbcaflkinhaaDoor
open Go.RowKit

def noDefer (o : Oper) : Bool := match o.op with
  | .defer _ => false
  | _ => true
theorem noDefer_ne {o : Oper} (h : noDefer o = true) : ∀ c, o.op ≠ .defer c := by
  intro c e
  unfold noDefer at h
  rw [e] at h
  cases h
section
variable {F : Fence} {n : Nat} {P : Program} {md : Region.Mode} {ops : Array Oper} {Q : Exit → Act → World → Prop}
theorem uponIn_round {l : Nat} (o : Oper) (a : Act) (K : Act → World → Prop) (r : Result Next) (h : o.uponIn F n P a K Q r) : o.uponIn (F.inRound l) n P a K Q r := by
  cases r with
  | ok x w' => cases x <;> exact h
  | halt x w' => cases x <;> exact h
theorem wpOpIn_round {l : Nat} (hd : ops.toList.all noDefer = true) {i : Nat} {K K' : Act → World → Prop} (hK : ∀ a w, K a w → K' a w) {a : Act} {w : World} (h : wpOpIn F n P ops Q i K a w) : wpOpIn (F.inRound l) n P ops Q i K' a w := by
  have h := wpOpIn_mono hK h
  unfold wpOpIn at h ⊢
  cases hi : ops[i]? with
  | none => rw [hi] at h; exact h
  | some o =>
    rw [hi] at h
    have hn := noDefer_ne (List.all_eq_true.1 hd o (by rw [Array.getElem?_eq_some_iff] at hi; obtain ⟨hl, rfl⟩ := hi; exact Array.getElem_mem_toList hl))
    simp only at h ⊢
    split
    · rename_i hw
      rw [if_pos hw] at h
      unfold Oper.wpIn at h ⊢
      refine ⟨h.1, ?_⟩
      have h2 := h.2
      rw [Fence.inRound_round, Oper.semAt_eq _ _ _ hn]
      rw [Oper.semAt_eq _ _ _ hn] at h2
      exact uponIn_round o a K' _ h2
    · rename_i hw
      rw [if_neg hw] at h
      exact h
theorem wpAnyIn_round {l : Nat} (hd : ops.toList.all noDefer = true) : ∀ (fuel : Nat) (listed : Array Bool) (a : Act) (w : World), wpAnyIn F n P md ops Q fuel listed a w → wpAnyIn (F.inRound l) n P md ops Q fuel listed a w
  | 0, _, _, _, h => h
  | fuel + 1, listed, _, _, h => ⟨h.1, fun i hi => wpOpIn_round hd (fun a w => wpAnyIn_round hd fuel (listed.setIfInBounds i true) a w) (h.2 i hi)⟩
end
end Go.Proofs.YtngkbcaflkinhaaDoor
namespace Go.Proofs.YtngkbcaflkinhaaDoor
open Go.RowKit

theorem quietUponIn_wide {n : Nat} {P : Program} {C : World → Prop} {w : World} {v : Value} {r : Result Next} (h : Oper.quietUpon P C w v r) : Oper.quietUponIn Fence.wide n P C w v r := by
  cases r with
  | ok x w' =>
    cases x with
    | enter f args => exact ⟨h.1, fun hd => by simp [Fence.wide] at hd, callsIn_wide.2 h.2⟩
    | _ => exact h
  | halt x w' => exact h
theorem quietIn_wide {n : Nat} {P : Program} {C : World → Prop} {o : Oper} {a : Act} {K K' : Act → Prop} (hK : ∀ a, K a → K' a) (h : o.quiet P a C K) : o.quietIn Fence.wide n P a C K' :=
  let ⟨v, h1, h2⟩ := h
  ⟨v, fun w hw => quietUponIn_wide (h1 w hw), hK _ h2⟩
theorem wpQuietIn_wide {n : Nat} {P : Program} {ops : Array Oper} {C : World → Prop} {Q : Act → Prop} : ∀ (l : List Oper) (a : Act), wpQuiet P ops C Q l a → wpQuietIn Fence.wide n P ops C Q l a
  | [], _, h => h
  | o :: rest, a, h => by
    refine ⟨fun _ _ _ _ => trivial, ?_⟩
    unfold wpQuiet at h
    split
    · rename_i hw; rw [if_pos hw] at h; exact quietIn_wide (fun a => wpQuietIn_wide rest a) h
    · rename_i hw; rw [if_neg hw] at h; exact wpQuietIn_wide rest _ h
theorem wpIn_region_wk_round {P : Program} {id n l : Nat} {Q : Exit → Act → World → Prop} {a : Act} {w : World} {os : List Oper} (C : World → Prop) (hd : os.toArray.toList.all noDefer = true) (hm : P.follows .mixedOrders = true) (hB : Region.lexB .any os.toArray = true) (h0 : C w.drew)
    (h : wpQuiet P os.toArray (fun w' => ∃ p : Wk C, w' = p.W) (fun a' => ∀ p : Wk C, Q .normal a' p.W) os a) : (Code.region id os.toArray true).wpIn (Fence.wide.inRound l) n P Q a w := by
  simp only [Region.lexB, Bool.and_eq_true] at hB
  refine wpIn_region_any hm (wpAnyIn_round (F := Fence.wide) hd _ _ _ _ ?_)
  refine wpAnyIn_of_quiet (C := fun w' => ∃ p : Wk C, w' = p.W) (Q := fun a' => ∀ p : Wk C, Q .normal a' p.W) rfl (fun a' w' hw' hq => by obtain ⟨p, rfl⟩ := hw'; exact hq p) _ _ _ _ ⟨⟨_, h0⟩, rfl⟩ ?_
  have := wpAnyQIn_lex (F := Fence.wide) (n := n) (C := fun w' => ∃ p : Wk C, w' = p.W) (md := .any) hB.1 os.toArray.toList 0 (Array.replicate os.toArray.size false) a (by simp) (by simpa using hB.2) (wpQuietIn_wide _ _ (by simpa using h))
  simpa using this
end Go.Proofs.YtngkbcaflkinhaaDoor
namespace Go.Proofs.YtngkbcaflkinhaaDoor
open Go.RowKit

theorem wpIn_region_wk {P : Program} {id n : Nat} {Q : Exit → Act → World → Prop} {a : Act} {w : World} {os : List Oper} (C : World → Prop) (hm : P.follows .mixedOrders = true) (hB : Region.lexB .any os.toArray = true) (h0 : C w.drew)
    (h : wpQuiet P os.toArray (fun w' => ∃ p : Wk C, w' = p.W) (fun a' => ∀ p : Wk C, Q .normal a' p.W) os a) : (Code.region id os.toArray true).wpIn Fence.wide n P Q a w := by
  simp only [Region.lexB, Bool.and_eq_true] at hB
  refine wpIn_region_any hm ?_
  refine wpAnyIn_of_quiet (C := fun w' => ∃ p : Wk C, w' = p.W) (Q := fun a' => ∀ p : Wk C, Q .normal a' p.W) rfl (fun a' w' hw' hq => by obtain ⟨p, rfl⟩ := hw'; exact hq p) _ _ _ _ ⟨⟨_, h0⟩, rfl⟩ ?_
  have := wpAnyQIn_lex (F := Fence.wide) (n := n) (C := fun w' => ∃ p : Wk C, w' = p.W) (md := .any) hB.1 os.toArray.toList 0 (Array.replicate os.toArray.size false) a (by simp) (by simpa using hB.2) (wpQuietIn_wide _ _ (by simpa using h))
  simpa using this
end Go.Proofs.YtngkbcaflkinhaaDoor
namespace Go.Proofs.YtngkbcaflkinhaaDoor
open Go.RowKit

/-- The clusters below n that are so. -/
def frI (b : Bool) (Q : List Bool) (n : Nat) : List Nat := (List.range n).filter (fun i => Q.getD i false == b)
def fr (b : Bool) (Q : List Bool) : List Nat := frI b Q Q.length
theorem frI_zero (b : Bool) (Q : List Bool) : frI b Q 0 = [] := rfl
theorem frI_yes {b : Bool} {Q : List Bool} {n : Nat} (h : Q.getD n false = b) : frI b Q (n + 1) = frI b Q n ++ [n] := by
  unfold frI; rw [List.range_succ, List.filter_append, List.filter_cons_of_pos (by rw [h]; exact beq_self_eq_true b)]; rfl
theorem frI_no {b : Bool} {Q : List Bool} {n : Nat} (h : Q.getD n false ≠ b) : frI b Q (n + 1) = frI b Q n := by
  unfold frI; rw [List.range_succ, List.filter_append]
  rw [List.filter_cons_of_neg (by rw [beq_iff_eq]; exact h), List.filter_nil, List.append_nil]
theorem frI_mem {b : Bool} {Q : List Bool} {n i : Nat} : i ∈ frI b Q n ↔ i < n ∧ Q.getD i false = b := by
  unfold frI; rw [List.mem_filter, List.mem_range]; simp
theorem frI_len (b : Bool) (Q : List Bool) (n : Nat) : (frI b Q n).length ≤ n := by
  unfold frI; have := List.length_filter_le (fun i => Q.getD i false == b) (List.range n); rw [List.length_range] at this; exact this
theorem frI_pre {b : Bool} {Q : List Bool} {i : Nat} : ∀ n, i ≤ n → ∃ r, frI b Q n = frI b Q i ++ r
  | 0, h => by obtain rfl : i = 0 := by omega
               exact ⟨[], by simp⟩
  | n + 1, h => by
    by_cases e : i = n + 1
    · exact ⟨[], by rw [e]; simp⟩
    · obtain ⟨r, hr⟩ := frI_pre (b := b) (Q := Q) (i := i) n (by omega)
      by_cases g : Q.getD n false = b
      · exact ⟨r ++ [n], by rw [frI_yes g, hr, List.append_assoc]⟩
      · exact ⟨r, by rw [frI_no g, hr]⟩
theorem frI_at {b : Bool} {Q : List Bool} {i n : Nat} (h : i < n) (g : Q.getD i false = b) : (frI b Q i).length < (frI b Q n).length ∧ (frI b Q n).getD (frI b Q i).length 0 = i ∧ (frI b Q n).take ((frI b Q i).length + 1) = frI b Q i ++ [i] := by
  obtain ⟨r, hr⟩ := frI_pre (b := b) (Q := Q) (i := i + 1) n (by omega)
  rw [frI_yes g] at hr
  rw [hr]
  refine ⟨by simp, ?_, ?_⟩
  · simp [List.getD]
  · rw [List.take_append_of_le_length (by simp), List.take_of_length_le (by simp)]
theorem frI_take {b : Bool} {Q : List Bool} {i n : Nat} (h : i ≤ n) : (frI b Q n).take (frI b Q i).length = frI b Q i := by
  obtain ⟨r, hr⟩ := frI_pre (b := b) (Q := Q) n h
  rw [hr]; simp
theorem frI_pw (b : Bool) (Q : List Bool) (n : Nat) : (frI b Q n).Pairwise (· < ·) := (List.pairwise_lt_range).filter _
theorem frI_nodup (b : Bool) (Q : List Bool) (n : Nat) : (frI b Q n).Nodup := (frI_pw b Q n).imp (fun h => Nat.ne_of_lt h)
end Go.Proofs.YtngkbcaflkinhaaDoor
