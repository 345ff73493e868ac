/- Charts: Resize where it changes: the walk. -/
import Derived.Test.YthhbaccbhfngbaaMb14
import Derived.Test.YthhbaccbhfngbaaMb13
import Derived.RangeFuncBox
import Derived.OwnWalkIn
namespace Go.Proofs.Ythhbaccbhfngbaa
open Go.RowKit Go.Shelf
attribute [local go_sem] Oper.semAt_some

/-- The boxes of Resize. -/
structure RB (w W : World) (BN : Int) (v : Value) (nb : Int) : Prop where
  bl : Below w.heap.size w W
  c : B2 W w.heap.size (.int .i64 BN) v
  i : W.cell? ⟨w.heap.size + 1, 0, none⟩ = some (.int .i64 nb)
  r : B2 W (w.heap.size + 2) (.int .i64 0) (.slice none 0 0)
theorem RB.ap {S : Nat → Prop} {w W W' : World} {BN nb : Int} {v : Value} (k : RB w W BN v nb) (a : Ap S W W') (hS : ∀ q, S q → w.heap.size + 2 < q) : RB w W' BN v nb := by
  have hr := k.r.lt
  exact ⟨k.bl.trans (a.below k.bl.size (fun q e => by have := hS q e; omega)), k.c.ap a (fun e => by have := hS _ e; omega), (a.cell (by omega) (fun e => by have := hS _ e; omega) _).trans k.i, k.r.ap a (fun e => by have := hS _ e; omega)⟩
theorem RB.below {w W W' : World} {BN nb : Int} {v : Value} (k : RB w W BN v nb) (h : Below W.heap.size W W') : RB w W' BN v nb := k.ap (S := fun _ => False) (Ap.of_below h) (fun _ h => h.elim)
theorem RB.new (w : World) (BN : Int) (v : Value) (nb : Int) : RB w (((w.alloc (.cells #[.int .i64 BN, v] 44)).alloc (.cells #[.int .i64 nb] 3)).alloc (.cells #[.int .i64 0, .slice none 0 0] 44)) BN v nb := by
  generalize ha : w.alloc (.cells #[.int .i64 BN, v] 44) = wa
  have sa : wa.heap.size = w.heap.size + 1 := by rw [← ha]; simp
  have h0 : B2 wa w.heap.size (.int .i64 BN) v := by rw [← ha]; exact B2.new w _ _ _
  have hba : Below w.heap.size w wa := by rw [← ha]; exact below1 _ _
  generalize hb : wa.alloc (.cells #[.int .i64 nb] 3) = wb
  have sb : wb.heap.size = w.heap.size + 2 := by rw [← hb]; simp [sa]
  have hbb : Below wa.heap.size wa wb := by rw [← hb]; exact below1 _ _
  have h1 : wb.cell? ⟨wa.heap.size, 0, none⟩ = some (.int .i64 nb) := by rw [← hb]; exact (cell_of_row _ _ 0 #[.int .i64 nb] _ (0, 0) (heap_alloc_new wa _)).trans rfl
  have h2 := B2.new wb (.int .i64 0) (.slice none 0 0) 44
  have hbc : Below wb.heap.size wb (wb.alloc (.cells #[.int .i64 0, .slice none 0 0] 44)) := below1 _ _
  rw [sa] at h1
  rw [sb] at h2
  exact ⟨(hba.trans (hbb.mono (by omega))).trans (hbc.mono (by omega)), (h0.below hbb).below hbc, (hbc.cell (p := ⟨w.heap.size + 1, 0, none⟩) (by show w.heap.size + 1 < _; omega)).trans h1, h2⟩
theorem RI.start {w w4 : World} {E b9 : Nat} {BN : Int} {T : List TB} {A2 : Option Addr} {cap2 Bp : Nat} {P0 : List PT} {F : TB → Nat → EN → EN} (h1 : Below w.heap.size w w4) (h2 : B2 w4 b9 (.int .i64 BN) (.slice A2 T.length cap2)) (h3 : PW w4 Bp b9 E (.slice A2 T.length cap2) P0) (hm : P0.map Prod.fst = T) (hl : ∀ j, j < T.length → (T.getD j TB.zero).l.length = E) (hw : w.heap.size ≤ Bp) :
    RI w ((w4.alloc (.cells #[.int .i64 (E : Int)] 3)).alloc (.cells #[.int .i64 BN, .slice A2 T.length cap2] 44)) (w4.heap.size + 2) E BN T b9 A2 cap2 Bp b9 (w4.heap.size + 1) w4.heap.size P0 F 0 P0 := by
  have hlt := h2.lt
  generalize ha : w4.alloc (.cells #[.int .i64 (E : Int)] 3) = wa
  have sa : wa.heap.size = w4.heap.size + 1 := by rw [← ha]; simp
  have hba : Below w4.heap.size w4 wa := by rw [← ha]; exact below1 _ _
  have h4 : wa.cell? ⟨w4.heap.size, 0, none⟩ = some (.int .i64 (E : Int)) := by rw [← ha]; exact (cell_of_row _ _ 0 #[.int .i64 (E : Int)] _ (0, 0) (heap_alloc_new w4 _)).trans rfl
  have h5 := B2.new wa (.int .i64 BN) (.slice A2 T.length cap2) 44
  have hbb := below1 wa (.cells #[.int .i64 BN, .slice A2 T.length cap2] 44)
  have sb : (wa.alloc (.cells #[.int .i64 BN, .slice A2 T.length cap2] 44)).heap.size = w4.heap.size + 2 := by simp [sa]
  rw [sa] at h5
  have hs := h1.size
  exact ⟨(h1.trans (hba.mono hs)).trans (hbb.mono (by omega)), (h2.below hba).below hbb, (h3.below hba).below hbb, Mid.start hm hl, h5, (hbb.cell (p := ⟨w4.heap.size, 0, none⟩) (by show w4.heap.size < _; omega)).trans h4, by omega, by omega, hw, by omega, by omega⟩
theorem keeps_ap {S : Nat → Prop} {B : Nat} {W W' : World} (h : Ap S W W') (hS : ∀ q, S q → q < B) : KeepsFrom B W W' :=
  ⟨h.size, fun k o hk ho _ => (h.block k (Array.getElem?_eq_some_iff.1 ho).1 (fun g => by have := hS k g; omega)).trans ho⟩
theorem KX.ap {S : Nat → Prop} {B : Nat} {X : List (Nat × Obj)} {W W' : World} (h : KX B X W) (a : Ap S W W') (hS : ∀ q, S q → q < B) : KX B X W' := fun p hp => ⟨(h p hp).1, (h p hp).2.1, (a.block _ (h.lt hp) (fun e => by have := hS _ e; have := (h p hp).2.1; omega)).trans (h p hp).2.2⟩
theorem own_cap {W : World} {B n cap s : Nat} {e : TypeId} {A : Option Addr} {xs : List Value} (h : W.ownsRow B e s (.slice A n cap) n xs) : n ≤ cap ∧ cap ≤ maxLen := by
  rcases h.2 with ⟨h, h0⟩ | ⟨g, cap', cur, h, _, _, h1, h2, _⟩
  · injection h with _ e1 e2; exact ⟨by omega, by rw [e2]; exact Nat.zero_le _⟩
  · injection h with _ e1 e2; subst e2; exact ⟨h1, h2⟩
theorem cut_hole {E BN NB : Nat} {T : List TB} (hOK : COk E BN T) : ∀ j', j' < T.length → ∀ i', i' < E → fullB ((T.getD j' TB.zero).l.getD i' EN.zero) = false → cutF E NB (T.getD j' TB.zero) i' ((T.getD j' TB.zero).l.getD i' EN.zero) = (T.getD j' TB.zero).l.getD i' EN.zero := fun j' hj' i' hi' hf => by
  obtain ⟨_, _, _, hc⟩ := hOK.half.each _ (getD_memT hj')
  have := eok_hole (hc i' hi').1 hf
  unfold cutF
  rw [this]; split <;> rfl
end Go.Proofs.Ythhbaccbhfngbaa

