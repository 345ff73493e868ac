/- Charts: the document's own Swap. -/
import Derived.Test.YtngkbcaflkinhaaDoorChuA
namespace Go.Proofs.YtngkbcaflkinhaaDoor
open Go.RowKit

def swap1 (was is : EN) (x : EN) : EN := if x = was ∧ fullB x = true then is else x
def swapQ (was : EN) (x : EN) : Bool := decide (x = was ∧ fullB x = true)
def swapL (was is : EN) (L : List EN) : List EN := L.map (swap1 was is)
def swapC (e : Int) (c : CH) (was is : EN) : CH := if okB e c = true then (if EOk is then ⟨c.blocks, ofM e.toNat (swapL was is (flatM e.toNat c.blocks.toNat c.tabs))⟩ else c) else CH.zero
def swapN (e : Int) (c : CH) (was is : EN) : Nat := if okB e c = true ∧ EOk is then (flatM e.toNat c.blocks.toNat c.tabs).countP (swapQ was) else 0
def swapE (e : Int) (c : CH) (is : EN) : Int := if okB e c = true ∧ EOk is then 0 else 2
/-- A chart's box, two entries', and a result's place. -/
structure SW (w W : World) (B : Int) (v : Value) (x y : EN) : Prop where
  bl : Below w.heap.size w W
  c : B2 W w.heap.size (.int .i64 B) v
  e : EBox W (w.heap.size + 1) x
  f : EBox W (w.heap.size + 2) y
  r : B2 W (w.heap.size + 3) (.int .i64 0) (.slice none 0 0)
theorem SW.ap {S : Nat → Prop} {w W W' : World} {B : Int} {v : Value} {x y : EN} (k : SW w W B v x y) (a : Ap S W W') (hS : ∀ q, S q → w.heap.size + 3 < q) : SW w W' B v x y :=
  ⟨k.bl.trans (a.below k.bl.size (fun q e => by have := hS q e; omega)), k.c.ap a (fun e => by have := hS _ e; omega), Bx.ap k.e a (fun e => by have := hS _ e; omega), Bx.ap k.f a (fun e => by have := hS _ e; omega), k.r.ap a (fun e => by have := hS _ e; omega)⟩
theorem SW.below {w W W' : World} {B : Int} {v : Value} {x y : EN} (k : SW w W B v x y) (hb : Below W.heap.size W W') : SW w W' B v x y := k.ap (Ap.of_below (S := fun _ => False) hb) (fun _ h => h.elim)
theorem SW.new (w : World) (B : Int) (v : Value) (x y : EN) : SW w ((((w.alloc (.cells #[.int .i64 B, v] 27)).alloc (.cells #[.int .u8 x.kind, .int .i64 x.st, .int .i64 x.mb, .int .i64 x.fr] 38)).alloc (.cells #[.int .u8 y.kind, .int .i64 y.st, .int .i64 y.mb, .int .i64 y.fr] 38)).alloc (.cells #[.int .i64 0, .slice none 0 0] 27)) B v x y := by
  generalize ha : w.alloc (.cells #[.int .i64 B, v] 27) = wa
  have sa : wa.heap.size = w.heap.size + 1 := by rw [← ha]; simp
  have h0 : B2 wa w.heap.size (.int .i64 B) v := by rw [← ha]; exact B2.new w _ _ _
  have hba : Below w.heap.size w wa := by rw [← ha]; exact below1 _ _
  have h1 := EBox.new wa x.kind x.st x.mb x.fr 38
  generalize hb : wa.alloc (.cells #[.int .u8 x.kind, .int .i64 x.st, .int .i64 x.mb, .int .i64 x.fr] 38) = wb at h1
  have sb : wb.heap.size = w.heap.size + 2 := by rw [← hb]; simp [sa]
  have hbb : Below wa.heap.size wa wb := by rw [← hb]; exact below1 _ _
  have h2 := EBox.new wb y.kind y.st y.mb y.fr 38
  generalize hc : wb.alloc (.cells #[.int .u8 y.kind, .int .i64 y.st, .int .i64 y.mb, .int .i64 y.fr] 38) = wc at h2
  have sc : wc.heap.size = w.heap.size + 3 := by rw [← hc]; simp [sb]
  have hbc : Below wb.heap.size wb wc := by rw [← hc]; exact below1 _ _
  have h3 := B2.new wc (.int .i64 0) (.slice none 0 0) 27
  have hbd : Below wc.heap.size wc (wc.alloc (.cells #[.int .i64 0, .slice none 0 0] 27)) := below1 _ _
  rw [sa] at h1
  rw [sb] at h2
  rw [sc] at h3
  exact ⟨((hba.trans (hbb.mono (by omega))).trans (hbc.mono (by omega))).trans (hbd.mono (by omega)), ((h0.below hbb).below hbc).below hbd, (EBox.below h1 hbc).below hbd, EBox.below h2 hbd, h3⟩
theorem SW.ends {w W : World} {B : Int} {v : Value} {x y : EN} (k : SW w W B v x y) (u0 u1 : Value) : Below w.heap.size w ((W.setCell ⟨w.heap.size + 3, 0, none⟩ u0).setCell ⟨w.heap.size + 3, 1, none⟩ u1) ∧ ((W.setCell ⟨w.heap.size + 3, 0, none⟩ u0).setCell ⟨w.heap.size + 3, 1, none⟩ u1).cell? ⟨w.heap.size + 3, 0, none⟩ = some u0 ∧ ((W.setCell ⟨w.heap.size + 3, 0, none⟩ u0).setCell ⟨w.heap.size + 3, 1, none⟩ u1).cell? ⟨w.heap.size + 3, 1, none⟩ = some u1 := by
  refine ⟨(k.bl.setCell (p := ⟨_, 0, none⟩) (by show _ ≤ w.heap.size + 3; omega) _).setCell (p := ⟨_, 1, none⟩) (by show _ ≤ w.heap.size + 3; omega) _, ?_, ?_⟩
  · exact (cell_putne _ _ _ _ _ (by omega)).trans (cell_put k.r.c0 _)
  · exact cell_put ((cell_putne _ _ _ _ _ (by omega)).trans k.r.c1) _
/-- Under way: those ahead of i are turned. -/
def halfW (was is : EN) (L : List EN) (i : Nat) : List EN := swapL was is (L.take i) ++ L.drop i
theorem halfW_len (was is : EN) (L : List EN) {i : Nat} (h : i ≤ L.length) : (halfW was is L i).length = L.length := by unfold halfW swapL; rw [List.length_append, List.length_map, List.length_take, List.length_drop]; omega
theorem halfW_at (was is : EN) (L : List EN) {i : Nat} (h : i < L.length) : (halfW was is L i).getD i EN.zero = L.getD i EN.zero := by
  unfold halfW swapL
  have hl : ((L.take i).map (swap1 was is)).length = i := by rw [List.length_map, List.length_take]; omega
  rw [List.getD, List.getElem?_append_right (by omega), hl, Nat.sub_self, List.getElem?_drop, Nat.add_zero]; rfl
theorem halfW_next (was is : EN) (L : List EN) {i : Nat} (h : i < L.length) : (halfW was is L i).set i (swap1 was is (L.getD i EN.zero)) = halfW was is L (i + 1) := by
  unfold halfW swapL
  have hl : ((L.take i).map (swap1 was is)).length = i := by rw [List.length_map, List.length_take]; omega
  rw [List.set_append_right _ _ (by omega), hl, Nat.sub_self, List.drop_eq_getElem_cons h, take_snocE h, List.map_append, List.append_assoc]
  congr 1
theorem halfW_stay (was is : EN) (L : List EN) {i : Nat} (h : i < L.length) (hs : swap1 was is (L.getD i EN.zero) = L.getD i EN.zero) : halfW was is L i = halfW was is L (i + 1) := by
  rw [← halfW_next was is L h, hs]
  refine same_all (by rw [List.length_set]) (fun j hj => ?_)
  rw [getD_setE _ _ _ _ (by rw [halfW_len _ _ _ (by omega)]; exact h)]
  by_cases e : j = i
  · rw [if_pos e, e, halfW_at _ _ _ h]
  · rw [if_neg e]
theorem cnt_next (was : EN) (L : List EN) {i : Nat} (h : i < L.length) : (L.take (i + 1)).countP (swapQ was) = (L.take i).countP (swapQ was) + (if swapQ was (L.getD i EN.zero) = true then 1 else 0) := by
  rw [take_snocE h, List.countP_append, List.countP_cons, List.countP_nil]; simp
end Go.Proofs.YtngkbcaflkinhaaDoor

