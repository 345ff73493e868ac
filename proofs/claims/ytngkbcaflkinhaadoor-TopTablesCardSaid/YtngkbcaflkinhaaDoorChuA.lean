/- Charts: the document's own Set. -/
import Derived.Test.YtngkbcaflkinhaaDoorChtZ
namespace Go.Proofs.YtngkbcaflkinhaaDoor
open Go.RowKit

def setOk (c : CH) (b : Int) (x : EN) : Prop := (0 ≤ b ∧ b < c.blocks) ∧ EOk x
instance (c : CH) (b : Int) (x : EN) : Decidable (setOk c b x) := by unfold setOk; infer_instance
def setL (e : Int) (c : CH) (b : Int) (x : EN) : List EN := (flatM e.toNat c.blocks.toNat c.tabs).set b.toNat x
/-- The map in which x stands, or the map as it was, or none. -/
def setC (e : Int) (c : CH) (b : Int) (x : EN) : CH := if okB e c = true then (if setOk c b x then ⟨c.blocks, ofM e.toNat (setL e c b x)⟩ else c) else CH.zero
def setRE (e : Int) (c : CH) (b : Int) (x : EN) : Int := if okB e c = true then (if 0 ≤ b ∧ b < c.blocks then (if EOk x then 0 else 2) else 1) else 2
theorem TabsS.form {w : World} {v : Value} {T : List TB} (h : TabsS w v T) : ∃ A cap, v = .slice A T.length cap := by obtain ⟨A, cap, h, _⟩ := h; exact ⟨A, cap, h⟩
theorem TabsS.none (w : World) : TabsS w (.slice none 0 0) [] := ⟨Option.none, 0, rfl, Nat.le_refl _, Nat.zero_le _, .inl rfl⟩
/-- A chart's box, an entry's, and a result's place. -/
structure SB (w W : World) (B : Int) (v : Value) (x : EN) : Prop where
  bl : Below w.heap.size w W
  c : B2 W w.heap.size (.int .i64 B) v
  e : EBox W (w.heap.size + 1) x
  r : B2 W (w.heap.size + 2) (.int .i64 0) (.slice none 0 0)
theorem SB.below {w W W' : World} {B : Int} {v : Value} {x : EN} (k : SB w W B v x) (hb : Below W.heap.size W W') : SB w W' B v x := ⟨k.bl.trans (hb.mono k.bl.size), k.c.below hb, k.e.below hb, k.r.below hb⟩
theorem SB.new (w : World) (B : Int) (v : Value) (x : EN) : SB w (((w.alloc (.cells #[.int .i64 B, v] 27)).alloc (.cells #[.int .u8 x.kind, .int .i64 x.st, .int .i64 x.mb, .int .i64 x.fr] 38)).alloc (.cells #[.int .i64 0, .slice none 0 0] 27)) B v x := by
  have h1 := EBox.new (w.alloc (.cells #[.int .i64 B, v] 27)) x.kind x.st x.mb x.fr 38
  have h2 := B2.new ((w.alloc (.cells #[.int .i64 B, v] 27)).alloc (.cells #[.int .u8 x.kind, .int .i64 x.st, .int .i64 x.mb, .int .i64 x.fr] 38)) (.int .i64 0) (.slice none 0 0) 27
  rw [World.size_alloc] at h1 h2
  rw [World.size_alloc] at h2
  exact ⟨((below1 _ _).alloc (by simp) _).alloc (by simp; omega) _, ((B2.new w _ _ _).below (below1 _ _)).below (below1 _ _), h1.below (below1 _ _), h2⟩
/-- The result, stored. -/
theorem SB.ends {w W : World} {B : Int} {v : Value} {x : EN} (k : SB w W B v x) (u0 u1 : Value) : Below w.heap.size w ((W.setCell ⟨w.heap.size + 2, 0, none⟩ u0).setCell ⟨w.heap.size + 2, 1, none⟩ u1) ∧ ((W.setCell ⟨w.heap.size + 2, 0, none⟩ u0).setCell ⟨w.heap.size + 2, 1, none⟩ u1).cell? ⟨w.heap.size + 2, 0, none⟩ = some u0 ∧ ((W.setCell ⟨w.heap.size + 2, 0, none⟩ u0).setCell ⟨w.heap.size + 2, 1, none⟩ u1).cell? ⟨w.heap.size + 2, 1, none⟩ = some u1 := by
  refine ⟨(k.bl.setCell (p := ⟨_, 0, none⟩) (by show _ ≤ w.heap.size + 2; omega) _).setCell (p := ⟨_, 1, none⟩) (by show _ ≤ w.heap.size + 2; omega) _, ?_, ?_⟩
  · exact (cell_putne _ _ _ _ _ (by omega)).trans (cell_put k.r.c0 _)
  · exact cell_put ((cell_putne _ _ _ _ _ (by omega)).trans k.r.c1) _
theorem SB.tabs {w W : World} {B : Int} {v : Value} {x : EN} {T : List TB} (_ : SB w W B v x) (h : TabsS w v T) (u0 u1 : Value) (hb : Below w.heap.size w ((W.setCell ⟨w.heap.size + 2, 0, none⟩ u0).setCell ⟨w.heap.size + 2, 1, none⟩ u1)) : TabsS ((W.setCell ⟨w.heap.size + 2, 0, none⟩ u0).setCell ⟨w.heap.size + 2, 1, none⟩ u1) v T := h.below hb
end Go.Proofs.YtngkbcaflkinhaaDoor

