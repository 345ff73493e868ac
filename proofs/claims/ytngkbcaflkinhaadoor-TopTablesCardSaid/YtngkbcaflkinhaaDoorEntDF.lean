/- Entries: the document's own Check, Disk, Bytes. Entries: the document's own Bytes and Parse. Entries: the document's own Parse. -/
import Derived.Test.YtngkbcaflkinhaaDoorEntAC
import Derived.Test.YtngkbcaflkinhaaDoorFldFH
namespace Go.Proofs.YtngkbcaflkinhaaDoor
open Go.RowKit

end Go.Proofs.YtngkbcaflkinhaaDoor
namespace Go.Proofs.YtngkbcaflkinhaaDoor
open Go.RowKit

theorem num_new (W : World) (xs : List Value) (t : TypeId) (h : xs.length ≤ 200) : NumV (W.alloc (.cells xs.toArray t)) (.slice (some ⟨W.heap.size, 0, none⟩) xs.length xs.length) xs := by
  refine ⟨_, xs.length, rfl, Nat.le_refl _, (by unfold maxLen; omega), .inr ⟨W.heap.size, 0, rfl, by simp, fun j hj => ?_⟩⟩
  rw [Nat.zero_add, cell_of_row _ _ _ _ t (0, 0) (heap_alloc_new W _)]
  simp
theorem refN_lt {p : EN} (h : EB p) : ∀ n ∈ refN p, n < 18446744073709551616 := by
  intro n hn
  unfold refN at hn
  rcases eb_cases h with rfl | ⟨a, ⟨⟨b, c⟩, d, e⟩, _⟩
  · simp [EN.zero] at hn; omega
  · rw [if_pos a] at hn
    simp at hn; omega
end Go.Proofs.YtngkbcaflkinhaaDoor
namespace Go.Proofs.YtngkbcaflkinhaaDoor
open Go.RowKit

theorem two_of {w : World} {base : Nat} {x : Value} {a b : Nat} (h : OwnN w base x [a, b]) :
    ∃ g cap, x = .slice (some ⟨g, 0, none⟩) 2 cap ∧ 2 ≤ cap ∧ base ≤ g ∧ g < w.heap.size ∧ w.cell? ⟨g, 0, none⟩ = some (.int .u64 (a : Int)) ∧ w.cell? ⟨g, 1, none⟩ = some (.int .u64 (b : Int)) := by
  rcases h.2 with ⟨rfl, h0⟩ | ⟨g, cap, cur, rfl, hb, hh, hn, hm, hs, ht⟩
  · exact absurd h0 (by simp)
  · have hc : ∀ j, j < 2 → w.cell? ⟨g, j, none⟩ = (u64s [a, b])[j]? := by
      intro j hj
      rw [cell_of_row w g j cur _ (0, 0) hh]
      have h1 : (cur.toList.take ([a, b].length * 1))[j]? = (u64s [a, b])[j]? := by rw [ht]
      rw [List.getElem?_take, if_pos (by simpa using hj), Array.getElem?_toList] at h1
      exact h1
    exact ⟨g, cap, rfl, hn, hb, (Array.getElem?_eq_some_iff.1 hh).1, hc 0 (by omega), hc 1 (by omega)⟩
/-- The document's Parse under way. -/
structure RP (w W : World) (b7 g a b : Nat) (p : EN) : Prop where
  bl : Below w.heap.size w W
  r : EBox W w.heap.size EN.zero
  x : EBox W b7 p
  hx : w.heap.size < b7
  hg : g < b7
  lt : g < W.heap.size
  c0 : W.cell? ⟨g, 0, none⟩ = some (.int .u64 (a : Int))
  c1 : W.cell? ⟨g, 1, none⟩ = some (.int .u64 (b : Int))
theorem RP.below {w W W' : World} {b7 g a b : Nat} {p : EN} (k : RP w W b7 g a b p) (hb : Below W.heap.size W W') : RP w W' b7 g a b p :=
  ⟨k.bl.trans (hb.mono k.bl.size), k.r.below hb, k.x.below hb, k.hx, k.hg, Nat.lt_of_lt_of_le k.lt hb.size, (hb.cell (p := ⟨g, 0, none⟩) k.lt).trans k.c0, (hb.cell (p := ⟨g, 1, none⟩) k.lt).trans k.c1⟩
theorem RP.put {w W : World} {b7 g a b : Nat} {p : EN} (k : RP w W b7 g a b p) (q : EN) : RP w (put4 W b7 (.int .u8 q.kind) (.int .i64 q.st) (.int .i64 q.mb) (.int .i64 q.fr)) b7 g a b q := by
  have hap := ap_put4 W b7 (.int .u8 q.kind) (.int .i64 q.st) (.int .i64 q.mb) (.int .i64 q.fr)
  have h1 := k.hx
  have h2 := k.hg
  refine ⟨?_, Bx.ap k.r hap (by omega), Bx.put k.x _ _ _ _, h1, h2, Nat.lt_of_lt_of_le k.lt hap.size, (hap.cell k.lt (by omega) _).trans k.c0, (hap.cell k.lt (by omega) _).trans k.c1⟩
  exact (((k.bl.setCell (p := ⟨_, 0, none⟩) (Nat.le_of_lt h1) _).setCell (p := ⟨_, 1, none⟩) (Nat.le_of_lt h1) _).setCell (p := ⟨_, 2, none⟩) (Nat.le_of_lt h1) _).setCell (p := ⟨_, 3, none⟩) (Nat.le_of_lt h1) _
theorem RP.new {w w3 : World} {g a b : Nat} (h0 : EBox w3 w.heap.size EN.zero) (hb : Below w.heap.size w w3) (hlt : w.heap.size < w3.heap.size) (hg : g < w3.heap.size) (c0 : w3.cell? ⟨g, 0, none⟩ = some (.int .u64 (a : Int))) (c1 : w3.cell? ⟨g, 1, none⟩ = some (.int .u64 (b : Int))) :
    RP w (w3.alloc (.cells #[.int .u8 0, .int .i64 0, .int .i64 0, .int .i64 0] 38)) w3.heap.size g a b EN.zero :=
  ⟨hb.alloc hb.size _, h0.below (below1 _ _), EBox.new _ _ _ _ _ _, hlt, hg, by simp; omega, ((below1 w3 _).cell (p := ⟨g, 0, none⟩) hg).trans c0, ((below1 w3 _).cell (p := ⟨g, 1, none⟩) hg).trans c1⟩
theorem RP.ends {w W : World} {b7 g a b : Nat} {p : EN} (k : RP w W b7 g a b p) (u0 u1 u2 u3 : Value) : Below w.heap.size w (put4 W w.heap.size u0 u1 u2 u3) :=
  (((k.bl.setCell (p := ⟨_, 0, none⟩) (Nat.le_refl _) _).setCell (p := ⟨_, 1, none⟩) (Nat.le_refl _) _).setCell (p := ⟨_, 2, none⟩) (Nat.le_refl _) _).setCell (p := ⟨_, 3, none⟩) (Nat.le_refl _) _
/-- What is told of the two numbers. -/
def ofAB (a b : Nat) : EN := if 0 < a then ⟨1, (a : Int) - 1, (b : Int), 0⟩ else EN.zero
theorem all41 {s : List UInt8} (h : s.length = 8) : allE s [4, 1] = 0 ∧ allV s [4, 1] = [leN (s.take 4), leN ((s.drop 4).take 1)] := by
  have g1 : getE 4 s = 0 := getE_ok.2 ⟨by decide, by rw [h]; decide⟩
  have g2 : getE 1 (s.drop 4) = 0 := getE_ok.2 ⟨by decide, by rw [List.length_drop, h]; decide⟩
  have h0 : allE s [4, 1] = 0 := by
    unfold allE; rw [if_pos g1]
    show allE (s.drop 4) [1] = 0
    unfold allE; rw [if_pos g2]; rfl
  refine ⟨h0, ?_⟩
  unfold allV
  rw [if_pos h0]
  show [getN 4 s, getN 1 (s.drop 4)] = _
  rw [getN_ok g1, getN_ok g2]; rfl
end Go.Proofs.YtngkbcaflkinhaaDoor
