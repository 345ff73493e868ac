/- Pools: the document's Add, whole. -/
import Derived.Test.YtmnjcmpikbihaaaPoolP
import Derived.Test.YtmnjcmpikbihaaaPoolF
namespace Go.Proofs.Ytmnjcmpikbihaaa
open Go.RowKit Go.Maps

set_option maxHeartbeats 1000000 in
set_option maxRecDepth 100000 in
theorem refAdd_no {w : World} {v : Value} {L : PL} {b0 : Nat} (hv : w.ownsRow b0 52 2 v L.length (L.flatMap enc1)) (n : Nat) (s : ByteArray) (hs : 65536 < s.size) :
    Calls Try.prog 6 #[.agg #[v, .int .i64 (n : Int)], .string s] w fun e w' => e = .returned (.tuple #[.agg #[v, .int .i64 (n : Int)], .int .i64 0, .int .i64 7]) ∧ Below w.heap.size w w' := by
  obtain ⟨A, c1, rfl, _, _⟩ := ownS_form hv
  clear hv
  have d1 : decide ((65536 : Int) < (s.size : Int)) = true := decide_eq_true (by omega)
  obtain ⟨X, hX⟩ : ∃ X, X = (w.alloc (.cells #[.slice A L.length c1, .int .i64 (n : Int)] 28)).alloc (.cells #[.slice none 0 0, .int .i64 0] 28) := ⟨_, rfl⟩
  go_enter Try.func6, Try.ntmps6
  go_upto_region 2 with fail
  rw [← hX]
  have hb : Below w.heap.size w X := by rw [hX]; exact (below1P w _).alloc (by simp) _
  have hxs : X.heap.size = w.heap.size + 1 + 1 := by rw [hX]; simp
  have hlt : w.heap.size < X.heap.size := by omega
  have hlt1 : w.heap.size + 1 < X.heap.size := by omega
  have g0 : X.heap[w.heap.size]? = some (.cells #[.slice A L.length c1, .int .i64 (n : Int)] 28) := by
    rw [hX]
    exact ((below1P (w.alloc (.cells #[.slice A L.length c1, .int .i64 (n : Int)] 28)) (.cells #[.slice none 0 0, .int .i64 0] 28)).block w.heap.size (by simp)).trans (heap_alloc_new w (.cells #[.slice A L.length c1, .int .i64 (n : Int)] 28))
  have g1 : X.heap[w.heap.size + 1]? = some (.cells #[.slice none 0 0, .int .i64 0] 28) := by
    rw [hX]
    have h := heap_alloc_new (w.alloc (.cells #[.slice A L.length c1, .int .i64 (n : Int)] 28)) (.cells #[.slice none 0 0, .int .i64 0] 28)
    rw [World.size_alloc] at h; exact h
  have x0 : X.cell? ⟨w.heap.size, 0, none⟩ = some (.slice A L.length c1) := by rw [cell_of_row _ _ _ _ _ (0, 0) g0]; rfl
  have x1 : X.cell? ⟨w.heap.size, 1, none⟩ = some (.int .i64 (n : Int)) := by rw [cell_of_row _ _ _ _ _ (0, 0) g0]; rfl
  have t0 : X.cell? ⟨w.heap.size + 1, 0, none⟩ = some (.slice none 0 0) := by rw [cell_of_row _ _ _ _ _ (0, 0) g1]; rfl
  have t1 : X.cell? ⟨w.heap.size + 1, 1, none⟩ = some (.int .i64 0) := by rw [cell_of_row _ _ _ _ _ (0, 0) g1]; rfl
  have f2 : X.frozen? ⟨w.heap.size + 1, 0, none⟩ = false := frozen_of_row _ _ _ _ _ g1
  have f3 : X.frozen? ⟨w.heap.size + 1, 1, none⟩ = false := frozen_of_row _ _ _ _ _ g1
  have HX := Lib.hid hX
  clear hX g0 g1 hlt hlt1
  have HXS := Lib.hid hxs
  clear hxs
  go_wp2
  have q0 : ((X.setCell ⟨w.heap.size + 1, 0, none⟩ (.slice A L.length c1)).setCell ⟨w.heap.size + 1, 1, none⟩ (.int .i64 (n : Int))).cell? ⟨w.heap.size + 1, 0, none⟩ = some (.slice A L.length c1) := by go_cell
  have q1 : ((X.setCell ⟨w.heap.size + 1, 0, none⟩ (.slice A L.length c1)).setCell ⟨w.heap.size + 1, 1, none⟩ (.int .i64 (n : Int))).cell? ⟨w.heap.size + 1, 1, none⟩ = some (.int .i64 (n : Int)) := by go_cell
  refine bodyPost_ret (v := .tuple #[.agg #[.slice A L.length c1, .int .i64 (n : Int)], .int .i64 0, .int .i64 7]) (by simp [results, Try.results6, go_sem, q0, q1]) rfl ?_
  have ha : Ap (fun k => w.heap.size ≤ k) X ((X.setCell ⟨w.heap.size + 1, 0, none⟩ (.slice A L.length c1)).setCell ⟨w.heap.size + 1, 1, none⟩ (.int .i64 (n : Int))) :=
    Ap.setCell (p := ⟨w.heap.size + 1, 1, none⟩) (Ap.setCell (p := ⟨w.heap.size + 1, 0, none⟩) (Ap.refl X) (.inl (by show _ ≤ w.heap.size + 1; omega)) _) (.inl (by show _ ≤ w.heap.size + 1; omega)) _
  exact ⟨rfl, hb.trans (ha.below hb.size (fun k hk => hk))⟩
/-- What Add answers, whatever comes. -/
theorem refAdd_any {w : World} {v : Value} {L : PL} {b0 : Nat} (hv : w.ownsRow b0 52 2 v L.length (L.flatMap enc1)) (hb0 : b0 ≤ w.heap.size) (hL : L.length ≤ 1000) (n : Nat) (hn : n ≤ 1000) (s : ByteArray) :
    Calls Try.prog 6 #[.agg #[v, .int .i64 (n : Int)], .string s] w fun e w' => ∃ v', e = .returned (.tuple #[.agg #[v', .int .i64 (addN n s : Int)], .int .i64 (if addE n s = 0 then (n : Int) + 1 else 0), .int .i64 (addE n s)]) ∧
      w'.ownsRow b0 52 2 v' (addL L n s).length ((addL L n s).flatMap enc1) ∧ (∀ g, v'.ownBlock = some g → v.ownBlock = some g ∨ w.heap.size ≤ g) ∧ Below w.heap.size w w' := by
  by_cases h : 65536 < s.size
  · have e : addE n s = 7 := if_pos h
    refine (refAdd_no hv n s h).mono ?_
    rintro e' w' ⟨rfl, hb⟩
    unfold addN addL
    rw [e, if_neg (by decide), if_neg (by decide), if_neg (by decide)]
    exact ⟨v, rfl, ownS_keep hv hb, fun g hg => .inl hg, hb⟩
  · have e : addE n s = 0 := by unfold addE; rw [if_neg h, if_neg (by omega)]
    refine (refAdd_yes hv hL n hn s (by omega)).mono ?_
    rintro e' w' ⟨v', rfl, ho, hb⟩
    unfold addN addL
    rw [e, if_pos rfl, if_pos rfl, if_pos rfl]
    exact ⟨v', rfl, own_low ho hb0, fun g hg => .inr (World.ownsRow.lt ho g hg).1, hb⟩
end Go.Proofs.Ytmnjcmpikbihaaa
