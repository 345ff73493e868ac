/- The contract of gf.Log. -/
import Derived.Test.YtpldnbfbpajbkabDoorGfB
namespace Go.Proofs.YtpldnbfbpajbkabDoor
open Go.RowKit Go.Shelf
open Caulk.Gf (dbl dblN mul mulN pw lg)
attribute [local go_sem] Oper.semAt_some

/-- What Log answers. -/
def logI (a : UInt8) : Int := if a = 0 then 0 else lg a
def errI (a : UInt8) : Int := if a = 0 then 13 else 0
theorem byte_eq_int {x y : UInt8} (h : (x.toNat : Int) = (y.toNat : Int)) : x = y := by
  have h2 : x.toNat = y.toNat := by omega
  have := congrArg UInt8.ofNat h2
  simpa using this

set_option maxRecDepth 100000 in
set_option maxHeartbeats 2000000 in
theorem gfLog_in (a : UInt8) (w : World) :
    Calls Tryd.prog 30 #[.int .u8 (a.toNat : Int)] w fun e W' => e = .returned (.tuple #[.int .i64 (logI a), .int .i64 (errI a)]) ∧ Below w.heap.size w W' := by
  refine (callsIn_wide (n := 5)).1 ?_
  refine callsIn_of_wp_marks Tryd.func30 rfl trivial ?_ rfl
  simp only [Tryd.ntmps30, List.size_toArray, List.length_cons, List.length_nil, Nat.reduceAdd, Nat.reduceSub, Array.replicate_succ, Array.replicate_zero, List.push_toArray, List.append_toArray, List.nil_append, List.cons_append]
  gi_wp2
  have c0 := cell_new_l w (.int .u8 (a.toNat : Int)) 5
  have c1 := cell_new_l (w.alloc (.cells #[.int .u8 (a.toNat : Int)] 5)) (.int .i64 0) 3
  have c2 := cell_new_l ((w.alloc (.cells #[.int .u8 (a.toNat : Int)] 5)).alloc (.cells #[.int .i64 0] 3)) (.int .i64 0) 25
  simp only [World.size_alloc] at c1 c2
  have hB0 : Below w.heap.size w (((w.alloc (.cells #[.int .u8 (a.toNat : Int)] 5)).alloc (.cells #[.int .i64 0] 3)).alloc (.cells #[.int .i64 0] 25)) := (((Below.refl _ w).alloc (Nat.le_refl _) _).alloc (by simp) _).alloc (by simp; omega) _
  have hf1 : (((w.alloc (.cells #[.int .u8 (a.toNat : Int)] 5)).alloc (.cells #[.int .i64 0] 3)).alloc (.cells #[.int .i64 0] 25)).frozen? ⟨w.heap.size + 1, 0, none⟩ = false := by
    rw [World.frozen?_alloc_past _ _ _ (by simp)]; exact c1.2
  refine wpIn_rangeFunc_ownF (F := Fence.wide) rfl (by omega) (gf := 36) (lb := #[]) rfl trivial (enters_of Tryd.func36 (by kernel_rfl) rfl)
    (powers_stops' _) walksK_t walksK_b (Below.refl _ _) (fun _ => rfl)
    (fun pre W => ((∀ y ∈ pre, pw y ≠ a) ∧ W.cell? ⟨w.heap.size, 0, none⟩ = some (.int .u8 (a.toNat : Int)) ∧ (W.cell? ⟨w.heap.size + 1, 0, none⟩ = some (.int .i64 0) ∧ W.frozen? ⟨w.heap.size + 1, 0, none⟩ = false) ∧ W.cell? ⟨w.heap.size + 1 + 1, 0, none⟩ = some (.int .i64 0) ∧ W.frozen? ⟨w.heap.size + 1 + 1, 0, none⟩ = false) ∧ Below w.heap.size w W)
    (fun c pre W => (c = .ret ∧ ∃ x, x ∈ pre ∧ pw x = a ∧ W.cell? ⟨w.heap.size + 1, 0, none⟩ = some (.int .i64 (x : Int)) ∧ W.cell? ⟨w.heap.size + 1 + 1, 0, none⟩ = some (.int .i64 0)) ∧ Below w.heap.size w W)
    (OwnFrom.and (Own.from (fun s A B row hs hg hr => ⟨hs.1, cell_kept hs.2.1 hg hr, ⟨cell_kept hs.2.2.1.1 hg hr, (frozen_kept hs.2.2.1.1 hg hr).trans hs.2.2.1.2⟩, cell_kept hs.2.2.2.1 hg hr, (frozen_kept hs.2.2.2.1 hg hr).trans hs.2.2.2.2⟩) _) (ownFrom_below (Nat.le_refl _) (by simp; omega)))
    (fun c => OwnFrom.and (Own.from (fun s A B row hs hg hr => by obtain ⟨hc, x, h1, h2, h3, h4⟩ := hs; exact ⟨hc, x, h1, h2, cell_kept h3 hg hr, cell_kept h4 hg hr⟩) _) (ownFrom_below (Nat.le_refl _) (by simp; omega)))
    ⟨⟨by simp, cell_alloc_l _ (cell_alloc_l _ c0.1), ⟨cell_alloc_l _ c1.1, hf1⟩, c2.1, c2.2⟩, hB0⟩
    (fun x => { tmps := #[.int .u8 (a.toNat : Int), .pointer (some ⟨w.heap.size, 0, none⟩), .pointer (some ⟨w.heap.size + 1, 0, none⟩), .pointer (some ⟨w.heap.size + 1 + 1, 0, none⟩), .int .i64 (x : Int), .int .u8 ((pw x).toNat : Int), .int .i64 (x : Int), .int .u8 ((pw x).toNat : Int), undef, undef, undef, undef], defers := [] }) ?assign ?body ?done ?stop
  case assign =>
    intro l x W K hK
    gi_wp2
    exact hK
  case body =>
    rintro l pre x W ⟨⟨hp, hcw, ⟨hcr, hfr⟩, hce, hfe⟩, hB⟩ _
    by_cases hx : pw x = a
    · have hxi : (((pw x).toNat : Int) == (a.toNat : Int)) = true := by rw [hx]; simp
      have HX := Lib.hid hx
      clear hx
      gi_wp2
      refine ⟨(KeepsOthers.setCell _ _ _).trans (KeepsOthers.setCell _ _ _), ⟨rfl, x, List.mem_append.2 (.inr (by simp)), HX.out, ?_, ?_⟩, (hB.setCell (p := ⟨w.heap.size + 1, 0, none⟩) (by simp) _).setCell (p := ⟨w.heap.size + 1 + 1, 0, none⟩) (by simp; omega) _⟩
      · rw [World.cell?_setCell_other _ _ _ _ (by intro e; injection e with e1; omega)]
        exact World.cell?_setCell_same' _ _ _ (by rw [hcr]; rfl)
      · exact World.cell?_setCell_same' _ _ _ (by rw [World.cell?_setCell_other _ _ _ _ (by intro e; injection e with e1; omega), hce]; rfl)
    · have hxi : (((pw x).toNat : Int) == (a.toNat : Int)) = false := by
        rw [beq_eq_false_iff_ne]; exact fun h => hx (byte_eq_int h)
      have HX := Lib.hid hx
      clear hx
      gi_wp2
      exact ⟨KeepsOthers.refl _, KeepsWalks.refl _, ⟨fun y hy => (List.mem_append.1 hy).elim (hp y) (fun e => by simp at e; subst e; exact HX.out), hcw, ⟨hcr, hfr⟩, hce, hfe⟩, hB⟩
  case done =>
    rintro D ys W hD rfl ⟨⟨hne, _, ⟨hcr, hfr⟩, hce, hfe⟩, hB⟩ hK
    have ha : a = 0 := by
      by_cases h : a = 0
      · exact h
      · exact absurd (Caulk.Gf.pw_lg a h) (hne _ (by simpa using Caulk.Gf.lg_lt a h))
    have HA := Lib.hid ha
    clear ha
    gi_wp2
    have hk1 := (KeepsOthers.setCell W ⟨w.heap.size + 1, 0, none⟩ (.int .i64 0)).trans (KeepsOthers.setCell _ ⟨w.heap.size + 1 + 1, 0, none⟩ (.int .i64 13))
    have hK' := hk1.same D _ hK rfl
    refine ⟨by simp, .inl ⟨_, _, rfl, run_takeDeferred hK', ?_⟩⟩
    have h5 : ((W.setCell ⟨w.heap.size + 1, 0, none⟩ (.int .i64 0)).setCell ⟨w.heap.size + 1 + 1, 0, none⟩ (.int .i64 13)).cell? ⟨w.heap.size + 1, 0, none⟩ = some (.int .i64 0) := by
      rw [World.cell?_setCell_other _ _ _ _ (by intro e; injection e with e1; omega)]
      exact World.cell?_setCell_same' _ _ _ (by rw [hcr]; rfl)
    have h6 : ((W.setCell ⟨w.heap.size + 1, 0, none⟩ (.int .i64 0)).setCell ⟨w.heap.size + 1 + 1, 0, none⟩ (.int .i64 13)).cell? ⟨w.heap.size + 1 + 1, 0, none⟩ = some (.int .i64 13) :=
      World.cell?_setCell_same' _ _ _ (by rw [World.cell?_setCell_other _ _ _ _ (by intro e; injection e with e1; omega), hce]; rfl)
    have hc5 := cell_kept h5 (grownBy_putObj' _ D (.deferred none)) (fun r e => by cases e; exact ⟨_, hK', rfl⟩)
    have hc6 := cell_kept h6 (grownBy_putObj' _ D (.deferred none)) (fun r e => by cases e; exact ⟨_, hK', rfl⟩)
    refine ⟨.tuple #[.int .i64 0, .int .i64 13], ?_, by rw [HA.out]; rfl, ((hB.setCell (p := ⟨w.heap.size + 1, 0, none⟩) (by simp) _).setCell (p := ⟨w.heap.size + 1 + 1, 0, none⟩) (by simp; omega) _).trans (belowK_b (w := w) (Nat.le_refl _) _ D _ _ (by simp at hD; omega) hK' rfl rfl)⟩
    simp [results, Tryd.f30, go_sem, hc5, hc6]
  case stop =>
    rintro D c pre W hD ⟨k, hk, rfl⟩ ⟨⟨rfl, x, hx, hxa, hcr, hce⟩, hB⟩ hK
    have hx2 : x < 255 := by have := List.mem_range.1 hx; omega
    have hl : logI a = (x : Int) ∧ errI a = 0 := by
      have ha : a ≠ 0 := by rw [← hxa]; exact Caulk.Gf.pw_ne x
      unfold logI errI
      rw [if_neg ha, if_neg ha, ← hxa, Caulk.Gf.lg_pw x hx2]
      exact ⟨rfl, rfl⟩
    have HL := Lib.hid hl
    clear hl hxa
    gi_wp2
    refine ⟨by simp, .inl ⟨_, _, rfl, run_takeDeferred hK, ?_⟩⟩
    have hc5 := cell_kept hcr (grownBy_putObj' _ D (.deferred none)) (fun r e => by cases e; exact ⟨_, hK, rfl⟩)
    have hc6 := cell_kept hce (grownBy_putObj' _ D (.deferred none)) (fun r e => by cases e; exact ⟨_, hK, rfl⟩)
    refine ⟨.tuple #[.int .i64 (x : Int), .int .i64 0], ?_, by rw [HL.out.1, HL.out.2], hB.trans (belowK_b (w := w) (Nat.le_refl _) W D _ _ (by simp at hD; omega) hK rfl rfl)⟩
    simp [results, Tryd.f30, go_sem, hc5, hc6]
end Go.Proofs.YtpldnbfbpajbkabDoor
