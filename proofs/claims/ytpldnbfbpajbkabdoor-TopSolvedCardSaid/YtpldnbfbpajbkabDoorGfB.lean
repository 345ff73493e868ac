/- The contracts of gf: powers, an iterator, and Exp and Log, which range over it. -/
import Derived.Test.YtpldnbfbpajbkabDoorGfA
import Derived.RangeFuncNested
import Derived.RangeFuncBound
import Derived.RangeFuncCalls
import Derived.RangeFuncLeaves
import Derived.RangeFuncFrom
import Derived.Shelf.Abstract
import Derived.Shelf.RegionOpen
import Derived.OwnWalkIn
import Derived.TacticsInMore
import Derived.LoopNIn
import Derived.LoopIn
import Derived.TacticsIn
namespace Go.Proofs.YtpldnbfbpajbkabDoor
open Go.RowKit Go.Shelf
open Caulk.Gf (dbl dblN mul mulN pw lg)
attribute [local go_sem] Oper.semAt_some

abbrev encs (k : Nat) : Array Value := #[.int .i64 (k : Int), .int .u8 ((pw k).toNat : Int)]
theorem cell_new_l (W : World) (v : Value) (t : TypeId) : (W.alloc (.cells #[v] t)).cell? ⟨W.heap.size, 0, none⟩ = some v ∧ (W.alloc (.cells #[v] t)).frozen? ⟨W.heap.size, 0, none⟩ = false :=
  ⟨by rw [World.cell?_alloc_at _ _ _ _ rfl]; rfl, by rw [World.frozen?_alloc_at _ _ _ _ rfl]⟩
theorem cell_alloc_l {W : World} {a : Addr} {v : Value} (o : Obj) (h : W.cell? a = some v) : (W.alloc o).cell? a = some v := by
  rw [World.cell?_alloc_lt W o a (World.block_lt_of_cell? _ _ h)]; exact h
theorem pw_succ (k : Nat) : pw (k + 1) = dbl (pw k) := Caulk.Gf.dblN_succ k 1

set_option maxHeartbeats 1000000 in
/-- The iterator's contract: each power with its number, from 0 to 254; it stops where a round says 'no more'. -/
theorem powers_stops' (w : World) :
    SeqStopsK Fence.wide 4 Tryd.prog 36 #[] encs KeepsWalks (fun xs => xs = List.range 255) (fun pre => ∃ k, k < 255 ∧ pre = List.range (k + 1)) 255 w := fun l J Jx W _ _ _ hY h0 => by
  refine callsIn_of_wp Tryd.func36 rfl trivial ?_ rfl
  simp only [Tryd.ntmps36, List.size_toArray, List.length_cons, List.length_nil, Nat.reduceAdd, Nat.reduceSub, Array.replicate_succ, Array.replicate_zero, List.push_toArray, List.append_toArray, List.nil_append, List.cons_append]
  gi_wp2
  gi_loopw [2, 4] (fun x i wr => ∃ k : Nat, k ≤ 255 ∧ i = .int .i64 k ∧ x = .int .u8 ((pw k).toNat : Int) ∧ J (List.range k) wr) (fun _ i _ => 255 - (intOf i).toNat)
  case atStart => exact ⟨0, by omega, rfl, rfl, h0⟩
  case round =>
    obtain ⟨k, hk, rfl, rfl, hJ⟩ := hrel
    by_cases hlt : k < 255
    · have hd : decide ((k : Int) < 255) = true := by simp; omega
      obtain ⟨fn, tmps, assign, body, hy, hR⟩ := hY (List.range k) k wr hJ (by simpa using hlt)
      dsimp only [encs] at hy
      have HS := Lib.hid (pw_succ k)
      have HR := Lib.hid (List.range_succ (n := k))
      gi_wp2
      refine hR.mono ?_
      rintro e W3 (⟨rfl, hJ3, _⟩ | ⟨rfl, hx3⟩)
      · gi_wp2_with (refine ⟨trivial, ?_⟩; gi_at_call 37; refine (callsIn_wide.2 (double_any _ _)).mono ?_; rintro e w' ⟨rfl, rfl⟩)
        go_roundw
        case rel => exact ⟨k + 1, by omega, by go_num, by rw [HS.out], by rw [HR.out]; exact hJ3⟩
        case measure => simp [intOf]; omega
      · gi_wp2
        refine bodyPost_ret (results_none rfl _ _ _) rfl ?_
        exact ⟨⟨_, rfl⟩, .inr ⟨_, ⟨k, hlt, rfl⟩, by rw [HR.out]; exact hx3⟩⟩
    · obtain rfl : k = 255 := by omega
      gi_wp2
      go_end0
      exact ⟨⟨_, rfl⟩, .inl ⟨_, rfl, hJ⟩⟩

set_option maxRecDepth 100000 in
set_option maxHeartbeats 2000000 in
theorem gfExp_in (n : Int) (hn : (Lit.int .i64 n).wf = true) (w : World) :
    Calls Tryd.prog 31 #[.int .i64 n] w fun e W' => e = .returned (.int .u8 ((Caulk.Gf.pwI n).toNat : Int)) ∧ Below w.heap.size w W' := by
  have hlo : -9223372036854775808 ≤ n := by simp [Lit.wf, IntKind.min, IntKind.max, IntKind.signed, IntKind.bits] at hn; omega
  have hhi : n ≤ 9223372036854775807 := by simp [Lit.wf, IntKind.min, IntKind.max, IntKind.signed, IntKind.bits] at hn; omega
  clear hn
  obtain ⟨m, hm⟩ : ∃ m : Nat, (n % 255).toNat = m := ⟨_, rfl⟩
  have hm255 : m < 255 := by omega
  have HM : Hid (Caulk.Gf.pwI n = pw m) := Lib.hid (by unfold Caulk.Gf.pwI; rw [hm])
  by_cases hneg : n.tmod 255 < 0
  · have hd : decide (n.tmod 255 < 0) = true := by simp; exact hneg
    have he : n.tmod 255 + 255 = (m : Int) := by
      rw [Int.tmod_eq_emod] at hneg ⊢
      split at hneg <;> split <;> omega
    refine (callsIn_wide (n := 5)).1 ?_
    refine callsIn_of_wp_marks Tryd.func31 rfl trivial ?_ rfl
    simp only [Tryd.ntmps31, List.size_toArray, List.length_cons, List.length_nil, Nat.reduceAdd, Nat.reduceSub, Array.replicate_succ, Array.replicate_zero, List.push_toArray, List.append_toArray, List.nil_append, List.cons_append]
    gi_wp2
    have c0 := cell_new_l w (.int .i64 (m : Int)) 3
    have c1 := cell_new_l (w.alloc (.cells #[.int .i64 (m : Int)] 3)) (.int .u8 0) 5
    simp only [World.size_alloc] at c1
    have hB0 : Below w.heap.size w ((w.alloc (.cells #[.int .i64 (m : Int)] 3)).alloc (.cells #[.int .u8 0] 5)) := ((Below.refl _ w).alloc (Nat.le_refl _) _).alloc (by simp) _
    refine wpIn_rangeFunc_ownF (F := Fence.wide) rfl (by omega) (gf := 36) (lb := #[]) rfl trivial (enters_of Tryd.func36 (by kernel_rfl) rfl)
      (powers_stops' _) walksK_t walksK_b (Below.refl _ _) (fun _ => rfl)
      (fun pre W => ((∀ y ∈ pre, y ≠ m) ∧ W.cell? ⟨w.heap.size, 0, none⟩ = some (.int .i64 (m : Int)) ∧ W.cell? ⟨w.heap.size + 1, 0, none⟩ = some (.int .u8 0) ∧ W.frozen? ⟨w.heap.size + 1, 0, none⟩ = false) ∧ Below w.heap.size w W)
      (fun c pre W => (c = .ret ∧ W.cell? ⟨w.heap.size + 1, 0, none⟩ = some (.int .u8 ((pw m).toNat : Int))) ∧ Below w.heap.size w W)
      (OwnFrom.and (Own.from (fun s A B row hs hg hr => ⟨hs.1, cell_kept hs.2.1 hg hr, cell_kept hs.2.2.1 hg hr, (frozen_kept hs.2.2.1 hg hr).trans hs.2.2.2⟩) _) (ownFrom_below (Nat.le_refl _) (by simp; omega)))
      (fun c => OwnFrom.and (Own.from (fun s A B row hs hg hr => ⟨hs.1, cell_kept hs.2 hg hr⟩) _) (ownFrom_below (Nat.le_refl _) (by simp; omega)))
      ⟨⟨by simp, cell_alloc_l _ c0.1, c1.1, c1.2⟩, hB0⟩
      (fun x => { tmps := #[.int .i64 n, .pointer (some ⟨w.heap.size, 0, none⟩), .pointer (some ⟨w.heap.size + 1, 0, none⟩), .int .i64 (x : Int), .int .u8 ((pw x).toNat : Int), .int .i64 n, .int .i64 (n.tmod 255), .int .i64 (n.tmod 255), .bool true, .int .i64 (n.tmod 255), .int .i64 (m : Int), .int .i64 (x : Int), .int .u8 ((pw x).toNat : Int), undef, undef, undef, undef], defers := [] }) ?assign ?body ?done ?stop
    case assign =>
      intro l x W K hK
      gi_wp2
      exact hK
    case body =>
      rintro l pre x W ⟨⟨hp, hcw, hcr, hfr⟩, hB⟩ _
      by_cases hx : x = m
      · subst hx
        have hxi : ((x : Int) == (x : Int)) = true := by simp
        gi_wp2
        exact ⟨KeepsOthers.setCell _ _ _, ⟨rfl, World.cell?_setCell_same' _ _ _ (by rw [hcr]; rfl)⟩, hB.setCell (p := ⟨w.heap.size + 1, 0, none⟩) (by simp) _⟩
      · have hxi : ((x : Int) == (m : Int)) = false := by simp; omega
        gi_wp2
        exact ⟨KeepsOthers.refl _, KeepsWalks.refl _, ⟨fun y hy => (List.mem_append.1 hy).elim (hp y) (fun e e' => by simp at e; omega), hcw, hcr, hfr⟩, hB⟩
    case done =>
      rintro D ys W hD rfl ⟨⟨hne, _, _, _⟩, _⟩ hK
      exact absurd rfl (hne m (by simpa using hm255))
    case stop =>
      rintro D c pre W hD hpre ⟨⟨rfl, hcr⟩, hB⟩ hK
      gi_wp2
      refine ⟨by simp, .inl ⟨_, _, rfl, run_takeDeferred hK, ?_⟩⟩
      have hc5 := cell_kept hcr (grownBy_putObj' _ D (.deferred none)) (fun r e => by cases e; exact ⟨_, hK, rfl⟩)
      refine ⟨.int .u8 ((pw m).toNat : Int), ?_, by rw [HM.out], hB.trans (belowK_b (w := w) (Nat.le_refl _) W D _ _ (by simp at hD; omega) hK rfl rfl)⟩
      simp [results, Tryd.f31, go_sem, hc5]
  · have hd : decide (n.tmod 255 < 0) = false := by simp; omega
    have he : n.tmod 255 = (m : Int) := by
      rw [Int.tmod_eq_emod] at hneg ⊢
      split at hneg <;> split <;> omega
    have hnn : (0 : Int) ≤ (m : Int) := by omega
    clear hd hneg
    refine (callsIn_wide (n := 5)).1 ?_
    refine callsIn_of_wp_marks Tryd.func31 rfl trivial ?_ rfl
    simp only [Tryd.ntmps31, List.size_toArray, List.length_cons, List.length_nil, Nat.reduceAdd, Nat.reduceSub, Array.replicate_succ, Array.replicate_zero, List.push_toArray, List.append_toArray, List.nil_append, List.cons_append]
    gi_wp2
    have c0 := cell_new_l w (.int .i64 (m : Int)) 3
    have c1 := cell_new_l (w.alloc (.cells #[.int .i64 (m : Int)] 3)) (.int .u8 0) 5
    simp only [World.size_alloc] at c1
    have hB0 : Below w.heap.size w ((w.alloc (.cells #[.int .i64 (m : Int)] 3)).alloc (.cells #[.int .u8 0] 5)) := ((Below.refl _ w).alloc (Nat.le_refl _) _).alloc (by simp) _
    refine wpIn_rangeFunc_ownF (F := Fence.wide) rfl (by omega) (gf := 36) (lb := #[]) rfl trivial (enters_of Tryd.func36 (by kernel_rfl) rfl)
      (powers_stops' _) walksK_t walksK_b (Below.refl _ _) (fun _ => rfl)
      (fun pre W => ((∀ y ∈ pre, y ≠ m) ∧ W.cell? ⟨w.heap.size, 0, none⟩ = some (.int .i64 (m : Int)) ∧ W.cell? ⟨w.heap.size + 1, 0, none⟩ = some (.int .u8 0) ∧ W.frozen? ⟨w.heap.size + 1, 0, none⟩ = false) ∧ Below w.heap.size w W)
      (fun c pre W => (c = .ret ∧ W.cell? ⟨w.heap.size + 1, 0, none⟩ = some (.int .u8 ((pw m).toNat : Int))) ∧ Below w.heap.size w W)
      (OwnFrom.and (Own.from (fun s A B row hs hg hr => ⟨hs.1, cell_kept hs.2.1 hg hr, cell_kept hs.2.2.1 hg hr, (frozen_kept hs.2.2.1 hg hr).trans hs.2.2.2⟩) _) (ownFrom_below (Nat.le_refl _) (by simp; omega)))
      (fun c => OwnFrom.and (Own.from (fun s A B row hs hg hr => ⟨hs.1, cell_kept hs.2 hg hr⟩) _) (ownFrom_below (Nat.le_refl _) (by simp; omega)))
      ⟨⟨by simp, cell_alloc_l _ c0.1, c1.1, c1.2⟩, hB0⟩
      (fun x => { tmps := #[.int .i64 n, .pointer (some ⟨w.heap.size, 0, none⟩), .pointer (some ⟨w.heap.size + 1, 0, none⟩), .int .i64 (x : Int), .int .u8 ((pw x).toNat : Int), .int .i64 n, .int .i64 (m : Int), .int .i64 (m : Int), .bool false, undef, undef, .int .i64 (x : Int), .int .u8 ((pw x).toNat : Int), undef, undef, undef, undef], defers := [] }) ?assign ?body ?done ?stop
    case assign =>
      intro l x W K hK
      gi_wp2
      exact hK
    case body =>
      rintro l pre x W ⟨⟨hp, hcw, hcr, hfr⟩, hB⟩ _
      by_cases hx : x = m
      · subst hx
        have hxi : ((x : Int) == (x : Int)) = true := by simp
        gi_wp2
        exact ⟨KeepsOthers.setCell _ _ _, ⟨rfl, World.cell?_setCell_same' _ _ _ (by rw [hcr]; rfl)⟩, hB.setCell (p := ⟨w.heap.size + 1, 0, none⟩) (by simp) _⟩
      · have hxi : ((x : Int) == (m : Int)) = false := by simp; omega
        gi_wp2
        exact ⟨KeepsOthers.refl _, KeepsWalks.refl _, ⟨fun y hy => (List.mem_append.1 hy).elim (hp y) (fun e e' => by simp at e; omega), hcw, hcr, hfr⟩, hB⟩
    case done =>
      rintro D ys W hD rfl ⟨⟨hne, _, _, _⟩, _⟩ hK
      exact absurd rfl (hne m (by simpa using hm255))
    case stop =>
      rintro D c pre W hD hpre ⟨⟨rfl, hcr⟩, hB⟩ hK
      gi_wp2
      refine ⟨by simp, .inl ⟨_, _, rfl, run_takeDeferred hK, ?_⟩⟩
      have hc5 := cell_kept hcr (grownBy_putObj' _ D (.deferred none)) (fun r e => by cases e; exact ⟨_, hK, rfl⟩)
      refine ⟨.int .u8 ((pw m).toNat : Int), ?_, by rw [HM.out], hB.trans (belowK_b (w := w) (Nat.le_refl _) W D _ _ (by simp at hD; omega) hK rfl rfl)⟩
      simp [results, Tryd.f31, go_sem, hc5]
end Go.Proofs.YtpldnbfbpajbkabDoor
