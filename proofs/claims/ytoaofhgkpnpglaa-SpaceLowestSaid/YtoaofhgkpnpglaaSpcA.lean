/- Uses of clusters: what reads as one, and what a call makes of its own; numbers likewise; copies; whether two are one. -/
import Derived.Test.YtoaofhgkpnpglaaSpcM
import Derived.RegionTactic
import Derived.Laws.NewBlocks
import Derived.Laws.AppendOwn
import Derived.Laws.AppendOwnNone
import Derived.OwnWalk
import Derived.Maps.AppendAt
import Derived.Lib.SliceRun
namespace Go.Proofs.Ytoaofhgkpnpglaa
open Go.RowKit

def idxOf : Value → Nat | .int _ q => q.toNat | _ => 0
/-- A slice that reads as these bools, wherever it lies. -/
def UseS (w : World) (v : Value) (Q : List Bool) : Prop :=
  ∃ A cap, v = .slice A Q.length cap ∧ (Q.length ≤ cap ∧ (A = none → cap = 0)) ∧ cap ≤ maxLen ∧ (Q = [] ∨ ∃ b off, A = some ⟨b, off, none⟩ ∧ b < w.heap.size ∧ ∀ j, j < Q.length → w.cell? ⟨b, off + j, none⟩ = some (.bool (Q.getD j false)))
theorem UseS.below {B : Nat} {w w' : World} {v : Value} {Q : List Bool} (k : UseS w v Q) (hb : Below B w w') (hB : w.heap.size ≤ B) : UseS w' v Q := by
  obtain ⟨A, cap, hv, h1, h2, h3⟩ := k
  refine ⟨A, cap, hv, h1, h2, ?_⟩
  rcases h3 with h3 | ⟨b, off, hA, hlt, hc⟩
  · exact .inl h3
  · exact .inr ⟨b, off, hA, Nat.lt_of_lt_of_le hlt hb.size, fun j hj => (hb.cell (p := ⟨b, off + j, none⟩) (by show b < B; omega)).trans (hc j hj)⟩
/-- A slice that reads as these numbers, wherever it lies. -/
def IdxS (w : World) (v : Value) (L : List Int) : Prop :=
  ∃ A cap, v = .slice A L.length cap ∧ L.length ≤ cap ∧ cap ≤ maxLen ∧ (L = [] ∨ ∃ b off, A = some ⟨b, off, none⟩ ∧ b < w.heap.size ∧ ∀ j, j < L.length → w.cell? ⟨b, off + j, none⟩ = some (.int .i64 (L.getD j 0)))
theorem IdxS.below {B : Nat} {w w' : World} {v : Value} {L : List Int} (k : IdxS w v L) (hb : Below B w w') (hB : w.heap.size ≤ B) : IdxS w' v L := by
  obtain ⟨A, cap, hv, h1, h2, h3⟩ := k
  refine ⟨A, cap, hv, h1, h2, ?_⟩
  rcases h3 with h3 | ⟨b, off, hA, hlt, hc⟩
  · exact .inl h3
  · exact .inr ⟨b, off, hA, Nat.lt_of_lt_of_le hlt hb.size, fun j hj => (hb.cell (p := ⟨b, off + j, none⟩) (by show b < B; omega)).trans (hc j hj)⟩
/-- A slice of the call's own that reads as these bools, and may be written. -/
def OwnU (w : World) (base : Nat) (v : Value) (Q : List Bool) : Prop :=
  ∃ A cap, v = .slice A Q.length cap ∧ (Q.length ≤ cap ∧ (A = none → cap = 0)) ∧ cap ≤ maxLen ∧ ((A = none ∧ Q = []) ∨ ∃ g, A = some ⟨g, 0, none⟩ ∧ base ≤ g ∧ g < w.heap.size ∧ ∀ j, j < Q.length → w.cell? ⟨g, j, none⟩ = some (.bool (Q.getD j false)) ∧ w.frozen? ⟨g, j, none⟩ = false)
theorem OwnU.use {w : World} {base : Nat} {v : Value} {Q : List Bool} (k : OwnU w base v Q) : UseS w v Q := by
  obtain ⟨A, cap, hv, h1, h2, h3⟩ := k
  refine ⟨A, cap, hv, h1, h2, ?_⟩
  rcases h3 with ⟨_, h3⟩ | ⟨g, hA, _, hlt, hc⟩
  · exact .inl h3
  · exact .inr ⟨g, 0, hA, hlt, fun j hj => by rw [Nat.zero_add]; exact (hc j hj).1⟩
theorem OwnU.below {B base : Nat} {w w' : World} {v : Value} {Q : List Bool} (k : OwnU w base v Q) (hb : Below B w w') (hB : w.heap.size ≤ B) : OwnU w' base v Q := by
  obtain ⟨A, cap, hv, h1, h2, h3⟩ := k
  refine ⟨A, cap, hv, h1, h2, ?_⟩
  rcases h3 with h3 | ⟨g, hA, hg, hlt, hc⟩
  · exact .inl h3
  · exact .inr ⟨g, hA, hg, Nat.lt_of_lt_of_le hlt hb.size, fun j hj => ⟨(hb.cell (p := ⟨g, j, none⟩) (by show g < B; omega)).trans (hc j hj).1, (hb.frozen (p := ⟨g, j, none⟩) (by show g < B; omega)).trans (hc j hj).2⟩⟩
theorem OwnU.base {base base' : Nat} {w : World} {v : Value} {Q : List Bool} (k : OwnU w base v Q) (h : base' ≤ base) : OwnU w base' v Q := by
  obtain ⟨A, cap, hv, h1, h2, h3⟩ := k
  exact ⟨A, cap, hv, h1, h2, h3.imp id (fun ⟨g, hA, hg, r⟩ => ⟨g, hA, Nat.le_trans h hg, r⟩)⟩
theorem ownU_of {w : World} {base n : Nat} {v : Value} {Q : List Bool} {t : TypeId} (h : w.ownsRow base t 1 v n (Q.map Value.bool)) : OwnU w base v Q := by
  obtain ⟨hl, h⟩ := h
  rw [List.length_map, Nat.mul_one] at hl
  subst hl
  rcases h with ⟨rfl, h0⟩ | ⟨g, cap, cur, rfl, hg, hh, hn, hm, hs, ht⟩
  · exact ⟨none, 0, by rw [h0], ⟨by omega, fun _ => rfl⟩, by unfold maxLen; omega, .inl ⟨rfl, List.eq_nil_of_length_eq_zero h0⟩⟩
  · refine ⟨_, cap, rfl, ⟨hn, fun e => by cases e⟩, hm, .inr ⟨g, rfl, hg, (Array.getElem?_eq_some_iff.1 hh).1, fun j hj => ⟨?_, frozen_of_row w g j cur t hh⟩⟩⟩
    rw [Nat.mul_one] at ht
    rw [cell_of_row w g j cur t (0, 0) hh]
    have h1 : (Q.map Value.bool)[j]? = some (.bool (Q.getD j false)) := by rw [List.getElem?_map, List.getD, List.getElem?_eq_getElem hj]; rfl
    rw [← ht, List.getElem?_take, if_pos hj] at h1
    rw [← h1]; simp
theorem idxS_of {w : World} {base n : Nat} {v : Value} {L : List Int} {t : TypeId} (h : w.ownsRow base t 1 v n (L.map (Value.int .i64))) : IdxS w v L := by
  obtain ⟨hl, h⟩ := h
  rw [List.length_map, Nat.mul_one] at hl
  subst hl
  rcases h with ⟨rfl, h0⟩ | ⟨g, cap, cur, rfl, hg, hh, hn, hm, hs, ht⟩
  · exact ⟨none, 0, by rw [h0], by omega, by unfold maxLen; omega, .inl (List.eq_nil_of_length_eq_zero h0)⟩
  · refine ⟨_, cap, rfl, hn, hm, .inr ⟨g, 0, rfl, (Array.getElem?_eq_some_iff.1 hh).1, fun j hj => ?_⟩⟩
    rw [Nat.mul_one] at ht
    rw [Nat.zero_add, cell_of_row w g j cur t (0, 0) hh]
    have h1 : (L.map (Value.int .i64))[j]? = some (.int .i64 (L.getD j 0)) := by rw [List.getElem?_map, List.getD, List.getElem?_eq_getElem hj]; rfl
    rw [← ht, List.getElem?_take, if_pos hj] at h1
    rw [← h1]; simp
/-- A place is written. -/
theorem OwnU.set {w : World} {base g n cap : Nat} {Q : List Bool} (k : OwnU w base (.slice (some ⟨g, 0, none⟩) n cap) Q) (j : Nat) (hj : j < Q.length) (b : Bool) : OwnU (w.setCell ⟨g, j, none⟩ (.bool b)) base (.slice (some ⟨g, 0, none⟩) n cap) (Q.set j b) := by
  obtain ⟨A, cap', hv, h1, h2, h3⟩ := k
  injection hv with e1 e2 e3
  subst e1 e2 e3
  rcases h3 with ⟨h, _⟩ | ⟨g', hA, hg, hlt, hc⟩
  · cases h
  obtain rfl : g = g' := by simpa using hA
  refine ⟨_, cap, by rw [List.length_set], by rw [List.length_set]; exact h1, h2, .inr ⟨g, rfl, hg, by rw [World.size_setCell]; exact hlt, fun i hi => ⟨?_, ?_⟩⟩⟩
  · rw [List.length_set] at hi
    by_cases e : i = j
    · subst e
      rw [World.cell?_setCell_same' _ _ _ (by rw [(hc i hi).1]; rfl)]
      simp [List.getD, hi]
    · rw [World.cell?_setCell_other _ _ _ _ (by intro e'; injection e' with _ e2; omega), (hc i hi).1]
      simp [List.getD, List.getElem?_set_ne (Ne.symm e)]
  · rw [List.length_set] at hi
    rw [World.frozen?_setCell]; exact (hc i hi).2
theorem infoBo : (Try.prog.info? 4).map (fun i => (i.zero, i.size, i.bytes)) = some (some (.bool false), 1, 1) := by kernel_rfl
theorem bools_one (Q : List Bool) : ∀ u ∈ Q.map Value.bool, u.oneCell' = true := by
  intro u hu
  obtain ⟨b, _, rfl⟩ := List.mem_map.1 hu
  rfl
theorem UseS.at {w : World} {v : Value} {Q : List Bool} {a : Addr} {n cap : Nat} (k : UseS w v Q) (hv : v = .slice (some a) n cap) (hz : n ≤ 5000) : n = Q.length ∧ n ≤ cap ∧ cap ≤ maxLen ∧ ∀ j u, (Q.map Value.bool)[j]? = some u → w.cell? (a.add j) = some u := by
  obtain ⟨A, cap', rfl, h1, h2, h3⟩ := k
  injection hv with e1 e2 e3
  subst e1 e2 e3
  refine ⟨rfl, h1.1, h2, fun j u hj => ?_⟩
  have hlt : j < Q.length := by have := (List.getElem?_eq_some_iff.1 hj).1; simpa using this
  rcases h3 with rfl | ⟨b, off, hA, _, hc⟩
  · simp at hlt
  · obtain rfl : a = ⟨b, off, none⟩ := by simpa using hA
    rw [show (⟨b, off, none⟩ : Addr).add j = ⟨b, off + j, none⟩ by unfold Addr.add; split <;> simp_all, hc j hlt]
    rw [List.getElem?_map, List.getElem?_eq_getElem hlt] at hj
    rw [List.getD, List.getElem?_eq_getElem hlt]
    exact hj
set_option maxHeartbeats 1000000 in
/-- slices.Clone of a use. -/
theorem cloneU_any {w : World} {v : Value} {Q : List Bool} (h : UseS w v Q) (hq : Q.length ≤ 5000) :
    Calls Try.prog 22 #[v] w fun e w' => ∃ v', e = .returned v' ∧ OwnU w' w.heap.size v' Q ∧ Below w.heap.size w w' := by
  have q22 : ∀ (w : World) (a : Option Addr) (n c n' c' : Nat), (binOp .eql 22 (.slice a n c) (.slice none n' c')).run Try.prog w = .ok (.bool a.isNone) w := fun w a n c n' c' => Lib.run_eql_slice_nil w _ _ a n c n' c' Try.underlying22
  obtain ⟨i0, hi, hz0, hz1, hz2⟩ := info_parts infoBo
  obtain ⟨A, cap, hv, ⟨h1, _⟩, h2, h3⟩ := id h
  cases A with
  | none =>
    subst hv
    obtain rfl : Q = [] := by
      rcases h3 with h3 | ⟨b, off, hA, _⟩
      · exact h3
      · cases hA
    clear h h3
    go_enter Try.func22, Try.ntmps22
    go_wp2
    go_ret
    exact ⟨_, rfl, ⟨none, 0, rfl, ⟨Nat.le_refl _, fun _ => rfl⟩, by unfold maxLen; omega, .inl ⟨rfl, rfl⟩⟩, Below.refl _ _⟩
  | some a =>
    have HA := Lib.hid (h.at hv hq)
    subst hv
    have HQ := Lib.hid hq
    have HO := Lib.hid (bools_one Q)
    clear h h1 h2 h3 hq
    go_enter Try.func22, Try.ntmps22
    go_wp2_with (at_builtin; refine wpList_append_own _ rfl _ _ 22 rfl w.heap.size 4 i0 (.bool false) 1 1 Try.underlying22 hi hz0 hz1 hz2 rfl (by decide) _ _ _ rfl (World.ownsRow_made w #[] 0 (Nat.le_refl _) (Nat.zero_le _) (by simp)) a Q.length cap (Q.map Value.bool) rfl (by simp) (fun j u hj => Lib.cell?_alloc_some _ (HA.out.2.2.2 j u hj)) HO.out (by have := HQ.out; unfold maxLen; omega) (by have := HQ.out; omega) (by simp) ?_; intro v' w1 hown hgrow hnil)
    go_wp2
    go_ret
    rw [Nat.zero_add, List.nil_append] at hown
    exact ⟨v', rfl, ownU_of hown, ((Below.refl _ w).alloc (Nat.le_refl _) _).grown hgrow (by simp) (by intro k hk; have e : some w.heap.size = some k := hk; injection e with e; omega)⟩
set_option maxHeartbeats 1000000 in
theorem useSame_any {w : World} {u v : Value} {K L : List Bool} (hu : UseS w u K) (hv : UseS w v L) :
    Calls Try.prog 14 #[u, v] w fun e w' => e = .returned (.bool (decide (K = L))) ∧ Below w.heap.size w w' := by
  obtain ⟨A, c1, rfl, ⟨k1, _⟩, k2, k3⟩ := hu
  obtain ⟨B, c2, rfl, ⟨l1, _⟩, l2, l3⟩ := hv
  by_cases hl : K.length = L.length
  case neg =>
    have e1 : ((K.length : Int) != (L.length : Int)) = true := by rw [bne_iff_ne]; omega
    have e2 : ((K.length : Int) == (L.length : Int)) = false := by rw [beq_eq_false_iff_ne]; omega
    have hd : decide (K = L) = false := decide_eq_false (fun e => hl (by rw [e]))
    rw [hd]
    clear k3 l3 hl hd
    go_enter Try.func14, Try.ntmps14
    go_wp2
    go_ret
    exact ⟨rfl, Below.refl _ _⟩
  case pos =>
  obtain ⟨r, hr⟩ : ∃ r, r = decide (K = L) := ⟨_, rfl⟩
  rw [← hr]
  have HRR := Lib.hid hr
  clear hr
  obtain ⟨m, hm⟩ : ∃ m, m = K.length := ⟨_, rfl⟩
  have HM := Lib.hid hm
  have HML : Hid (m = L.length) := Lib.hid (hm.trans hl)
  have HK := Lib.hid k3
  have HL := Lib.hid l3
  rw [← HML.out] at l1 ⊢
  rw [← hm] at k1 ⊢
  clear k3 l3 hl hm
  have e1 : ((m : Int) != (m : Int)) = false := by simp
  go_enter Try.func14, Try.ntmps14
  go_wp2_with fail
  go_loopw [13] (fun ix wr => ∃ j : Nat, j ≤ m ∧ ix = .int .i64 (j : Int) ∧ (∀ q, q < j → K.getD q false = L.getD q false) ∧ (∀ p, wr.cell? p = w.cell? p) ∧ Below w.heap.size w wr) (fun ix _ => m - idxOf ix)
  case atStart => exact ⟨0, Nat.zero_le _, rfl, (fun q hq => by omega), (fun _ => rfl), Below.refl _ _⟩
  case round =>
    obtain ⟨j, hj, rfl, hq, hc, hb⟩ := hrel
    have HQ := Lib.hid hq
    have HC := Lib.hid hc
    have HB := Lib.hid hb
    clear hq hc hb
    by_cases hlt : j < m
    · obtain ⟨b, o, rfl, _, hk⟩ := HK.out.resolve_left (by intro e; have := HM.out; rw [e] at this; simp at this; omega)
      obtain ⟨b', o', rfl, _, hl⟩ := HL.out.resolve_left (by intro e; have := HML.out; rw [e] at this; simp at this; omega)
      have ck : wr.cell? ⟨b, o + j, none⟩ = some (.bool (K.getD j false)) := (HC.out _).trans (hk j (by rw [← HM.out]; exact hlt))
      have cl : wr.cell? ⟨b', o' + j, none⟩ = some (.bool (L.getD j false)) := (HC.out _).trans (hl j (by rw [← HML.out]; exact hlt))
      have HE : Hid (∀ x y, K.getD j false = x → L.getD j false = y → (x = y → ∀ q, q < j + 1 → K.getD q false = L.getD q false) ∧ (x ≠ y → decide (K = L) = false)) := Lib.hid (fun x y hx hy => ⟨fun e q hq => by
        by_cases g : q = j
        · rw [g, hx, hy, e]
        · exact HQ.out q (by omega), fun ne => decide_eq_false (fun e => ne (by rw [← hx, ← hy, e]))⟩)
      generalize hx : K.getD j false = x at ck
      generalize hy : L.getD j false = y at cl
      obtain ⟨E1, E2⟩ := HE.out x y hx hy
      have HE1 := Lib.hid E1
      have HE2 := Lib.hid E2
      clear E1 E2 HE hk hl hx hy
      have hi0 : (0 : Int) ≤ (j : Int) := by omega
      have hi1 : (j : Int) < (m : Int) := by omega
      have hw1 : wrap64 ((j : Int) + 1) = (j : Int) + 1 := by unfold wrap64; unfold maxLen at *; omega
      have hw2 : IntKind.i64.wrap ((j : Int) + 1) = (j : Int) + 1 := by rw [IntKind.wrap_i64]; unfold maxLen at *; omega
      by_cases hxy : x = y
      · have HQ2 := Lib.hid (HE1.out hxy)
        subst hxy
        clear HE1 HE2 HQ
        cases x
        all_goals go_wp2_with fail
        all_goals go_region
        all_goals go_wp2
        all_goals go_roundw
        case rel => exact ⟨j + 1, by omega, by go_num, HQ2.out, HC.out, HB.out.drew⟩
        case measure => simp [idxOf]; omega
        all_goals first
          | exact ⟨j + 1, by omega, by go_num, HQ2.out, HC.out, HB.out.drew⟩
          | (simp [idxOf]; omega)
      · have hr := HRR.out.trans (HE2.out hxy)
        clear HE1 HE2 HQ HRR
        subst hr
        cases x
        all_goals cases y
        all_goals first
          | exact absurd rfl hxy
          | skip
        all_goals clear hxy
        all_goals go_wp2_with fail
        all_goals go_region
        all_goals go_wp2
        all_goals go_ret
        all_goals exact ⟨rfl, HB.out.drew⟩
    · obtain rfl : j = m := by omega
      have hd : decide (K = L) = true := decide_eq_true (getD_ext (HM.out.symm.trans HML.out) (fun q h1 => HQ.out q (by rw [HM.out]; exact h1)))
      have hr := HRR.out.trans hd
      clear hd HK HL HM HML HQ HRR
      subst hr
      go_wp2
      go_ret
      exact ⟨rfl, HB.out⟩
set_option maxHeartbeats 1000000 in
theorem idxSame_any {w : World} {u v : Value} {K L : List Int} (hu : IdxS w u K) (hv : IdxS w v L) :
    Calls Try.prog 15 #[u, v] w fun e w' => e = .returned (.bool (decide (K = L))) ∧ Below w.heap.size w w' := by
  obtain ⟨A, c1, rfl, k1, k2, k3⟩ := hu
  obtain ⟨B, c2, rfl, l1, l2, l3⟩ := hv
  by_cases hl : K.length = L.length
  case neg =>
    have e1 : ((K.length : Int) != (L.length : Int)) = true := by rw [bne_iff_ne]; omega
    have e2 : ((K.length : Int) == (L.length : Int)) = false := by rw [beq_eq_false_iff_ne]; omega
    have hd : decide (K = L) = false := decide_eq_false (fun e => hl (by rw [e]))
    rw [hd]
    clear k3 l3 hl hd
    go_enter Try.func15, Try.ntmps15
    go_wp2
    go_ret
    exact ⟨rfl, Below.refl _ _⟩
  case pos =>
  obtain ⟨r, hr⟩ : ∃ r, r = decide (K = L) := ⟨_, rfl⟩
  rw [← hr]
  have HRR := Lib.hid hr
  clear hr
  obtain ⟨m, hm⟩ : ∃ m, m = K.length := ⟨_, rfl⟩
  have HM := Lib.hid hm
  have HML : Hid (m = L.length) := Lib.hid (hm.trans hl)
  have HK := Lib.hid k3
  have HL := Lib.hid l3
  rw [← HML.out] at l1 ⊢
  rw [← hm] at k1 ⊢
  clear k3 l3 hl hm
  have e1 : ((m : Int) != (m : Int)) = false := by simp
  go_enter Try.func15, Try.ntmps15
  go_wp2_with fail
  go_loopw [13] (fun ix wr => ∃ j : Nat, j ≤ m ∧ ix = .int .i64 (j : Int) ∧ (∀ q, q < j → K.getD q 0 = L.getD q 0) ∧ (∀ p, wr.cell? p = w.cell? p) ∧ Below w.heap.size w wr) (fun ix _ => m - idxOf ix)
  case atStart => exact ⟨0, Nat.zero_le _, rfl, (fun q hq => by omega), (fun _ => rfl), Below.refl _ _⟩
  case round =>
    obtain ⟨j, hj, rfl, hq, hc, hb⟩ := hrel
    have HQ := Lib.hid hq
    have HC := Lib.hid hc
    have HB := Lib.hid hb
    clear hq hc hb
    by_cases hlt : j < m
    · obtain ⟨b, o, rfl, _, hk⟩ := HK.out.resolve_left (by intro e; have := HM.out; rw [e] at this; simp at this; omega)
      obtain ⟨b', o', rfl, _, hl⟩ := HL.out.resolve_left (by intro e; have := HML.out; rw [e] at this; simp at this; omega)
      have ck : wr.cell? ⟨b, o + j, none⟩ = some (.int .i64 (K.getD j 0)) := (HC.out _).trans (hk j (by rw [← HM.out]; exact hlt))
      have cl : wr.cell? ⟨b', o' + j, none⟩ = some (.int .i64 (L.getD j 0)) := (HC.out _).trans (hl j (by rw [← HML.out]; exact hlt))
      have HE : Hid (∀ x y, K.getD j 0 = x → L.getD j 0 = y → (x = y → ∀ q, q < j + 1 → K.getD q 0 = L.getD q 0) ∧ (x ≠ y → decide (K = L) = false)) := Lib.hid (fun x y hx hy => ⟨fun e q hq => by
        by_cases g : q = j
        · rw [g, hx, hy, e]
        · exact HQ.out q (by omega), fun ne => decide_eq_false (fun e => ne (by rw [← hx, ← hy, e]))⟩)
      generalize hx : K.getD j 0 = x at ck
      generalize hy : L.getD j 0 = y at cl
      obtain ⟨E1, E2⟩ := HE.out x y hx hy
      have HE1 := Lib.hid E1
      have HE2 := Lib.hid E2
      clear E1 E2 HE hk hl hx hy
      have hi0 : (0 : Int) ≤ (j : Int) := by omega
      have hi1 : (j : Int) < (m : Int) := by omega
      have hw1 : wrap64 ((j : Int) + 1) = (j : Int) + 1 := by unfold wrap64; unfold maxLen at *; omega
      have hw2 : IntKind.i64.wrap ((j : Int) + 1) = (j : Int) + 1 := by rw [IntKind.wrap_i64]; unfold maxLen at *; omega
      by_cases hxy : x = y
      · have HQ2 := Lib.hid (HE1.out hxy)
        subst hxy
        have hb : (x != x) = false := by simp
        clear HE1 HE2 HQ
        go_wp2_with fail
        go_region
        all_goals go_wp2
        all_goals go_roundw
        case rel => exact ⟨j + 1, by omega, by go_num, HQ2.out, HC.out, HB.out.drew⟩
        case measure => simp [idxOf]; omega
      · have hr := HRR.out.trans (HE2.out hxy)
        have hb : (x == y) = false := by rw [beq_eq_false_iff_ne]; exact hxy
        have hb2 : (x != y) = true := by rw [bne_iff_ne]; exact hxy
        clear HE1 HE2 HQ HRR hxy
        subst hr
        go_wp2_with fail
        go_region
        all_goals go_wp2
        all_goals go_ret
        all_goals exact ⟨rfl, HB.out.drew⟩
    · obtain rfl : j = m := by omega
      have hd : decide (K = L) = true := decide_eq_true (List.ext_getElem (HM.out.symm.trans HML.out) (fun q h1 h2 => by
        have := HQ.out q (by rw [HM.out]; exact h1)
        rw [List.getD, List.getD, List.getElem?_eq_getElem h1, List.getElem?_eq_getElem h2] at this; exact this))
      have hr := HRR.out.trans hd
      clear hd HK HL HM HML HQ HRR
      subst hr
      go_wp2
      go_ret
      exact ⟨rfl, HB.out⟩
end Go.Proofs.Ytoaofhgkpnpglaa
