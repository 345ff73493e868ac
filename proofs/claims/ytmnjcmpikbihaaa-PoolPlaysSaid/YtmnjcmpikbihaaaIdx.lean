/- Slices that read as numbers, wherever they lie; whether two are one. -/
import Derived.Test.YtmnjcmpikbihaaaFrI
import Derived.RegionTactic
import Derived.Laws.NewBlocks
import Derived.Laws.AppendOwn
import Derived.Laws.AppendOwnNone
import Derived.OwnWalk
import Derived.Maps.AppendAt
import Derived.Lib.SliceRun
namespace Go.Proofs.Ytmnjcmpikbihaaa
open Go.RowKit

def idxOf : Value → Nat | .int _ q => q.toNat | _ => 0
/-- A slice that reads as these numbers, wherever it lies. -/
def IdxS (w : World) (v : Value) (L : List Int) : Prop :=
  ∃ A cap, v = .slice A L.length cap ∧ L.length ≤ cap ∧ cap ≤ maxLen ∧ (L = [] ∨ ∃ b off, A = some ⟨b, off, none⟩ ∧ b < w.heap.size ∧ ∀ j, j < L.length → w.cell? ⟨b, off + j, none⟩ = some (.int .i64 (L.getD j 0)))
theorem IdxS.below {B : Nat} {w w' : World} {v : Value} {L : List Int} (k : IdxS w v L) (hb : Below B w w') (hB : w.heap.size ≤ B) : IdxS w' v L := by
  obtain ⟨A, cap, hv, h1, h2, h3⟩ := k
  refine ⟨A, cap, hv, h1, h2, ?_⟩
  rcases h3 with h3 | ⟨b, off, hA, hlt, hc⟩
  · exact .inl h3
  · exact .inr ⟨b, off, hA, Nat.lt_of_lt_of_le hlt hb.size, fun j hj => (hb.cell (p := ⟨b, off + j, none⟩) (by show b < B; omega)).trans (hc j hj)⟩
theorem idxS_of {w : World} {base n : Nat} {v : Value} {L : List Int} {t : TypeId} (h : w.ownsRow base t 1 v n (L.map (Value.int .i64))) : IdxS w v L := by
  obtain ⟨hl, h⟩ := h
  rw [List.length_map, Nat.mul_one] at hl
  subst hl
  rcases h with ⟨rfl, h0⟩ | ⟨g, cap, cur, rfl, hg, hh, hn, hm, hs, ht⟩
  · exact ⟨none, 0, by rw [h0], by omega, by unfold maxLen; omega, .inl (List.eq_nil_of_length_eq_zero h0)⟩
  · refine ⟨_, cap, rfl, hn, hm, .inr ⟨g, 0, rfl, (Array.getElem?_eq_some_iff.1 hh).1, fun j hj => ?_⟩⟩
    rw [Nat.mul_one] at ht
    rw [Nat.zero_add, cell_of_row w g j cur t (0, 0) hh]
    have h1 : (L.map (Value.int .i64))[j]? = some (.int .i64 (L.getD j 0)) := by rw [List.getElem?_map, List.getD, List.getElem?_eq_getElem hj]; rfl
    rw [← ht, List.getElem?_take, if_pos hj] at h1
    rw [← h1]; simp
set_option maxHeartbeats 1000000 in
theorem idxSame_any {w : World} {u v : Value} {K L : List Int} (hu : IdxS w u K) (hv : IdxS w v L) :
    Calls Try.prog 13 #[u, v] w fun e w' => e = .returned (.bool (decide (K = L))) ∧ Below w.heap.size w w' := by
  obtain ⟨A, c1, rfl, k1, k2, k3⟩ := hu
  obtain ⟨B, c2, rfl, l1, l2, l3⟩ := hv
  by_cases hl : K.length = L.length
  case neg =>
    have e1 : ((K.length : Int) != (L.length : Int)) = true := by rw [bne_iff_ne]; omega
    have e2 : ((K.length : Int) == (L.length : Int)) = false := by rw [beq_eq_false_iff_ne]; omega
    have hd : decide (K = L) = false := decide_eq_false (fun e => hl (by rw [e]))
    rw [hd]
    clear k3 l3 hl hd
    go_enter Try.func13, Try.ntmps13
    go_wp2
    go_ret
    exact ⟨rfl, Below.refl _ _⟩
  case pos =>
  obtain ⟨r, hr⟩ : ∃ r, r = decide (K = L) := ⟨_, rfl⟩
  rw [← hr]
  have HRR := Lib.hid hr
  clear hr
  obtain ⟨m, hm⟩ : ∃ m, m = K.length := ⟨_, rfl⟩
  have HM := Lib.hid hm
  have HML : Hid (m = L.length) := Lib.hid (hm.trans hl)
  have HK := Lib.hid k3
  have HL := Lib.hid l3
  rw [← HML.out] at l1 ⊢
  rw [← hm] at k1 ⊢
  clear k3 l3 hl hm
  have e1 : ((m : Int) != (m : Int)) = false := by simp
  go_enter Try.func13, Try.ntmps13
  go_wp2_with fail
  go_loopw [13] (fun ix wr => ∃ j : Nat, j ≤ m ∧ ix = .int .i64 (j : Int) ∧ (∀ q, q < j → K.getD q 0 = L.getD q 0) ∧ (∀ p, wr.cell? p = w.cell? p) ∧ Below w.heap.size w wr) (fun ix _ => m - idxOf ix)
  case atStart => exact ⟨0, Nat.zero_le _, rfl, (fun q hq => by omega), (fun _ => rfl), Below.refl _ _⟩
  case round =>
    obtain ⟨j, hj, rfl, hq, hc, hb⟩ := hrel
    have HQ := Lib.hid hq
    have HC := Lib.hid hc
    have HB := Lib.hid hb
    clear hq hc hb
    by_cases hlt : j < m
    · obtain ⟨b, o, rfl, _, hk⟩ := HK.out.resolve_left (by intro e; have := HM.out; rw [e] at this; simp at this; omega)
      obtain ⟨b', o', rfl, _, hl⟩ := HL.out.resolve_left (by intro e; have := HML.out; rw [e] at this; simp at this; omega)
      have ck : wr.cell? ⟨b, o + j, none⟩ = some (.int .i64 (K.getD j 0)) := (HC.out _).trans (hk j (by rw [← HM.out]; exact hlt))
      have cl : wr.cell? ⟨b', o' + j, none⟩ = some (.int .i64 (L.getD j 0)) := (HC.out _).trans (hl j (by rw [← HML.out]; exact hlt))
      have HE : Hid (∀ x y, K.getD j 0 = x → L.getD j 0 = y → (x = y → ∀ q, q < j + 1 → K.getD q 0 = L.getD q 0) ∧ (x ≠ y → decide (K = L) = false)) := Lib.hid (fun x y hx hy => ⟨fun e q hq => by
        by_cases g : q = j
        · rw [g, hx, hy, e]
        · exact HQ.out q (by omega), fun ne => decide_eq_false (fun e => ne (by rw [← hx, ← hy, e]))⟩)
      generalize hx : K.getD j 0 = x at ck
      generalize hy : L.getD j 0 = y at cl
      obtain ⟨E1, E2⟩ := HE.out x y hx hy
      have HE1 := Lib.hid E1
      have HE2 := Lib.hid E2
      clear E1 E2 HE hk hl hx hy
      have hi0 : (0 : Int) ≤ (j : Int) := by omega
      have hi1 : (j : Int) < (m : Int) := by omega
      have hw1 : wrap64 ((j : Int) + 1) = (j : Int) + 1 := by unfold wrap64; unfold maxLen at *; omega
      have hw2 : IntKind.i64.wrap ((j : Int) + 1) = (j : Int) + 1 := by rw [IntKind.wrap_i64]; unfold maxLen at *; omega
      by_cases hxy : x = y
      · have HQ2 := Lib.hid (HE1.out hxy)
        subst hxy
        have hb : (x != x) = false := by simp
        clear HE1 HE2 HQ
        go_wp2_with fail
        go_region
        all_goals go_wp2
        all_goals go_roundw
        case rel => exact ⟨j + 1, by omega, by go_num, HQ2.out, HC.out, HB.out.drew⟩
        case measure => simp [idxOf]; omega
      · have hr := HRR.out.trans (HE2.out hxy)
        have hb : (x == y) = false := by rw [beq_eq_false_iff_ne]; exact hxy
        have hb2 : (x != y) = true := by rw [bne_iff_ne]; exact hxy
        clear HE1 HE2 HQ HRR hxy
        subst hr
        go_wp2_with fail
        go_region
        all_goals go_wp2
        all_goals go_ret
        all_goals exact ⟨rfl, HB.out.drew⟩
    · obtain rfl : j = m := by omega
      have hd : decide (K = L) = true := decide_eq_true (List.ext_getElem (HM.out.symm.trans HML.out) (fun q h1 h2 => by
        have := HQ.out q (by rw [HM.out]; exact h1)
        rw [List.getD, List.getD, List.getElem?_eq_getElem h1, List.getElem?_eq_getElem h2] at this; exact this))
      have hr := HRR.out.trans hd
      clear hd HK HL HM HML HQ HRR
      subst hr
      go_wp2
      go_ret
      exact ⟨rfl, HB.out⟩
theorem infoIn : (Try.prog.info? 3).map (fun i => (i.zero, i.size, i.bytes)) = some (some (.int .i64 0), 1, 8) := by kernel_rfl
theorem one_cell (W : World) (x : Int) (t : TypeId) : ∀ j u, ([.int .i64 x] : List Value)[j]? = some u → (W.alloc (.cells #[.int .i64 x] t)).cell? ((⟨W.heap.size, 0, none⟩ : Addr).add j) = some u := by
  intro j u hj
  have e : ((⟨W.heap.size, 0, none⟩ : Addr).add j) = ⟨W.heap.size, j, none⟩ := by unfold Addr.add; split <;> simp_all
  rw [e, cell_of_row _ _ _ #[.int .i64 x] t (0, 0) (heap_alloc_new W _)]
  simpa using hj
end Go.Proofs.Ytmnjcmpikbihaaa
