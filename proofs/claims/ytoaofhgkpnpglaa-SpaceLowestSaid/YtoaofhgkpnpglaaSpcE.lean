/- Uses of clusters: those that are used, and how many are free, by the document; a use that is made. -/
import Derived.Test.YtoaofhgkpnpglaaSpcB
import Derived.Deep.OwnRows
import Derived.Deep.Cut
namespace Go.Proofs.Ytoaofhgkpnpglaa
open Go.RowKit

set_option maxRecDepth 100000 in
set_option maxHeartbeats 2000000 in
theorem rfUsed_any {w : World} {v : Value} {Q : List Bool} (h : UseS w v Q) (hq : Q.length ≤ 5000) :
    Calls Try.prog 19 #[v] w fun e w' => ∃ r, e = .returned r ∧ w'.ownsRow w.heap.size 3 1 r (fr true Q).length (ivs (fr true Q)) ∧ Below w.heap.size w w' := by
  obtain ⟨i0, hi, hz0, hz1, hz2⟩ := info_parts infoIn
  have HU := Lib.hid h
  obtain ⟨A, cap, rfl, _⟩ := h
  have HQ := Lib.hid hq
  clear hq
  go_enter Try.func19, Try.ntmps19
  go_wp2_with fail
  go_loopw [3, 8] (fun sx ix wr => ∃ q : Nat, q ≤ Q.length ∧ ix = .int .i64 (q : Int) ∧ wr.ownsRow w.heap.size 3 1 sx (frI true Q q).length (ivs (frI true Q q)) ∧ Below w.heap.size w wr) (fun _ ix _ => Q.length - idxOf ix)
  case atStart => exact ⟨0, Nat.zero_le _, rfl, World.ownsRow_nil _ _ _ _, Below.refl _ _⟩
  case round =>
    obtain ⟨q, hqq, rfl, hrow, hb⟩ := hrel
    by_cases hlt : q < Q.length
    · obtain ⟨A', cap', hv, _, _, h3⟩ := HU.out.below hb (Nat.le_refl _)
      injection hv with e1 e2 e3
      subst e1 e3
      clear e2
      obtain ⟨g, off, rfl, _, hc⟩ := h3.resolve_left (by intro e; rw [e] at hlt; simp at hlt)
      have ce := hc q hlt
      have HRW := Lib.hid hrow
      have HB := Lib.hid hb
      have HLT := Lib.hid hlt
      have HFL : Hid ((frI true Q q).length ≤ 4999) := Lib.hid (by have := frI_len true Q q; have := HQ.out; omega)
      have d0 : decide ((q : Int) < (Q.length : Int)) = true := decide_eq_true (by omega)
      have hi0 : (0 : Int) ≤ (q : Int) := by omega
      have hi1 : (q : Int) < (Q.length : Int) := by omega
      have hw2 : IntKind.i64.wrap ((q : Int) + 1) = (q : Int) + 1 := by have := HQ.out; rw [IntKind.wrap_i64]; omega
      by_cases g : Q.getD q false = true
      · rw [g] at ce
        have HS := Lib.hid (frI_yes g)
        clear hc h3 hrow hb g
        go_wp2_with (at_builtin; refine wpList_append_own _ rfl _ _ 23 rfl w.heap.size 3 i0 _ 1 8 Try.underlying23 hi hz0 hz1 hz2 rfl (by decide) _ _ _ rfl (HRW.out.alloc _) ⟨wr.heap.size, 0, none⟩ 1 1 [.int .i64 (q : Int)] rfl rfl (one_cell wr (q : Int) _) (fun u hu => by simp only [List.mem_cons, List.not_mem_nil, or_false] at hu; rcases hu with rfl; rfl) (by have := HFL.out; unfold maxLen; omega) (by have := HFL.out; omega) (by have := HB.out.size; simp; omega) ?_; intro v' w1 hown' hgrow _; have HOW := Lib.hid hown'; have HGR := Lib.hid hgrow; clear hown' hgrow)
        go_roundw
        case rel =>
          refine ⟨q + 1, by have := HLT.out; omega, by simp, ?_, ?_⟩
          · rw [HS.out, ivs_snoc, List.length_append]; exact HOW.out
          · exact (HB.out.alloc HB.out.size _).grown HGR.out (by have := HB.out.size; simp; omega) (fun k hk => (HRW.out.lt k hk).1)
        case measure => simp [idxOf]; have := HLT.out; omega
      · have g2 : Q.getD q false = false := by simpa using g
        rw [g2] at ce
        have HS := Lib.hid (frI_no g)
        clear hc h3 hrow hb g g2
        go_wp2
        go_roundw
        case rel => exact ⟨q + 1, by have := HLT.out; omega, by simp, by rw [HS.out]; exact HRW.out, HB.out⟩
        case measure => simp [idxOf]; have := HLT.out; omega
    · obtain rfl : q = Q.length := by omega
      have HRW := Lib.hid hrow
      have HB := Lib.hid hb
      clear hrow hb
      go_wp2
      go_ret
      exact ⟨_, rfl, HRW.out, HB.out⟩
set_option maxHeartbeats 1000000 in
theorem rfFree_any {w : World} {v : Value} {Q : List Bool} (h : UseS w v Q) (hq : Q.length ≤ 5000) :
    Calls Try.prog 17 #[v] w fun e w' => e = .returned (.int .i64 ((fr false Q).length : Int)) ∧ Below w.heap.size w w' := by
  have hU := rfUsed_any h hq
  have h2 : (fr true Q).length + (fr false Q).length = Q.length := fr_len2 Q Q.length
  obtain ⟨A, cap, rfl, _⟩ := h
  have hw : IntKind.i64.wrap ((Q.length : Int) - ((fr true Q).length : Int)) = ((fr false Q).length : Int) := by rw [IntKind.wrap_i64]; omega
  have hw2 : wrap64 ((Q.length : Int) - ((fr true Q).length : Int)) = ((fr false Q).length : Int) := by unfold wrap64; omega
  clear h2 hq
  go_enter Try.func17, Try.ntmps17
  go_wp2_with (go_at_call 19; refine hU.mono ?_; rintro e w1 ⟨r, rfl, hr, hb⟩; obtain ⟨A3, cap3, rfl, _⟩ := idxS_of (L := intsN (fr true Q)) (by rw [← ivs_ints]; exact hr); rw [intsN_len]; clear hr)
  go_ret
  exact ⟨rfl, hb⟩
theorem newU_made (w : World) (n : Nat) (hn : n ≤ 4096) : OwnU (w.alloc (.cells (madeCells #[.bool false] n) 4)) w.heap.size (.slice (some ⟨w.heap.size, 0, none⟩) n n) (List.replicate n false) := by
  refine ⟨_, n, by rw [List.length_replicate], ⟨by rw [List.length_replicate]; exact Nat.le_refl _, fun e => by cases e⟩, by unfold maxLen; omega, .inr ⟨w.heap.size, rfl, Nat.le_refl _, by simp, fun j hj => ⟨?_, ?_⟩⟩⟩
  · rw [List.length_replicate] at hj
    rw [World.cell?_alloc_at _ _ _ _ rfl]
    have hm : j % 1 = 0 := by omega
    simp [madeCells, hj, List.getD, hm]
  · rw [World.frozen?_alloc_at _ _ _ _ rfl]
theorem new_no {c : Int} (h : c < 4 ∨ 4096 < c) : newE c = 1 ∧ newU c = [] := by
  have e : newE c = 1 := by unfold newE; rw [if_pos h]
  exact ⟨e, by unfold newU; rw [e]; rfl⟩
theorem new_yes {n : Nat} (h1 : 4 ≤ n) (h2 : n ≤ 4096) : newE (n : Int) = 0 ∧ newU (n : Int) = setB true [0, 1] (List.replicate n false) := by
  have e : newE (n : Int) = 0 := by unfold newE; rw [if_neg (by omega)]
  exact ⟨e, by unfold newU; rw [if_pos e, Int.toNat_natCast]⟩
theorem setB_two (N : List Bool) : setB true [0, 1] N = (N.set 0 true).set 1 true := rfl
set_option maxRecDepth 100000 in
set_option maxHeartbeats 2000000 in
theorem rfNew_any (c : Int) (w : World) :
    Calls Try.prog 13 #[.int .i64 c] w fun e w' => ∃ r, e = .returned (.tuple #[r, .int .i64 (newE c)]) ∧ OwnU w' w.heap.size r (newU c) ∧ Below w.heap.size w w' := by
  by_cases h4 : c < 4
  · have d1 : decide (c < 4) = true := decide_eq_true h4
    have HE : Hid (newE c = 1 ∧ newU c = []) := Lib.hid (new_no (.inl h4))
    clear h4
    go_enter Try.func13, Try.ntmps13
    go_wp2
    go_ret2
    rw [HE.out.1, HE.out.2]
    exact ⟨_, rfl, ⟨none, 0, rfl, ⟨Nat.le_refl _, fun _ => rfl⟩, by unfold maxLen; omega, .inl ⟨rfl, rfl⟩⟩, Below.refl _ _⟩
  · by_cases h5 : 4096 < c
    · have d1 : decide (c < 4) = false := decide_eq_false h4
      have d2 : decide (4096 < c) = true := decide_eq_true h5
      have d3 : decide (c > 4096) = true := decide_eq_true h5
      have HE : Hid (newE c = 1 ∧ newU c = []) := Lib.hid (new_no (.inr h5))
      clear h4 h5
      go_enter Try.func13, Try.ntmps13
      go_wp2
      go_ret2
      rw [HE.out.1, HE.out.2]
      exact ⟨_, rfl, ⟨none, 0, rfl, ⟨Nat.le_refl _, fun _ => rfl⟩, by unfold maxLen; omega, .inl ⟨rfl, rfl⟩⟩, Below.refl _ _⟩
    · obtain ⟨n, rfl⟩ : ∃ n : Nat, c = (n : Int) := ⟨c.toNat, by omega⟩
      have d1 : decide ((n : Int) < 4) = false := decide_eq_false h4
      have d2 : decide (4096 < (n : Int)) = false := decide_eq_false h5
      have d3 : decide ((n : Int) > 4096) = false := decide_eq_false h5
      have HE : Hid (newE (n : Int) = 0 ∧ newU (n : Int) = setB true [0, 1] (List.replicate n false)) := Lib.hid (new_yes (by omega) (by omega))
      have hn1 : 4 ≤ n := by omega
      have hn2 : n ≤ 4096 := by omega
      have hmk : (Instr.makeSlice 22 (.int .i64 (n : Int)) (.int .i64 (n : Int))).run Try.prog w = .ok (.slice (some ⟨w.heap.size, 0, none⟩) n n) (w.alloc (.cells (madeCells #[.bool false] n) 4)) := run_make_row' (P := Try.prog) 22 4 (.bool false) 1 Try.underlying22 infoBo rfl .i64 .i64 n (by omega) (by omega) w
      have HM := Lib.hid (newU_made w n hn2)
      have HB := Lib.hid ((Below.refl w.heap.size w).alloc (Nat.le_refl _) (.cells (madeCells #[.bool false] n) 4))
      have HN1 := Lib.hid hn1
      have hi1 : (0 : Int) < (n : Int) := by omega
      have hi2 : (1 : Int) < (n : Int) := by omega
      clear h4 h5 hn1 hn2
      go_enter Try.func13, Try.ntmps13
      go_upto_region 4 with fail
      clear hmk
      generalize w.alloc (.cells (madeCells #[.bool false] n) 4) = w1 at HM HB ⊢
      have HM1 := Lib.hid (HM.out.set 0 (by rw [List.length_replicate]; have := HN1.out; omega) true)
      have HM2 := Lib.hid (HM1.out.set 1 (by rw [List.length_set, List.length_replicate]; have := HN1.out; omega) true)
      obtain ⟨_, _, hv, _, _, h6⟩ := HM.out
      injection hv with e1 e2 e3
      subst e1
      clear e2 e3
      obtain ⟨g, e5, _, _, hcc⟩ := h6.resolve_left (by rintro ⟨e, _⟩; cases e)
      obtain rfl : w.heap.size = g := by simpa using e5
      obtain ⟨k0, f0⟩ := hcc 0 (by rw [List.length_replicate]; have := HN1.out; omega)
      obtain ⟨k1, f1⟩ := hcc 1 (by rw [List.length_replicate]; have := HN1.out; omega)
      have HB2 := Lib.hid ((HB.out.setCell (p := ⟨w.heap.size, 0, none⟩) (Nat.le_refl _) (.bool true)).setCell (p := ⟨w.heap.size, 1, none⟩) (Nat.le_refl _) (.bool true))
      clear hcc h6 e5
      generalize (List.replicate n false).getD 0 false = y0 at k0
      generalize (List.replicate n false).getD 1 false = y1 at k1
      go_wp2
      go_ret2
      rw [HE.out.1, HE.out.2]
      exact ⟨_, rfl, HM2.out, HB2.out⟩
set_option maxRecDepth 100000 in
set_option maxHeartbeats 2000000 in
theorem spNew_any (c : Int) (w : World) :
    Calls Try.prog 12 #[.int .i64 c] w fun e w' => ∃ r, e = .returned (.tuple #[r, .int .i64 (newE c)]) ∧ OwnU w' w.heap.size r (newU c) ∧ Below w.heap.size w w' := by
  by_cases h4 : c < 4
  · have d1 : decide (c < 4) = true := decide_eq_true h4
    have HE : Hid (newE c = 1 ∧ newU c = []) := Lib.hid (new_no (.inl h4))
    clear h4
    go_enter Try.func12, Try.ntmps12
    go_wp2
    go_ret2
    rw [HE.out.1, HE.out.2]
    exact ⟨_, rfl, ⟨none, 0, rfl, ⟨Nat.le_refl _, fun _ => rfl⟩, by unfold maxLen; omega, .inl ⟨rfl, rfl⟩⟩, Below.refl _ _⟩
  · by_cases h5 : 4096 < c
    · have d1 : decide (c < 4) = false := decide_eq_false h4
      have d2 : decide (4096 < c) = true := decide_eq_true h5
      have d3 : decide (c > 4096) = true := decide_eq_true h5
      have HE : Hid (newE c = 1 ∧ newU c = []) := Lib.hid (new_no (.inr h5))
      clear h4 h5
      go_enter Try.func12, Try.ntmps12
      go_wp2
      go_ret2
      rw [HE.out.1, HE.out.2]
      exact ⟨_, rfl, ⟨none, 0, rfl, ⟨Nat.le_refl _, fun _ => rfl⟩, by unfold maxLen; omega, .inl ⟨rfl, rfl⟩⟩, Below.refl _ _⟩
    · obtain ⟨n, rfl⟩ : ∃ n : Nat, c = (n : Int) := ⟨c.toNat, by omega⟩
      have d1 : decide ((n : Int) < 4) = false := decide_eq_false h4
      have d2 : decide (4096 < (n : Int)) = false := decide_eq_false h5
      have d3 : decide ((n : Int) > 4096) = false := decide_eq_false h5
      have HE : Hid (newE (n : Int) = 0 ∧ newU (n : Int) = setB true [0, 1] (List.replicate n false)) := Lib.hid (new_yes (by omega) (by omega))
      have hn1 : 4 ≤ n := by omega
      have hn2 : n ≤ 4096 := by omega
      have hmk : (Instr.makeSlice 22 (.int .i64 (n : Int)) (.int .i64 (n : Int))).run Try.prog w = .ok (.slice (some ⟨w.heap.size, 0, none⟩) n n) (w.alloc (.cells (madeCells #[.bool false] n) 4)) := run_make_row' (P := Try.prog) 22 4 (.bool false) 1 Try.underlying22 infoBo rfl .i64 .i64 n (by omega) (by omega) w
      have HM := Lib.hid (newU_made w n hn2)
      have HB := Lib.hid ((Below.refl w.heap.size w).alloc (Nat.le_refl _) (.cells (madeCells #[.bool false] n) 4))
      have HN1 := Lib.hid hn1
      have HN2 := Lib.hid hn2
      have hi1 : (0 : Int) < (n : Int) := by omega
      have hi2 : (1 : Int) < (n : Int) := by omega
      clear h4 h5 hn1 hn2
      go_enter Try.func12, Try.ntmps12
      go_upto_region 4 with fail
      clear hmk
      generalize w.alloc (.cells (madeCells #[.bool false] n) 4) = w1 at HM HB ⊢
      go_wp2_with fail
      go_loopw [14] (fun ix wr => ∃ j : Nat, j ≤ 2 ∧ ix = .int .i64 (j : Int) ∧ OwnU wr w.heap.size (.slice (some ⟨w.heap.size, 0, none⟩) n n) (setB true (List.range j) (List.replicate n false)) ∧ Below w.heap.size w wr) (fun ix _ => 2 - idxOf ix)
      case atStart => exact ⟨0, by omega, rfl, HM.out, HB.out⟩
      case round =>
        obtain ⟨j, hj, rfl, hO, hb⟩ := hrel
        have hlen : (setB true (List.range j) (List.replicate n false)).length = n := by rw [setB_len, List.length_replicate]
        have HLE := Lib.hid hlen
        have HOO := Lib.hid hO
        have HBB := Lib.hid hb
        by_cases hlt : j < 2
        · obtain ⟨_, _, hv, _, _, h6⟩ := hO
          injection hv with e1 e2 e3
          subst e1
          clear e2 e3
          obtain ⟨g, e5, hgb, _, hcc⟩ := h6.resolve_left (by rintro ⟨e, _⟩; cases e)
          obtain rfl : w.heap.size = g := by simpa using e5
          obtain ⟨k0, f0⟩ := hcc j (by rw [hlen]; have := HN1.out; omega)
          have d0 : decide ((j : Int) < 2) = true := decide_eq_true (by omega)
          have hij0 : (0 : Int) ≤ (j : Int) := by omega
          have hij1 : (j : Int) < (n : Int) := by have := HN1.out; omega
          have hw2 : IntKind.i64.wrap ((j : Int) + 1) = (j : Int) + 1 := by rw [IntKind.wrap_i64]; omega
          have HS : Hid (setB true (List.range (j + 1)) (List.replicate n false) = (setB true (List.range j) (List.replicate n false)).set j true) := Lib.hid (by rw [List.range_succ, setB_snoc])
          have HLT := Lib.hid hlt
          generalize setB true (List.range j) (List.replicate n false) = N at *
          generalize N.getD j false = y0 at k0
          clear hcc h6 e5 hb hlen hgb HM HB
          go_wp2
          go_roundw
          case rel => exact ⟨j + 1, by have := HLT.out; omega, by simp, by rw [HS.out]; exact HOO.out.set j (by rw [HLE.out]; have := HN1.out; have := HLT.out; omega) true, HBB.out.setCell (p := ⟨w.heap.size, j, none⟩) (Nat.le_refl _) (.bool true)⟩
          case measure => simp [idxOf]; have := HLT.out; omega
        · obtain rfl : j = 2 := by omega
          clear hO hb hlen HM HB
          go_wp2
          go_ret2
          rw [HE.out.1, HE.out.2]
          exact ⟨_, rfl, HOO.out, HBB.out⟩
end Go.Proofs.Ytoaofhgkpnpglaa
