/- Uses of clusters: the lowest ones that are free are taken, by the document. -/
import Derived.Test.YtoaofhgkpnpglaaSpcD
import Derived.Test.YtoaofhgkpnpglaaSpcF
namespace Go.Proofs.Ytoaofhgkpnpglaa
open Go.RowKit

theorem OwnU.at {w : World} {base g n c : Nat} {N : List Bool} (k : OwnU w base (.slice (some ⟨g, 0, none⟩) n c) N) {i : Nat} (hi : i < N.length) : w.cell? ⟨g, i, none⟩ = some (.bool (N.getD i false)) ∧ w.frozen? ⟨g, i, none⟩ = false := by
  obtain ⟨A', cap, hv, h1, h2, h3⟩ := k
  injection hv with e1 e2 e3
  subst e1
  obtain ⟨g', hA, _, _, hc⟩ := h3.resolve_left (by rintro ⟨e, _⟩; cases e)
  injection hA with hA; injection hA with hA
  rw [hA]
  exact hc i hi
theorem OwnU.lt {w : World} {base n c : Nat} {A : Option Addr} {N : List Bool} (k : OwnU w base (.slice A n c) N) : ∀ g, A = some ⟨g, 0, none⟩ → base ≤ g ∧ g < w.heap.size := by
  intro g e
  obtain ⟨A', cap, hv, h1, h2, h3⟩ := k
  injection hv with e1 e2 e3
  subst e1
  obtain ⟨g', hA, hb, hl, _⟩ := h3.resolve_left (by rintro ⟨e', _⟩; rw [e] at e'; cases e')
  rw [e] at hA
  injection hA with hA; injection hA with hA
  rw [hA]; exact ⟨hb, hl⟩
/-- What is noted ahead of place i. -/
def tk (Q : List Bool) (m i : Nat) : List Nat := (frI false Q i).take m
theorem tk_len (Q : List Bool) (m i : Nat) : (tk Q m i).length ≤ i ∧ (tk Q m i).length ≤ m := by
  unfold tk; rw [List.length_take]; have := frI_len false Q i; omega
theorem tk_other (Q : List Bool) (m i : Nat) (hi : i < Q.length) : (setB true (tk Q m i) Q).getD i false = Q.getD i false := by
  rw [setB_at _ _ _ _ hi, if_neg]
  intro h
  have := (frI_mem.1 (List.mem_of_mem_take h)).1
  omega
theorem tk_no {Q : List Bool} {m i : Nat} (h : Q.getD i false = true) : tk Q m (i + 1) = tk Q m i := by
  unfold tk; rw [frI_no (by rw [h]; decide)]
theorem tk_yes {Q : List Bool} {m i : Nat} (h : Q.getD i false = false) (hl : (tk Q m i).length < m) : tk Q m (i + 1) = tk Q m i ++ [i] := by
  unfold tk at hl ⊢
  rw [List.length_take] at hl
  rw [frI_yes h, List.take_of_length_le (by rw [List.length_append]; simp; omega), List.take_of_length_le (by omega)]
theorem tk_full {Q : List Bool} {m i : Nat} (hl : ¬ (tk Q m i).length < m) : tk Q m (i + 1) = tk Q m i := by
  unfold tk at hl ⊢
  rw [List.length_take] at hl
  by_cases h : Q.getD i false = false
  · rw [frI_yes h, List.take_append_of_le_length (by omega)]
  · rw [frI_no h]
theorem noMade (w : World) : OwnU (w.alloc (.cells #[] 4)) w.heap.size (.slice (some ⟨w.heap.size, 0, none⟩) 0 0) [] := ownU_none (Nat.le_refl _)
set_option maxRecDepth 100000 in
set_option maxHeartbeats 4000000 in
theorem rfTake_some {w : World} {a : Addr} {cap : Nat} {Q : List Bool} (h : UseS w (.slice (some a) Q.length cap) Q) (hq : Q.length ≤ 5000) (n : Int) :
    Calls Try.prog 11 #[.slice (some a) Q.length cap, .int .i64 n] w fun e w' => ∃ r l, e = .returned (.tuple #[r, l, .int .i64 (takeE Q n)]) ∧ OwnU w' w.heap.size r (takeU Q n) ∧ IdxS w' l (intsN (takeL Q n)) ∧ Below w.heap.size w w' := by
  obtain ⟨i0, hi, hz0, hz1, hz2⟩ := info_parts infoBo
  obtain ⟨i1, hi1, hy0, hy1, hy2⟩ := info_parts infoIn
  have HU := Lib.hid h
  have HA := Lib.hid (h.at rfl hq)
  have HO := Lib.hid (bools_one Q)
  have HQ := Lib.hid hq
  have hFr := Lib.hid (fun (W : World) (hb : Below w.heap.size w W) => rfFree_any (h.below hb (Nat.le_refl _)) hq)
  clear h hq
  by_cases hn0 : n < 0
  · have d1 : decide (n < 0) = true := decide_eq_true hn0
    have HE := Lib.hid (takeE_neg (Q := Q) hn0)
    clear hn0
    go_enter Try.func11, Try.ntmps11
    go_wp2_with (at_builtin; refine wpList_append_own _ rfl _ _ 22 rfl w.heap.size 4 i0 (.bool false) 1 1 Try.underlying22 hi hz0 hz1 hz2 rfl (by decide) _ _ _ rfl (World.ownsRow_made _ #[] 0 (Nat.le_refl _) (Nat.zero_le _) (by simp)) a Q.length cap (Q.map Value.bool) rfl (by simp) (fun j u hj => Lib.cell?_alloc_some _ (HA.out.2.2.2 j u hj)) HO.out (by have := HQ.out; unfold maxLen; omega) (by have := HQ.out; omega) (by simp) ?_; intro v1 w1 hown hgrow hnil; rw [Nat.zero_add, List.nil_append] at hown; have HO1 := Lib.hid (ownU_of hown); have HB1 := Lib.hid (made_below (Below.refl w.heap.size w) hgrow); obtain ⟨A1, cap1, rfl, _⟩ := ownU_of hown; clear hown hgrow hnil)
    go_ret3
    rw [HE.out.1, HE.out.2.1, HE.out.2.2]
    exact ⟨_, _, rfl, HO1.out, idxS_none _, HB1.out⟩
  · obtain ⟨m, rfl⟩ : ∃ m : Nat, n = (m : Int) := ⟨n.toNat, by omega⟩
    have d1 : decide ((m : Int) < 0) = false := decide_eq_false hn0
    clear hn0
    by_cases hf : (fr false Q).length < m
    · have d2 : decide (((fr false Q).length : Int) < (m : Int)) = true := decide_eq_true (by omega)
      have HE := Lib.hid (takeE_few (Q := Q) (n := (m : Int)) (by omega) (by omega))
      go_enter Try.func11, Try.ntmps11
      go_wp2_with (first
        | (go_at_call 17; refine (hFr.out _ HB1.out).mono ?_; rintro e w2 ⟨rfl, hb2⟩; have HO2 := Lib.hid (HO1.out.below hb2 (Nat.le_refl _)); have HB2 := Lib.hid (HB1.out.trans (hb2.mono HB1.out.size)); clear hb2)
        | (at_builtin; refine wpList_append_own _ rfl _ _ 22 rfl w.heap.size 4 i0 (.bool false) 1 1 Try.underlying22 hi hz0 hz1 hz2 rfl (by decide) _ _ _ rfl (World.ownsRow_made _ #[] 0 (Nat.le_refl _) (Nat.zero_le _) (by simp)) a Q.length cap (Q.map Value.bool) rfl (by simp) (fun j u hj => Lib.cell?_alloc_some _ (HA.out.2.2.2 j u hj)) HO.out (by have := HQ.out; unfold maxLen; omega) (by have := HQ.out; omega) (by simp) ?_; intro v1 w1 hown hgrow hnil; rw [Nat.zero_add, List.nil_append] at hown; have HO1 := Lib.hid (ownU_of hown); have HB1 := Lib.hid (made_below (Below.refl w.heap.size w) hgrow); obtain ⟨A1, cap1, rfl, _⟩ := ownU_of hown; clear hown hgrow hnil))
      go_ret3
      rw [HE.out.1, HE.out.2.1, HE.out.2.2]
      exact ⟨_, _, rfl, HO2.out, idxS_none _, HB2.out⟩
    · have d2 : decide (((fr false Q).length : Int) < (m : Int)) = false := decide_eq_false (by omega)
      have HE := Lib.hid (takeE_yes (Q := Q) (n := m) (by omega))
      go_enter Try.func11, Try.ntmps11
      go_wp2_with (first
        | (go_at_call 17; refine (hFr.out _ HB1.out).mono ?_; rintro e w2 ⟨rfl, hb2⟩; have HO2 := Lib.hid (HO1.out.below hb2 (Nat.le_refl _)); have HB2 := Lib.hid (HB1.out.trans (hb2.mono HB1.out.size)); clear hb2)
        | (at_builtin; refine wpList_append_own _ rfl _ _ 22 rfl w.heap.size 4 i0 (.bool false) 1 1 Try.underlying22 hi hz0 hz1 hz2 rfl (by decide) _ _ _ rfl (World.ownsRow_made _ #[] 0 (Nat.le_refl _) (Nat.zero_le _) (by simp)) a Q.length cap (Q.map Value.bool) rfl (by simp) (fun j u hj => Lib.cell?_alloc_some _ (HA.out.2.2.2 j u hj)) HO.out (by have := HQ.out; unfold maxLen; omega) (by have := HQ.out; omega) (by simp) ?_; intro v1 w1 hown hgrow hnil; rw [Nat.zero_add, List.nil_append] at hown; have HO1 := Lib.hid (ownU_of hown); have HB1 := Lib.hid (made_below (Below.refl w.heap.size w) hgrow); obtain ⟨A1, cap1, rfl, _⟩ := ownU_of hown; clear hown hgrow hnil))
      have HGL := Lib.hid HO2.out.lt
      clear HB1 HO1 hFr HA HO hi hz0 hz1 hz2
      have HQ2 := Lib.hid HQ.out
      go_loopw [8, 23] (fun sx ix wr => ∃ (i : Nat) (As : Option Addr) (cs : Nat), i ≤ Q.length ∧ ix = .int .i64 (i : Int) ∧ sx = .slice As (tk Q m i).length cs ∧ wr.ownsRow w2.heap.size 3 1 (.slice As (tk Q m i).length cs) (tk Q m i).length (ivs (tk Q m i)) ∧ OwnU wr w.heap.size (.slice A1 Q.length cap1) (setB true (tk Q m i) Q) ∧ Below w.heap.size w wr ∧ w2.heap.size ≤ wr.heap.size) (fun _ ix _ => Q.length - idxOf ix)
      case atStart => exact ⟨0, none, 0, Nat.zero_le _, rfl, by rw [show tk Q m 0 = [] by unfold tk; rw [frI_zero, List.take_nil]]; rfl, by rw [show tk Q m 0 = [] by unfold tk; rw [frI_zero, List.take_nil]]; exact World.ownsRow_nil _ _ _ _, by rw [show tk Q m 0 = [] by unfold tk; rw [frI_zero, List.take_nil]]; exact HO2.out, HB2.out, Nat.le_refl _⟩
      case round =>
        obtain ⟨i, Au, cu, hiq, rfl, rfl, hrow, hO, hb, hsz⟩ := hrel
        have HRW := Lib.hid hrow
        have HOO := Lib.hid hO
        have HB := Lib.hid hb
        have HSZ := Lib.hid hsz
        by_cases hlt : i < Q.length
        · obtain ⟨A9, c9, h9, _, _, h3⟩ := hO
          injection h9 with e1 e2 e3
          subst e1
          obtain ⟨g, rfl, hgb, _, hcc⟩ := h3.resolve_left (by rintro ⟨_, e⟩; have e' := congrArg List.length e; rw [setB_len, List.length_nil] at e'; omega)
          obtain ⟨k0, f0⟩ := hcc i (by rw [setB_len]; exact hlt)
          rw [tk_other _ _ _ hlt] at k0
          have HLT := Lib.hid hlt
          have HLN := Lib.hid (tk_len Q m i)
          have d0 : decide ((i : Int) < (Q.length : Int)) = true := decide_eq_true (by omega)
          have hii0 : (0 : Int) ≤ (i : Int) := by omega
          have hii1 : (i : Int) < (Q.length : Int) := by omega
          have hw2 : IntKind.i64.wrap ((i : Int) + 1) = (i : Int) + 1 := by have := HQ2.out; rw [IntKind.wrap_i64]; omega
          have HGB := Lib.hid hgb
          clear e2 e3 h3 hcc hgb hrow hb hsz
          by_cases hu : Q.getD i false = true
          · rw [hu] at k0
            have HS := Lib.hid (tk_no (m := m) hu)
            clear hu
            go_wp2
            go_roundw
            case rel => exact ⟨i + 1, Au, cu, by have := HLT.out; omega, by simp, by rw [HS.out], by rw [HS.out]; exact HRW.out, by rw [HS.out]; exact HOO.out, HB.out, HSZ.out⟩
            case measure => simp [idxOf]; have := HLT.out; omega
          · have hu2 : Q.getD i false = false := by simpa using hu
            rw [hu2] at k0
            by_cases hl : (tk Q m i).length < m
            · have HS := Lib.hid (tk_yes hu2 hl)
              have d5 : decide (((tk Q m i).length : Int) < (m : Int)) = true := decide_eq_true (by omega)
              have hgw : g < w2.heap.size := (HGL.out g rfl).2
              have HGW := Lib.hid hgw
              have HL5 : Hid ((tk Q m i).length ≤ 4999) := Lib.hid (by have := HLN.out.1; have := HQ2.out; have := HLT.out; omega)
              clear hu hu2 hgw
              go_wp2_with (at_builtin; refine wpList_append_own _ rfl _ _ 23 rfl w2.heap.size 3 i1 _ 1 8 Try.underlying23 hi1 hy0 hy1 hy2 rfl (by decide) _ _ _ rfl (HRW.out.alloc _) ⟨wr.heap.size, 0, none⟩ 1 1 [.int .i64 (i : Int)] rfl rfl (one_cell wr (i : Int) _) (fun u hu => by simp only [List.mem_cons, List.not_mem_nil, or_false] at hu; rcases hu with rfl; rfl) (by have := HL5.out; unfold maxLen; omega) (by have := HL5.out; omega) (by have := HSZ.out; simp; omega) ?_; intro v' w3 hown' hgrow _; obtain ⟨g', cap', rfl⟩ := ownsRow_succ hown'; have HOW := Lib.hid hown'; have HGR := Lib.hid hgrow; have HO3 := Lib.hid ((HOO.out.below ((Below.refl _ _).alloc (Nat.le_refl _) _) (Nat.le_refl _)).kept hgrow (fun q e e' => by injection e with e; injection e with e; have := (HRW.out.lt q e'.symm).1; have := HGW.out; omega)); obtain ⟨k3, f3⟩ := HO3.out.at (i := i) (by rw [setB_len]; exact HLT.out); clear hown' hgrow)
              go_roundw
              case rel =>
                refine ⟨i + 1, _, cap', by have := HLT.out; omega, by simp, by rw [HS.out, List.length_append]; rfl, ?_, ?_, ?_, ?_⟩
                · rw [HS.out, ivs_snoc, List.length_append]
                  exact HOW.out.kept (grown_set _ _ _ _) (.inr fun e => by have := (HOW.out.lt _ e).1; have := HGW.out; omega)
                · rw [HS.out, setB_snoc]
                  exact HO3.out.set i (by rw [setB_len]; exact HLT.out) true
                · refine ((HB.out.alloc HB.out.size _).grown HGR.out (by have := HB.out.size; simp; omega) (fun k hk => by have := (HRW.out.lt k hk).1; have := HB2.out.size; omega)).setCell (p := ⟨g, i, none⟩) HGB.out _
                · have h1 := HGR.out.size
                  simp at h1 ⊢
                  have := HSZ.out; omega
              case measure => simp [idxOf]; have := HLT.out; omega
            · have HS := Lib.hid (tk_full hl)
              have d5 : decide (((tk Q m i).length : Int) < (m : Int)) = false := decide_eq_false (by omega)
              clear hu hu2
              go_wp2
              go_roundw
              case rel => exact ⟨i + 1, Au, cu, by have := HLT.out; omega, by simp, by rw [HS.out], by rw [HS.out]; exact HRW.out, by rw [HS.out]; exact HOO.out, HB.out, HSZ.out⟩
              case measure => simp [idxOf]; have := HLT.out; omega
        · obtain rfl : i = Q.length := by omega
          have HT : Hid (tk Q m Q.length = (fr false Q).take m) := Lib.hid rfl
          clear hrow hO hb hsz
          go_wp2
          go_ret3
          rw [HE.out.1, HE.out.2.1, HE.out.2.2, ← HT.out]
          exact ⟨_, _, rfl, HOO.out, idxS_of (by rw [← ivs_ints]; exact HRW.out), HB.out⟩
set_option maxRecDepth 100000 in
set_option maxHeartbeats 4000000 in
theorem rfTake_none {w : World} (h : UseS w (.slice none 0 0) []) (n : Int) :
    Calls Try.prog 11 #[.slice none 0 0, .int .i64 n] w fun e w' => ∃ r l, e = .returned (.tuple #[r, l, .int .i64 (takeE [] n)]) ∧ OwnU w' w.heap.size r (takeU [] n) ∧ IdxS w' l (intsN (takeL [] n)) ∧ Below w.heap.size w w' := by
  obtain ⟨i0, hi, hz0, hz1, hz2⟩ := info_parts infoBo
  have HM := Lib.hid (World.ownsRow_made (e := 4) (size := 1) w #[] 0 (Nat.le_refl w.heap.size) (Nat.zero_le _) (by simp))
  have HB1 := Lib.hid ((Below.refl w.heap.size w).alloc (Nat.le_refl _) (.cells #[] 4))
  have HO1 := Lib.hid (noMade w)
  have hFr := Lib.hid (fun (W : World) (hb : Below w.heap.size w W) => rfFree_any (h.below hb (Nat.le_refl _)) (by simp))
  clear h
  by_cases hn0 : n < 0
  · have d1 : decide (n < 0) = true := decide_eq_true hn0
    have HE := Lib.hid (takeE_neg (Q := []) hn0)
    clear hn0
    go_enter Try.func11, Try.ntmps11
    go_wp2_with (at_builtin; refine wpList_append_own_none rfl _ _ 22 rfl w.heap.size 4 i0 1 Try.underlying22 hi _ 0 [] rfl HM.out rfl ?_)
    go_ret3
    rw [HE.out.1, HE.out.2.1, HE.out.2.2]
    exact ⟨_, _, rfl, HO1.out, idxS_none _, HB1.out⟩
  · obtain ⟨m, rfl⟩ : ∃ m : Nat, n = (m : Int) := ⟨n.toNat, by omega⟩
    have d1 : decide ((m : Int) < 0) = false := decide_eq_false hn0
    clear hn0
    by_cases hf : (fr false []).length < m
    · have d2 : decide (((fr false []).length : Int) < (m : Int)) = true := decide_eq_true (by omega)
      have HE := Lib.hid (takeE_few (Q := []) (n := (m : Int)) (by omega) (by omega))
      go_enter Try.func11, Try.ntmps11
      go_wp2_with (first
        | (go_at_call 17; refine (hFr.out _ HB1.out).mono ?_; rintro e w2 ⟨rfl, hb2⟩; have HO2 := Lib.hid (HO1.out.below hb2 (Nat.le_refl _)); have HB2 := Lib.hid (HB1.out.trans (hb2.mono HB1.out.size)); clear hb2)
        | (at_builtin; refine wpList_append_own_none rfl _ _ 22 rfl w.heap.size 4 i0 1 Try.underlying22 hi _ 0 [] rfl HM.out rfl ?_))
      go_ret3
      rw [HE.out.1, HE.out.2.1, HE.out.2.2]
      exact ⟨_, _, rfl, HO2.out, idxS_none _, HB2.out⟩
    · have d2 : decide (((fr false []).length : Int) < (m : Int)) = false := decide_eq_false (by omega)
      have HE := Lib.hid (takeE_yes (Q := []) (n := m) (by omega))
      go_enter Try.func11, Try.ntmps11
      go_wp2_with (first
        | (go_at_call 17; refine (hFr.out _ HB1.out).mono ?_; rintro e w2 ⟨rfl, hb2⟩; have HO2 := Lib.hid (HO1.out.below hb2 (Nat.le_refl _)); have HB2 := Lib.hid (HB1.out.trans (hb2.mono HB1.out.size)); clear hb2)
        | (at_builtin; refine wpList_append_own_none rfl _ _ 22 rfl w.heap.size 4 i0 1 Try.underlying22 hi _ 0 [] rfl HM.out rfl ?_))
      clear HB1 HO1 HM hFr
      go_loopw [8, 23] (fun sx ix wr => sx = .slice none 0 0 ∧ ix = .int .i64 0 ∧ wr = w2) (fun _ ix _ => 0)
      case atStart => exact ⟨rfl, rfl, rfl⟩
      case round =>
        obtain ⟨rfl, rfl, rfl⟩ := hrel
        go_wp2
        go_ret3
        rw [HE.out.1, HE.out.2.1, HE.out.2.2, show (fr false []).take m = [] from List.take_nil]
        exact ⟨_, _, rfl, HO2.out, idxS_none _, HB2.out⟩
theorem rfTake_any {w : World} {v : Value} {Q : List Bool} (h : UseS w v Q) (hq : Q.length ≤ 5000) (n : Int) :
    Calls Try.prog 11 #[v, .int .i64 n] w fun e w' => ∃ r l, e = .returned (.tuple #[r, l, .int .i64 (takeE Q n)]) ∧ OwnU w' w.heap.size r (takeU Q n) ∧ IdxS w' l (intsN (takeL Q n)) ∧ Below w.heap.size w w' := by
  obtain ⟨A, cap, hv, ⟨h1, h0⟩, h2, h3⟩ := id h
  cases A with
  | some a => subst hv; exact rfTake_some h hq n
  | none =>
    obtain rfl : Q = [] := by
      rcases h3 with h3 | ⟨b, off, hA, _⟩
      · exact h3
      · cases hA
    obtain rfl : cap = 0 := h0 rfl
    subst hv
    exact rfTake_none h n
end Go.Proofs.Ytoaofhgkpnpglaa
