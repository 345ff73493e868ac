/- Uses of clusters: the walk of SpaceLowest. -/
import Derived.Test.YtoaofhgkpnpglaaSpcH
import Derived.Test.YtoaofhgkpnpglaaSpcR
namespace Go.Proofs.Ytoaofhgkpnpglaa
open Go.RowKit

/-- What a taking gives, in numbers. -/
structure Low (Q V : List Bool) (L : List Int) (m : Nat) : Prop where
  lv : V.length = Q.length
  ll : L.length = m
  fr : ((fr false V).length : Int) = ((fr false Q).length : Int) - (m : Int)
  each : ∀ j, j < m → ∃ x : Nat, L.getD j 0 = (x : Int) ∧ x < Q.length ∧ Q.getD x false = false ∧ V.getD x false = true
  rise : ∀ j, j + 1 < m → L.getD j 0 < L.getD (j + 1) 0
  low : ∀ j, j < m → ∀ i : Nat, (i : Int) < L.getD j 0 → V.getD i false = true
  back : turnF false 3 V L V = (Q, 0)
theorem low_of {Q : List Bool} {m : Nat} (h : takeE Q (m : Int) = 0) : Low Q (takeU Q (m : Int)) (intsN (takeL Q (m : Int))) m := by
  have hl : (takeL Q (m : Int)).length = m := by have := takeL_len h; omega
  refine ⟨takeU_len _ _, by rw [intsN_len, hl], take_free h, fun j hj => ?_, fun j hj => ?_, fun j hj i hi => ?_, take_back 3⟩
  · obtain ⟨h1, h2, h3⟩ := take_each (Q := Q) (n := (m : Int)) (j := j) (by omega)
    exact ⟨_, intsN_at (by omega), h1, h2, h3⟩
  · rw [intsN_at (j := j) (by omega), intsN_at (j := j + 1) (by omega)]
    have := take_rise (Q := Q) (n := (m : Int)) (j := j) (by omega)
    omega
  · rw [intsN_at (j := j) (by omega)] at hi
    exact take_low h (j := j) (by omega) (by omega)
set_option maxRecDepth 100000 in
set_option maxHeartbeats 4000000 in
theorem spaceLowest_yes {w : World} {u : Value} {Q V : List Bool} {L : List Int} {m : Nat} (h : UseS w u Q) (hq : Q.length ≤ 5000) (hE : takeE Q (m : Int) = 0) (hV : takeU Q (m : Int) = V) (hL : intsN (takeL Q (m : Int)) = L) (hlow : Low Q V L m) (hm : m ≤ 5000) :
    Calls Try.prog 4 #[u, .int .i64 (m : Int)] w fun e w' => e = .returned (.bool true) ∧ Below w.heap.size w w' := by
  have hT := fun (W : World) (h1 : UseS W u Q) => spTake_any h1 hq (m : Int)
  simp only [hE, hV, hL] at hT
  have HT := Lib.hid hT
  have HFQ := Lib.hid (fun (W : World) (h1 : UseS W u Q) => free_any h1 hq)
  have HFV := Lib.hid (fun (W : World) (v : Value) (h1 : UseS W v V) => free_any h1 (by rw [hlow.lv]; exact hq))
  have HG := Lib.hid (fun (W : World) (v a : Value) (h1 : UseS W v V) (h2 : IdxS W a L) => by have hg := spGive_any h1 h2 (by rw [hlow.lv]; exact hq) (by rw [hlow.ll]; exact hm); rw [hlow.back] at hg; exact hg)
  have HU := Lib.hid h
  have HB := Lib.hid (Below.refl w.heap.size w)
  have HLW := Lib.hid hlow
  obtain ⟨A, cap, rfl, -⟩ := h
  have g1 : decide ((Q.length : Int) > 5000) = false := decide_eq_false (by omega)
  have HQ := Lib.hid hq
  have HM := Lib.hid hm
  obtain ⟨nq, hnq⟩ : ∃ nq, nq = (fr false Q).length := ⟨_, rfl⟩
  obtain ⟨nv, hnv⟩ : ∃ nv, nv = (fr false V).length := ⟨_, rfl⟩
  have hf := hlow.fr
  rw [← hnq, ← hnv] at hf
  have hnq5 : nq ≤ 5000 := by rw [hnq]; have := frI_len false Q Q.length; unfold fr; omega
  have hw1 : IntKind.i64.wrap ((nq : Int) - (m : Int)) = (nv : Int) := by rw [IntKind.wrap_i64]; omega
  have hw2 : wrap64 ((nq : Int) - (m : Int)) = (nv : Int) := by unfold wrap64; omega
  rw [← hnq] at HFQ
  rw [← hnv] at HFV
  clear hT hq hE hV hL hlow hm hf hnq5 hnq hnv
  go_enter Try.func4, Try.ntmps4
  go_upto_region 5 with (go_at_call 5; refine (spLives_any _).mono ?_; rintro e w1 ⟨rfl, hb⟩; replace HU := Lib.hid (HU.out.below hb (Nat.le_refl _)); replace HB := Lib.hid (HB.out.trans (hb.mono HB.out.size)); clear hb)
  go_upto_region 6 with (go_at_call 10; refine (HT.out _ HU.out).mono ?_; rintro e w2 ⟨r, l, rfl, hO, hi, hb⟩; have HV := Lib.hid hO.use; have HI := Lib.hid hi; replace HU := Lib.hid (HU.out.below hb (Nat.le_refl _)); replace HB := Lib.hid (HB.out.trans (hb.mono HB.out.size)); obtain ⟨A1, c1, rfl, -⟩ := hO; obtain ⟨A2, c2, rfl, -⟩ := hi; simp only [HLW.out.lv, HLW.out.ll] at HV HI ⊢; clear hb)
  go_wp2_with (first
    | (go_at_call 16; (with_reducible refine (HFV.out _ _ HV.out).mono ?_); rintro e w3 ⟨rfl, hb⟩; replace HU := Lib.hid (HU.out.below hb (Nat.le_refl _)); replace HV := Lib.hid (HV.out.below hb (Nat.le_refl _)); replace HI := Lib.hid (HI.out.below hb (Nat.le_refl _)); replace HB := Lib.hid (HB.out.trans (hb.mono HB.out.size)); clear hb)
    | (go_at_call 16; (with_reducible refine (HFQ.out _ HU.out).mono ?_); rintro e w3 ⟨rfl, hb⟩; replace HU := Lib.hid (HU.out.below hb (Nat.le_refl _)); replace HV := Lib.hid (HV.out.below hb (Nat.le_refl _)); replace HI := Lib.hid (HI.out.below hb (Nat.le_refl _)); replace HB := Lib.hid (HB.out.trans (hb.mono HB.out.size)); clear hb))
  clear hw1 hw2 g1
  go_loopw [67] (fun ix wr => ∃ j : Nat, j ≤ m ∧ ix = .int .i64 (j : Int) ∧ wr = w3) (fun ix _ => m - idxOf ix)
  case atStart => exact ⟨0, Nat.zero_le _, rfl, rfl⟩
  case round =>
    obtain ⟨j, hj, rfl, rfl⟩ := hrel
    by_cases hlt : j < m
    · obtain ⟨x, hx, hxq, hq0, hv1⟩ := HLW.out.each j hlt
      have hvl : x < V.length := by rw [HLW.out.lv]; exact hxq
      obtain ⟨_, _, h9, _, _, h3⟩ := HI.out
      injection h9 with e1 e2 e3
      subst e1
      obtain ⟨b2, o2, rfl, _, hc2⟩ := h3.resolve_left (by intro e; have := HLW.out.ll; rw [e] at this; simp at this; omega)
      have k0 := hc2 j (by rw [HLW.out.ll]; exact hlt)
      rw [hx] at k0
      obtain ⟨_, _, h9', _, _, h3'⟩ := HU.out
      injection h9' with e1 e2' e3'
      subst e1
      obtain ⟨b0, o0, rfl, _, hc0⟩ := h3'.resolve_left (by intro e; rw [e] at hxq; simp at hxq)
      have k1 := hc0 x hxq
      rw [hq0] at k1
      obtain ⟨_, _, h9'', _, _, h3''⟩ := HV.out
      injection h9'' with e1 e2'' e3''
      subst e1
      obtain ⟨b1, o1, rfl, _, hc1⟩ := h3''.resolve_left (by intro e; rw [e] at hvl; simp at hvl)
      have k2 := hc1 x hvl
      rw [hv1] at k2
      have d0 : decide ((j : Int) < (m : Int)) = true := decide_eq_true (by omega)
      have hij0 : (0 : Int) ≤ (j : Int) := by omega
      have hij1 : (j : Int) < (m : Int) := by omega
      have d1 : decide ((x : Int) < 0) = false := decide_eq_false (by omega)
      have d2 : decide ((Q.length : Int) ≤ (x : Int)) = false := decide_eq_false (by omega)
      have d3 : decide ((x : Int) ≥ (Q.length : Int)) = false := decide_eq_false (by omega)
      have hix0 : (0 : Int) ≤ (x : Int) := by omega
      have hix1 : (x : Int) < (Q.length : Int) := by omega
      have hw2 : IntKind.i64.wrap ((j : Int) + 1) = (j : Int) + 1 := by have := HM.out; rw [IntKind.wrap_i64]; omega
      have HLT := Lib.hid hlt
      by_cases hj0 : j = 0
      · subst hj0
        rw [Nat.add_zero] at k0
        have d0' : decide ((0 : Int) < (m : Int)) = true := decide_eq_true (by omega)
        have hij1' : (0 : Int) < (m : Int) := by omega
        clear d0 hij0 hij1 hw2
        clear e2 e3 e2' e3' e2'' e3'' h3 h3' h3'' hc2 hc0 hc1 hx hq0 hv1 hxq hvl
        go_wp2
        go_roundw
        case rel => exact ⟨1, by have := HLT.out; omega, by simp, by first | rfl | trivial⟩
        case measure => simp [idxOf]; have := HLT.out; omega
      · have d4 : decide ((j : Int) > 0) = true := decide_eq_true (by omega)
        have d5 : decide ((0 : Int) < (j : Int)) = true := decide_eq_true (by omega)
        have kp := hc2 (j - 1) (by rw [HLW.out.ll]; omega)
        have hr := HLW.out.rise (j - 1) (by omega)
        rw [show j - 1 + 1 = j by omega, hx] at hr
        have hw3 : IntKind.i64.wrap ((j : Int) - 1) = ((j - 1 : Nat) : Int) := by have := HM.out; rw [IntKind.wrap_i64]; omega
        have hw4 : wrap64 ((j : Int) - 1) = ((j - 1 : Nat) : Int) := by have := HM.out; unfold wrap64; omega
        have hip0 : (0 : Int) ≤ ((j - 1 : Nat) : Int) := by omega
        have hip1 : ((j - 1 : Nat) : Int) < (m : Int) := by omega
        generalize L.getD (j - 1) 0 = y at kp hr
        have d6 : decide ((x : Int) ≤ y) = false := decide_eq_false (by omega)
        have d7 : decide (y ≥ (x : Int)) = false := decide_eq_false (by omega)
        generalize j - 1 = jp at *
        clear e2 e3 e2' e3' e2'' e3'' h3 h3' h3'' hc2 hc0 hc1 hx hq0 hv1 hxq hvl hr
        go_wp2
        go_roundw
        case rel => exact ⟨j + 1, by have := HLT.out; omega, by simp, by first | rfl | trivial⟩
        case measure => simp [idxOf]; have := HLT.out; omega
    · obtain rfl : j = m := by omega
      have hw5 : IntKind.i64.wrap ((j : Int) - 1) = (j : Int) - 1 := by have := HM.out; rw [IntKind.wrap_i64]; omega
      go_wp2_with fail
      go_loopw [109] (fun ix w9 => ∃ i : Nat, i ≤ Q.length ∧ ix = .int .i64 (i : Int) ∧ w9 = wr) (fun ix _ => Q.length - idxOf ix)
      case atStart => exact ⟨0, Nat.zero_le _, rfl, rfl⟩
      case round =>
        obtain ⟨i, hiq, rfl, rfl⟩ := hrel
        by_cases hlt : i < Q.length
        · have hvl : i < V.length := by rw [HLW.out.lv]; exact hlt
          obtain ⟨_, _, h9'', _, _, h3''⟩ := HV.out
          injection h9'' with e1 e2'' e3''
          subst e1
          obtain ⟨b1, o1, rfl, _, hc1⟩ := h3''.resolve_left (by intro e; rw [e] at hvl; simp at hvl)
          have k2 := hc1 i hvl
          have d0 : decide ((i : Int) < (Q.length : Int)) = true := decide_eq_true (by omega)
          have hii0 : (0 : Int) ≤ (i : Int) := by omega
          have hii1 : (i : Int) < (Q.length : Int) := by omega
          have hw2 : IntKind.i64.wrap ((i : Int) + 1) = (i : Int) + 1 := by have := HQ.out; rw [IntKind.wrap_i64]; omega
          have HLT := Lib.hid hlt
          clear e2'' e3'' h3'' hc1 hvl
          by_cases hm0 : j = 0
          · subst hm0
            clear hw5 k2
            go_wp2
            go_roundw
            case rel => exact ⟨i + 1, by have := HLT.out; omega, by simp, by first | rfl | trivial⟩
            case measure => simp [idxOf]; have := HLT.out; omega
          · have d1 : decide ((j : Int) > 0) = true := decide_eq_true (by omega)
            have d2 : decide ((0 : Int) < (j : Int)) = true := decide_eq_true (by omega)
            obtain ⟨_, _, h9, _, _, h3⟩ := HI.out
            injection h9 with e1 e2 e3
            subst e1
            obtain ⟨b2, o2, rfl, _, hc2⟩ := h3.resolve_left (by intro e; have := HLW.out.ll; rw [e] at this; simp at this; omega)
            have kp := hc2 (j - 1) (by rw [HLW.out.ll]; omega)
            have hlo := HLW.out.low (j - 1) (by omega) i
            have hw3 : IntKind.i64.wrap ((j : Int) - 1) = ((j - 1 : Nat) : Int) := by have := HM.out; rw [IntKind.wrap_i64]; omega
            have hw4 : wrap64 ((j : Int) - 1) = ((j - 1 : Nat) : Int) := by have := HM.out; unfold wrap64; omega
            have hip0 : (0 : Int) ≤ ((j - 1 : Nat) : Int) := by omega
            have hip1 : ((j - 1 : Nat) : Int) < (j : Int) := by omega
            generalize L.getD (j - 1) 0 = y at kp hlo
            generalize j - 1 = jp at *
            clear e2 e3 h3 hc2 hm0 hw5
            by_cases hy : (i : Int) < y
            · rw [hlo hy] at k2
              have d6 : decide ((i : Int) < y) = true := decide_eq_true hy
              clear hlo hy
              go_wp2
              go_roundw
              case rel => exact ⟨i + 1, by have := HLT.out; omega, by simp, by first | rfl | trivial⟩
              case measure => simp [idxOf]; have := HLT.out; omega
            · have d6 : decide ((i : Int) < y) = false := decide_eq_false hy
              clear hlo hy k2
              go_wp2
              go_roundw
              case rel => exact ⟨i + 1, by have := HLT.out; omega, by simp, by first | rfl | trivial⟩
              case measure => simp [idxOf]; have := HLT.out; omega
        · obtain rfl : i = Q.length := by omega
          clear hw5
          go_wp2_with (first
            | (go_at_call 8; refine (HG.out _ _ _ HV.out HI.out).mono ?_; rintro e w4 ⟨r, rfl, hO, hb⟩; replace HV := Lib.hid hO.use; replace HU := Lib.hid (HU.out.below hb (Nat.le_refl _)); replace HB := Lib.hid (HB.out.trans (hb.mono HB.out.size)); obtain ⟨A5, c5, rfl, -⟩ := hO; clear hb)
            | (go_at_call 14; refine (l_sameU HV.out HU.out).mono ?_; rintro e w4 ⟨rfl, hb⟩; replace HB := Lib.hid (HB.out.trans (hb.mono HB.out.size)); clear hb HV HU))
          go_ret
          exact ⟨rfl, HB.out⟩
set_option maxRecDepth 100000 in
set_option maxHeartbeats 4000000 in
theorem spaceLowest_no {w : World} {u : Value} {Q : List Bool} {n : Int} (h : UseS w u Q) (hq : Q.length ≤ 5000) (z : Int) (hE : takeE Q n = z) (hV : takeU Q n = Q) (hL : intsN (takeL Q n) = []) (hz : z ≠ 0) (hw : n < 0 ∨ ¬ n < 0 ∧ ((fr false Q).length : Int) < n) :
    Calls Try.prog 4 #[u, .int .i64 n] w fun e w' => e = .returned (.bool true) ∧ Below w.heap.size w w' := by
  have hT := fun (W : World) (h1 : UseS W u Q) => spTake_any h1 hq n
  simp only [hE, hV, hL] at hT
  have HT := Lib.hid hT
  have HFQ := Lib.hid (fun (W : World) (h1 : UseS W u Q) => free_any h1 hq)
  have HU := Lib.hid h
  have HB := Lib.hid (Below.refl w.heap.size w)
  obtain ⟨A, cap, rfl, -⟩ := h
  have g1 : decide ((Q.length : Int) > 5000) = false := decide_eq_false (by omega)
  have g2 : (z == 0) = false := by rw [beq_eq_false_iff_ne]; exact hz
  have g3 : (z != 0) = true := by rw [bne_iff_ne]; exact hz
  have hw' : decide (n < 0) = true ∨ decide (n < 0) = false ∧ decide (((fr false Q).length : Int) < n) = true := by
    rcases hw with hw | ⟨hw, hx⟩
    · exact .inl (decide_eq_true hw)
    · exact .inr ⟨decide_eq_false hw, decide_eq_true hx⟩
  generalize (fr false Q).length = nf at HFQ hw'
  clear hT hq hE hV hL hz hw
  go_enter Try.func4, Try.ntmps4
  go_upto_region 5 with (go_at_call 5; refine (spLives_any _).mono ?_; rintro e w1 ⟨rfl, hb⟩; replace HU := Lib.hid (HU.out.below hb (Nat.le_refl _)); replace HB := Lib.hid (HB.out.trans (hb.mono HB.out.size)); clear hb)
  go_upto_region 6 with (go_at_call 10; refine (HT.out _ HU.out).mono ?_; rintro e w2 ⟨r, l, rfl, hO, hi, hb⟩; have HV := Lib.hid hO.use; replace HU := Lib.hid (HU.out.below hb (Nat.le_refl _)); replace HB := Lib.hid (HB.out.trans (hb.mono HB.out.size)); obtain ⟨A1, c1, rfl, -⟩ := hO; obtain ⟨A2, c2, rfl, -⟩ := hi; simp only [List.length_nil]; clear hb)
  rcases hw' with d1 | ⟨d1, d2⟩
  all_goals go_wp2_with (first
    | (go_at_call 16; (with_reducible refine (HFQ.out _ HU.out).mono ?_); rintro e w3 ⟨rfl, hb⟩; replace HU := Lib.hid (HU.out.below hb (Nat.le_refl _)); replace HV := Lib.hid (HV.out.below hb (Nat.le_refl _)); replace HB := Lib.hid (HB.out.trans (hb.mono HB.out.size)); clear hb)
    | (go_at_call 14; refine (l_sameU HV.out HU.out).mono ?_; rintro e w4 ⟨rfl, hb⟩; replace HU := Lib.hid (HU.out.below hb (Nat.le_refl _)); replace HV := Lib.hid (HV.out.below hb (Nat.le_refl _)); replace HB := Lib.hid (HB.out.trans (hb.mono HB.out.size)); clear hb))
  all_goals go_ret
  all_goals exact ⟨rfl, HB.out⟩
theorem spaceLowest_any {w : World} {u : Value} {Q : List Bool} (h : UseS w u Q) (n : Int) (_ : (Lit.int .i64 n).wf = true) :
    Calls Try.prog 4 #[u, .int .i64 n] w fun e w' => e = .returned (.bool true) ∧ Below w.heap.size w w' := by
  by_cases hq : Q.length ≤ 5000
  · by_cases hn : n < 0
    · obtain ⟨h1, h2, h3⟩ := takeE_neg (Q := Q) hn
      exact spaceLowest_no h hq 1 h1 h3 (by rw [h2]; rfl) (by omega) (.inl hn)
    · by_cases hf : ((fr false Q).length : Int) < n
      · obtain ⟨h1, h2, h3⟩ := takeE_few (Q := Q) hn hf
        exact spaceLowest_no h hq 11 h1 h3 (by rw [h2]; rfl) (by omega) (.inr ⟨hn, hf⟩)
      · obtain ⟨m, rfl⟩ : ∃ m : Nat, n = (m : Int) := ⟨n.toNat, by omega⟩
        obtain ⟨h1, _, _⟩ := takeE_yes (Q := Q) (n := m) (by omega)
        have h5 := frI_len false Q Q.length
        unfold fr at hf
        exact spaceLowest_yes h hq h1 rfl rfl (low_of h1) (by omega)
  · have g1 : decide ((Q.length : Int) > 5000) = true := decide_eq_true (by omega)
    have hl := spLives_any w
    obtain ⟨A, cap, rfl, -⟩ := h
    clear hq
    go_enter Try.func4, Try.ntmps4
    go_wp2_with (go_at_call 5; refine hl.mono ?_; rintro e w9 ⟨rfl, hb⟩)
    go_ret
    exact ⟨rfl, hb⟩
end Go.Proofs.Ytoaofhgkpnpglaa
