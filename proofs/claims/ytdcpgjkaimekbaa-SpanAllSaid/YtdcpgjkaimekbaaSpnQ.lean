/- Spans: Merge, the document's. -/
import Derived.Test.YtdcpgjkaimekbaaSpnP
namespace Go.Proofs.Ytdcpgjkaimekbaa
open Go.RowKit

theorem merL_ne {l : List Int} (h : l ≠ []) : merL l ≠ [] := by
  rcases List.eq_nil_or_concat l with rfl | ⟨l0, b, rfl⟩
  · exact absurd rfl h
  · rw [List.concat_eq_append, merL_snoc]
    rcases List.eq_nil_or_concat (merL l0) with e | ⟨R0, r, e⟩
    · rw [e]; simp [merA_nil]
    · rw [e, List.concat_eq_append]
      by_cases hh : r.t = b
      · obtain ⟨f, t⟩ := r
        dsimp only at hh
        subst hh
        rw [merA_join]; simp
      · rw [merA_apart hh]; simp
theorem ints_len (L : List Int) : (ints L).length = L.length := by unfold ints; simp
theorem ints_at {L : List Int} {j : Nat} (hj : j < L.length) : (ints L)[j]? = some (.int .i64 (L.getD j 0)) := by
  unfold ints; rw [List.getElem?_map, List.getD, List.getElem?_eq_getElem hj]; rfl
theorem ints_app (a b : List Int) : ints (a ++ b) = ints a ++ ints b := by unfold ints; rw [List.map_append]
theorem ints_one (L : List Int) : ∀ u ∈ ints L, u.oneCell' = true := by
  intro u hu
  obtain ⟨b, _, rfl⟩ := List.mem_map.1 hu
  rfl
theorem insU_hit {l : List Int} {b : Int} {i : Nat} (hp : posU l b = i) (hi : i < l.length) (h : l.getD i 0 = b) : insU l b = l := by unfold insU; rw [if_pos (by rw [hp]; exact ⟨h, hi⟩)]
theorem insU_lay {l : List Int} {b : Int} {i : Nat} (hp : posU l b = i) (h : i < l.length → l.getD i 0 ≠ b) : insU l b = l.take i ++ [b] ++ l.drop i := by
  unfold insU; rw [if_neg (by rw [hp]; exact fun e => h e.2 e.1), hp, List.append_assoc]; rfl
theorem dedU_snoc {L : List Int} {k : Nat} (hk : k < L.length) : (L.take (k + 1)).foldl insU [] = insU ((L.take k).foldl insU []) (L.getD k 0) := by
  rw [getD_snoc 0 hk, List.foldl_append]; rfl
/-- A row of numbers that is there. -/
structure OwnN (w : World) (base : Nat) (v : Value) (l : List Int) : Prop where
  own : w.ownsRow base 3 1 v l.length (ints l)
  some' : ∃ g cap, v = .slice (some ⟨g, 0, none⟩) l.length cap
theorem OwnN.empty (w : World) : OwnN (w.alloc (.cells #[] 3)) w.heap.size (.slice (some ⟨w.heap.size, 0, none⟩) 0 0) [] :=
  ⟨⟨rfl, .inr ⟨w.heap.size, 0, #[], rfl, Nat.le_refl _, heap_alloc_new w _, Nat.le_refl _, Nat.zero_le _, rfl, rfl⟩⟩, _, _, rfl⟩
theorem OwnN.cell {w : World} {base g cap : Nat} {l : List Int} (h : OwnN w base (.slice (some ⟨g, 0, none⟩) l.length cap) l) {j : Nat} (hj : j < l.length) : w.cell? ⟨g, j, none⟩ = some (.int .i64 (l.getD j 0)) := by
  rw [World.ownsRow.cellAt h.own j (by omega), ints_at hj]
theorem OwnN.caps {w : World} {base g cap : Nat} {l : List Int} (h : OwnN w base (.slice (some ⟨g, 0, none⟩) l.length cap) l) : l.length ≤ cap ∧ cap ≤ maxLen := by
  obtain ⟨A, c, e, h1, h2⟩ := ownS_form h.own
  injection e with _ _ e3
  subst e3
  exact ⟨h1, h2⟩
theorem take_cells {w : World} {g i : Nat} {l : List Int} (hi : i ≤ l.length) (h : ∀ j, j < l.length → w.cell? ⟨g, j, none⟩ = some (.int .i64 (l.getD j 0))) : ∀ j u, (ints (l.take i))[j]? = some u → w.cell? ((⟨g, 0, none⟩ : Addr).add j) = some u := by
  intro j u hu
  have hj : j < i := by have := (List.getElem?_eq_some_iff.1 hu).1; rw [ints_len, List.length_take] at this; omega
  rw [ints_at (by rw [List.length_take]; omega)] at hu
  rw [add_mid0, h j (by omega), ← hu, List.getD, List.getD, List.getElem?_take, if_pos hj]
theorem drop_cells {w : World} {g i : Nat} {l : List Int} (h : ∀ j, j < l.length → w.cell? ⟨g, j, none⟩ = some (.int .i64 (l.getD j 0))) : ∀ j u, (ints (l.drop i))[j]? = some u → w.cell? ((⟨g, i, none⟩ : Addr).add j) = some u := by
  intro j u hu
  have hj : i + j < l.length := by have := (List.getElem?_eq_some_iff.1 hu).1; rw [ints_len, List.length_drop] at this; omega
  rw [ints_at (by rw [List.length_drop]; omega)] at hu
  have e : (⟨g, i, none⟩ : Addr).add j = ⟨g, i + j, none⟩ := by unfold Addr.add; split <;> simp_all
  rw [e, h (i + j) hj, ← hu, List.getD, List.getD, List.getElem?_drop]
theorem OwnN.parts {w : World} {base base' n i : Nat} {v : Value} {l : List Int} {x : Int} (h : w.ownsRow base 3 1 v n ((ints (l.take i) ++ [.int .i64 x]) ++ ints (l.drop i))) (hb : base' ≤ base) : OwnN w base' v (l.take i ++ [x] ++ l.drop i) := by
  have e : ints (l.take i ++ [x] ++ l.drop i) = (ints (l.take i) ++ [.int .i64 x]) ++ ints (l.drop i) := by rw [ints_app, ints_snoc]
  have hn : n = (l.take i ++ [x] ++ l.drop i).length := by
    have := h.1
    rw [← e, ints_len] at this; omega
  rw [← e] at h
  subst hn
  obtain ⟨g, cap, hv, _⟩ := own_some h (by simp)
  refine ⟨⟨h.1, ?_⟩, g, cap, hv⟩
  rcases h.2 with h0 | ⟨g, cap, cur, hv, hg, r⟩
  · exact .inl h0
  · exact .inr ⟨g, cap, cur, hv, Nat.le_trans hb hg, r⟩
set_option maxRecDepth 100000 in
set_option maxHeartbeats 8000000 in
theorem rMerge_any (L : List Int) (v : Value) (w : World) (hv : IdxS w v L) (hL : L.length ≤ 100000) (hb : ∀ b ∈ L, -9223372036854775808 ≤ b ∧ b ≤ 1099511627776) :
    Calls Try.prog 37 #[v] w fun e w' => ∃ x, e = .returned x ∧ RgsS w' x (merL (dedU L)) ∧ Below w.heap.size w w' := by
  obtain ⟨C, hC0⟩ : ∃ C, C = dedU L := ⟨_, rfl⟩
  rw [← hC0]
  have HC0 : Hid (C = L.foldl insU []) := Lib.hid hC0
  have HBC : Hid (∀ b ∈ C, -9223372036854775808 ≤ b ∧ b ≤ 1099511627776) := Lib.hid (fun x hx => hb x (((dedU_ris L).2 x).1 (by rw [← hC0]; exact hx)))
  have HCL : Hid (C.length ≤ 100000) := Lib.hid (by rw [hC0]; exact Nat.le_trans (dedU_len L) hL)
  have HDL : Hid (∀ k, ((L.take k).foldl insU []).length ≤ 100000) := Lib.hid (fun k => by
    have h1 := dedU_len (L.take k)
    rw [List.length_take] at h1
    show (dedU (L.take k)).length ≤ 100000
    omega)
  obtain ⟨A, cap, rfl, hc1, hc2, hc3⟩ := hv
  have HC3 := Lib.hid hc3
  have HLL := Lib.hid hL
  obtain ⟨i0, hi, hz0, hz1, hz2⟩ := intInfo'
  clear hb hC0 hc3
  go_enter Try.func37, Try.ntmps37
  go_wp2
  go_loopw [3, 14] (fun vx ix wr => ∃ (k : Nat) (z : Value), k ≤ L.length ∧ ix = .int .i64 (k : Int) ∧ z = vx ∧ OwnN wr w.heap.size z ((L.take k).foldl insU []) ∧ Below w.heap.size w wr) (fun _ ix _ => L.length - (intOf ix).toNat)
  case atStart => exact ⟨0, _, Nat.zero_le _, rfl, rfl, OwnN.empty w, below_new w _⟩
  case round =>
    obtain ⟨k, z, hk, rfl, rfl, hown, hB⟩ := hrel
    have HB := Lib.hid hB
    have HOWN := Lib.hid hown
    clear hB hown
    by_cases hlt : k < L.length
    · obtain ⟨b, off, rfl, hbl, hcell⟩ := HC3.out.resolve_left (by intro e; rw [e] at hlt; simp at hlt)
      have q0 : wr.cell? ⟨b, off + k, none⟩ = some (.int .i64 (L.getD k 0)) := (HB.out.cell (p := ⟨b, off + k, none⟩) hbl).trans (hcell k hlt)
      have HNX : Hid ((L.take (k + 1)).foldl insU [] = insU ((L.take k).foldl insU []) (L.getD k 0)) := Lib.hid (dedU_snoc hlt)
      have HLN : Hid (((L.take k).foldl insU []).length ≤ 100000) := Lib.hid (HDL.out k)
      have hkb : k ≤ 100000 := by have := HLL.out; omega
      generalize L.getD k 0 = x at q0 HNX
      generalize (L.take k).foldl insU [] = l at HOWN HNX HLN ⊢
      obtain ⟨g, zc, rfl⟩ := HOWN.out.some'
      obtain ⟨hzc1, hzc2⟩ := HOWN.out.caps
      have hln := HLN.out
      have HCE : Hid (∀ j, j < l.length → wr.cell? ⟨g, j, none⟩ = some (.int .i64 (l.getD j 0))) := Lib.hid (fun j hj => HOWN.out.cell hj)
      clear hcell hbl
      go_wp2
      clear q0
      go_loop [6] (fun ax => ∃ i : Nat, i ≤ l.length ∧ ax = .int .i64 (i : Int) ∧ ∀ j, j < i → l.getD j 0 < x) (fun ax => l.length - (intOf ax).toNat)
      case atStart => exact ⟨0, Nat.zero_le _, rfl, fun j hj => absurd hj (by omega)⟩
      case round =>
        obtain ⟨i, hi', rfl, hlow⟩ := hrel
        have HLOW := Lib.hid hlow
        clear hlow
        have hib : i ≤ 100000 := by omega
        have HGL : Hid (g < wr.heap.size) := Lib.hid (World.ownsRow.lt HOWN.out.own g rfl).2
        by_cases hin : i < l.length
        · have d0 : decide ((i : Int) < (l.length : Int)) = true := decide_eq_true (by omega)
          have d0' : decide (i < l.length) = true := decide_eq_true hin
          have ce := HCE.out i hin
          have HPOS : Hid (¬ l.getD i 0 < x → posU l x = i) := Lib.hid (fun h => posU_find hi' HLOW.out (fun _ => by omega))
          have HLO2 : Hid (l.getD i 0 < x → ∀ j, j < i + 1 → l.getD j 0 < x) := Lib.hid (fun h j hj => by
            by_cases e : j = i
            · rw [e]; exact h
            · exact HLOW.out j (by omega))
          have HHIT : Hid (posU l x = i → l.getD i 0 = x → insU l x = l) := Lib.hid (fun h1 h2 => insU_hit h1 hin h2)
          have HLAY : Hid (posU l x = i → l.getD i 0 ≠ x → insU l x = l.take i ++ [x] ++ l.drop i) := Lib.hid (fun h1 h2 => insU_lay h1 (fun _ => h2))
          generalize l.getD i 0 = y at ce HPOS HLO2 HHIT HLAY
          by_cases h1 : y < x
          · have d1 : decide (y < x) = true := decide_eq_true h1
            have HN := Lib.hid (HLO2.out h1)
            go_wp2
            go_round
            case rel => exact ⟨i + 1, hin, by go_num, HN.out⟩
            case measure => simp [intOf]; omega
          · have d1 : decide (y < x) = false := decide_eq_false h1
            have HP := Lib.hid (HPOS.out h1)
            by_cases h2 : y = x
            · have d2 : (y == x) = true := by rw [beq_iff_eq]; exact h2
              have HI := Lib.hid (HHIT.out HP.out h2)
              clear h2 h1
              go_wp2
              go_roundw
              case rel => exact ⟨k + 1, _, hlt, by go_num, rfl, by rw [HNX.out, HI.out]; exact HOWN.out, HB.out⟩
              case measure => simp [intOf]; omega
            · have d2 : (y == x) = false := by rw [beq_eq_false_iff_ne]; exact h2
              have HI := Lib.hid (HLAY.out HP.out h2)
              clear h2 h1
              go_wp2_with (first
              | (at_builtin; (refine wpList_append_own _ rfl (.tmp 44) (.tmp 47) 29 rfl wr.heap.size 3 i0 _ 1 8 Try.underlying29 hi hz0 hz1 hz2 rfl (by decide) (.slice (some ⟨wr.heap.size, 0, none⟩) 0 0) 0 [] rfl (OwnN.empty wr).own ⟨g, 0, none⟩ i zc (ints (l.take i)) rfl (by rw [ints_len, List.length_take]; omega) (take_cells hi' (fun j hj => ((below_new wr _).cell (p := ⟨g, j, none⟩) HGL.out).trans (HCE.out j hj))) (ints_one _) (by unfold maxLen; omega) (by omega) (by simp) ?_); intro v1 w2 hown2 hgrow2 _; rw [Nat.zero_add, List.nil_append] at hown2; have HO2 := Lib.hid hown2; have HB2 : Hid (Below wr.heap.size wr w2) := Lib.hid ((below_new wr _).grown hgrow2 (by simp) (fun q hq => by injection hq with hq; exact Nat.le_of_eq hq)); clear hown2 hgrow2)
              | (at_builtin; (refine wpList_append_own _ rfl (.tmp 49) (.tmp 51) 29 rfl wr.heap.size 3 i0 _ 1 8 Try.underlying29 hi hz0 hz1 hz2 rfl (by decide) v1 i (ints (l.take i)) rfl (HO2.out.alloc _) ⟨w2.heap.size, 0, none⟩ 1 1 [.int .i64 x] rfl rfl (new_cells w2 [.int .i64 x] _) (one_int _) (by unfold maxLen; omega) (by omega) (by have := HB2.out.size; simp; omega) ?_); intro v2 w3 hown3 hgrow3 _; have HO3 := Lib.hid hown3; have HB3 : Hid (Below wr.heap.size wr w3) := Lib.hid ((HB2.out.alloc HB2.out.size _).grown hgrow3 (by have := HB2.out.size; simp; omega) (fun q hq => (World.ownsRow.lt HO2.out q hq).1)); clear hown3 hgrow3)
              | (at_builtin; (refine wpList_append_own _ rfl (.tmp 53) (.tmp 56) 29 rfl wr.heap.size 3 i0 _ 1 8 Try.underlying29 hi hz0 hz1 hz2 rfl (by decide) v2 (i + 1) (ints (l.take i) ++ [.int .i64 x]) rfl HO3.out ⟨g, i, none⟩ (l.length - i) (zc - i) (ints (l.drop i)) rfl (by rw [ints_len, List.length_drop]; omega) (drop_cells (fun j hj => (HB3.out.cell (p := ⟨g, j, none⟩) HGL.out).trans (HCE.out j hj))) (ints_one _) (by unfold maxLen; omega) (by omega) HB3.out.size ?_); intro v4 w4 hown4 hgrow4 _; have HO4 := Lib.hid hown4; have HB4 : Hid (Below wr.heap.size wr w4) := Lib.hid (HB3.out.grown hgrow4 HB3.out.size (fun q hq => (World.ownsRow.lt HO3.out q hq).1)); clear hown4 hgrow4))
              go_roundw
              case rel => exact ⟨k + 1, v4, hlt, by go_num, rfl, by rw [HNX.out, HI.out]; exact OwnN.parts HO4.out HB.out.size, HB.out.trans (HB4.out.mono HB.out.size)⟩
              case measure => simp [intOf]; omega
        · have d0 : decide ((i : Int) < (l.length : Int)) = false := decide_eq_false (by omega)
          have d0' : decide (i < l.length) = false := decide_eq_false hin
          have HP : Hid (posU l x = i) := Lib.hid (posU_find hi' HLOW.out (fun h => absurd h hin))
          have HI : Hid (insU l x = l.take i ++ [x] ++ l.drop i) := Lib.hid (insU_lay HP.out (fun h => absurd h hin))
          by_cases hic : i < zc
          · have dc : decide (i < zc) = true := decide_eq_true hic
            have dc2 : (zc == i) = false := by rw [beq_eq_false_iff_ne]; omega
            have dc3 : ¬ zc = i := by omega
            go_wp2_with (first
            | (at_builtin; (refine wpList_append_own _ rfl (.tmp 44) (.tmp 47) 29 rfl wr.heap.size 3 i0 _ 1 8 Try.underlying29 hi hz0 hz1 hz2 rfl (by decide) (.slice (some ⟨wr.heap.size, 0, none⟩) 0 0) 0 [] rfl (OwnN.empty wr).own ⟨g, 0, none⟩ i zc (ints (l.take i)) rfl (by rw [ints_len, List.length_take]; omega) (take_cells hi' (fun j hj => ((below_new wr _).cell (p := ⟨g, j, none⟩) HGL.out).trans (HCE.out j hj))) (ints_one _) (by unfold maxLen; omega) (by omega) (by simp) ?_); intro v1 w2 hown2 hgrow2 _; rw [Nat.zero_add, List.nil_append] at hown2; have HO2 := Lib.hid hown2; have HB2 : Hid (Below wr.heap.size wr w2) := Lib.hid ((below_new wr _).grown hgrow2 (by simp) (fun q hq => by injection hq with hq; exact Nat.le_of_eq hq)); clear hown2 hgrow2)
            | (at_builtin; (refine wpList_append_own _ rfl (.tmp 49) (.tmp 51) 29 rfl wr.heap.size 3 i0 _ 1 8 Try.underlying29 hi hz0 hz1 hz2 rfl (by decide) v1 i (ints (l.take i)) rfl (HO2.out.alloc _) ⟨w2.heap.size, 0, none⟩ 1 1 [.int .i64 x] rfl rfl (new_cells w2 [.int .i64 x] _) (one_int _) (by unfold maxLen; omega) (by omega) (by have := HB2.out.size; simp; omega) ?_); intro v2 w3 hown3 hgrow3 _; have HO3 := Lib.hid hown3; have HB3 : Hid (Below wr.heap.size wr w3) := Lib.hid ((HB2.out.alloc HB2.out.size _).grown hgrow3 (by have := HB2.out.size; simp; omega) (fun q hq => (World.ownsRow.lt HO2.out q hq).1)); clear hown3 hgrow3)
            | (at_builtin; (refine wpList_append_own _ rfl (.tmp 53) (.tmp 56) 29 rfl wr.heap.size 3 i0 _ 1 8 Try.underlying29 hi hz0 hz1 hz2 rfl (by decide) v2 (i + 1) (ints (l.take i) ++ [.int .i64 x]) rfl HO3.out ⟨g, i, none⟩ (l.length - i) (zc - i) (ints (l.drop i)) rfl (by rw [ints_len, List.length_drop]; omega) (drop_cells (fun j hj => (HB3.out.cell (p := ⟨g, j, none⟩) HGL.out).trans (HCE.out j hj))) (ints_one _) (by unfold maxLen; omega) (by omega) HB3.out.size ?_); intro v4 w4 hown4 hgrow4 _; have HO4 := Lib.hid hown4; have HB4 : Hid (Below wr.heap.size wr w4) := Lib.hid (HB3.out.grown hgrow4 HB3.out.size (fun q hq => (World.ownsRow.lt HO3.out q hq).1)); clear hown4 hgrow4))
            go_roundw
            case rel => exact ⟨k + 1, v4, hlt, by go_num, rfl, by rw [HNX.out, HI.out]; exact OwnN.parts HO4.out HB.out.size, HB.out.trans (HB4.out.mono HB.out.size)⟩
            case measure => simp [intOf]; omega
          · obtain rfl : i = zc := by omega
            have hel : l.length = i := by omega
            clear hic hin
            go_wp2_with (first
              | (at_builtin; (refine wpList_append_own _ rfl (.tmp 44) (.tmp 47) 29 rfl wr.heap.size 3 i0 _ 1 8 Try.underlying29 hi hz0 hz1 hz2 rfl (by decide) (.slice (some ⟨wr.heap.size, 0, none⟩) 0 0) 0 [] rfl (OwnN.empty wr).own ⟨g, 0, none⟩ i i (ints (l.take i)) rfl (by rw [ints_len, List.length_take]; omega) (take_cells hi' (fun j hj => ((below_new wr _).cell (p := ⟨g, j, none⟩) HGL.out).trans (HCE.out j hj))) (ints_one _) (by unfold maxLen; omega) (by omega) (by simp) ?_); intro v1 w2 hown2 hgrow2 _; rw [Nat.zero_add, List.nil_append] at hown2; have HO2 := Lib.hid hown2; have HB2 : Hid (Below wr.heap.size wr w2) := Lib.hid ((below_new wr _).grown hgrow2 (by simp) (fun q hq => by injection hq with hq; exact Nat.le_of_eq hq)); clear hown2 hgrow2)
              | (at_builtin; (refine wpList_append_own _ rfl (.tmp 49) (.tmp 51) 29 rfl wr.heap.size 3 i0 _ 1 8 Try.underlying29 hi hz0 hz1 hz2 rfl (by decide) v1 i (ints (l.take i)) rfl (HO2.out.alloc _) ⟨w2.heap.size, 0, none⟩ 1 1 [.int .i64 x] rfl rfl (new_cells w2 [.int .i64 x] _) (one_int _) (by unfold maxLen; omega) (by omega) (by have := HB2.out.size; simp; omega) ?_); intro v2 w3 hown3 hgrow3 _; have HO3 := Lib.hid hown3; have HB3 : Hid (Below wr.heap.size wr w3) := Lib.hid ((HB2.out.alloc HB2.out.size _).grown hgrow3 (by have := HB2.out.size; simp; omega) (fun q hq => (World.ownsRow.lt HO2.out q hq).1)); clear hown3 hgrow3)
              | (at_builtin; (refine wpList_append_own _ rfl (.tmp 53) (.tmp 56) 29 rfl wr.heap.size 3 i0 _ 1 8 Try.underlying29 hi hz0 hz1 hz2 rfl (by decide) v2 (i + 1) (ints (l.take i) ++ [.int .i64 x]) rfl HO3.out ⟨g, 0, none⟩ 0 0 [] rfl rfl (fun j u hu => by cases hu) (fun u hu => by cases hu) (by unfold maxLen; omega) (by omega) HB3.out.size ?_); intro v4 w4 hown4 hgrow4 _; have HO4 := Lib.hid hown4; have HB4 : Hid (Below wr.heap.size wr w4) := Lib.hid (HB3.out.grown hgrow4 HB3.out.size (fun q hq => (World.ownsRow.lt HO3.out q hq).1)); clear hown4 hgrow4))
            have HDE : Hid (ints (l.drop i) = []) := Lib.hid (by rw [List.drop_eq_nil_of_le (by omega)]; rfl)
            go_roundw
            case rel => exact ⟨k + 1, v4, hlt, by go_num, rfl, by rw [HNX.out, HI.out]; exact OwnN.parts (by rw [HDE.out]; exact HO4.out) HB.out.size, HB.out.trans (HB4.out.mono HB.out.size)⟩
            case measure => simp [intOf]; omega
    · obtain rfl : k = L.length := by omega
      have HO := HOWN.out
      rw [List.take_of_length_le (Nat.le_refl _), ← HC0.out] at HO
      obtain ⟨g, zc, rfl⟩ := HO.some'
      obtain ⟨hzc1, hzc2⟩ := HO.caps
      have HCE : Hid (∀ j, j < C.length → wr.cell? ⟨g, j, none⟩ = some (.int .i64 (C.getD j 0))) := Lib.hid (fun j hj => HO.cell hj)
      have HGL : Hid (g < wr.heap.size) := Lib.hid (World.ownsRow.lt HO.own g rfl).2
      obtain ⟨i1, hi1, hy0, hy1, hy2⟩ := rgInfo
      have hcl := HCL.out
      clear HO HOWN
      go_wp2
      obtain ⟨wo, hwo⟩ : ∃ wo, wo = wr := ⟨_, rfl⟩
      subst hwo
      go_loopw [8, 61] (fun vx ix wi => ∃ (q : Nat) (z : Value), q ≤ C.length ∧ ix = .int .i64 (q : Int) ∧ z = vx ∧ wi.ownsRow wo.heap.size 51 2 z (merL (C.take q)).length (rgF (merL (C.take q))) ∧ Below wo.heap.size wo wi) (fun _ ix _ => C.length - (intOf ix).toNat)
      case atStart => exact ⟨0, .slice none 0 0, Nat.zero_le _, rfl, rfl, World.ownsRow_nil _ _ _ _, Below.refl _ _⟩
      case round =>
        obtain ⟨q, z, hq, rfl, rfl, hown, hB⟩ := hrel
        have HBW := Lib.hid hB
        have HOWN := Lib.hid hown
        clear hB hown
        by_cases hlq : q < C.length
        · have q0 : wr.cell? ⟨g, q, none⟩ = some (.int .i64 (C.getD q 0)) := (HBW.out.cell (p := ⟨g, q, none⟩) HGL.out).trans (HCE.out q hlq)
          have HNX : Hid (merL (C.take (q + 1)) = merA (merL (C.take q)) (C.getD q 0)) := Lib.hid (by rw [getD_snoc 0 hlq, merL_snoc])
          have HRL : Hid ((merL (C.take q)).length ≤ 100000) := Lib.hid (by have := merL_len (C.take q); rw [List.length_take] at this; omega)
          have HNE : Hid (q ≠ 0 → merL (C.take q) ≠ []) := Lib.hid (fun h => merL_ne (fun e => by have := congrArg List.length e; rw [List.length_take, List.length_nil] at this; omega))
          have HZE : Hid (q = 0 → merL (C.take q) = []) := Lib.hid (fun h => by rw [h]; rfl)
          obtain ⟨hx1, hx2⟩ := HBC.out (C.getD q 0) (by rw [List.getD, List.getElem?_eq_getElem hlq]; exact List.getElem_mem _)
          generalize C.getD q 0 = x at q0 HNX hx1 hx2
          generalize merL (C.take q) = R at HOWN HNX HRL HNE HZE ⊢
          by_cases h0 : q = 0
          · have hR := HZE.out h0
            subst hR
            subst h0
            have ho := HOWN.out
            rw [List.length_nil] at ho
            obtain ⟨zA, zc', rfl, _⟩ := ownS_form ho
            rw [merA_nil] at HNX
            clear ho
            go_wp2_with (at_builtin; (refine wpList_append_own _ rfl _ _ 56 rfl wo.heap.size 51 i1 _ 2 16 Try.underlying56 hi1 hy0 hy1 hy2 rfl (by decide) _ _ _ rfl (HOWN.out.alloc _) ⟨wr.heap.size, 0, none⟩ 1 1 [.int .i64 x, .int .i64 (x + 1)] rfl rfl (new_cells wr [.int .i64 x, .int .i64 (x + 1)] _) (rg_one ⟨x, x + 1⟩) (by unfold maxLen; simp) (by simp) (by have := HBW.out.size; simp; omega) ?_); intro v' w4 hown4 hgrow _)
            have hB4 : Below wo.heap.size wo w4 := (HBW.out.alloc HBW.out.size _).grown hgrow (by have := HBW.out.size; simp; omega) (fun g hg => (World.ownsRow.lt HOWN.out g hg).1)
            go_roundw
            case rel => exact ⟨1, v', hlq, rfl, rfl, by rw [HNX.out]; exact hown4, hB4⟩
            case measure => simp [intOf]; omega
          · have hRn := HNE.out h0
            have dq : decide ((0 : Int) < (q : Int)) = true := decide_eq_true (by omega)
            have dq2 : decide (0 < q) = true := decide_eq_true (by omega)
            rcases List.eq_nil_or_concat R with rfl | ⟨R0, r, rfl⟩
            · exact absurd rfl hRn
            clear hRn HNE HZE
            rw [List.concat_eq_append] at HOWN HNX HRL
            rw [List.length_append, List.length_singleton] at HOWN HRL
            obtain ⟨g2, zc2, rfl, hz1', hz2', hgb⟩ := own_some HOWN.out (by omega)
            obtain ⟨rf, rt⟩ := r
            have c1 : wr.cell? ⟨g2, R0.length * 2 + 1, none⟩ = some (.int .i64 rt) := by rw [World.ownsRow.cellAt HOWN.out _ (by omega)]; exact rgF_last R0 ⟨rf, rt⟩
            have f1 := World.ownsRow.frozenAt HOWN.out (R0.length * 2 + 1)
            have hn0 : R0.length ≤ 100000 := by have := HRL.out; omega
            have d1 : decide (R0.length < R0.length + 1) = true := decide_eq_true (by omega)
            by_cases he : rt = x
            · subst he
              rw [merA_join] at HNX
              have HST := Lib.hid (World.ownsRow.stored HOWN.out (R0.length * 2 + 1) (.int .i64 (rt + 1)))
              rw [rgF_set] at HST
              have hd2 : (rt == rt) = true := by simp
              go_wp2
              go_roundw
              case rel => exact ⟨q + 1, _, hlq, by go_num, rfl, by rw [HNX.out, List.length_append, List.length_singleton]; exact HST.out.1, HBW.out.setCell (p := ⟨g2, R0.length * 2 + 1, none⟩) hgb _⟩
              case measure => simp [intOf]; omega
            · have hd2 : (rt == x) = false := by rw [beq_eq_false_iff_ne]; exact he
              rw [merA_apart (r := ⟨rf, rt⟩) he] at HNX
              clear he
              go_wp2_with (at_builtin; (refine wpList_append_own _ rfl _ _ 56 rfl wo.heap.size 51 i1 _ 2 16 Try.underlying56 hi1 hy0 hy1 hy2 rfl (by decide) _ _ _ rfl (HOWN.out.alloc _) ⟨wr.heap.size, 0, none⟩ 1 1 [.int .i64 x, .int .i64 (x + 1)] rfl rfl (new_cells wr [.int .i64 x, .int .i64 (x + 1)] _) (rg_one ⟨x, x + 1⟩) (by unfold maxLen; omega) (by omega) (by have := HBW.out.size; simp; omega) ?_); intro v' w4 hown4 hgrow _)
              have hB4 : Below wo.heap.size wo w4 := (HBW.out.alloc HBW.out.size _).grown hgrow (by have := HBW.out.size; simp; omega) (fun g hg => (World.ownsRow.lt HOWN.out g hg).1)
              go_roundw
              case rel => exact ⟨q + 1, v', hlq, by go_num, rfl, by rw [HNX.out, List.length_append, List.length_append, List.length_singleton, List.length_singleton, rgF_snoc]; exact hown4, hB4⟩
              case measure => simp [intOf]; omega
        · obtain rfl : q = C.length := by omega
          have ho := HOWN.out
          rw [List.take_of_length_le (Nat.le_refl _)] at ho
          have HO := Lib.hid ho
          clear ho
          go_wp2
          go_ret
          exact ⟨_, rfl, StS.of_own rg_len HO.out, HB.out.trans (HBW.out.mono HB.out.size)⟩
end Go.Proofs.Ytdcpgjkaimekbaa
