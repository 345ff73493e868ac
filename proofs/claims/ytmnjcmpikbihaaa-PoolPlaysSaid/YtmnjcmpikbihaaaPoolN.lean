/- Pools: the document's Keep. -/
import Derived.Test.YtmnjcmpikbihaaaPoolK
namespace Go.Proofs.Ytmnjcmpikbihaaa
open Go.RowKit Go.Maps

theorem oneInfo : ∃ i, Try.prog.info? 52 = some i ∧ i.zero = some (.agg #[.int .i64 0, .string ⟨#[]⟩]) ∧ i.size = 2 ∧ i.bytes = 24 := by
  have e : (Try.prog.info? 52).map (fun i => (i.zero, i.size, i.bytes)) = some (some (.agg #[.int .i64 0, .string ⟨#[]⟩]), 2, 24) := by kernel_rfl
  obtain ⟨i, hi, hz⟩ := Option.map_eq_some_iff.1 e
  simp only [Prod.mk.injEq] at hz
  exact ⟨i, hi, hz.1, hz.2.1, hz.2.2⟩
theorem keepP_takeY {L : PL} {K : List Int} {j : Nat} (h : j < L.length) (hy : (L.getD j zero1).1 ∈ K) : keepP (L.take (j + 1)) K = keepP (L.take j) K ++ [L.getD j zero1] := by
  rw [getD_snoc zero1 h]; unfold keepP
  rw [List.filter_append, List.filter_cons_of_pos (by simpa using hy)]; rfl
theorem keepP_takeN {L : PL} {K : List Int} {j : Nat} (h : j < L.length) (hy : (L.getD j zero1).1 ∉ K) : keepP (L.take (j + 1)) K = keepP (L.take j) K := by
  rw [getD_snoc zero1 h]; unfold keepP
  rw [List.filter_append, List.filter_cons_of_neg (by simpa using hy)]; simp
theorem takeC_step {K : List Int} {i : Nat} (h : i < K.length) (x : Int) : (K.take (i + 1)).contains x = ((K.take i).contains x || (x == K.getD i 0)) := by
  rw [Bool.eq_iff_iff, List.contains_iff_mem, mem_takeS h, Bool.or_eq_true, List.contains_iff_mem, beq_iff_eq]
  exact or_comm
theorem subP {a b : Nat} (h : b ≤ a) (ha : a ≤ 1000) : wrap64 ((a : Int) - (b : Int)) = ((a - b : Nat) : Int) ∧ IntKind.i64.wrap ((a : Int) - (b : Int)) = ((a - b : Nat) : Int) := by
  have h1 : wrap64 ((a : Int) - (b : Int)) = ((a - b : Nat) : Int) := by unfold wrap64; omega
  exact ⟨h1, by rw [IntKind.wrap_i64]; unfold wrap64 at h1; exact h1⟩
theorem own_low {w : World} {base base' e s n : Nat} {v : Value} {xs : List Value} (h : w.ownsRow base e s v n xs) (hb : base' ≤ base) : w.ownsRow base' e s v n xs := by
  refine ⟨h.1, ?_⟩
  rcases h.2 with h0 | ⟨g, cap, cur, hv, hg, r⟩
  · exact .inl h0
  · exact .inr ⟨g, cap, cur, hv, Nat.le_trans hb hg, r⟩
set_option maxHeartbeats 8000000 in
set_option maxRecDepth 100000 in
theorem refKeep_any {w : World} {v u : Value} {L : PL} {K : List Int} (hv : OneS w v L) (n : Int) (hn : L.length ≤ 1000) (hu : IdxS w u K) :
    Calls Try.prog 10 #[.agg #[v, .int .i64 n], u] w fun e w' => ∃ sv, e = .returned (.tuple #[.agg #[sv, .int .i64 n], .int .i64 ((L.length - (keepP L K).length : Nat) : Int)]) ∧ w'.ownsRow w.heap.size 52 2 sv (keepP L K).length ((keepP L K).flatMap enc1) ∧ Below w.heap.size w w' := by
  obtain ⟨A, c1, rfl, k1, k2, k3⟩ := hv
  obtain ⟨A', c1', rfl, k1', k2', k3'⟩ := hu
  obtain ⟨i0, hi, hz0, hz1, hz2⟩ := oneInfo
  obtain ⟨N, hN⟩ : ∃ N, N = L.length := ⟨_, rfl⟩
  obtain ⟨M, hM⟩ : ∃ M, M = K.length := ⟨_, rfl⟩
  have HN := Lib.hid hN
  have HM := Lib.hid hM
  rw [← hN] at k1 hn ⊢
  rw [← hM] at k1' ⊢
  have HNN := Lib.hid hn
  have HK := Lib.hid k3
  have HK' := Lib.hid k3'
  have hmx : M ≤ maxLen := Nat.le_trans k1' k2'
  have HMX := Lib.hid hmx
  obtain ⟨W2, hW2⟩ : ∃ W2, W2 = (w.alloc (.cells #[.slice A N c1, .int .i64 n] 28)).alloc (.cells #[.slice none 0 0, .int .i64 0] 28) := ⟨_, rfl⟩
  have hs2 : W2.heap.size = w.heap.size + 1 + 1 := by rw [hW2]; simp
  have hb2 : Below w.heap.size w W2 := by rw [hW2]; exact (below1P w _).alloc (by simp) _
  have y0 : W2.cell? ⟨w.heap.size, 0, none⟩ = some (.slice A N c1) := by rw [hW2]; simp [go_sem]
  have y1 : W2.cell? ⟨w.heap.size, 1, none⟩ = some (.int .i64 n) := by rw [hW2]; simp [go_sem]
  have hh0 : W2.heap[w.heap.size]? = some (.cells #[.slice A N c1, .int .i64 n] 28) := by rw [hW2]; exact ((below1P (w.alloc (.cells #[.slice A N c1, .int .i64 n] 28)) _).block w.heap.size (by simp)).trans (heap_alloc_new w _)
  have hh1 : W2.heap[w.heap.size + 1]? = some (.cells #[.slice none 0 0, .int .i64 0] 28) := by
    rw [hW2]
    have h := heap_alloc_new (w.alloc (.cells #[.slice A N c1, .int .i64 n] 28)) (.cells #[.slice none 0 0, .int .i64 0] 28)
    rw [World.size_alloc] at h; exact h
  have HFZ : Hid (∀ wr : World, Below W2.heap.size W2 wr → wr.frozen? ⟨w.heap.size, 0, none⟩ = false ∧ wr.frozen? ⟨w.heap.size, 1, none⟩ = false ∧ wr.frozen? ⟨w.heap.size + 1, 0, none⟩ = false ∧ wr.frozen? ⟨w.heap.size + 1, 1, none⟩ = false ∧ wr.cell? ⟨w.heap.size + 1, 0, none⟩ = some (.slice none 0 0) ∧ wr.cell? ⟨w.heap.size + 1, 1, none⟩ = some (.int .i64 0)) := Lib.hid (fun wr hb => by
    have g0 := (hb.block w.heap.size (by omega)).trans hh0
    have g1 := (hb.block (w.heap.size + 1) (by omega)).trans hh1
    exact ⟨frozen_of_row _ _ _ _ _ g0, frozen_of_row _ _ _ _ _ g0, frozen_of_row _ _ _ _ _ g1, frozen_of_row _ _ _ _ _ g1, by rw [cell_of_row _ _ _ _ _ (0, 0) g1]; rfl, by rw [cell_of_row _ _ _ _ _ (0, 0) g1]; rfl⟩)
  clear hh0 hh1
  have HW2 := Lib.hid hW2
  have HB2 := Lib.hid hb2
  clear hN k3 hn hM k3' hb2 hmx
  go_enter Try.func10, Try.ntmps10
  go_wp2
  rw [← hW2]
  clear hW2
  go_loopw [6, 16] (fun vx ix wr => ∃ (j : Nat) (z : Value), j ≤ N ∧ ix = .int .i64 (j : Int) ∧ z = vx ∧ wr.ownsRow W2.heap.size 52 2 z (keepP (L.take j) K).length ((keepP (L.take j) K).flatMap enc1) ∧ Below W2.heap.size W2 wr) (fun _ ix _ => N - idxOf ix)
  case atStart => exact ⟨0, _, Nat.zero_le _, rfl, rfl, World.ownsRow_nil _ _ _ _, Below.refl _ _⟩
  case round =>
    obtain ⟨j, z, hj, rfl, rfl, ho, hb⟩ := hrel
    have HB := Lib.hid hb
    have HO := Lib.hid ho
    clear hb ho
    by_cases hlt : j < N
    · obtain ⟨g, o, rfl, hglt, hk⟩ := HK.out.resolve_left (by intro e; have := HN.out; rw [e] at this; simp at this; omega)
      have hjL : j < L.length := by rw [← HN.out]; exact hlt
      have hbw : Below w.heap.size w wr := HB2.out.trans (HB.out.mono HB2.out.size)
      have hc : ∀ q u, (enc1 (L.getD j zero1))[q]? = some u → wr.cell? ⟨g, o + j * 2 + q, none⟩ = some u := fun q u hu => (hbw.cell (p := ⟨g, o + j * 2 + q, none⟩) hglt).trans (hk j hjL q u hu)
      have hY := keepP_takeY (K := K) hjL
      have hNo := keepP_takeN (K := K) hjL
      generalize L.getD j zero1 = p at hc hY hNo
      obtain ⟨px, pl⟩ := p
      have q0 : wr.cell? ⟨g, o + j * 2, none⟩ = some (.int .i64 px) := hc 0 _ rfl
      have q1 : wr.cell? ⟨g, o + j * 2 + 1, none⟩ = some (.string ⟨pl.toArray⟩) := hc 1 _ rfl
      have HY := Lib.hid hY
      have HNo := Lib.hid hNo
      have hi0 : (0 : Int) ≤ (j : Int) := by omega
      have hi1 : (j : Int) < (N : Int) := by omega
      have hj1 : j + 1 ≤ N := hlt
      have hms : N - (j + 1) < N - j := by omega
      have hj1000 : j ≤ 1000 := by have := HNN.out; omega
      have hkl : (keepP (L.take j) K).length ≤ 1000 := by have h1 := keep_len (L.take j) K; have h2 : (L.take j).length ≤ j := List.length_take_le ..; omega
      have HJ : Hid (j + 1 ≤ N ∧ N - (j + 1) < N - j ∧ (keepP (L.take j) K).length + 1 ≤ maxLen ∧ ((keepP (L.take j) K).length + 1) * 24 ≤ 140737488355328 ∧ j ≤ 1000) := Lib.hid ⟨hj1, hms, by unfold maxLen; omega, by omega, hj1000⟩
      obtain ⟨BX, hBX⟩ : ∃ BX, BX = wr.alloc (.cells #[.int .i64 px, .string ⟨pl.toArray⟩] 52) := ⟨_, rfl⟩
      have hbx : Below wr.heap.size wr BX := by rw [hBX]; exact below1P wr _
      have HBX : Hid (Below W2.heap.size W2 BX) := Lib.hid (HB.out.trans (hbx.mono HB.out.size))
      have HOX : Hid (BX.ownsRow W2.heap.size 52 2 z (keepP (L.take j) K).length ((keepP (L.take j) K).flatMap enc1)) := Lib.hid (ownS_keep HO.out hbx)
      have r0 : BX.cell? ⟨wr.heap.size, 0, none⟩ = some (.int .i64 px) := by rw [hBX]; simp [go_sem]
      have r1 : BX.cell? ⟨wr.heap.size, 1, none⟩ = some (.string ⟨pl.toArray⟩) := by rw [hBX]; simp [go_sem]
      have HBW := Lib.hid hbw
      have HBL := Lib.hid hbx
      clear hk hc hjL hj1 hms hY hNo hbx hbw hkl hj1000
      go_wp2
      rw [← hBX]
      clear hBX q0 q1
      go_loopw [9, 22] (fun bx ix wi => ∃ i : Nat, i ≤ M ∧ ix = .int .i64 (i : Int) ∧ bx = .bool ((K.take i).contains px) ∧ wi = BX) (fun _ ix _ => M - idxOf ix)
      case atStart => exact ⟨0, Nat.zero_le _, rfl, rfl, rfl⟩
      case round =>
        obtain ⟨i, hiM, rfl, rfl, hwi⟩ := hrel
        subst hwi
        by_cases hlt2 : i < M
        · obtain ⟨g2, o2, rfl, hg2, hk2⟩ := HK'.out.resolve_left (by intro e; have := HM.out; rw [e] at this; simp at this; omega)
          have hiK : i < K.length := by rw [← HM.out]; exact hlt2
          have ck := ((HBW.out.trans (HBL.out.mono HBW.out.size)).cell (p := ⟨g2, o2 + i, none⟩) hg2).trans (hk2 i hiK)
          have hst := takeC_step hiK px
          generalize K.getD i 0 = kx at ck hst
          have hi0' : (0 : Int) ≤ (i : Int) := by omega
          have hi1' : (i : Int) < (M : Int) := by omega
          have hi1M : i + 1 ≤ M := hlt2
          have hmsi : M - (i + 1) < M - i := by omega
          have HI : Hid (i + 1 ≤ M ∧ M - (i + 1) < M - i) := Lib.hid ⟨hi1M, hmsi⟩
          have hw1 := wrap_nx hlt2 (Nat.le_refl M) HMX.out
          have hw2 : IntKind.i64.wrap ((i : Int) + 1) = (i : Int) + 1 := (IntKind.wrap_i64 _).trans (by have h := hw1; unfold wrap64 at h; exact h)
          generalize (K.take i).contains px = bi at hst ⊢
          have HST := Lib.hid hst
          clear hk2 hiK hi1M hmsi hst
          cases bi with
          | true =>
            go_wp2
            go_roundw
            case rel => exact ⟨i + 1, HI.out.1, by go_num, by rw [HST.out]; rfl, by first | trivial | rfl⟩
            case measure => have h := HI.out.2; clear hw1 hw2; simp only [idxOf]; omega
          | false =>
            go_wp2
            go_roundw
            case rel => exact ⟨i + 1, HI.out.1, by go_num, by rw [HST.out]; rfl, by first | trivial | rfl⟩
            case measure => have h := HI.out.2; clear hw1 hw2; simp only [idxOf]; omega
        · obtain rfl : i = M := by omega
          have hno : ¬ ((i : Int) < (i : Int)) := by omega
          have e : K.take i = K := by rw [HM.out, List.take_length]
          rw [e]
          obtain ⟨hw1, hw2⟩ := nextP j HJ.out.2.2.2.2
          clear e
          by_cases hin : px ∈ K
          · have hcon : K.contains px = true := by simpa using hin
            rw [hcon]
            have HYY := Lib.hid (HY.out hin)
            have HNW := Lib.hid (new_cells wr [.int .i64 px, .string ⟨pl.toArray⟩] 52)
            have HSZ : Hid (W2.heap.size ≤ (wr.alloc (.cells #[.int .i64 px, .string ⟨pl.toArray⟩] 52)).heap.size) := Lib.hid (by have := HBX.out.size; simp; omega)
            have HO2 := Lib.hid (HOX.out.alloc (.cells #[.int .i64 px, .string ⟨pl.toArray⟩] 52))
            have HB3 := Lib.hid (HBX.out.alloc HBX.out.size (.cells #[.int .i64 px, .string ⟨pl.toArray⟩] 52))
            clear hcon hin
            go_wp2_with (at_builtin; (refine wpList_append_own _ rfl _ _ 26 rfl W2.heap.size 52 i0 _ 2 24 Try.underlying26 hi hz0 hz1 hz2 rfl (by decide) _ _ _ rfl HO2.out ⟨wr.heap.size, 0, none⟩ 1 1 [.int .i64 px, .string ⟨pl.toArray⟩] rfl rfl HNW.out (enc1_one (px, pl)) HJ.out.2.2.1 HJ.out.2.2.2.1 HSZ.out ?_); intro v' w3 hown3 hgrow _; have HB4 : Hid (Below W2.heap.size W2 w3) := Lib.hid (HB3.out.grown hgrow HSZ.out (fun g hg => (World.ownsRow.lt HO2.out g hg).1)); have HO3 := Lib.hid hown3; clear hown3 hgrow)
            go_roundw
            case rel => exact ⟨j + 1, v', HJ.out.1, by go_num, rfl, by rw [HYY.out, List.length_append, flat_snoc]; exact HO3.out, HB4.out⟩
            case measure => have h := HJ.out.2.1; clear hw1 hw2; simp only [idxOf]; omega
          · have hcon : K.contains px = false := by simpa using hin
            rw [hcon]
            have HYY := Lib.hid (HNo.out hin)
            clear hcon hin
            go_wp2
            go_roundw
            case rel => exact ⟨j + 1, z, HJ.out.1, by go_num, rfl, by rw [HYY.out]; exact HOX.out, HBX.out⟩
            case measure => have h := HJ.out.2.1; clear hw1 hw2; simp only [idxOf]; omega
    · obtain rfl : j = N := by omega
      have hno : ¬ ((j : Int) < (j : Int)) := by omega
      have e : L.take j = L := by rw [HN.out, List.take_length]
      have ho := HO.out
      rw [e] at ho
      obtain ⟨zA, zc, rfl, _, _⟩ := ownS_form ho
      have hkl : (keepP L K).length ≤ j := by rw [HN.out]; exact keep_len L K
      have HR := Lib.hid (StS.of_own (z := zero1) enc1_len ho)
      obtain ⟨R, hR⟩ : ∃ R, R = (keepP L K).length := ⟨_, rfl⟩
      have x0 := (HB.out.cell (p := ⟨w.heap.size, 0, none⟩) (show w.heap.size < W2.heap.size by omega)).trans y0
      have x1 := (HB.out.cell (p := ⟨w.heap.size, 1, none⟩) (show w.heap.size < W2.heap.size by omega)).trans y1
      obtain ⟨f0, f1, f2, f3, t0, t1⟩ := HFZ.out wr HB.out
      have HOW := Lib.hid ho
      rw [← hR] at hkl ⊢
      have HRR := Lib.hid hR
      obtain ⟨hw1, hw2⟩ := subP hkl HNN.out
      clear ho e hR hkl
      go_wp2
      obtain rfl := HRR.out
      have hw2s := HB.out.size
      have ha : Ap (fun k => w.heap.size ≤ k ∧ k < W2.heap.size) wr (((wr.setCell ⟨w.heap.size, 0, none⟩ (.slice zA (keepP L K).length zc)).setCell ⟨w.heap.size + 1, 0, none⟩ (.slice zA (keepP L K).length zc)).setCell ⟨w.heap.size + 1, 1, none⟩ (.int .i64 n)) :=
        Ap.setCell (p := ⟨w.heap.size + 1, 1, none⟩) (Ap.setCell (p := ⟨w.heap.size + 1, 0, none⟩) (Ap.setCell (p := ⟨w.heap.size, 0, none⟩) (Ap.refl wr) (.inl ⟨Nat.le_refl _, by show w.heap.size < _; omega⟩) _) (.inl ⟨by show _ ≤ w.heap.size + 1; omega, by show w.heap.size + 1 < _; omega⟩) _) (.inl ⟨by show _ ≤ w.heap.size + 1; omega, by show w.heap.size + 1 < _; omega⟩) _
      refine bodyPost_ret (v := .tuple #[.agg #[.slice zA (keepP L K).length zc, .int .i64 n], .int .i64 ((j - (keepP L K).length : Nat) : Int)]) (by simp [results, Try.results10, go_sem, t0, t1]) rfl ?_
      exact ⟨_, rfl, own_low (own_ap HOW.out ha (fun g hg => by have := (World.ownsRow.lt HOW.out g hg).1; omega)) (by omega), (HB2.out.trans (HB.out.mono HB2.out.size)).trans (ha.below (by omega) (fun k hk => hk.1))⟩
end Go.Proofs.Ytmnjcmpikbihaaa
