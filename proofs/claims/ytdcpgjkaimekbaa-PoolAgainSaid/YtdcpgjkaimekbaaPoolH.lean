/- Pools: the walk of PoolAgain. -/
import Derived.Test.YtdcpgjkaimekbaaPoolG
namespace Go.Proofs.Ytdcpgjkaimekbaa
open Go.RowKit Go.Maps

set_option maxHeartbeats 16000000 in
set_option maxRecDepth 100000 in
theorem poolAgain_walk {w : World} {v : Value} {R : List A17} (hv : A17W w v R) :
    Calls Try.prog 4 #[v] w fun e w' => e = .returned (.bool true) ∧ Below w.heap.size w w' := by
  obtain ⟨⟨A, c1, rfl, k1, k2, k3⟩, hg⟩ := hv
  obtain ⟨i0, hi, hz0, hz1, hz2⟩ := strInfo
  have hL := poolLives_any w
  obtain ⟨N, hN⟩ : ∃ N, N = R.length := ⟨_, rfl⟩
  have HN := Lib.hid hN
  rw [← hN] at k1 ⊢
  have HK := Lib.hid k3
  have HG := Lib.hid hg
  clear hN k3 hg
  by_cases h100 : 100 < N
  · have d1 : decide ((100 : Int) < (N : Int)) = true := decide_eq_true (by omega)
    go_enter Try.func4, Try.ntmps4
    go_wp2_with (first
      | (go_at_call 8; refine hL.mono ?_; rintro e w1 ⟨rfl, hb1⟩; have HB1 := Lib.hid hb1; clear hb1)
      | (go_at_call 9; refine (poolNew_any w1).mono ?_; rintro e w2 ⟨rfl, _, hb2⟩; have HB2 := Lib.hid hb2; clear hb2))
    go_ret
    exact ⟨rfl, HB1.out.trans (HB2.out.mono HB1.out.size)⟩
  have d1 : decide ((100 : Int) < (N : Int)) = false := decide_eq_false (by omega)
  have hN100 : N ≤ 100 := by omega
  have HN1 := Lib.hid hN100
  clear h100
  go_enter Try.func4, Try.ntmps4
  go_wp2_with (first
    | (go_at_call 8; refine hL.mono ?_; rintro e w1 ⟨rfl, hb1⟩; have HB1 := Lib.hid hb1; clear hb1)
    | (go_at_call 9; refine (poolNew_any w1).mono ?_; rintro e w2 ⟨rfl, hp2, hb2⟩; have HA := Lib.hid (Again.start (PoolNew.start hp2 hb2)); clear hp2 hb2))
  have hS := HA.out
  obtain ⟨b, hbb⟩ : ∃ b, b = w1.heap.size + 1 := ⟨_, rfl⟩
  rw [← hbb] at hS ⊢
  have HS := Lib.hid hS
  clear HA hS hbb
  go_loopw [4, 5, 29] (fun lx tx ix wr => ∃ (j n m : Nat) (L : PL) (z : Value) (T : List ByteArray), j ≤ N ∧ n ≤ j ∧ ix = .int .i64 (j : Int) ∧ lx = .int .i64 (n : Int) ∧ z = tx ∧ Again w1 wr b m L n z T) (fun _ _ ix _ => N - idxOf ix)
  case atStart => exact ⟨0, 0, _, _, _, _, Nat.zero_le _, Nat.le_refl _, rfl, rfl, rfl, HS.out⟩
  case round =>
    obtain ⟨j, n, m, L, z, T, hj, hnj, rfl, rfl, rfl, ha⟩ := hrel
    have HA := Lib.hid ha
    clear ha HS
    by_cases hlt : j < N
    · obtain ⟨g, o, rfl, hglt, hk⟩ := HK.out.resolve_left (by intro e; have := HN.out; rw [e] at this; simp at this; omega)
      have hjR : j < R.length := by rw [← HN.out]; exact hlt
      have hmem : R.getD j A17.zero ∈ R := by rw [List.getD, List.getElem?_eq_getElem hjR]; exact List.getElem_mem hjR
      have hga := HG.out _ hmem
      have hbw : Below w.heap.size w wr := HB1.out.trans (HA.out.pool.be.mono HB1.out.size)
      have hc : ∀ q u, (R.getD j A17.zero).enc[q]? = some u → wr.cell? ⟨g, o + j * 4 + q, none⟩ = some u := fun q u hu => (hbw.cell (p := ⟨g, o + j * 4 + q, none⟩) hglt).trans (hk j hjR q u hu)
      clear hk
      generalize R.getD j A17.zero = a at hga hc
      obtain ⟨ak, at', ai, av, aK⟩ := a
      have q0 : wr.cell? ⟨g, o + j * 4, none⟩ = some (.int .i64 ak) := hc 0 _ rfl
      have q1 : wr.cell? ⟨g, o + j * 4 + 1, none⟩ = some (.string at') := hc 1 _ rfl
      have q2 : wr.cell? ⟨g, o + j * 4 + 2, none⟩ = some (.int .i64 ai) := hc 2 _ rfl
      have q3 : wr.cell? ⟨g, o + j * 4 + 3, none⟩ = some av := hc 3 _ rfl
      have HV : Hid (IdxS wr av aK ∧ ∀ x ∈ aK, -9223372036854775808 ≤ x ∧ x ≤ 9223372036854775807) := Lib.hid ⟨hga.1.below hbw (Nat.le_refl _), hga.2.1⟩
      have hi0 : (0 : Int) ≤ (j : Int) := by omega
      have hi1 : (j : Int) < (N : Int) := by omega
      obtain ⟨A3, l3, c3, rfl⟩ : ∃ A l c, av = .slice A l c := by obtain ⟨A', c', e, _⟩ := hga.1; exact ⟨_, _, _, e⟩
      have hj1 : j + 1 ≤ N := hlt
      have hnn1 : n + 1 ≤ j + 1 := by omega
      have hnn0 : n ≤ j + 1 := by omega
      have hms : N - (j + 1) < N - j := by omega
      have hn10 : n ≤ 1073741824 := by omega
      have hln : ∀ l, l = n + 1 → l + 1 ≤ maxLen ∧ (l + 1) * 16 ≤ 140737488355328 := fun l e => ⟨by unfold maxLen; omega, by omega⟩
      have hj1000 : j ≤ 1000 := by omega
      have hn1000 : n ≤ 1000 := by omega
      have HJ : Hid (j + 1 ≤ N ∧ n + 1 ≤ j + 1 ∧ n ≤ j + 1 ∧ N - (j + 1) < N - j ∧ n ≤ 1073741824 ∧ (∀ l, l = n + 1 → l + 1 ≤ maxLen ∧ (l + 1) * 16 ≤ 140737488355328)) := Lib.hid ⟨hj1, hnn1, hnn0, hms, hn10, hln⟩
      obtain ⟨hw1, hw2⟩ := nextP j hj1000
      obtain ⟨hw3, hw4⟩ := nextP n hn1000
      clear hj1 hnn1 hnn0 hms hn10 hln hj1000 hn1000
      clear hc hga hmem hjR hbw
      obtain ⟨BX, hBX⟩ : ∃ BX, BX = wr.alloc (.cells #[.int .i64 ak, .string at', .int .i64 ai, .slice A3 l3 c3] 31) := ⟨_, rfl⟩
      have hbm : b < wr.heap.size ∧ m < wr.heap.size := ⟨HA.out.pool.at'.lt, HA.out.pool.at'.map.lt⟩
      have HBM := Lib.hid hbm
      have hcx : BX.cell? ⟨wr.heap.size, 1, none⟩ = some (.string at') := by rw [hBX, cell_of_row _ _ _ _ _ (0, 0) (heap_alloc_new wr _)]; rfl
      have hszx : wr.heap.size < BX.heap.size := by rw [hBX]; simp
      have HCX : Hid (∀ w3 : World, Ap (fun k => k = b ∨ k = m) BX w3 → w3.cell? ⟨wr.heap.size, 1, none⟩ = some (.string at')) := Lib.hid (fun w3 h => (h.cell hszx (by have := HBM.out; rintro (e | e) <;> omega) 1).trans hcx)
      have hbx : Below wr.heap.size wr BX := by rw [hBX]; exact below1P wr _
      have HA2 := Lib.hid (HA.out.below hbx)
      have HV2 : Hid (IdxS BX (.slice A3 l3 c3) aK ∧ ∀ x ∈ aK, -9223372036854775808 ≤ x ∧ x ≤ 9223372036854775807) := Lib.hid ⟨HV.out.1.below hbx (Nat.le_refl _), HV.out.2⟩
      rw [hBX] at HA2 HV2 HCX
      clear hbx HA HV hbm hcx hszx
      by_cases hk0 : ak = 0
      · subst hk0
        have hA := poolAdd_any HA2.out.pool.at' at'
        by_cases he : addE n at' = 0
        · rw [if_pos he, he] at hA
          have HAD : Hid (∀ w3, PoolAt w3 b m (addL L n at') (addN n at') → Ap (fun k => k = b ∨ k = m) _ w3 → Mid w1 w3 b m L n z T at') := Lib.hid (fun w3 h1 h2 => HA2.out.added he h1 h2)
          clear hBX HA2 HV2 he
          go_wp2_with (first
            | (go_at_call 11; refine hA.mono ?_; rintro e w3 ⟨rfl, hp3, ha3⟩; have ct := HCX.out w3 ha3; have HM := Lib.hid ((HAD.out w3 hp3 ha3).below (below1P w3 (.cells #[.string at'] 9))); clear hp3 ha3)
            | (at_builtin; (refine wpList_append_own_at _ rfl _ _ 46 rfl w1.heap.size 9 i0 _ 1 16 Try.underlying46 hi hz0 hz1 hz2 rfl (by decide) _ _ _ rfl HM.out.texts.own ⟨w3.heap.size, 0, none⟩ 1 1 [.string at'] rfl rfl (new_cells w3 [.string at'] _) (by intro u hu; simp at hu; subst hu; rfl) (HJ.out.2.2.2.2.2 _ HM.out.len).1 (HJ.out.2.2.2.2.2 _ HM.out.len).2 HM.out.pool.be.size ?_); intro v' w4 hown4 hgrow _ hblk; have HA4 := Lib.hid (HM.out.done hown4 hgrow hblk); clear hown4 hgrow hblk HM))
          go_roundw
          case rel => exact ⟨j + 1, n + 1, m, _, v', _, HJ.out.1, HJ.out.2.1, by go_num, by go_num, rfl, HA4.out⟩
          case measure => have h := HJ.out.2.2.2.1; clear hw1 hw2 hw3 hw4; simp only [idxOf]; omega
        · rw [if_neg he] at hA
          have HAD : Hid (∀ w3, PoolAt w3 b m (addL L n at') (addN n at') → Ap (fun k => k = b ∨ k = m) _ w3 → Again w1 w3 b m L n z T) := Lib.hid (fun w3 h1 h2 => HA2.out.refused he h1 h2)
          have hne : (addE n at' == 0) = false := by rw [beq_eq_false_iff_ne]; exact he
          generalize addE n at' = er at hA hne he
          clear hBX HA2 HV2
          go_wp2_with (first
            | (go_at_call 11; refine hA.mono ?_; rintro e w3 ⟨rfl, hp3, ha3⟩; have HM := Lib.hid (HAD.out w3 hp3 ha3); clear hp3 ha3))
          go_roundw
          case rel => exact ⟨j + 1, n, m, _, z, _, HJ.out.1, HJ.out.2.2.1, by go_num, rfl, rfl, HM.out⟩
          case measure => have h := HJ.out.2.2.2.1; clear hw1 hw2 hw3 hw4; simp only [idxOf]; omega
      · have b0 : (ak == 0) = false := by rw [beq_eq_false_iff_ne]; exact hk0
        by_cases hk2 : ak = 2
        · subst hk2
          have hKp := poolKeep_any HA2.out.pool.at' HJ.out.2.2.2.2.1 HV2.out.1 HV2.out.2
          have HAD : Hid (∀ w3, PoolAt w3 b _ (keepP L aK) n → Ap (fun k => k = b) _ w3 → Again w1 w3 b _ (keepP L aK) n z T) := Lib.hid (fun w3 h1 h2 => HA2.out.keep h1 h2)
          clear hBX HA2 HV2
          go_wp2_with (first
            | (go_at_call 15; refine hKp.mono ?_; rintro e w3 ⟨rfl, hp3, ha3⟩; have HM := Lib.hid (HAD.out w3 hp3 ha3); clear hp3 ha3))
          go_roundw
          case rel => exact ⟨j + 1, n, _, _, z, _, HJ.out.1, HJ.out.2.2.1, by go_num, rfl, rfl, HM.out⟩
          case measure => have h := HJ.out.2.2.2.1; clear hw1 hw2 hw3 hw4; simp only [idxOf]; omega
        · have b2 : (ak == 2) = false := by rw [beq_eq_false_iff_ne]; exact hk2
          clear hBX HV2
          go_wp2
          go_roundw
          case rel => exact ⟨j + 1, n, _, _, z, _, HJ.out.1, HJ.out.2.2.1, by go_num, rfl, rfl, HA2.out⟩
          case measure => have h := HJ.out.2.2.2.1; clear hw1 hw2 hw3 hw4; simp only [idxOf]; omega
    · obtain rfl : j = N := by omega
      have hno : ¬ ((j : Int) < (j : Int)) := by omega
      have hn10 : n ≤ 1073741824 := by omega
      have hn1000 : n ≤ 1000 := by omega
      have HN10 := Lib.hid hn10
      have HN3 := Lib.hid hn1000
      obtain ⟨g, cap, rfl, hz1', hz2', hglt, htx⟩ := HA.out.text
      have HTX := Lib.hid htx
      have HGL := Lib.hid hglt
      have hlen : (idsP L).length ≤ n := by have h1 := HA.out.pool.at'.len; have h2 : (idsP L).length = L.length := by simp [idsP]
                                            omega
      have HLN := Lib.hid hlen
      clear hj hnj hn10 hn1000 htx hglt hlen
      go_wp2_with (go_at_call 18; refine (poolIds_any HA.out.pool.at' HN10.out).mono ?_; rintro e w3 ⟨iv, rfl, hiv, hb3⟩; obtain ⟨IA, ic, rfl, i1, i2, i3⟩ := hiv; have HI := Lib.hid i3; have HA3 := Lib.hid (HA.out.below hb3); have HB3 := Lib.hid hb3; clear hb3 i3)
      obtain ⟨q, hq⟩ : ∃ q, q = (idsP L).length := ⟨_, rfl⟩
      have HQ := Lib.hid hq
      rw [← hq] at i1 ⊢
      have hqn : q ≤ n := by rw [hq]; exact HLN.out
      have HQN := Lib.hid hqn
      have dle : decide ((q : Int) ≤ (n : Int)) = true := decide_eq_true (by omega)
      have hq3 : q ≤ 1000 := by have := HN3.out; omega
      have HQ3 := Lib.hid hq3
      clear hq hq3 hqn
      go_loopw [66] (fun ix wx => ∃ k : Nat, k ≤ q ∧ ix = .int .i64 (k : Int) ∧ Below w3.heap.size w3 wx) (fun ix _ => q - idxOf ix)
      case atStart => exact ⟨0, Nat.zero_le _, rfl, Below.refl _ _⟩
      case round =>
        obtain ⟨k, hkq, rfl, hbx⟩ := hrel
        have HBX := Lib.hid hbx
        clear hbx
        by_cases hlt2 : k < q
        · have hkl : k < (idsP L).length := by rw [← HQ.out]; exact hlt2
          obtain ⟨g2, o2, rfl, hg2, hk2⟩ := HI.out.resolve_left (by intro e; rw [e] at hkl; simp at hkl)
          have hmem : (idsP L).getD k 0 ∈ idsP L := by rw [List.getD, List.getElem?_eq_getElem hkl]; exact List.getElem_mem hkl
          have hrg := HA3.out.pool.at'.rng _ hmem
          have ck : _ := (HBX.out.cell (p := ⟨g2, o2 + k, none⟩) hg2).trans (hk2 k hkl)
          obtain ⟨y, hy⟩ : ∃ y : Nat, (idsP L).getD k 0 = (y : Int) := ⟨((idsP L).getD k 0).toNat, by omega⟩
          rw [hy] at ck hmem hrg
          have hyn : y < n + 1 := by omega
          have hGet := (HA3.out.below HBX.out).get hmem HN10.out
          have HC : Hid (∀ W, Below _ _ W → W.cell? ⟨g, y, none⟩ = some (.string (T.getD y ⟨#[]⟩))) := Lib.hid (fun W (hb : Below _ _ W) => ((HB3.out.trans ((HBX.out.trans (hb.mono HBX.out.size)).mono HB3.out.size)).cell (p := ⟨g, y, none⟩) HGL.out).trans (HTX.out y hyn))
          generalize T.getD y ⟨#[]⟩ = tx at hGet HC
          have d1' : decide ((y : Int) < 1) = false := decide_eq_false (by omega)
          have d2' : decide ((n : Int) < (y : Int)) = false := decide_eq_false (by omega)
          have hy0 : (0 : Int) ≤ (y : Int) := by omega
          have hy1 : (y : Int) < ((n + 1 : Nat) : Int) := by omega
          have hi0 : (0 : Int) ≤ (k : Int) := by omega
          have hi1 : (k : Int) < (q : Int) := by omega
          have hk1 : k + 1 ≤ q := hlt2
          have hms : q - (k + 1) < q - k := by omega
          have HKK : Hid (k + 1 ≤ q ∧ q - (k + 1) < q - k) := Lib.hid ⟨hk1, hms⟩
          obtain ⟨hw1, hw2⟩ := nextP k (by have := HQ3.out; omega)
          clear hk2 hmem hrg hy hkl hk1 hms
          go_wp2_with (go_at_call 13; refine hGet.mono ?_; rintro e w5 ⟨rfl, hb5⟩; have ct := HC.out w5 hb5; have HB5 := Lib.hid (HBX.out.trans (hb5.mono HBX.out.size)); clear hb5)
          go_roundw
          case rel => exact ⟨k + 1, HKK.out.1, by go_num, HB5.out⟩
          case measure => have h := HKK.out.2; clear hw1 hw2; simp only [idxOf]; omega
        · obtain rfl : k = q := by omega
          have hno2 : ¬ ((k : Int) < (k : Int)) := by omega
          go_wp2_with (go_at_call 18; refine (poolIds_any (HA3.out.below HBX.out).pool.at' HN10.out).mono ?_; rintro e w6 ⟨iv, rfl, hiv, hb6⟩; obtain ⟨IA2, ic2, rfl, _, _, _⟩ := hiv; rw [← HQ.out]; have HA6 := Lib.hid ((HA3.out.below HBX.out).below hb6); clear hb6)
          go_ret
          refine ⟨?_, HB1.out.trans (HA6.out.pool.be.mono HB1.out.size)⟩
          show Ending.returned (.bool (decide (k ≤ n))) = _
          rw [decide_eq_true HQN.out]
end Go.Proofs.Ytdcpgjkaimekbaa
