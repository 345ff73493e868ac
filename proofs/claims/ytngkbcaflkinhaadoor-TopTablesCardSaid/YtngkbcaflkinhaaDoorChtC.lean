/- Charts: the contract of Check. -/
import Derived.Test.YtngkbcaflkinhaaDoorChtMB
namespace Go.Proofs.YtngkbcaflkinhaaDoor
open Go.RowKit

theorem parts_iff {e B a : Int} (he : 0 < e) : a < parts e B ↔ a * e < B := by
  unfold parts
  rw [show (a < (B + e - 1) / e) ↔ a + 1 ≤ (B + e - 1) / e from Iff.rfl, Int.le_ediv_iff_mul_le he, Int.add_mul]
  omega
theorem okB_no {e : Int} {c : CH} (h : ¬ (1 ≤ e ∧ e ≤ 8192 ∧ mayB c.blocks = true)) : chtE e c = 2 := by
  unfold chtE okB
  rw [if_neg]
  simp only [Bool.and_eq_true, decide_eq_true_eq]
  rintro ⟨⟨⟨a, b⟩, d⟩, _⟩
  exact h ⟨a, b, d⟩
theorem okB_yes {e : Int} {c : CH} (h1 : 1 ≤ e) (h2 : e ≤ 8192) (h3 : mayB c.blocks = true) : chtE e c = if tabsB e c.blocks 0 c.tabs = true then 0 else 2 := by
  unfold chtE okB
  rw [decide_eq_true h1, decide_eq_true h2, h3]
  simp
theorem mayB_iff {b : Int} : mayB b = true ↔ 0 ≤ b ∧ b ≤ 65536 := by unfold mayB; simp
set_option maxRecDepth 100000 in
set_option maxHeartbeats 4000000 in
theorem chtCheck_no (e B : Int) (T : List TB) (tv : Value) (w : World) (h : ¬ (1 ≤ e ∧ e ≤ 8192 ∧ mayB B = true)) :
    Calls Tryd.prog 6 #[.int .i64 e, .agg #[.int .i64 B, tv]] w fun e' w' => e' = .returned (.int .i64 (chtE e ⟨B, T⟩)) ∧ Below w.heap.size w w' := by
  rw [okB_no h]
  have hM := chtMay_any B
  have HX0 := Lib.hid (B2.new w (.int .i64 B) tv 27)
  have HB0 := Lib.hid (below1 w (.cells #[.int .i64 B, tv] 27))
  by_cases h1 : 1 ≤ e
  · have d1 : decide (e < 1) = false := decide_eq_false (by omega)
    by_cases h2 : e ≤ 8192
    · have d2 : decide (8192 < e) = false := decide_eq_false (by omega)
      have h3 : mayB B = false := by cases hb : mayB B; rfl; exact absurd ⟨h1, h2, hb⟩ h
      rw [h3] at hM
      clear h h1 h2 h3
      go_enter Tryd.func6, Tryd.ntmps6
      go_upto_region 1 with fail
      generalize w.alloc (.cells #[.int .i64 B, tv] 27) = w0 at HX0 HB0 ⊢
      obtain ⟨_, y0, y1, _, _⟩ := HX0.out
      go_wp2_with (go_at_call 15; with_reducible refine (hM _).mono ?_; rintro e w1 ⟨rfl, hb1⟩; have HB1 := Lib.hid (HB0.out.trans (hb1.mono HB0.out.size)); clear hb1)
      go_ret
      exact ⟨rfl, HB1.out⟩
    · have d2 : decide (8192 < e) = true := decide_eq_true (by omega)
      clear h h1 h2 hM
      go_enter Tryd.func6, Tryd.ntmps6
      go_wp2
      go_ret
      exact ⟨rfl, HB0.out⟩
  · have d1 : decide (e < 1) = true := decide_eq_true (by omega)
    clear h h1 hM
    go_enter Tryd.func6, Tryd.ntmps6
    go_wp2
    go_ret
    exact ⟨rfl, HB0.out⟩
set_option maxRecDepth 100000 in
set_option maxHeartbeats 4000000 in
theorem chtCheck_yes (E BN : Nat) (T : List TB) (tv : Value) (w : World) (h1 : 1 ≤ E) (h2 : E ≤ 8192) (h3 : BN ≤ 65536) (hT : TabsS w tv T) :
    Calls Tryd.prog 6 #[.int .i64 (E : Int), .agg #[.int .i64 (BN : Int), tv]] w fun e' w' => e' = .returned (.int .i64 (if tabsB (E : Int) (BN : Int) 0 T = true then 0 else 2)) ∧ Below w.heap.size w w' := by
  obtain ⟨res, hres⟩ : ∃ res : Int, res = if tabsB (E : Int) (BN : Int) 0 T = true then 0 else 2 := ⟨_, rfl⟩
  rw [← hres]
  have RES := Lib.hid hres
  clear hres
  have hM := chtMay_any (BN : Int)
  rw [mayB_iff.2 ⟨by omega, by omega⟩] at hM
  obtain ⟨A, cap, rfl, hc1, hc2, hc3⟩ := hT
  have HC3 := Lib.hid hc3
  have HX0 := Lib.hid (B2.new w (.int .i64 (BN : Int)) (.slice A T.length cap) 27)
  have HB0 := Lib.hid (below1 w (.cells #[.int .i64 (BN : Int), .slice A T.length cap] 27))
  have d1 : decide ((E : Int) < 1) = false := decide_eq_false (by omega)
  have d2 : decide (8192 < (E : Int)) = false := decide_eq_false (by omega)
  obtain ⟨Q, hQ⟩ : ∃ Q : Nat, Q = BN + E - 1 := ⟨_, rfl⟩
  have s1 : IntKind.i64.wrap ((BN : Int) + (E : Int)) = (BN : Int) + (E : Int) := by rw [IntKind.wrap_i64]; omega
  have s2 : IntKind.i64.wrap ((BN : Int) + (E : Int) - 1) = (Q : Int) := by rw [IntKind.wrap_i64]; omega
  obtain ⟨P, hPd⟩ : ∃ P : Nat, P = Q / E := ⟨_, rfl⟩
  have s3 : (Q : Int).tdiv (E : Int) = (P : Int) := by rw [hPd]; rfl
  have s4 : (Q : Int) / (E : Int) = (P : Int) := by rw [hPd]; rfl
  have s6 : ((E : Int) == 0) = false := by rw [beq_eq_false_iff_ne]; omega
  have s7 : ¬ (E : Int) = 0 := by omega
  have HP : Hid (parts (E : Int) (BN : Int) = (P : Int)) := Lib.hid (by unfold parts; rw [← s4]; congr 1; omega)
  have hP0 : P ≤ 73728 := by rw [hPd]; exact Nat.le_trans (Nat.div_le_self _ _) (by omega)
  have s5 : IntKind.i64.wrap (P : Int) = (P : Int) := by rw [IntKind.wrap_i64]; omega
  have HK : Hid (∀ k : Nat, (k : Int) < (P : Int) → k ≤ 73728) := Lib.hid (fun k hk => by omega)
  have H1 := Lib.hid h1
  have H2 := Lib.hid h2
  have H3 := Lib.hid h3
  clear hc3 hPd h1 h2 h3 hP0 hQ
  go_enter Tryd.func6, Tryd.ntmps6
  go_upto_region 1 with fail
  generalize w.alloc (.cells #[.int .i64 (BN : Int), .slice A T.length cap] 27) = w0 at HX0 HB0 ⊢
  obtain ⟨_, y0, y1, _, _⟩ := HX0.out
  go_upto_region 3 with (go_at_call 15; with_reducible refine (hM _).mono ?_; rintro e w1 ⟨rfl, hb1⟩; have HB1 := Lib.hid (HB0.out.trans (hb1.mono HB0.out.size)); have HX1 := Lib.hid (HX0.out.below hb1); clear hb1)
  clear y0 y1
  obtain ⟨_, y0, y1, _, _⟩ := HX1.out
  go_quiet (fail)
  have HBA := Lib.hid (below_drewN HB1.out nq)
  have HXA := Lib.hid (HX1.out.below (below_drewN (Below.refl _ _) nq))
  generalize w1.drewN nq = w2 at HBA HXA ⊢
  clear y0 y1 hM s1 s2 s3 s4 s5 s6 s7
  obtain ⟨_, y0, y1, _, _⟩ := HXA.out
  go_wp2
  clear y0 y1
  go_loopw [5, 31] (fun lx ix wr => ∃ (j : Nat) (ls : Int), j ≤ T.length ∧ ix = .int .i64 (j : Int) ∧ lx = .int .i64 ls ∧ ls = leastAt T j ∧ 0 ≤ ls ∧ tabsB (E : Int) (BN : Int) 0 T = tabsB (E : Int) (BN : Int) ls (T.drop j) ∧ Below w.heap.size w wr ∧ B2 wr w.heap.size (.int .i64 (BN : Int)) (.slice A T.length cap)) (fun _ ix _ => T.length - (intOf ix).toNat)
  case atStart => exact ⟨0, 0, Nat.zero_le _, rfl, rfl, rfl, Int.le_refl _, rfl, HBA.out, HXA.out⟩
  case round =>
    obtain ⟨j, ls, hj, rfl, rfl, hls, hls0, htb, hB, hX⟩ := hrel
    have HB := Lib.hid hB
    have HX := Lib.hid hX
    have HLS := Lib.hid hls
    have HTB := Lib.hid htb
    clear hB hX hls htb HBA HXA
    by_cases hlt : j < T.length
    · obtain ⟨b, off, rfl, hb, hcell⟩ := HC3.out.resolve_left (by intro e; rw [e] at hlt; simp at hlt)
      obtain ⟨u, q0, q1, hu⟩ := (hcell j hlt).below (HB.out.mono (Nat.le_refl _)) hb
      have HW1 := Lib.hid (wrap_succ hlt hc1 hc2)
      have hone := tabsB_drop (E : Int) (BN : Int) T j hlt
      rw [← HLS.out] at hone
      have HONE : Hid (tabsB (E : Int) (BN : Int) 0 T = (oneB (E : Int) (BN : Int) ls (T.getD j TB.zero) && tabsB (E : Int) (BN : Int) (leastAt T (j + 1)) (T.drop (j + 1)))) := Lib.hid (HTB.out.trans hone)
      have HNX : Hid (leastAt T (j + 1) = (T.getD j TB.zero).at' + 1) := Lib.hid rfl
      unfold oneB at HONE
      clear hcell hone
      generalize T.getD j TB.zero = tb at q0 q1 hu HONE HNX
      obtain ⟨a, l⟩ := tb
      dsimp only at q0 q1 hu HONE HNX
      have HU := Lib.hid hu
      obtain ⟨A', cap', rfl, _, _, _⟩ := hu
      obtain ⟨_, y0, y1, _, _⟩ := HX.out
      have HB1' := Lib.hid (HB.out.alloc HB.out.size (.cells #[.int .i64 a, .slice A' l.length cap'] 42))
      have HX1' := Lib.hid (HX.out.below (below1 wr (.cells #[.int .i64 a, .slice A' l.length cap'] 42)))
      have HT1 := Lib.hid (B2.new wr (.int .i64 a) (.slice A' l.length cap') 42)
      have HU1 := Lib.hid (HU.out.below (below1 wr (.cells #[.int .i64 a, .slice A' l.length cap'] 42)) (Nat.le_refl _))
      by_cases ha : a < ls
      · have e1 : decide (a < ls) = true := decide_eq_true ha
        have HF : Hid (tabsB (E : Int) (BN : Int) 0 T = false) := Lib.hid (by rw [HONE.out, decide_eq_false (show ¬ ls ≤ a by omega)]; simp)
        clear ha
        go_wp2
        go_ret
        exact ⟨by rw [RES.out, HF.out]; rfl, HB1'.out⟩
      · have e1 : decide (a < ls) = false := decide_eq_false ha
        by_cases hp : a < (P : Int)
        · have e2 : decide ((P : Int) ≤ a) = false := decide_eq_false (by omega)
          obtain ⟨k, rfl⟩ : ∃ k : Nat, a = (k : Int) := ⟨a.toNat, by omega⟩
          have e3 : decide (P ≤ k) = false := decide_eq_false (by omega)
          obtain ⟨M, hM⟩ : ∃ M : Nat, M = k * E := ⟨_, rfl⟩
          have hME : (k : Int) * (E : Int) = (M : Int) := by rw [hM, Int.natCast_mul]
          have hMB : (M : Int) < (BN : Int) := by rw [← hME]; exact (parts_iff (by have := H1.out; omega)).1 (by rw [HP.out]; exact hp)
          have h3 := H3.out
          obtain ⟨n, hn⟩ : ∃ n : Nat, (n : Int) = (BN : Int) - (M : Int) := ⟨(BN - M), by omega⟩
          have hn2 : n ≤ 65536 := by omega
          have M1 : Hid (wrap64 ((k : Int) * (E : Int)) = (M : Int)) := Lib.hid (by rw [hME]; unfold wrap64; omega)
          have M2 : Hid (wrap64 ((BN : Int) - (M : Int)) = (n : Int)) := Lib.hid (by rw [← hn]; unfold wrap64; omega)
          have hk3 : k ≤ 73728 := HK.out k hp
          have M3 : Hid (wrap64 ((k : Int) + 1) = (k : Int) + 1) := Lib.hid (by unfold wrap64; omega)
          have hTb := fun W (h : EntsS W (.slice A' l.length cap') l) => chtTable_any E n (k : Int) l (.slice A' l.length cap') W ⟨H1.out, H2.out⟩ hn2 h
          have HRES : Hid (tabsB (E : Int) (BN : Int) 0 T = (tblB (E : Int) l (n : Int) && tabsB (E : Int) (BN : Int) (leastAt T (j + 1)) (T.drop (j + 1)))) := Lib.hid (by
            rw [HONE.out, decide_eq_true (show ls ≤ (k : Int) by omega), HP.out, decide_eq_true hp, hME, ← hn]; simp)
          have HNN : Hid (0 ≤ (k : Int) + 1) := Lib.hid (by omega)
          clear hME hMB h3 hn hn2 hM ha hp HONE hk3
          have hw1 := HW1.out
          have m1 := M1.out
          have m2 := M2.out
          have m3 := M3.out
          generalize tblB (E : Int) l (n : Int) = bt at hTb HRES
          cases bt with
          | false =>
            go_wp2_with (go_at_call 16; with_reducible refine (hTb _ HU1.out).mono ?_; rintro e w4 ⟨rfl, hb4⟩; have HB4 := Lib.hid (HB1'.out.trans (hb4.mono HB1'.out.size)); clear hb4)
            go_ret
            exact ⟨by rw [RES.out, HRES.out]; rfl, HB4.out⟩
          | true =>
            go_wp2_with (go_at_call 16; with_reducible refine (hTb _ HU1.out).mono ?_; rintro e w4 ⟨rfl, hb4⟩; have HB4 := Lib.hid (HB1'.out.trans (hb4.mono HB1'.out.size)); have HX4 := Lib.hid (HX1'.out.below hb4); obtain ⟨_, z0, z1, _, _⟩ := HT1.out.below hb4; clear hb4)
            rw [hw1, m3]
            clear hw1 m1 m2 m3 e1 e2 e3
            go_roundw
            case rel => exact ⟨j + 1, (k : Int) + 1, by omega, by go_num, rfl, HNX.out.symm, HNN.out, by rw [HRES.out, HNX.out]; simp, HB4.out, HX4.out⟩
            case measure => simp [intOf]; omega
        · have e2 : decide ((P : Int) ≤ a) = true := decide_eq_true (by omega)
          have HF : Hid (tabsB (E : Int) (BN : Int) 0 T = false) := Lib.hid (by rw [HONE.out, HP.out, decide_eq_false hp]; simp)
          clear ha hp
          go_wp2
          go_ret
          exact ⟨by rw [RES.out, HF.out]; rfl, HB1'.out⟩
    · obtain rfl : j = T.length := by omega
      have HF : Hid (tabsB (E : Int) (BN : Int) 0 T = true) := Lib.hid (by rw [HTB.out, List.drop_of_length_le (Nat.le_refl _)]; rfl)
      go_wp2
      go_ret
      exact ⟨by rw [RES.out, HF.out]; rfl, HB.out⟩
theorem chtCheck_any (e B : Int) (T : List TB) (tv : Value) (w : World) (hT : TabsS w tv T) :
    Calls Tryd.prog 6 #[.int .i64 e, .agg #[.int .i64 B, tv]] w fun e' w' => e' = .returned (.int .i64 (chtE e ⟨B, T⟩)) ∧ Below w.heap.size w w' := by
  by_cases h : 1 ≤ e ∧ e ≤ 8192 ∧ mayB B = true
  · obtain ⟨h1, h2, h3⟩ := h
    obtain ⟨b1, b2⟩ := mayB_iff.1 h3
    rw [okB_yes (c := ⟨B, T⟩) h1 h2 h3]
    obtain ⟨E, rfl⟩ : ∃ E : Nat, e = (E : Int) := ⟨e.toNat, by omega⟩
    obtain ⟨BN, rfl⟩ : ∃ BN : Nat, B = (BN : Int) := ⟨B.toNat, by omega⟩
    exact chtCheck_yes E BN T tv w (by omega) (by omega) (by omega) hT
  · exact chtCheck_no e B T tv w h
end Go.Proofs.YtngkbcaflkinhaaDoor

