/- Charts: the document's own Check. Charts: the entry of each block, by search; the document's own flat. -/
import Derived.Test.YthhbaccbhfngbaaMb06
import Derived.Test.YthhbaccbhfngbaaMb04
namespace Go.Proofs.Ythhbaccbhfngbaa
open Go.RowKit

set_option maxRecDepth 100000 in
set_option maxHeartbeats 4000000 in
theorem rchtCheck_no (e B : Int) (T : List TB) (tv : Value) (w : World) (h : ¬ (1 ≤ e ∧ e ≤ 8192 ∧ mayB B = true)) :
    Calls Try.prog 58 #[.int .i64 e, .agg #[.int .i64 B, tv]] w fun e' w' => e' = .returned (.int .i64 (chtE e ⟨B, T⟩)) ∧ Below w.heap.size w w' := by
  rw [okB_no h]
  rw [mayB_iff] at h
  have HB0 := Lib.hid (below1 w (.cells #[.int .i64 B, tv] 44))
  by_cases h1 : e < 1
  · have d1 : decide (e < 1) = true := decide_eq_true h1
    clear h h1
    go_enter Try.func58, Try.ntmps58
    go_wp2
    go_ret
    exact ⟨rfl, HB0.out⟩
  · have d1 : decide (e < 1) = false := decide_eq_false h1
    by_cases h2 : 8192 < e
    · have d2 : decide (8192 < e) = true := decide_eq_true h2
      clear h h1 h2
      go_enter Try.func58, Try.ntmps58
      go_wp2
      go_ret
      exact ⟨rfl, HB0.out⟩
    · have d2 : decide (8192 < e) = false := decide_eq_false h2
      by_cases h3 : B < 0
      · have d3 : decide (B < 0) = true := decide_eq_true h3
        clear h h1 h2 h3
        go_enter Try.func58, Try.ntmps58
        go_wp2
        go_ret
        exact ⟨rfl, HB0.out⟩
      · have d3 : decide (B < 0) = false := decide_eq_false h3
        have d4 : decide (65536 < B) = true := decide_eq_true (by omega)
        clear h h1 h2 h3
        go_enter Try.func58, Try.ntmps58
        go_wp2
        go_ret
        exact ⟨rfl, HB0.out⟩
set_option maxRecDepth 100000 in
set_option maxHeartbeats 8000000 in
theorem rchtCheck_yes (E BN : Nat) (T : List TB) (tv : Value) (w : World) (h1 : 1 ≤ E) (h2 : E ≤ 8192) (h3 : BN ≤ 65536) (hT : TabsS w tv T) :
    Calls Try.prog 58 #[.int .i64 (E : Int), .agg #[.int .i64 (BN : Int), tv]] w fun e' w' => e' = .returned (.int .i64 (if tabsB (E : Int) (BN : Int) 0 T = true then 0 else 2)) ∧ Below w.heap.size w w' := by
  obtain ⟨res, hres⟩ : ∃ res : Int, res = if tabsB (E : Int) (BN : Int) 0 T = true then 0 else 2 := ⟨_, rfl⟩
  rw [← hres]
  have RES := Lib.hid hres
  clear hres
  obtain ⟨A, cap, rfl, hc1, hc2, hc3⟩ := hT
  have HC3 := Lib.hid hc3
  have HX0 := Lib.hid (B2.new w (.int .i64 (BN : Int)) (.slice A T.length cap) 44)
  have HB0 := Lib.hid (below1 w (.cells #[.int .i64 (BN : Int), .slice A T.length cap] 44))
  have d1 : decide ((E : Int) < 1) = false := decide_eq_false (by omega)
  have d2 : decide (8192 < (E : Int)) = false := decide_eq_false (by omega)
  have d3 : decide ((BN : Int) < 0) = false := decide_eq_false (by omega)
  have d4 : decide (65536 < (BN : Int)) = false := decide_eq_false (by omega)
  have H1 := Lib.hid h1
  have H2 := Lib.hid h2
  have H3 := Lib.hid h3
  clear hc3 h1 h2 h3
  go_enter Try.func58, Try.ntmps58
  go_upto_region 1 with fail
  generalize w.alloc (.cells #[.int .i64 (BN : Int), .slice A T.length cap] 44) = w0 at HX0 HB0 ⊢
  obtain ⟨_, y0, y1, _, _⟩ := HX0.out
  go_wp2
  clear y0 y1 d1 d2 d3 d4
  go_loopw [5, 29] (fun lx ix wr => ∃ (j : Nat) (la : Int), j ≤ T.length ∧ ix = .int .i64 (j : Int) ∧ lx = .int .i64 la ∧ la + 1 = leastAt T j ∧ -1 ≤ la ∧ tabsB (E : Int) (BN : Int) 0 T = tabsB (E : Int) (BN : Int) (leastAt T j) (T.drop j) ∧ Below w.heap.size w wr ∧ B2 wr w.heap.size (.int .i64 (BN : Int)) (.slice A T.length cap)) (fun _ ix _ => T.length - (intOf ix).toNat)
  case atStart => exact ⟨0, -1, Nat.zero_le _, rfl, rfl, rfl, Int.le_refl _, rfl, HB0.out, HX0.out⟩
  case round =>
    obtain ⟨j, la, hj, rfl, rfl, hls, hla, htb, hB, hX⟩ := hrel
    have HB := Lib.hid hB
    have HX := Lib.hid hX
    have HLS := Lib.hid hls
    have HLA := Lib.hid hla
    have HTB := Lib.hid htb
    clear hB hX hls htb hla HB0 HX0
    by_cases hlt : j < T.length
    · obtain ⟨b, off, rfl, hb, hcell⟩ := HC3.out.resolve_left (by intro e; rw [e] at hlt; simp at hlt)
      obtain ⟨u, q0, q1, hu⟩ := (hcell j hlt).below (HB.out.mono (Nat.le_refl _)) hb
      have HW1 := Lib.hid (wrap_succ hlt hc1 hc2)
      have HONE : Hid (tabsB (E : Int) (BN : Int) 0 T = (oneB (E : Int) (BN : Int) (leastAt T j) (T.getD j TB.zero) && tabsB (E : Int) (BN : Int) (leastAt T (j + 1)) (T.drop (j + 1)))) := Lib.hid (HTB.out.trans (tabsB_drop (E : Int) (BN : Int) T j hlt))
      have HNX : Hid ((T.getD j TB.zero).at' + 1 = leastAt T (j + 1)) := Lib.hid rfl
      unfold oneB at HONE
      rw [← HLS.out] at HONE
      clear hcell
      generalize T.getD j TB.zero = tb at q0 q1 hu HONE HNX
      obtain ⟨a, l⟩ := tb
      dsimp only at q0 q1 hu HONE HNX
      have HU := Lib.hid hu
      obtain ⟨A', cap', rfl, he1, he2, he3⟩ := hu
      have HE3 := Lib.hid he3
      obtain ⟨_, y0, y1, _, _⟩ := HX.out
      have HB1 := Lib.hid (HB.out.alloc HB.out.size (.cells #[.int .i64 a, .slice A' l.length cap'] 55))
      have HX1 := Lib.hid (HX.out.below (below1 wr (.cells #[.int .i64 a, .slice A' l.length cap'] 55)))
      have HT1 := Lib.hid (B2.new wr (.int .i64 a) (.slice A' l.length cap') 55)
      have HU1 := Lib.hid (HU.out.below (below1 wr (.cells #[.int .i64 a, .slice A' l.length cap'] 55)) (Nat.le_refl _))
      have HE3' := HE3
      clear he3
      have HPI : Hid (a < parts (E : Int) (BN : Int) ↔ a * (E : Int) < (BN : Int)) := Lib.hid (parts_iff (by have := H1.out; omega))
      by_cases ha : a ≤ la
      · have e1 : decide (a ≤ la) = true := decide_eq_true ha
        have HF : Hid (tabsB (E : Int) (BN : Int) 0 T = false) := Lib.hid (by rw [HONE.out, decide_eq_false (show ¬ la + 1 ≤ a by omega)]; simp)
        clear ha
        go_wp2
        go_ret
        exact ⟨by rw [RES.out, HF.out]; rfl, HB1.out⟩
      have e1 : decide (a ≤ la) = false := decide_eq_false ha
      obtain ⟨k, rfl⟩ : ∃ k : Nat, a = (k : Int) := ⟨a.toNat, by have := HLA.out; omega⟩
      obtain ⟨M, hM⟩ : ∃ M : Nat, M = k * E := ⟨_, rfl⟩
      have hME : (k : Int) * (E : Int) = (M : Int) := by rw [hM, Int.natCast_mul]
      have hkM : k ≤ M := by rw [hM]; exact Nat.le_mul_of_pos_right _ H1.out
      rw [hME] at HPI
      by_cases hb : BN ≤ k
      · have e2 : decide ((BN : Int) ≤ (k : Int)) = true := decide_eq_true (by omega)
        have e2' : decide (BN ≤ k) = true := decide_eq_true hb
        have HF : Hid (tabsB (E : Int) (BN : Int) 0 T = false) := Lib.hid (by rw [HONE.out, decide_eq_false (p := (k : Int) < parts (E : Int) (BN : Int)) (fun h => by have := HPI.out.1 h; omega)]; simp)
        clear ha hb hM hME hkM
        go_wp2
        go_ret
        exact ⟨by rw [RES.out, HF.out]; rfl, HB1.out⟩
      have e2 : decide ((BN : Int) ≤ (k : Int)) = false := decide_eq_false (by omega)
      have e2' : decide (BN ≤ k) = false := decide_eq_false hb
      have HM : Hid (M ≤ 536870912) := Lib.hid (by rw [hM]; exact Nat.le_trans (Nat.mul_le_mul (Nat.le_of_lt (Nat.lt_of_not_le hb)) H2.out) (by have := H3.out; omega))
      have M1 : Hid (wrap64 ((k : Int) * (E : Int)) = (M : Int)) := Lib.hid (by rw [hME]; have := HM.out; unfold wrap64; omega)
      by_cases hm : BN ≤ M
      · have e3 : decide ((BN : Int) ≤ (M : Int)) = true := decide_eq_true (by omega)
        have e3' : decide (BN ≤ M) = true := decide_eq_true hm
        have HF : Hid (tabsB (E : Int) (BN : Int) 0 T = false) := Lib.hid (by rw [HONE.out, decide_eq_false (p := (k : Int) < parts (E : Int) (BN : Int)) (fun h => by have := HPI.out.1 h; omega)]; simp)
        clear ha hb hM hME hkM hm
        have m1 := M1.out
        go_wp2
        go_ret
        exact ⟨by rw [RES.out, HF.out]; rfl, HB1.out⟩
      have e3 : decide ((BN : Int) ≤ (M : Int)) = false := decide_eq_false (by omega)
      have e3' : decide (BN ≤ M) = false := decide_eq_false hm
      have HMLT : Hid (M < BN) := Lib.hid (by omega)
      have HTBL : Hid (tabsB (E : Int) (BN : Int) 0 T = (tblB (E : Int) l ((BN - M : Nat) : Int) && tabsB (E : Int) (BN : Int) (leastAt T (j + 1)) (T.drop (j + 1)))) := Lib.hid (by
        rw [HONE.out, decide_eq_true (show la + 1 ≤ (k : Int) by omega), decide_eq_true (HPI.out.2 (by omega)), hME, show (BN : Int) - (M : Int) = ((BN - M : Nat) : Int) by omega]; simp)
      clear ha hb hM hME hkM hm HONE HPI
      by_cases hl : l.length = E
      case neg =>
        have e4 : ((l.length : Int) == (E : Int)) = false := by rw [beq_eq_false_iff_ne]; omega
        have e4' : ((l.length : Int) != (E : Int)) = true := by rw [bne_iff_ne]; omega
        have HF : Hid (tabsB (E : Int) (BN : Int) 0 T = false) := Lib.hid (by
          have : tblB (E : Int) l ((BN - M : Nat) : Int) = false := by cases hq : tblB (E : Int) l ((BN - M : Nat) : Int); rfl; exact absurd (tblB_len hq) (by omega)
          rw [HTBL.out, this]; rfl)
        clear hl
        have m1 := M1.out
        go_wp2
        go_ret
        exact ⟨by rw [RES.out, HF.out]; rfl, HB1.out⟩
      subst hl
      have hBl := fun W (h : EntsS W (.slice A' l.length cap') l) => rchtBlank_any l (.slice A' l.length cap') W h
      have HTR := Lib.hid (tbl_ref l.length (BN - M) l rfl)
      cases hfull : l.any fullB with
      | false =>
        rw [hfull] at hBl
        have HF : Hid (tabsB (l.length : Int) (BN : Int) 0 T = false) := Lib.hid (by
          have : tblB (l.length : Int) l ((BN - M : Nat) : Int) = false := by cases hq : tblB (l.length : Int) l ((BN - M : Nat) : Int); rfl; exact absurd (HTR.out.1 hq).1 (by rw [hfull]; decide)
          rw [HTBL.out, this]; rfl)
        clear hfull
        have m1 := M1.out
        go_wp2_with (go_at_call 77; with_reducible refine (hBl _ HU1.out).mono ?_; rintro e w4 ⟨rfl, hb4⟩; have HB4 := Lib.hid (HB1.out.trans (hb4.mono HB1.out.size)); clear hb4)
        go_ret
        exact ⟨by rw [RES.out, HF.out]; rfl, HB4.out⟩
      | true =>
        rw [hfull] at hBl
        have HFL := Lib.hid hfull
        clear hfull
        have m1 := M1.out
        go_upto_region 9 with (go_at_call 77; with_reducible refine (hBl _ HU1.out).mono ?_; rintro e w4 ⟨rfl, hb4⟩; have HB4 := Lib.hid (HB1.out.trans (hb4.mono HB1.out.size)); have HX4 := Lib.hid (HX1.out.below hb4); have HT4 := Lib.hid (HT1.out.below hb4); have HU4 := Lib.hid (HU1.out.below hb4 (Nat.le_refl _)); clear hb4)
        generalize wr.heap.size = bt at HT4 ⊢
        obtain ⟨_, z0, z1, _, _⟩ := HT4.out
        clear y0 y1
        go_wp2
        clear m1 e1 e2 e2' e3 e3' z0 z1
        go_loopw [70] (fun ix wi => ∃ (i : Nat), i ≤ l.length ∧ ix = .int .i64 (i : Int) ∧ (∀ i', i' < i → eachOk l (BN - M) i') ∧ Below w4.heap.size w4 wi ∧ B2 wi w.heap.size (.int .i64 (BN : Int)) (.slice (some ⟨b, off, none⟩) T.length cap) ∧ B2 wi bt (.int .i64 (k : Int)) (.slice A' l.length cap')) (fun ix _ => l.length - (intOf ix).toNat)
        case atStart => exact ⟨0, Nat.zero_le _, rfl, (fun i h => absurd h (by omega)), Below.refl _ _, HX4.out, HT4.out⟩
        case round =>
          obtain ⟨i, hi, rfl, hei, hBi, hXi, hTi⟩ := hrel
          have HBi := Lib.hid hBi
          have HXi := Lib.hid hXi
          have HTi := Lib.hid hTi
          have HEI := Lib.hid hei
          clear hBi hXi hTi hei
          by_cases hil : i < l.length
          · have hil2 : i < l.length := hil
            obtain ⟨A2, cap2, hv2, hd1, hd2, hd3⟩ := HU4.out
            obtain ⟨b3, off3, rfl, hb3, hcell3⟩ := hd3.resolve_left (by intro e; rw [e] at hil; simp at hil)
            injection hv2 with e1 e2 e3
            subst e1
            subst e3
            clear e2
            obtain ⟨g0, g1, g2, g3⟩ := (hcell3 i hil).below HBi.out hb3
            have HWi := Lib.hid (wrap_succ hil he1 he2)
            have hCk := rentCheck_any (l.getD i EN.zero)
            have HEA : Hid (eachOk l (BN - M) i → ∀ i', i' < i + 1 → eachOk l (BN - M) i') := Lib.hid (fun h i' hi' => by
              by_cases e : i' = i
              · rw [e]; exact h
              · exact HEI.out i' (by omega))
            have HFA : Hid (¬ eachOk l (BN - M) i → tabsB (l.length : Int) (BN : Int) 0 T = false) := Lib.hid (fun h => by
              have : tblB (l.length : Int) l ((BN - M : Nat) : Int) = false := by cases hq : tblB (l.length : Int) l ((BN - M : Nat) : Int); rfl; exact absurd ((HTR.out.1 hq).2 i hil2) h
              rw [HTBL.out, this]; rfl)
            unfold eachOk at HEA HFA
            obtain ⟨S, hS⟩ : ∃ S : Nat, S = M + i := ⟨_, rfl⟩
            have HIL : Hid (i ≤ 8192) := Lib.hid (by have := H2.out; omega)
            have M2 : Hid (wrap64 ((M : Int) + (i : Int)) = (S : Int)) := Lib.hid (by have := HM.out; have := HIL.out; unfold wrap64; omega)
            have HSI : Hid (BN - M ≤ i ↔ BN ≤ S) := Lib.hid (by have := HMLT.out; omega)
            have HZE : Hid (tabsB (l.length : Int) (BN : Int) 0 T = false → res = 2) := Lib.hid (fun h => by rw [RES.out, h]; rfl)
            clear hcell3 hd3 hb3 hS
            generalize l.getD i EN.zero = p at g0 g1 g2 g3 hCk HEA HFA
            have HB5 := Lib.hid ((HB4.out.trans (HBi.out.mono HB4.out.size)).trans ((below1 wr (.cells #[.int .u8 p.kind, .int .i64 p.st, .int .i64 p.mb, .int .i64 p.fr] 50)).mono (Nat.le_trans HB4.out.size HBi.out.size)))
            have HBj := Lib.hid (HBi.out.trans ((below1 wr (.cells #[.int .u8 p.kind, .int .i64 p.st, .int .i64 p.mb, .int .i64 p.fr] 50)).mono HBi.out.size))
            have HXj := Lib.hid (HXi.out.below (below1 wr (.cells #[.int .u8 p.kind, .int .i64 p.st, .int .i64 p.mb, .int .i64 p.fr] 50)))
            have HTj := Lib.hid (HTi.out.below (below1 wr (.cells #[.int .u8 p.kind, .int .i64 p.st, .int .i64 p.mb, .int .i64 p.fr] 50)))
            have HPj := Lib.hid (Bx.new wr (.int .u8 p.kind) (.int .i64 p.st) (.int .i64 p.mb) (.int .i64 p.fr) 50)
            have HEP : Hid ((EOk p → entE p = 0) ∧ (¬ EOk p → entE p = 2)) := Lib.hid ⟨fun h => if_pos h, fun h => if_neg h⟩
            obtain ⟨kk, st, mb, fr⟩ := p
            unfold fullB at HEA HFA
            unfold EN.v at hCk
            dsimp only at hCk g0 g1 g2 g3 HEA HFA HB5 HBj HXj HTj HPj
            obtain ⟨_, y0, y1, _, _⟩ := HXi.out
            obtain ⟨_, z0, z1, _, _⟩ := HTi.out
            have hw1 := HWi.out
            have m1 := M1.out
            have m2 := M2.out
            by_cases hok : EOk ⟨kk, st, mb, fr⟩
            · rw [HEP.out.1 hok] at hCk
              by_cases hbs : BN ≤ S
              · have e5 : decide ((BN : Int) ≤ (S : Int)) = true := decide_eq_true (by omega)
                have e5' : decide (BN ≤ S) = true := decide_eq_true hbs
                by_cases hk : kk = 0
                · subst hk
                  have HN := Lib.hid (HEA.out ⟨hok, fun _ => rfl⟩)
                  clear hok hbs
                  go_wp2_with (go_at_call 78; with_reducible refine (hCk _).mono ?_; rintro e w6 ⟨rfl, hb6⟩; have HBk := Lib.hid (HBj.out.trans (hb6.mono HBj.out.size)); have HXk := Lib.hid (HXj.out.below hb6); have HTk := Lib.hid (HTj.out.below hb6); obtain ⟨_, p0, p1, p2, p3, _⟩ := HPj.out.below hb6; clear hb6 y0 y1 z0 z1; obtain ⟨_, y0, y1, _, _⟩ := HXk.out; obtain ⟨_, z0, z1, _, _⟩ := HTk.out)
                  rw [hw1]
                  clear hw1 m1 m2 e5 e5'
                  go_roundw
                  case rel => exact ⟨i + 1, by omega, by go_num, HN.out, HBk.out, HXk.out, HTk.out⟩
                  case measure => simp [intOf]; omega
                · have d0 : (kk == 0) = false := by rw [beq_eq_false_iff_ne]; exact hk
                  have d1 : (kk != 0) = true := by rw [bne, d0]; rfl
                  have HZ := Lib.hid (HZE.out (HFA.out (fun h => by have := h.2 (HSI.out.2 hbs); rw [d1] at this; exact absurd this (by decide))))
                  clear hok hbs
                  go_wp2_with (go_at_call 78; with_reducible refine (hCk _).mono ?_; rintro e w6 ⟨rfl, hb6⟩; have HBk := Lib.hid (HB5.out.trans (hb6.mono HB5.out.size)); have HXk := Lib.hid (HXj.out.below hb6); have HTk := Lib.hid (HTj.out.below hb6); obtain ⟨_, p0, p1, p2, p3, _⟩ := HPj.out.below hb6; clear hb6 y0 y1 z0 z1; obtain ⟨_, y0, y1, _, _⟩ := HXk.out; obtain ⟨_, z0, z1, _, _⟩ := HTk.out)
                  go_ret
                  exact ⟨by rw [HZ.out]; rfl, HBk.out⟩
              · have e5 : decide ((BN : Int) ≤ (S : Int)) = false := decide_eq_false (by omega)
                have e5' : decide (BN ≤ S) = false := decide_eq_false hbs
                have HN := Lib.hid (HEA.out ⟨hok, fun h => absurd (HSI.out.1 h) hbs⟩)
                clear hok hbs
                go_wp2_with (go_at_call 78; with_reducible refine (hCk _).mono ?_; rintro e w6 ⟨rfl, hb6⟩; have HBk := Lib.hid (HBj.out.trans (hb6.mono HBj.out.size)); have HXk := Lib.hid (HXj.out.below hb6); have HTk := Lib.hid (HTj.out.below hb6); clear hb6 y0 y1 z0 z1; obtain ⟨_, y0, y1, _, _⟩ := HXk.out; obtain ⟨_, z0, z1, _, _⟩ := HTk.out)
                rw [hw1]
                clear hw1 m1 m2 e5 e5'
                go_roundw
                case rel => exact ⟨i + 1, by omega, by go_num, HN.out, HBk.out, HXk.out, HTk.out⟩
                case measure => simp [intOf]; omega
            · rw [HEP.out.2 hok] at hCk
              have HZ := Lib.hid (HZE.out (HFA.out (fun h => hok h.1)))
              clear hok
              go_wp2_with (go_at_call 78; with_reducible refine (hCk _).mono ?_; rintro e w6 ⟨rfl, hb6⟩; have HBk := Lib.hid (HB5.out.trans (hb6.mono HB5.out.size)); clear hb6)
              go_ret
              exact ⟨by rw [HZ.out]; rfl, HBk.out⟩
          · obtain rfl : i = l.length := by omega
            have HNX2 : Hid (tabsB (l.length : Int) (BN : Int) 0 T = tabsB (l.length : Int) (BN : Int) (leastAt T (j + 1)) (T.drop (j + 1))) := Lib.hid (by rw [HTBL.out, HTR.out.2 ⟨HFL.out, HEI.out⟩, Bool.true_and])
            have HBk := Lib.hid (HB4.out.trans (HBi.out.mono HB4.out.size))
            have HKK : Hid (-1 ≤ (k : Int)) := Lib.hid (by omega)
            have hw1 := HW1.out
            go_wp2
            rw [hw1]
            clear hw1
            go_roundw
            case rel => exact ⟨j + 1, (k : Int), by omega, by go_num, rfl, HNX.out, HKK.out, HNX2.out, HBk.out, HXi.out⟩
            case measure => simp [intOf]; omega
    · obtain rfl : j = T.length := by omega
      have HF : Hid (tabsB (E : Int) (BN : Int) 0 T = true) := Lib.hid (by rw [HTB.out, List.drop_of_length_le (Nat.le_refl _)]; rfl)
      go_wp2
      go_ret
      exact ⟨by rw [RES.out, HF.out]; rfl, HB.out⟩
theorem rchtCheck_any (e B : Int) (T : List TB) (tv : Value) (w : World) (hT : TabsS w tv T) :
    Calls Try.prog 58 #[.int .i64 e, .agg #[.int .i64 B, tv]] w fun e' w' => e' = .returned (.int .i64 (chtE e ⟨B, T⟩)) ∧ Below w.heap.size w w' := by
  by_cases h : 1 ≤ e ∧ e ≤ 8192 ∧ mayB B = true
  · obtain ⟨h1, h2, h3⟩ := h
    obtain ⟨b1, b2⟩ := mayB_iff.1 h3
    rw [okB_yes (c := ⟨B, T⟩) h1 h2 h3]
    obtain ⟨E, rfl⟩ : ∃ E : Nat, e = (E : Int) := ⟨e.toNat, by omega⟩
    obtain ⟨BN, rfl⟩ : ∃ BN : Nat, B = (BN : Int) := ⟨B.toNat, by omega⟩
    exact rchtCheck_yes E BN T tv w (by omega) (by omega) (by omega) hT
  · exact rchtCheck_no e B T tv w h
end Go.Proofs.Ythhbaccbhfngbaa
namespace Go.Proofs.Ythhbaccbhfngbaa
open Go.RowKit

def lookM (E : Nat) (T : List TB) (b : Nat) : EN := match T.find? (fun t => decide (t.at' = ((b / E : Nat) : Int))) with
  | some t => t.l.getD (b % E) EN.zero
  | none => EN.zero
theorem find_rise {T : List TB} {a : Int} {i : Nat} (hi : i < T.length) (ha : (T.getD i TB.zero).at' = a) (hR : Rises T) : T.find? (fun t => decide (t.at' = a)) = some (T.getD i TB.zero) := by
  have hg : T.getD i TB.zero = T[i] := by rw [List.getD, List.getElem?_eq_getElem hi]; rfl
  rw [hg]
  refine List.find?_eq_some_iff_getElem.2 ⟨by rw [hg] at ha; simp [ha], i, hi, rfl, fun j hj => ?_⟩
  have := hR j i hj hi
  rw [ha, List.getD, List.getElem?_eq_getElem (by omega)] at this
  have h2 : T[j].at' < a := this
  have : ¬ T[j].at' = a := by omega
  simp [this]
theorem before_at {T : List TB} {a : Int} {i : Nat} (hi : i < T.length) (ha : (T.getD i TB.zero).at' = a) (hR : Rises T) : before T a = i :=
  countP_cut _ TB.zero T i (by omega) (fun k hk => decide_eq_true (by have := hR k i hk hi; omega)) (fun k h1 h2 => decide_eq_false (by
    by_cases e : k = i
    · subst e; omega
    · have := hR i k (by omega) h2; omega))
theorem there_iff {T : List TB} {a : Int} : isThere T a = true ↔ ∃ i, i < T.length ∧ (T.getD i TB.zero).at' = a := by
  unfold isThere
  rw [List.any_eq_true]
  constructor
  · rintro ⟨t, ht, e⟩
    obtain ⟨k, hk, rfl⟩ := List.mem_iff_getElem.1 ht
    exact ⟨k, hk, by rw [List.getD, List.getElem?_eq_getElem hk]; simpa using e⟩
  · rintro ⟨i, hi, e⟩
    exact ⟨T[i], List.getElem_mem _, by rw [List.getD, List.getElem?_eq_getElem hi] at e; simpa using e⟩
theorem getM_look {T : List TB} (hR : Rises T) (E b : Nat) : getM E T b = lookM E T b := by
  unfold getM lookM
  by_cases h : isThere T ((b / E : Nat) : Int) = true
  · obtain ⟨i, hi, ha⟩ := there_iff.1 h
    rw [if_pos h, before_at hi ha hR, find_rise hi ha hR]
  · rw [if_neg h]
    have : T.find? (fun t => decide (t.at' = ((b / E : Nat) : Int))) = none := by
      rw [List.find?_eq_none]
      intro x hx hc
      exact h (List.any_eq_true.2 ⟨x, hx, hc⟩)
    rw [this]
theorem take_snocT {L : List TB} {k : Nat} (hk : k < L.length) : L.take (k + 1) = L.take k ++ [L.getD k TB.zero] := by
  rw [List.take_succ_eq_append_getElem hk, List.getD, List.getElem?_eq_getElem hk]; rfl
theorem look_step {T : List TB} (hR : Rises T) (E b j : Nat) (hj : j < T.length) : lookM E (T.take (j + 1)) b = if (T.getD j TB.zero).at' = ((b / E : Nat) : Int) then (T.getD j TB.zero).l.getD (b % E) EN.zero else lookM E (T.take j) b := by
  unfold lookM
  rw [take_snocT hj, List.find?_append]
  by_cases h : (T.getD j TB.zero).at' = ((b / E : Nat) : Int)
  · rw [if_pos h]
    have h0 : (T.take j).find? (fun t => decide (t.at' = ((b / E : Nat) : Int))) = none := by
      rw [List.find?_eq_none]
      intro x hx hc
      obtain ⟨k, hk, rfl⟩ := List.mem_iff_getElem.1 hx
      rw [List.length_take] at hk
      have := hR k j (by omega) hj
      rw [h, List.getD, List.getElem?_eq_getElem (by omega)] at this
      rw [List.getElem_take] at hc
      have h2 : T[k].at' < ((b / E : Nat) : Int) := this
      simp only [decide_eq_true_eq] at hc
      omega
    rw [h0, Option.none_or, List.find?_cons_of_pos (by simp only [decide_eq_true_eq]; exact h)]
  · rw [if_neg h, List.find?_cons_of_neg (by simp only [decide_eq_true_eq]; exact h), List.find?_nil, Option.or_none]
def flatM (E BN : Nat) (T : List TB) : List EN := (List.range BN).map (lookM E T)
theorem flatM_len (E BN : Nat) (T : List TB) : (flatM E BN T).length = BN := by unfold flatM; simp
theorem flatM_at (E BN : Nat) (T : List TB) {b : Nat} (h : b < BN) : (flatM E BN T).getD b EN.zero = lookM E T b := by
  unfold flatM; rw [List.getD, List.getElem?_map, List.getElem?_range h]; rfl
/-- Under way: the entries of the tables ahead of j, and of table j those ahead of i. -/
def HalfL (E BN : Nat) (T : List TB) (j i : Nat) (L : List EN) : Prop :=
  L.length = BN ∧ ∀ b, b < BN → L.getD b EN.zero = if (T.getD j TB.zero).at' = ((b / E : Nat) : Int) ∧ b % E < i then (T.getD j TB.zero).l.getD (b % E) EN.zero else lookM E (T.take j) b
theorem half_zero {E BN : Nat} {T : List TB} {j : Nat} {L : List EN} (h : L.length = BN ∧ ∀ b, b < BN → L.getD b EN.zero = lookM E (T.take j) b) : HalfL E BN T j 0 L :=
  ⟨h.1, fun b hb => by rw [if_neg (fun k => Nat.not_lt_zero _ k.2)]; exact h.2 b hb⟩
theorem half_end {E BN : Nat} {T : List TB} {j : Nat} {L : List EN} (hR : Rises T) (hj : j < T.length) (hE : 1 ≤ E) (h : HalfL E BN T j E L) : L.length = BN ∧ ∀ b, b < BN → L.getD b EN.zero = lookM E (T.take (j + 1)) b := by
  refine ⟨h.1, fun b hb => ?_⟩
  rw [h.2 b hb, look_step hR E b j hj]
  have := Nat.mod_lt b hE
  by_cases hc : (T.getD j TB.zero).at' = ((b / E : Nat) : Int)
  · rw [if_pos ⟨hc, this⟩, if_pos hc]
  · rw [if_neg (fun k => hc k.1), if_neg hc]
theorem half_skip {E BN : Nat} {T : List TB} {j i k : Nat} {L : List EN} (hk : (T.getD j TB.zero).at' = (k : Int)) (hge : BN ≤ k * E + i) (h : HalfL E BN T j i L) : HalfL E BN T j (i + 1) L := by
  refine ⟨h.1, fun b hb => ?_⟩
  rw [h.2 b hb]
  have hd := Nat.div_add_mod b E
  by_cases hc : (T.getD j TB.zero).at' = ((b / E : Nat) : Int) ∧ b % E < i
  · rw [if_pos hc, if_pos ⟨hc.1, by omega⟩]
  · rw [if_neg hc, if_neg]
    rintro ⟨h1, h2⟩
    have hq : b / E = k := by rw [hk] at h1; omega
    have : b % E = i := by
      by_cases hlt : b % E < i
      · exact absurd ⟨h1, hlt⟩ hc
      · omega
    rw [hq, this, Nat.mul_comm] at hd
    omega
theorem half_put {E BN : Nat} {T : List TB} {j i k : Nat} {L : List EN} (hE : 1 ≤ E) (hi : i < E) (hk : (T.getD j TB.zero).at' = (k : Int)) (hlt : k * E + i < BN) (h : HalfL E BN T j i L) : HalfL E BN T j (i + 1) (L.set (k * E + i) ((T.getD j TB.zero).l.getD i EN.zero)) := by
  refine ⟨by rw [List.length_set]; exact h.1, fun b hb => ?_⟩
  have hd := Nat.div_add_mod b E
  rw [getD_setE _ _ _ _ (by rw [h.1]; exact hlt)]
  by_cases he : b = k * E + i
  · have h1 : b / E = k := by rw [he, Nat.mul_comm, Nat.mul_add_div (by omega), Nat.div_eq_of_lt hi, Nat.add_zero]
    have h2 : b % E = i := by rw [he, Nat.mul_comm, Nat.mul_add_mod, Nat.mod_eq_of_lt hi]
    rw [if_pos he, if_pos ⟨by rw [hk, h1], by omega⟩, h2]
  · rw [if_neg he, h.2 b hb]
    by_cases hc : (T.getD j TB.zero).at' = ((b / E : Nat) : Int) ∧ b % E < i
    · rw [if_pos hc, if_pos ⟨hc.1, by omega⟩]
    · rw [if_neg hc, if_neg]
      rintro ⟨h1, h2⟩
      have hq : b / E = k := by rw [hk] at h1; omega
      have : b % E = i := by
        by_cases hlt : b % E < i
        · exact absurd ⟨h1, hlt⟩ hc
        · omega
      rw [hq, this, Nat.mul_comm] at hd
      omega
theorem flat_of {E BN : Nat} {T : List TB} {L : List EN} (h : L.length = BN ∧ ∀ b, b < BN → L.getD b EN.zero = lookM E (T.take T.length) b) : L = flatM E BN T := by
  refine same_all (by rw [h.1, flatM_len]) (fun i hi => ?_)
  rw [h.1] at hi
  rw [h.2 i hi, flatM_at _ _ _ hi, List.take_of_length_le (Nat.le_refl _)]
end Go.Proofs.Ythhbaccbhfngbaa
