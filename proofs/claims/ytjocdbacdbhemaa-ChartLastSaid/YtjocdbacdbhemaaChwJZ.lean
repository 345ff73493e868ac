/- Charts: ChartLast where there is a map. Charts: ChartLast, as its row asks. -/
import Derived.Test.YtjocdbacdbhemaaChwK
namespace Go.Proofs.Ytjocdbacdbhemaa
open Go.RowKit

theorem TabsF.ap {B : Nat} {w w' : World} {v : Value} {T : List TB} (k : TabsF B w v T) (h : Ap (fun q => q < B) w w') : TabsF B w' v T := fun W' a => k W' (h.trans a)
/-- A new map in the box. -/
theorem KL.store {w W1 W5 : World} {b7 E BN BN' : Nat} {T T' : List TB} {tv td : Value} {L L' : List EN} {g g' cap cap' : Nat} (k : KL w W1 b7 E BN T tv L g cap) (h15 : Ap (fun q => q = g) W1 W5) (hc : B2 W5 b7 (.int .i64 (BN : Int)) tv) (ht : TabsF W1.heap.size W5 td T') (ls : LS E BN' T' L') (row : RowE W5 g' L') (hg : b7 < g') (hcap : L'.length ≤ cap' ∧ cap' ≤ maxLen) (b2 : BN' ≤ 2000) :
    KL w ((W5.setCell ⟨b7, 0, none⟩ (.int .i64 (BN' : Int))).setCell ⟨b7, 1, none⟩ td) b7 E BN' T' td L' g' cap' := by
  have hap : Ap (fun q => q = b7) W5 ((W5.setCell ⟨b7, 0, none⟩ (.int .i64 (BN' : Int))).setCell ⟨b7, 1, none⟩ td) := (ap_put W5 b7 0 _).trans (ap_put _ b7 1 _)
  have h7 := k.c.lt
  have hb := k.hb
  refine ⟨(k.bl.trans (h15.below k.bl.size (fun q e => by omega))).trans (hap.below (Nat.le_trans k.bl.size h15.size) (fun q e => by omega)), ⟨hb.1, hg⟩, hc.set2 _ _, (ht.ap (hap.weak fun q e => by omega)).mono h7, ls, row.ap hap (by omega), hcap, b2⟩
theorem act_new (W : World) (a : A14) (t : TypeId) : ActAt (W.alloc (.cells #[.int .i64 a.kind, .int .i64 a.b, .int .u8 a.e.kind, .int .i64 a.e.st, .int .i64 a.e.mb, .int .i64 a.e.fr, .int .u8 a.w.kind, .int .i64 a.w.st, .int .i64 a.w.mb, .int .i64 a.w.fr] t)) W.heap.size 0 a := by
  refine ⟨?_, ?_, ?_, ?_, ?_, ?_, ?_, ?_, ?_, ?_⟩ <;> simp [go_sem]
set_option maxRecDepth 100000 in
set_option maxHeartbeats 16000000 in
theorem chartLast_main (E BN0 : Nat) (acts : List A14) (va : Value) (w : World) (ha : A14S w va acts) (h1 : 1 ≤ E) (h2 : E ≤ 8192) (hb : BN0 ≤ 2000) (hl : acts.length ≤ 60) :
    Calls Try.prog 7 #[.int .i64 (E : Int), .int .i64 (BN0 : Int), va] w fun e' w' => e' = .returned (.bool true) ∧ Below w.heap.size w w' := by
  have hL := cht14Lives_any
  obtain ⟨A, cap0, rfl, hc1, hc2, hc3⟩ := ha
  have HC3 := Lib.hid hc3
  have HLE := Lib.hid hl
  have HC1 := Lib.hid (And.intro hc1 hc2)
  have d1 : decide ((2000 : Int) < (BN0 : Int)) = false := decide_eq_false (by omega)
  have d1' : decide (2000 < BN0) = false := decide_eq_false (by omega)
  have d2 : decide ((60 : Int) < (acts.length : Int)) = false := decide_eq_false (by omega)
  have d2' : decide (60 < acts.length) = false := decide_eq_false (by omega)
  have hN := chtNew_any (BN0 : Int)
  have hm : mayB (BN0 : Int) = true := mayB_iff.2 ⟨by omega, by omega⟩
  rw [show newC (BN0 : Int) = ⟨(BN0 : Int), []⟩ from if_pos hm, show newE (BN0 : Int) = 0 from if_pos hm] at hN
  dsimp only at hN
  have hC := fun W => chtCheck_any (E : Int) (BN0 : Int) [] (.slice none 0 0) W (TabsS.none W)
  have HLS0 := Lib.hid (LS.new (E := E) (BN := BN0) h1 h2 (by omega))
  rw [show chtE (E : Int) ⟨(BN0 : Int), []⟩ = 0 from if_pos HLS0.out.okB] at hC
  have hmk := makeEnts BN0 (by omega)
  have HE := Lib.hid (And.intro h1 h2)
  have HB := Lib.hid hb
  clear hc1 hc2 hc3 hl hm h1 h2 hb
  go_enter Try.func7, Try.ntmps7
  go_upto_region 8 with (first
    | (go_at_call 22; (with_reducible refine (hL _).mono ?_); rintro e w1 ⟨rfl, hb1⟩; have HB1 := Lib.hid hb1; clear hb1)
    | (go_at_call 33; (with_reducible refine (hN _).mono ?_); rintro e w2 ⟨rfl, _, hb2⟩; have HB2 := Lib.hid ((HB1.out.trans (hb2.mono HB1.out.size)).alloc (Nat.le_trans HB1.out.size hb2.size) (.cells #[.int .i64 (BN0 : Int), .slice none 0 0] 44)); have HX2 := Lib.hid (B2.new w2 (.int .i64 (BN0 : Int)) (.slice none 0 0) 44); have HS2 : Hid (w.heap.size ≤ w2.heap.size) := Lib.hid (Nat.le_trans HB1.out.size hb2.size); clear hb2; (obtain ⟨_, c0, c1, _, _⟩ := HX2.out))
    | (go_at_call 35; (with_reducible refine (hC _).mono ?_); rintro e w3 ⟨rfl, hb3⟩; have HB3 := Lib.hid (HB2.out.trans (hb3.mono HB2.out.size)); have HX3 := Lib.hid (HX2.out.below hb3); clear hb3 c0 c1))
  clear d1 d1' d2 d2'
  generalize w2.heap.size = b7 at HX3 HS2 ⊢
  have HK := Lib.hid (KL.new w w3 E BN0 HB3.out HE.out.1 HE.out.2 HB.out b7 HS2.out HX3.out)
  go_upto_region 9 with fail
  clear hmk
  generalize w3.alloc (.cells (madeCells zeroC (BN0 * 4)) 26) = W0 at HK ⊢
  generalize w3.heap.size = g0 at HK ⊢
  go_wp2
  go_loopw [9, 64] (fun wv ix wr => ∃ (i BN : Nat) (T : List TB) (tv : Value) (L : List EN) (g cap : Nat), i ≤ acts.length ∧ ix = .int .i64 (i : Int) ∧ wv = .slice (some ⟨g, 0, none⟩) L.length cap ∧ KL w wr b7 E BN T tv L g cap) (fun _ ix _ => acts.length - (intOf ix).toNat)
  case atStart => exact ⟨0, BN0, [], _, _, g0, BN0, Nat.zero_le _, rfl, by rw [List.length_replicate], HK.out⟩
  case round =>
    obtain ⟨i, BN, T, tv, L, g, cap, hi, rfl, rfl, hk⟩ := hrel
    have HKi := Lib.hid hk
    clear hk
    by_cases hlt : i < acts.length
    · obtain ⟨ab, aoff, rfl, hab, hact⟩ := HC3.out.resolve_left (by intro e; rw [e] at hlt; simp at hlt)
      obtain ⟨q0, q1, q2, q3, q4, q5, q6, q7, q8, q9⟩ := (hact i hlt).below HKi.out.bl hab
      have HI := Lib.hid hlt
      have HW1 := Lib.hid (wrap_succ hlt HC1.out.1 HC1.out.2)
      clear hact hab
      generalize acts.getD i A14.zero = a at q0 q1 q2 q3 q4 q5 q6 q7 q8 q9
      obtain ⟨ak, aB, ⟨ek, es, em, ef⟩, ⟨wk, ws, wm, wf⟩⟩ := a
      dsimp only at q0 q1 q2 q3 q4 q5 q6 q7 q8 q9
      have HA1 := Lib.hid (act_new wr ⟨ak, aB, ⟨ek, es, em, ef⟩, ⟨wk, ws, wm, wf⟩⟩ 61)
      have HK1 := Lib.hid (HKi.out.below (below1 wr (.cells #[.int .i64 ak, .int .i64 aB, .int .u8 ek, .int .i64 es, .int .i64 em, .int .i64 ef, .int .u8 wk, .int .i64 ws, .int .i64 wm, .int .i64 wf] 61)))
      have HA1lt0 : Hid (wr.heap.size < (wr.alloc (.cells #[.int .i64 ak, .int .i64 aB, .int .u8 ek, .int .i64 es, .int .i64 em, .int .i64 ef, .int .u8 wk, .int .i64 ws, .int .i64 wm, .int .i64 wf] 61)).heap.size) := Lib.hid (by simp)
      have HS1 : Hid (g < wr.heap.size ∧ b7 < wr.heap.size) := Lib.hid ⟨HKi.out.row.1, HKi.out.c.lt⟩
      dsimp only at HA1
      go_upto_region 12 with fail
      clear q0 q1 q2 q3 q4 q5 q6 q7 q8 q9
      generalize wr.alloc (.cells #[.int .i64 ak, .int .i64 aB, .int .u8 ek, .int .i64 es, .int .i64 em, .int .i64 ef, .int .u8 wk, .int .i64 ws, .int .i64 wm, .int .i64 wf] 61) = W1 at HA1 HK1 HA1lt0 ⊢
      generalize wr.heap.size = b11 at HA1 HS1 HA1lt0 ⊢
      have HA1lt : Hid (b11 < W1.heap.size) := Lib.hid HA1lt0.out
      have q0 := HA1.out.c0
      have q1 := HA1.out.c1
      dsimp only at q0 q1
      go_upto_block 2 with fail
      go_cut [9] (fun s9 wx => ∃ (BN' : Nat) (T' : List TB) (tv' : Value) (L' : List EN) (g' cap' : Nat), s9 = .slice (some ⟨g', 0, none⟩) L'.length cap' ∧ KL w wx b7 E BN' T' tv' L' g' cap')
      case first =>
        have HT1 := Lib.hid HK1.out.t.tabs
        obtain ⟨At, ct, rfl⟩ := HT1.out.form
        obtain ⟨_, c0, c1, _, _⟩ := HK1.out.c
        have x0 := HA1.out.c2
        have x1 := HA1.out.c3
        have x2 := HA1.out.c4
        have x3 := HA1.out.c5
        dsimp only at x0 x1 x2 x3
        by_cases k0 : ak = 0
        · subst k0
          by_cases hs : (0 ≤ aB ∧ aB < (BN : Int)) ∧ EOk ⟨ek, es, em, ef⟩
          · obtain ⟨b, rfl⟩ : ∃ b : Nat, aB = (b : Int) := ⟨aB.toNat, by omega⟩
            have hbn : b < BN := by omega
            have hS := chtSet_any (E : Int) (BN : Int) (b : Int) T (.slice At T.length ct) ⟨ek, es, em, ef⟩ W1 HT1.out
            rw [(HK1.out.ls.setY hbn hs.2).1, (HK1.out.ls.setY hbn hs.2).2] at hS
            have HX := Lib.hid hs.2
            have HLB : Hid (b < L.length) := Lib.hid (by rw [HK1.out.ls.len]; exact hbn)
            have HBN := Lib.hid hbn
            unfold EN.v at hS
            dsimp only at hS
            have hb0 : (0 : Int) ≤ (b : Int) := by omega
            have hb1 : (b : Int) < (L.length : Int) := by have := HLB.out; omega
            have hb2 := HLB.out
            clear hs hbn
            go_upto_region 16 with (go_at_call 25; (with_reducible refine hS.mono ?_); rintro e w5 ⟨td, rfl, htd, hb5⟩; obtain ⟨Ad, cd, rfl⟩ := htd.tabs.form; have hb6 := hb5.trans ((below1 w5 (.cells #[.int .i64 (BN : Int), .slice Ad (ofM E (L.set b ⟨ek, es, em, ef⟩)).length cd] 44)).mono hb5.size); have HK5 := Lib.hid (HK1.out.below hb6); have HA5 := Lib.hid (HA1.out.below hb6 HA1lt.out); have HD5 := Lib.hid (B2.new w5 (.int .i64 (BN : Int)) (.slice Ad (ofM E (L.set b ⟨ek, es, em, ef⟩)).length cd) 44); have HT5 := Lib.hid (htd.below (below1 w5 (.cells #[.int .i64 (BN : Int), .slice Ad (ofM E (L.set b ⟨ek, es, em, ef⟩)).length cd] 44))); have HB5 := Lib.hid hb6; have HS5 : Hid (g < w5.heap.size) := Lib.hid (Nat.lt_of_lt_of_le HK1.out.row.1 hb5.size); clear hb5 hb6 htd x0 x1 x2 x3 q0 q1 c0 c1)
            generalize w5.alloc (.cells #[.int .i64 (BN : Int), .slice Ad (ofM E (L.set b ⟨ek, es, em, ef⟩)).length cd] 44) = W5 at HK5 HA5 HD5 HT5 HB5 ⊢
            generalize w5.heap.size = b12 at HD5 HS5 ⊢
            have x0 := HA5.out.c2
            have x1 := HA5.out.c3
            have x2 := HA5.out.c4
            have x3 := HA5.out.c5
            have q1 := HA5.out.c1
            dsimp only at x0 x1 x2 x3 q1
            obtain ⟨r0, r1, r2, r3⟩ := HK5.out.row.2.1 b HLB.out
            have hfz := HK5.out.row.2.2
            have f0 := hfz (b * 4) (by omega); have f1 := hfz (b * 4 + 1) (by omega); have f2 := hfz (b * 4 + 2) (by omega); have f3 := hfz (b * 4 + 3) (by omega)
            have HPUT := Lib.hid (HK5.out.row.put b HLB.out ⟨ek, es, em, ef⟩)
            have HAP := Lib.hid (ap_putN W5 g (b * 4) ⟨ek, es, em, ef⟩)
            have hgw : g < W1.heap.size := HK1.out.row.1
            have HD6 := Lib.hid (HD5.out.ap HAP.out (by have := HS5.out; omega))
            have HT6 := Lib.hid (HT5.out.ap (HAP.out.weak fun q e => by rw [e]; exact hgw))
            have HC6 := Lib.hid (HK5.out.c.ap HAP.out (by have := HK5.out.hb.2; omega))
            have HA6 := Lib.hid ((Ap.of_below (S := fun q => q = g) HB5.out).trans HAP.out)
            unfold putN at HPUT HD6 HT6 HC6 HA6
            dsimp only at HPUT HD6 HT6 HC6 HA6
            clear hfz HAP hgw
            go_upto_region 17 with fail
            clear x0 x1 x2 x3 q1 r0 r1 r2 r3 f0 f1 f2 f3
            generalize (((W5.setCell ⟨g, b * 4, none⟩ (.int .u8 ek)).setCell ⟨g, b * 4 + 1, none⟩ (.int .i64 es)).setCell ⟨g, b * 4 + 2, none⟩ (.int .i64 em)).setCell ⟨g, b * 4 + 3, none⟩ (.int .i64 ef) = W6 at HPUT HD6 HT6 HC6 HA6 ⊢
            obtain ⟨_, z0, z1, _, _⟩ := HD6.out
            obtain ⟨_, c0, c1, f0, f1⟩ := HC6.out
            go_wp2_with fail
            go_meet
            exact ⟨BN, _, _, L.set b ⟨ek, es, em, ef⟩, g, cap, by rw [List.length_set], HK1.out.store HA6.out HC6.out HT6.out (HK1.out.ls.set HBN.out HX.out) HPUT.out HK1.out.hb.2 (by rw [List.length_set]; exact HK1.out.hc) HK1.out.b2⟩
          · have hS := chtSet_any (E : Int) (BN : Int) aB T (.slice At T.length ct) ⟨ek, es, em, ef⟩ W1 HT1.out
            obtain ⟨s1, s2⟩ := HK1.out.ls.setN hs
            rw [s1] at hS
            generalize setRE (E : Int) ⟨(BN : Int), T⟩ aB ⟨ek, es, em, ef⟩ = re at hS s2
            have g0 : (re == 0) = false := by rw [beq_eq_false_iff_ne]; exact s2
            have g1 : (re != 0) = true := by rw [bne, g0]; rfl
            unfold EN.v at hS
            dsimp only at hS
            clear hs s1 s2
            go_upto_region 17 with (go_at_call 25; (with_reducible refine hS.mono ?_); rintro e w5 ⟨td, rfl, htd, hb5⟩; obtain ⟨Ad, cd, rfl⟩ := htd.tabs.form; have hb6 := hb5.trans ((below1 w5 (.cells #[.int .i64 (BN : Int), .slice Ad T.length cd] 44)).mono hb5.size); have HK5 := Lib.hid (HK1.out.below hb6); have HD5 := Lib.hid (B2.new w5 (.int .i64 (BN : Int)) (.slice Ad T.length cd) 44); have HT5 := Lib.hid (htd.below (below1 w5 (.cells #[.int .i64 (BN : Int), .slice Ad T.length cd] 44))); have HB5 := Lib.hid hb6; clear hb5 hb6 htd x0 x1 x2 x3 q0 q1 c0 c1)
            generalize w5.alloc (.cells #[.int .i64 (BN : Int), .slice Ad T.length cd] 44) = W5 at HK5 HD5 HT5 HB5 ⊢
            generalize w5.heap.size = b12 at HD5 ⊢
            obtain ⟨_, z0, z1, _, _⟩ := HD5.out
            obtain ⟨_, c0, c1, f0, f1⟩ := HK5.out.c
            go_wp2_with fail
            go_meet
            exact ⟨BN, T, _, L, g, cap, rfl, HK1.out.store (Ap.of_below HB5.out) HK5.out.c HT5.out HK1.out.ls HK5.out.row HK1.out.hb.2 HK1.out.hc HK1.out.b2⟩
        · by_cases k1 : ak = 1
          · subst k1
            clear k0 x0 x1 x2 x3
            by_cases hbig : 2000 < aB
            · have d1 : decide ((2000 : Int) < aB) = true := decide_eq_true hbig
              have hw1 := HW1.out
              clear hbig
              go_wp2
              rw [hw1]
              clear hw1
              go_roundw
              case rel => exact ⟨i + 1, BN, T, _, L, g, cap, by have := HI.out; omega, by go_num, rfl, HK1.out⟩
              case measure => have := HI.out; simp [intOf]; omega
            · have d1 : decide ((2000 : Int) < aB) = false := decide_eq_false hbig
              have hS := chtResize_any (E : Int) (BN : Int) aB T (.slice At T.length ct) W1 HT1.out
              by_cases hneg : aB < 0
              · rw [(HK1.out.ls.resN hneg).1, (HK1.out.ls.resN hneg).2] at hS
                dsimp only at hS
                clear hbig hneg
                go_upto_region 23 with (go_at_call 27; (with_reducible refine hS.mono ?_); rintro e w5 ⟨td, rfl, htd, hb5⟩; obtain ⟨Ad, cd, rfl⟩ := htd.tabs.form; have hb6 := hb5.trans ((below1 w5 (.cells #[.int .i64 (BN : Int), .slice Ad T.length cd] 44)).mono hb5.size); have HK5 := Lib.hid (HK1.out.below hb6); have HD5 := Lib.hid (B2.new w5 (.int .i64 (BN : Int)) (.slice Ad T.length cd) 44); have HT5 := Lib.hid (htd.below (below1 w5 (.cells #[.int .i64 (BN : Int), .slice Ad T.length cd] 44))); have HB5 := Lib.hid hb6; clear hb5 hb6 htd q0 q1 c0 c1)
                generalize w5.alloc (.cells #[.int .i64 (BN : Int), .slice Ad T.length cd] 44) = W5 at HK5 HD5 HT5 HB5 ⊢
                generalize w5.heap.size = b12 at HD5 ⊢
                obtain ⟨_, z0, z1, _, _⟩ := HD5.out
                obtain ⟨_, c0, c1, f0, f1⟩ := HK5.out.c
                go_wp2_with fail
                go_meet
                exact ⟨BN, T, _, L, g, cap, rfl, HK1.out.store (Ap.of_below HB5.out) HK5.out.c HT5.out HK1.out.ls HK5.out.row HK1.out.hb.2 HK1.out.hc HK1.out.b2⟩
              · obtain ⟨nb, rfl⟩ : ∃ nb : Nat, aB = (nb : Int) := ⟨aB.toNat, by omega⟩
                have HNB : Hid (nb ≤ 2000) := Lib.hid (by omega)
                rw [(HK1.out.ls.resY (nb := nb) (by omega)).1, (HK1.out.ls.resY (nb := nb) (by omega)).2] at hS
                dsimp only at hS
                have HLB : Hid (L.length ≤ 2000) := Lib.hid (by rw [HK1.out.ls.len]; exact HK1.out.b2)
                have d1' : decide (2000 < nb) = false := decide_eq_false (by omega)
                clear hbig hneg
                obtain ⟨M', hM'⟩ : ∃ M', M' = resL nb L := ⟨_, rfl⟩
                rw [← hM'] at hS
                have HM' := Lib.hid hM'
                clear hM'
                go_upto_region 22 with (go_at_call 27; (with_reducible refine hS.mono ?_); rintro e w5 ⟨td, rfl, htd, hb5⟩; obtain ⟨Ad, cd, rfl⟩ := htd.tabs.form; have hb6 := hb5.trans ((below1 w5 (.cells #[.int .i64 (nb : Int), .slice Ad (ofM E M').length cd] 44)).mono hb5.size); have HK5 := Lib.hid (HK1.out.below hb6); have HA5 := Lib.hid (HA1.out.below hb6 HA1lt.out); have HD5 := Lib.hid (B2.new w5 (.int .i64 (nb : Int)) (.slice Ad (ofM E M').length cd) 44); have HT5 := Lib.hid (htd.below (below1 w5 (.cells #[.int .i64 (nb : Int), .slice Ad (ofM E M').length cd] 44))); have HB5 := Lib.hid hb6; clear hb5 hb6 htd q0 q1 c0 c1)
                generalize w5.alloc (.cells #[.int .i64 (nb : Int), .slice Ad (ofM E M').length cd] 44) = W5 at HK5 HA5 HD5 HT5 HB5 ⊢
                generalize w5.heap.size = b12 at HD5 ⊢
                obtain ⟨m, hm⟩ : ∃ m, m = min nb L.length := ⟨_, rfl⟩
                obtain ⟨k, hk⟩ : ∃ k, k = nb - L.length := ⟨_, rfl⟩
                have HML : Hid (m ≤ L.length ∧ m + k = nb) := Lib.hid (by omega)
                have m0 : min (nb : Int) (L.length : Int) = (m : Int) := by omega
                have m1 : max (IntKind.i64.wrap ((nb : Int) - (L.length : Int))) 0 = (k : Int) := by
                  have h1 := HNB.out
                  have h2 := HLB.out
                  rw [IntKind.wrap_i64]
                  omega
                have HCUT : Hid (L.take m ++ List.replicate k EN.zero = M') := Lib.hid (by rw [HM'.out, hm, hk]; exact resL_cut L)
                have HTK : Hid ((L.take m).length = m) := Lib.hid (by have := HML.out.1; rw [List.length_take]; omega)
                clear hm hk
                have hbd : Below W5.heap.size W5 (W5.alloc (.cells #[] 26)).drew := ((Below.refl _ _).alloc (Nat.le_refl _) _).drew
                have HBD := Lib.hid hbd
                have HOE : Hid ((W5.alloc (.cells #[] 26)).drew.ownsRow W5.heap.size 26 4 (.slice (some ⟨W5.heap.size, 0, none⟩) 0 0) 0 []) := Lib.hid (ownE_empty W5).drew
                have HTC := Lib.hid (take_cells (m := m) (HK5.out.row.below hbd) HML.out.1)
                have y1 := HA5.out.c1
                have HLT5 : Hid (b11 < W5.heap.size) := Lib.hid (Nat.lt_of_lt_of_le HA1lt.out HB5.out.size)
                have y2 := (hbd.cell (p := ⟨b11, 0 + 1, none⟩) HLT5.out).trans y1
                have yd : W5.drew.cell? ⟨b11, 0 + 1, none⟩ = some (.int .i64 (nb : Int)) := y1
                dsimp only at y1 y2
                have hm0 : (0 : Int) ≤ (m : Int) := by omega
                have hm1 : (m : Int) ≤ (cap : Int) := by have := HML.out.1; have := HK1.out.hc.1; omega
                have hm2 : m ≤ cap := by omega
                have HW56 : Hid (W5.heap.size ≤ (W5.alloc (.cells #[] 26)).drew.heap.size) := Lib.hid hbd.size
                obtain ⟨iE, hi, hz0, hz1, hz2⟩ := entInfo'
                have HY2 := Lib.hid y2
                clear hbd
                simp only [Nat.zero_add] at y1 y2 yd
                as_aux_lemma =>
                  refine wp_region_any (by kernel_rfl) ?_
                  change wpAny _ _ _ _ _ _ _ W5.drew
                  refine wpAny_take (i := 1) (v := ?_) rfl (by kernel_rfl) (by kernel_rfl) (by kernel_rfl) (fun _ _ _ h => h) (Or.inl ⟨by rfl, ?_⟩) ?_
                  rotate_left
                  · (intro w; go_simp; first | done | with_reducible rfl)
                  simp only [List.getElem_toArray, List.getElem_cons_succ, List.getElem_cons_zero, Act.put, List.setIfInBounds_toArray, List.set_cons_zero, List.set_cons_succ]
                  refine wpAny_take (i := 2) (v := ?_) rfl (by kernel_rfl) (by kernel_rfl) (by kernel_rfl) (fun _ _ _ h => h) (Or.inl ⟨by rfl, ?_⟩) ?_
                  rotate_left
                  · (intro w; go_simp; first | done | with_reducible rfl)
                  simp only [List.getElem_toArray, List.getElem_cons_succ, List.getElem_cons_zero, Act.put, List.setIfInBounds_toArray, List.set_cons_zero, List.set_cons_succ]
                  refine wpAny_take (i := 4) (v := ?_) rfl (by kernel_rfl) (by kernel_rfl) (by kernel_rfl) (fun _ _ _ h => h) (Or.inl ⟨by rfl, ?_⟩) ?_
                  rotate_left
                  · (intro w; go_simp; first | done | with_reducible rfl)
                  simp only [List.getElem_toArray, List.getElem_cons_succ, List.getElem_cons_zero, Act.put, List.setIfInBounds_toArray, List.set_cons_zero, List.set_cons_succ]
                  refine wpAny_take (i := 5) (v := ?_) rfl (by kernel_rfl) (by kernel_rfl) (by kernel_rfl) (fun _ _ _ h => h) (Or.inl ⟨by rfl, ?_⟩) ?_
                  rotate_left
                  · (intro w; go_simp; first | done | with_reducible rfl)
                  simp only [List.getElem_toArray, List.getElem_cons_succ, List.getElem_cons_zero, Act.put, List.setIfInBounds_toArray, List.set_cons_zero, List.set_cons_succ]
                  refine wpAny_take (i := 9) (v := ?_) rfl (by kernel_rfl) (by kernel_rfl) (by kernel_rfl) (fun _ _ _ h => h) (Or.inl ⟨by rfl, ?_⟩) ?_
                  rotate_left
                  · (intro w; go_simp; first | done | with_reducible rfl)
                  simp only [List.getElem_toArray, List.getElem_cons_succ, List.getElem_cons_zero, Act.put, List.setIfInBounds_toArray, List.set_cons_zero, List.set_cons_succ]
                  refine wpAny_take (i := 11) (v := ?_) rfl (by kernel_rfl) (by kernel_rfl) (by kernel_rfl) (fun _ _ _ h => h) (Or.inl ⟨by rfl, ?_⟩) ?_
                  rotate_left
                  · (intro w; go_simp; first | done | with_reducible rfl)
                  simp only [List.getElem_toArray, List.getElem_cons_succ, List.getElem_cons_zero, Act.put, List.setIfInBounds_toArray, List.set_cons_zero, List.set_cons_succ]
                  refine wpAny_take (i := 12) (v := ?_) rfl (by kernel_rfl) (by kernel_rfl) (by kernel_rfl) (fun _ _ _ h => h) (Or.inl ⟨by rfl, ?_⟩) ?_
                  rotate_left
                  · (intro w; go_simp; first | done | with_reducible rfl)
                  simp only [List.getElem_toArray, List.getElem_cons_succ, List.getElem_cons_zero, Act.put, List.setIfInBounds_toArray, List.set_cons_zero, List.set_cons_succ]
                  refine wpAny_ready (rs := [0, 3, 10]) (by kernel_rfl) (by simp) ?_
                  refine (AllReady.cons rfl (fun K hK => ?p1q0) (AllReady.cons rfl (fun K hK => ?p1q3) (AllReady.cons rfl (fun K hK => ?p1q10) AllReady.nil)))
                  case p1q0 =>
                    go_simp
                    refine hK _ _ ?_
                    clear hK K
                    refine wpAny_ready (rs := [3, 10]) (by kernel_rfl) (by simp) ?_
                    refine (AllReady.cons rfl (fun K hK => ?p2q3) (AllReady.cons rfl (fun K hK => ?p2q10) AllReady.nil))
                    case p2q3 =>
                      go_simp
                      refine hK _ _ ?_
                      clear hK K
                      refine wpAny_take (i := 6) (v := ?_) rfl (by kernel_rfl) (by kernel_rfl) (by kernel_rfl) (fun _ _ _ h => h) (Or.inl ⟨by rfl, ?_⟩) ?_
                      rotate_left
                      · (intro w; go_simp; first | done | with_reducible rfl)
                      simp only [List.getElem_toArray, List.getElem_cons_succ, List.getElem_cons_zero, Act.put, List.setIfInBounds_toArray, List.set_cons_zero, List.set_cons_succ]
                      refine wpAny_take (i := 7) (v := ?_) rfl (by kernel_rfl) (by kernel_rfl) (by kernel_rfl) (fun _ _ _ h => h) (Or.inl ⟨by rfl, ?_⟩) ?_
                      rotate_left
                      · (intro w; go_simp; first | done | with_reducible rfl)
                      simp only [List.getElem_toArray, List.getElem_cons_succ, List.getElem_cons_zero, Act.put, List.setIfInBounds_toArray, List.set_cons_zero, List.set_cons_succ]
                      refine wpAny_ready (rs := [8, 10]) (by kernel_rfl) (by simp) ?_
                      refine (AllReady.cons rfl (fun K hK => ?p3q8) (AllReady.cons rfl (fun K hK => ?p3q10) AllReady.nil))
                      case p3q8 =>
                        refine stepE_append_own_at _ (by rfl) (.tmp 106) (.tmp 113) 36 (by rfl) W5.heap.size 26 iE (.agg #[.int .u8 0, .int .i64 0, .int .i64 0, .int .i64 0]) 4 32 Try.underlying36 hi hz0 hz1 hz2 (by rfl) (by decide) (.slice (some ⟨W5.heap.size, 0, none⟩) 0 0) 0 [] (by rfl) HOE.out ⟨g, 0, none⟩ m cap (eCells (L.take m)) (by rfl) (by rw [eCells_len, HTK.out]) HTC.out (eCells_one _) (by have := HML.out.1; have := HLB.out; unfold maxLen; omega) (by have := HML.out.1; have := HLB.out; omega) HW56.out ?_
                        intro v6 w6 hown6 hgrow6 hob6
                        obtain ⟨hb6, v7, w7, hr7, hb7, ho7⟩ := res_join hown6 hgrow6 hob6 HML.out HNB.out HCUT.out
                        have HR7 := Lib.hid hr7
                        have HB7 := Lib.hid hb7
                        have HO7 := Lib.hid ho7
                        have yb : w6.cell? ⟨b11, 1, none⟩ = some (.int .i64 (nb : Int)) := (hb6.cell (p := ⟨b11, 1, none⟩) HLT5.out).trans y1
                        clear hown6 hgrow6 hob6 hr7 hb7 ho7 hb6
                        refine hK _ _ ?_
                        clear hK K
                        refine wpAny_ready (rs := [10]) (by kernel_rfl) (by simp) ?_
                        refine (AllReady.cons rfl (fun K hK => ?p4q10) AllReady.nil)
                        case p4q10 =>
                          go_simp
                          refine hK _ _ ?_
                          clear hK K
                          refine wpAny_take (i := 13) (v := ?_) rfl (by kernel_rfl) (by kernel_rfl) (by kernel_rfl) (fun _ _ _ h => h) (Or.inl ⟨by rfl, ?_⟩) ?_
                          rotate_left
                          · (intro w; go_simp; first | done | with_reducible rfl)
                          simp only [List.getElem_toArray, List.getElem_cons_succ, List.getElem_cons_zero, Act.put, List.setIfInBounds_toArray, List.set_cons_zero, List.set_cons_succ]
                          refine wpAny_take (i := 14) (v := ?_) rfl (by kernel_rfl) (by kernel_rfl) (by kernel_rfl) (fun _ _ _ h => h) (Or.inl ⟨by rfl, ?_⟩) ?_
                          rotate_left
                          · (intro w; go_simp; first | done | with_reducible rfl)
                          simp only [List.getElem_toArray, List.getElem_cons_succ, List.getElem_cons_zero, Act.put, List.setIfInBounds_toArray, List.set_cons_zero, List.set_cons_succ]
                          refine wpAny_ready (rs := [15]) (by kernel_rfl) (by simp) ?_
                          refine (AllReady.cons rfl (fun K hK => ?p5q15) AllReady.nil)
                          case p5q15 =>
                            refine step_append_run _ (by rfl) (.tmp 114) (.tmp 120) 36 3 (by rfl) _ _ (by rfl) (by rfl) _ _ HR7.out ?_
                            refine hK _ _ ?_
                            clear hK K
                            refine wpAny_take (i := 16) (v := ?_) rfl (by kernel_rfl) (by kernel_rfl) (by kernel_rfl) (fun _ _ _ h => h) (Or.inl ⟨by rfl, ?_⟩) ?_
                            rotate_left
                            · (intro w; go_simp; first | done | with_reducible rfl)
                            simp only [List.getElem_toArray, List.getElem_cons_succ, List.getElem_cons_zero, Act.put, List.setIfInBounds_toArray, List.set_cons_zero, List.set_cons_succ]
                            refine wpAny_done (by kernel_rfl) ?_ _
                            obtain ⟨q7, c7, rfl, hc7, hc8, hrow7, hq7, hl7⟩ := HO7.out
                            have HD7 := Lib.hid (HD5.out.below HB7.out)
                            have HC7 := Lib.hid (HK5.out.c.below HB7.out)
                            have HT7 := Lib.hid (HT5.out.below HB7.out)
                            have HF7 := Lib.hid (And.intro hc7 (And.intro hc8 (And.intro hrow7 (And.intro hq7 hl7))))
                            clear hc7 hc8 hrow7 hq7 hl7 y1 y2 yd yb m0 m1 HO7 HR7
                            obtain ⟨_, z0, z1, _, _⟩ := HD7.out
                            obtain ⟨_, c0, c1, f0, f1⟩ := HC7.out
                            go_wp2_with fail
                            go_meet
                            refine ⟨nb, _, _, M', q7, c7, by rw [HF7.out.2.2.2.2], HK1.out.store (Ap.of_below (HB5.out.trans (HB7.out.mono HB5.out.size))) HC7.out HT7.out (by rw [HM'.out]; exact HK1.out.ls.res (by have := HNB.out; omega)) HF7.out.2.2.1 ?_ (by rw [HF7.out.2.2.2.2]; exact ⟨HF7.out.1, HF7.out.2.1⟩) HNB.out⟩
                            have h1 := HF7.out.2.2.2.1
                            have h2 := HK5.out.c.lt
                            omega
                      case p3q10 =>
                        go_simp
                        refine hK _ _ ?_
                        clear hK K
                        refine wpAny_take (i := 13) (v := ?_) rfl (by kernel_rfl) (by kernel_rfl) (by kernel_rfl) (fun _ _ _ h => h) (Or.inl ⟨by rfl, ?_⟩) ?_
                        rotate_left
                        · (intro w; go_simp; first | done | with_reducible rfl)
                        simp only [List.getElem_toArray, List.getElem_cons_succ, List.getElem_cons_zero, Act.put, List.setIfInBounds_toArray, List.set_cons_zero, List.set_cons_succ]
                        refine wpAny_take (i := 14) (v := ?_) rfl (by kernel_rfl) (by kernel_rfl) (by kernel_rfl) (fun _ _ _ h => h) (Or.inl ⟨by rfl, ?_⟩) ?_
                        rotate_left
                        · (intro w; go_simp; first | done | with_reducible rfl)
                        simp only [List.getElem_toArray, List.getElem_cons_succ, List.getElem_cons_zero, Act.put, List.setIfInBounds_toArray, List.set_cons_zero, List.set_cons_succ]
                        refine wpAny_ready (rs := [8]) (by kernel_rfl) (by simp) ?_
                        refine (AllReady.cons rfl (fun K hK => ?p7q8) AllReady.nil)
                        case p7q8 =>
                          refine stepE_append_own_at _ (by rfl) (.tmp 106) (.tmp 113) 36 (by rfl) W5.heap.size 26 iE (.agg #[.int .u8 0, .int .i64 0, .int .i64 0, .int .i64 0]) 4 32 Try.underlying36 hi hz0 hz1 hz2 (by rfl) (by decide) (.slice (some ⟨W5.heap.size, 0, none⟩) 0 0) 0 [] (by rfl) HOE.out ⟨g, 0, none⟩ m cap (eCells (L.take m)) (by rfl) (by rw [eCells_len, HTK.out]) HTC.out (eCells_one _) (by have := HML.out.1; have := HLB.out; unfold maxLen; omega) (by have := HML.out.1; have := HLB.out; omega) HW56.out ?_
                          intro v6 w6 hown6 hgrow6 hob6
                          obtain ⟨hb6, v7, w7, hr7, hb7, ho7⟩ := res_join hown6 hgrow6 hob6 HML.out HNB.out HCUT.out
                          have HR7 := Lib.hid hr7
                          have HB7 := Lib.hid hb7
                          have HO7 := Lib.hid ho7
                          have yb : w6.cell? ⟨b11, 1, none⟩ = some (.int .i64 (nb : Int)) := (hb6.cell (p := ⟨b11, 1, none⟩) HLT5.out).trans y1
                          clear hown6 hgrow6 hob6 hr7 hb7 ho7 hb6
                          refine hK _ _ ?_
                          clear hK K
                          refine wpAny_ready (rs := [15]) (by kernel_rfl) (by simp) ?_
                          refine (AllReady.cons rfl (fun K hK => ?p8q15) AllReady.nil)
                          case p8q15 =>
                            refine step_append_run _ (by rfl) (.tmp 114) (.tmp 120) 36 3 (by rfl) _ _ (by rfl) (by rfl) _ _ HR7.out ?_
                            refine hK _ _ ?_
                            clear hK K
                            refine wpAny_take (i := 16) (v := ?_) rfl (by kernel_rfl) (by kernel_rfl) (by kernel_rfl) (fun _ _ _ h => h) (Or.inl ⟨by rfl, ?_⟩) ?_
                            rotate_left
                            · (intro w; go_simp; first | done | with_reducible rfl)
                            simp only [List.getElem_toArray, List.getElem_cons_succ, List.getElem_cons_zero, Act.put, List.setIfInBounds_toArray, List.set_cons_zero, List.set_cons_succ]
                            refine wpAny_done (by kernel_rfl) ?_ _
                            obtain ⟨q7, c7, rfl, hc7, hc8, hrow7, hq7, hl7⟩ := HO7.out
                            have HD7 := Lib.hid (HD5.out.below HB7.out)
                            have HC7 := Lib.hid (HK5.out.c.below HB7.out)
                            have HT7 := Lib.hid (HT5.out.below HB7.out)
                            have HF7 := Lib.hid (And.intro hc7 (And.intro hc8 (And.intro hrow7 (And.intro hq7 hl7))))
                            clear hc7 hc8 hrow7 hq7 hl7 y1 y2 yd yb m0 m1 HO7 HR7
                            obtain ⟨_, z0, z1, _, _⟩ := HD7.out
                            obtain ⟨_, c0, c1, f0, f1⟩ := HC7.out
                            go_wp2_with fail
                            go_meet
                            refine ⟨nb, _, _, M', q7, c7, by rw [HF7.out.2.2.2.2], HK1.out.store (Ap.of_below (HB5.out.trans (HB7.out.mono HB5.out.size))) HC7.out HT7.out (by rw [HM'.out]; exact HK1.out.ls.res (by have := HNB.out; omega)) HF7.out.2.2.1 ?_ (by rw [HF7.out.2.2.2.2]; exact ⟨HF7.out.1, HF7.out.2.1⟩) HNB.out⟩
                            have h1 := HF7.out.2.2.2.1
                            have h2 := HK5.out.c.lt
                            omega
                    case p2q10 =>
                      go_simp
                      refine hK _ _ ?_
                      clear hK K
                      refine wpAny_take (i := 13) (v := ?_) rfl (by kernel_rfl) (by kernel_rfl) (by kernel_rfl) (fun _ _ _ h => h) (Or.inl ⟨by rfl, ?_⟩) ?_
                      rotate_left
                      · (intro w; go_simp; first | done | with_reducible rfl)
                      simp only [List.getElem_toArray, List.getElem_cons_succ, List.getElem_cons_zero, Act.put, List.setIfInBounds_toArray, List.set_cons_zero, List.set_cons_succ]
                      refine wpAny_take (i := 14) (v := ?_) rfl (by kernel_rfl) (by kernel_rfl) (by kernel_rfl) (fun _ _ _ h => h) (Or.inl ⟨by rfl, ?_⟩) ?_
                      rotate_left
                      · (intro w; go_simp; first | done | with_reducible rfl)
                      simp only [List.getElem_toArray, List.getElem_cons_succ, List.getElem_cons_zero, Act.put, List.setIfInBounds_toArray, List.set_cons_zero, List.set_cons_succ]
                      refine wpAny_ready (rs := [3]) (by kernel_rfl) (by simp) ?_
                      refine (AllReady.cons rfl (fun K hK => ?p10q3) AllReady.nil)
                      case p10q3 =>
                        go_simp
                        refine hK _ _ ?_
                        clear hK K
                        refine wpAny_take (i := 6) (v := ?_) rfl (by kernel_rfl) (by kernel_rfl) (by kernel_rfl) (fun _ _ _ h => h) (Or.inl ⟨by rfl, ?_⟩) ?_
                        rotate_left
                        · (intro w; go_simp; first | done | with_reducible rfl)
                        simp only [List.getElem_toArray, List.getElem_cons_succ, List.getElem_cons_zero, Act.put, List.setIfInBounds_toArray, List.set_cons_zero, List.set_cons_succ]
                        refine wpAny_take (i := 7) (v := ?_) rfl (by kernel_rfl) (by kernel_rfl) (by kernel_rfl) (fun _ _ _ h => h) (Or.inl ⟨by rfl, ?_⟩) ?_
                        rotate_left
                        · (intro w; go_simp; first | done | with_reducible rfl)
                        simp only [List.getElem_toArray, List.getElem_cons_succ, List.getElem_cons_zero, Act.put, List.setIfInBounds_toArray, List.set_cons_zero, List.set_cons_succ]
                        refine wpAny_ready (rs := [8]) (by kernel_rfl) (by simp) ?_
                        refine (AllReady.cons rfl (fun K hK => ?p11q8) AllReady.nil)
                        case p11q8 =>
                          refine stepE_append_own_at _ (by rfl) (.tmp 106) (.tmp 113) 36 (by rfl) W5.heap.size 26 iE (.agg #[.int .u8 0, .int .i64 0, .int .i64 0, .int .i64 0]) 4 32 Try.underlying36 hi hz0 hz1 hz2 (by rfl) (by decide) (.slice (some ⟨W5.heap.size, 0, none⟩) 0 0) 0 [] (by rfl) HOE.out ⟨g, 0, none⟩ m cap (eCells (L.take m)) (by rfl) (by rw [eCells_len, HTK.out]) HTC.out (eCells_one _) (by have := HML.out.1; have := HLB.out; unfold maxLen; omega) (by have := HML.out.1; have := HLB.out; omega) HW56.out ?_
                          intro v6 w6 hown6 hgrow6 hob6
                          obtain ⟨hb6, v7, w7, hr7, hb7, ho7⟩ := res_join hown6 hgrow6 hob6 HML.out HNB.out HCUT.out
                          have HR7 := Lib.hid hr7
                          have HB7 := Lib.hid hb7
                          have HO7 := Lib.hid ho7
                          have yb : w6.cell? ⟨b11, 1, none⟩ = some (.int .i64 (nb : Int)) := (hb6.cell (p := ⟨b11, 1, none⟩) HLT5.out).trans y1
                          clear hown6 hgrow6 hob6 hr7 hb7 ho7 hb6
                          refine hK _ _ ?_
                          clear hK K
                          refine wpAny_ready (rs := [15]) (by kernel_rfl) (by simp) ?_
                          refine (AllReady.cons rfl (fun K hK => ?p12q15) AllReady.nil)
                          case p12q15 =>
                            refine step_append_run _ (by rfl) (.tmp 114) (.tmp 120) 36 3 (by rfl) _ _ (by rfl) (by rfl) _ _ HR7.out ?_
                            refine hK _ _ ?_
                            clear hK K
                            refine wpAny_take (i := 16) (v := ?_) rfl (by kernel_rfl) (by kernel_rfl) (by kernel_rfl) (fun _ _ _ h => h) (Or.inl ⟨by rfl, ?_⟩) ?_
                            rotate_left
                            · (intro w; go_simp; first | done | with_reducible rfl)
                            simp only [List.getElem_toArray, List.getElem_cons_succ, List.getElem_cons_zero, Act.put, List.setIfInBounds_toArray, List.set_cons_zero, List.set_cons_succ]
                            refine wpAny_done (by kernel_rfl) ?_ _
                            obtain ⟨q7, c7, rfl, hc7, hc8, hrow7, hq7, hl7⟩ := HO7.out
                            have HD7 := Lib.hid (HD5.out.below HB7.out)
                            have HC7 := Lib.hid (HK5.out.c.below HB7.out)
                            have HT7 := Lib.hid (HT5.out.below HB7.out)
                            have HF7 := Lib.hid (And.intro hc7 (And.intro hc8 (And.intro hrow7 (And.intro hq7 hl7))))
                            clear hc7 hc8 hrow7 hq7 hl7 y1 y2 yd yb m0 m1 HO7 HR7
                            obtain ⟨_, z0, z1, _, _⟩ := HD7.out
                            obtain ⟨_, c0, c1, f0, f1⟩ := HC7.out
                            go_wp2_with fail
                            go_meet
                            refine ⟨nb, _, _, M', q7, c7, by rw [HF7.out.2.2.2.2], HK1.out.store (Ap.of_below (HB5.out.trans (HB7.out.mono HB5.out.size))) HC7.out HT7.out (by rw [HM'.out]; exact HK1.out.ls.res (by have := HNB.out; omega)) HF7.out.2.2.1 ?_ (by rw [HF7.out.2.2.2.2]; exact ⟨HF7.out.1, HF7.out.2.1⟩) HNB.out⟩
                            have h1 := HF7.out.2.2.2.1
                            have h2 := HK5.out.c.lt
                            omega
                  case p1q3 =>
                    go_simp
                    refine hK _ _ ?_
                    clear hK K
                    refine wpAny_take (i := 6) (v := ?_) rfl (by kernel_rfl) (by kernel_rfl) (by kernel_rfl) (fun _ _ _ h => h) (Or.inl ⟨by rfl, ?_⟩) ?_
                    rotate_left
                    · (intro w; go_simp; first | done | with_reducible rfl)
                    simp only [List.getElem_toArray, List.getElem_cons_succ, List.getElem_cons_zero, Act.put, List.setIfInBounds_toArray, List.set_cons_zero, List.set_cons_succ]
                    refine wpAny_take (i := 7) (v := ?_) rfl (by kernel_rfl) (by kernel_rfl) (by kernel_rfl) (fun _ _ _ h => h) (Or.inl ⟨by rfl, ?_⟩) ?_
                    rotate_left
                    · (intro w; go_simp; first | done | with_reducible rfl)
                    simp only [List.getElem_toArray, List.getElem_cons_succ, List.getElem_cons_zero, Act.put, List.setIfInBounds_toArray, List.set_cons_zero, List.set_cons_succ]
                    refine wpAny_ready (rs := [0, 10]) (by kernel_rfl) (by simp) ?_
                    refine (AllReady.cons rfl (fun K hK => ?p14q0) (AllReady.cons rfl (fun K hK => ?p14q10) AllReady.nil))
                    case p14q0 =>
                      go_simp
                      refine hK _ _ ?_
                      clear hK K
                      refine wpAny_ready (rs := [8, 10]) (by kernel_rfl) (by simp) ?_
                      refine (AllReady.cons rfl (fun K hK => ?p15q8) (AllReady.cons rfl (fun K hK => ?p15q10) AllReady.nil))
                      case p15q8 =>
                        refine stepE_append_own_at _ (by rfl) (.tmp 106) (.tmp 113) 36 (by rfl) W5.heap.size 26 iE (.agg #[.int .u8 0, .int .i64 0, .int .i64 0, .int .i64 0]) 4 32 Try.underlying36 hi hz0 hz1 hz2 (by rfl) (by decide) (.slice (some ⟨W5.heap.size, 0, none⟩) 0 0) 0 [] (by rfl) HOE.out ⟨g, 0, none⟩ m cap (eCells (L.take m)) (by rfl) (by rw [eCells_len, HTK.out]) HTC.out (eCells_one _) (by have := HML.out.1; have := HLB.out; unfold maxLen; omega) (by have := HML.out.1; have := HLB.out; omega) HW56.out ?_
                        intro v6 w6 hown6 hgrow6 hob6
                        obtain ⟨hb6, v7, w7, hr7, hb7, ho7⟩ := res_join hown6 hgrow6 hob6 HML.out HNB.out HCUT.out
                        have HR7 := Lib.hid hr7
                        have HB7 := Lib.hid hb7
                        have HO7 := Lib.hid ho7
                        have yb : w6.cell? ⟨b11, 1, none⟩ = some (.int .i64 (nb : Int)) := (hb6.cell (p := ⟨b11, 1, none⟩) HLT5.out).trans y1
                        clear hown6 hgrow6 hob6 hr7 hb7 ho7 hb6
                        refine hK _ _ ?_
                        clear hK K
                        refine wpAny_ready (rs := [10]) (by kernel_rfl) (by simp) ?_
                        refine (AllReady.cons rfl (fun K hK => ?p16q10) AllReady.nil)
                        case p16q10 =>
                          go_simp
                          refine hK _ _ ?_
                          clear hK K
                          refine wpAny_take (i := 13) (v := ?_) rfl (by kernel_rfl) (by kernel_rfl) (by kernel_rfl) (fun _ _ _ h => h) (Or.inl ⟨by rfl, ?_⟩) ?_
                          rotate_left
                          · (intro w; go_simp; first | done | with_reducible rfl)
                          simp only [List.getElem_toArray, List.getElem_cons_succ, List.getElem_cons_zero, Act.put, List.setIfInBounds_toArray, List.set_cons_zero, List.set_cons_succ]
                          refine wpAny_take (i := 14) (v := ?_) rfl (by kernel_rfl) (by kernel_rfl) (by kernel_rfl) (fun _ _ _ h => h) (Or.inl ⟨by rfl, ?_⟩) ?_
                          rotate_left
                          · (intro w; go_simp; first | done | with_reducible rfl)
                          simp only [List.getElem_toArray, List.getElem_cons_succ, List.getElem_cons_zero, Act.put, List.setIfInBounds_toArray, List.set_cons_zero, List.set_cons_succ]
                          refine wpAny_ready (rs := [15]) (by kernel_rfl) (by simp) ?_
                          refine (AllReady.cons rfl (fun K hK => ?p17q15) AllReady.nil)
                          case p17q15 =>
                            refine step_append_run _ (by rfl) (.tmp 114) (.tmp 120) 36 3 (by rfl) _ _ (by rfl) (by rfl) _ _ HR7.out ?_
                            refine hK _ _ ?_
                            clear hK K
                            refine wpAny_take (i := 16) (v := ?_) rfl (by kernel_rfl) (by kernel_rfl) (by kernel_rfl) (fun _ _ _ h => h) (Or.inl ⟨by rfl, ?_⟩) ?_
                            rotate_left
                            · (intro w; go_simp; first | done | with_reducible rfl)
                            simp only [List.getElem_toArray, List.getElem_cons_succ, List.getElem_cons_zero, Act.put, List.setIfInBounds_toArray, List.set_cons_zero, List.set_cons_succ]
                            refine wpAny_done (by kernel_rfl) ?_ _
                            obtain ⟨q7, c7, rfl, hc7, hc8, hrow7, hq7, hl7⟩ := HO7.out
                            have HD7 := Lib.hid (HD5.out.below HB7.out)
                            have HC7 := Lib.hid (HK5.out.c.below HB7.out)
                            have HT7 := Lib.hid (HT5.out.below HB7.out)
                            have HF7 := Lib.hid (And.intro hc7 (And.intro hc8 (And.intro hrow7 (And.intro hq7 hl7))))
                            clear hc7 hc8 hrow7 hq7 hl7 y1 y2 yd yb m0 m1 HO7 HR7
                            obtain ⟨_, z0, z1, _, _⟩ := HD7.out
                            obtain ⟨_, c0, c1, f0, f1⟩ := HC7.out
                            go_wp2_with fail
                            go_meet
                            refine ⟨nb, _, _, M', q7, c7, by rw [HF7.out.2.2.2.2], HK1.out.store (Ap.of_below (HB5.out.trans (HB7.out.mono HB5.out.size))) HC7.out HT7.out (by rw [HM'.out]; exact HK1.out.ls.res (by have := HNB.out; omega)) HF7.out.2.2.1 ?_ (by rw [HF7.out.2.2.2.2]; exact ⟨HF7.out.1, HF7.out.2.1⟩) HNB.out⟩
                            have h1 := HF7.out.2.2.2.1
                            have h2 := HK5.out.c.lt
                            omega
                      case p15q10 =>
                        go_simp
                        refine hK _ _ ?_
                        clear hK K
                        refine wpAny_take (i := 13) (v := ?_) rfl (by kernel_rfl) (by kernel_rfl) (by kernel_rfl) (fun _ _ _ h => h) (Or.inl ⟨by rfl, ?_⟩) ?_
                        rotate_left
                        · (intro w; go_simp; first | done | with_reducible rfl)
                        simp only [List.getElem_toArray, List.getElem_cons_succ, List.getElem_cons_zero, Act.put, List.setIfInBounds_toArray, List.set_cons_zero, List.set_cons_succ]
                        refine wpAny_take (i := 14) (v := ?_) rfl (by kernel_rfl) (by kernel_rfl) (by kernel_rfl) (fun _ _ _ h => h) (Or.inl ⟨by rfl, ?_⟩) ?_
                        rotate_left
                        · (intro w; go_simp; first | done | with_reducible rfl)
                        simp only [List.getElem_toArray, List.getElem_cons_succ, List.getElem_cons_zero, Act.put, List.setIfInBounds_toArray, List.set_cons_zero, List.set_cons_succ]
                        refine wpAny_ready (rs := [8]) (by kernel_rfl) (by simp) ?_
                        refine (AllReady.cons rfl (fun K hK => ?p19q8) AllReady.nil)
                        case p19q8 =>
                          refine stepE_append_own_at _ (by rfl) (.tmp 106) (.tmp 113) 36 (by rfl) W5.heap.size 26 iE (.agg #[.int .u8 0, .int .i64 0, .int .i64 0, .int .i64 0]) 4 32 Try.underlying36 hi hz0 hz1 hz2 (by rfl) (by decide) (.slice (some ⟨W5.heap.size, 0, none⟩) 0 0) 0 [] (by rfl) HOE.out ⟨g, 0, none⟩ m cap (eCells (L.take m)) (by rfl) (by rw [eCells_len, HTK.out]) HTC.out (eCells_one _) (by have := HML.out.1; have := HLB.out; unfold maxLen; omega) (by have := HML.out.1; have := HLB.out; omega) HW56.out ?_
                          intro v6 w6 hown6 hgrow6 hob6
                          obtain ⟨hb6, v7, w7, hr7, hb7, ho7⟩ := res_join hown6 hgrow6 hob6 HML.out HNB.out HCUT.out
                          have HR7 := Lib.hid hr7
                          have HB7 := Lib.hid hb7
                          have HO7 := Lib.hid ho7
                          have yb : w6.cell? ⟨b11, 1, none⟩ = some (.int .i64 (nb : Int)) := (hb6.cell (p := ⟨b11, 1, none⟩) HLT5.out).trans y1
                          clear hown6 hgrow6 hob6 hr7 hb7 ho7 hb6
                          refine hK _ _ ?_
                          clear hK K
                          refine wpAny_ready (rs := [15]) (by kernel_rfl) (by simp) ?_
                          refine (AllReady.cons rfl (fun K hK => ?p20q15) AllReady.nil)
                          case p20q15 =>
                            refine step_append_run _ (by rfl) (.tmp 114) (.tmp 120) 36 3 (by rfl) _ _ (by rfl) (by rfl) _ _ HR7.out ?_
                            refine hK _ _ ?_
                            clear hK K
                            refine wpAny_take (i := 16) (v := ?_) rfl (by kernel_rfl) (by kernel_rfl) (by kernel_rfl) (fun _ _ _ h => h) (Or.inl ⟨by rfl, ?_⟩) ?_
                            rotate_left
                            · (intro w; go_simp; first | done | with_reducible rfl)
                            simp only [List.getElem_toArray, List.getElem_cons_succ, List.getElem_cons_zero, Act.put, List.setIfInBounds_toArray, List.set_cons_zero, List.set_cons_succ]
                            refine wpAny_done (by kernel_rfl) ?_ _
                            obtain ⟨q7, c7, rfl, hc7, hc8, hrow7, hq7, hl7⟩ := HO7.out
                            have HD7 := Lib.hid (HD5.out.below HB7.out)
                            have HC7 := Lib.hid (HK5.out.c.below HB7.out)
                            have HT7 := Lib.hid (HT5.out.below HB7.out)
                            have HF7 := Lib.hid (And.intro hc7 (And.intro hc8 (And.intro hrow7 (And.intro hq7 hl7))))
                            clear hc7 hc8 hrow7 hq7 hl7 y1 y2 yd yb m0 m1 HO7 HR7
                            obtain ⟨_, z0, z1, _, _⟩ := HD7.out
                            obtain ⟨_, c0, c1, f0, f1⟩ := HC7.out
                            go_wp2_with fail
                            go_meet
                            refine ⟨nb, _, _, M', q7, c7, by rw [HF7.out.2.2.2.2], HK1.out.store (Ap.of_below (HB5.out.trans (HB7.out.mono HB5.out.size))) HC7.out HT7.out (by rw [HM'.out]; exact HK1.out.ls.res (by have := HNB.out; omega)) HF7.out.2.2.1 ?_ (by rw [HF7.out.2.2.2.2]; exact ⟨HF7.out.1, HF7.out.2.1⟩) HNB.out⟩
                            have h1 := HF7.out.2.2.2.1
                            have h2 := HK5.out.c.lt
                            omega
                    case p14q10 =>
                      go_simp
                      refine hK _ _ ?_
                      clear hK K
                      refine wpAny_take (i := 13) (v := ?_) rfl (by kernel_rfl) (by kernel_rfl) (by kernel_rfl) (fun _ _ _ h => h) (Or.inl ⟨by rfl, ?_⟩) ?_
                      rotate_left
                      · (intro w; go_simp; first | done | with_reducible rfl)
                      simp only [List.getElem_toArray, List.getElem_cons_succ, List.getElem_cons_zero, Act.put, List.setIfInBounds_toArray, List.set_cons_zero, List.set_cons_succ]
                      refine wpAny_take (i := 14) (v := ?_) rfl (by kernel_rfl) (by kernel_rfl) (by kernel_rfl) (fun _ _ _ h => h) (Or.inl ⟨by rfl, ?_⟩) ?_
                      rotate_left
                      · (intro w; go_simp; first | done | with_reducible rfl)
                      simp only [List.getElem_toArray, List.getElem_cons_succ, List.getElem_cons_zero, Act.put, List.setIfInBounds_toArray, List.set_cons_zero, List.set_cons_succ]
                      refine wpAny_ready (rs := [0]) (by kernel_rfl) (by simp) ?_
                      refine (AllReady.cons rfl (fun K hK => ?p22q0) AllReady.nil)
                      case p22q0 =>
                        go_simp
                        refine hK _ _ ?_
                        clear hK K
                        refine wpAny_ready (rs := [8]) (by kernel_rfl) (by simp) ?_
                        refine (AllReady.cons rfl (fun K hK => ?p23q8) AllReady.nil)
                        case p23q8 =>
                          refine stepE_append_own_at _ (by rfl) (.tmp 106) (.tmp 113) 36 (by rfl) W5.heap.size 26 iE (.agg #[.int .u8 0, .int .i64 0, .int .i64 0, .int .i64 0]) 4 32 Try.underlying36 hi hz0 hz1 hz2 (by rfl) (by decide) (.slice (some ⟨W5.heap.size, 0, none⟩) 0 0) 0 [] (by rfl) HOE.out ⟨g, 0, none⟩ m cap (eCells (L.take m)) (by rfl) (by rw [eCells_len, HTK.out]) HTC.out (eCells_one _) (by have := HML.out.1; have := HLB.out; unfold maxLen; omega) (by have := HML.out.1; have := HLB.out; omega) HW56.out ?_
                          intro v6 w6 hown6 hgrow6 hob6
                          obtain ⟨hb6, v7, w7, hr7, hb7, ho7⟩ := res_join hown6 hgrow6 hob6 HML.out HNB.out HCUT.out
                          have HR7 := Lib.hid hr7
                          have HB7 := Lib.hid hb7
                          have HO7 := Lib.hid ho7
                          have yb : w6.cell? ⟨b11, 1, none⟩ = some (.int .i64 (nb : Int)) := (hb6.cell (p := ⟨b11, 1, none⟩) HLT5.out).trans y1
                          clear hown6 hgrow6 hob6 hr7 hb7 ho7 hb6
                          refine hK _ _ ?_
                          clear hK K
                          refine wpAny_ready (rs := [15]) (by kernel_rfl) (by simp) ?_
                          refine (AllReady.cons rfl (fun K hK => ?p24q15) AllReady.nil)
                          case p24q15 =>
                            refine step_append_run _ (by rfl) (.tmp 114) (.tmp 120) 36 3 (by rfl) _ _ (by rfl) (by rfl) _ _ HR7.out ?_
                            refine hK _ _ ?_
                            clear hK K
                            refine wpAny_take (i := 16) (v := ?_) rfl (by kernel_rfl) (by kernel_rfl) (by kernel_rfl) (fun _ _ _ h => h) (Or.inl ⟨by rfl, ?_⟩) ?_
                            rotate_left
                            · (intro w; go_simp; first | done | with_reducible rfl)
                            simp only [List.getElem_toArray, List.getElem_cons_succ, List.getElem_cons_zero, Act.put, List.setIfInBounds_toArray, List.set_cons_zero, List.set_cons_succ]
                            refine wpAny_done (by kernel_rfl) ?_ _
                            obtain ⟨q7, c7, rfl, hc7, hc8, hrow7, hq7, hl7⟩ := HO7.out
                            have HD7 := Lib.hid (HD5.out.below HB7.out)
                            have HC7 := Lib.hid (HK5.out.c.below HB7.out)
                            have HT7 := Lib.hid (HT5.out.below HB7.out)
                            have HF7 := Lib.hid (And.intro hc7 (And.intro hc8 (And.intro hrow7 (And.intro hq7 hl7))))
                            clear hc7 hc8 hrow7 hq7 hl7 y1 y2 yd yb m0 m1 HO7 HR7
                            obtain ⟨_, z0, z1, _, _⟩ := HD7.out
                            obtain ⟨_, c0, c1, f0, f1⟩ := HC7.out
                            go_wp2_with fail
                            go_meet
                            refine ⟨nb, _, _, M', q7, c7, by rw [HF7.out.2.2.2.2], HK1.out.store (Ap.of_below (HB5.out.trans (HB7.out.mono HB5.out.size))) HC7.out HT7.out (by rw [HM'.out]; exact HK1.out.ls.res (by have := HNB.out; omega)) HF7.out.2.2.1 ?_ (by rw [HF7.out.2.2.2.2]; exact ⟨HF7.out.1, HF7.out.2.1⟩) HNB.out⟩
                            have h1 := HF7.out.2.2.2.1
                            have h2 := HK5.out.c.lt
                            omega
                  case p1q10 =>
                    go_simp
                    refine hK _ _ ?_
                    clear hK K
                    refine wpAny_take (i := 13) (v := ?_) rfl (by kernel_rfl) (by kernel_rfl) (by kernel_rfl) (fun _ _ _ h => h) (Or.inl ⟨by rfl, ?_⟩) ?_
                    rotate_left
                    · (intro w; go_simp; first | done | with_reducible rfl)
                    simp only [List.getElem_toArray, List.getElem_cons_succ, List.getElem_cons_zero, Act.put, List.setIfInBounds_toArray, List.set_cons_zero, List.set_cons_succ]
                    refine wpAny_take (i := 14) (v := ?_) rfl (by kernel_rfl) (by kernel_rfl) (by kernel_rfl) (fun _ _ _ h => h) (Or.inl ⟨by rfl, ?_⟩) ?_
                    rotate_left
                    · (intro w; go_simp; first | done | with_reducible rfl)
                    simp only [List.getElem_toArray, List.getElem_cons_succ, List.getElem_cons_zero, Act.put, List.setIfInBounds_toArray, List.set_cons_zero, List.set_cons_succ]
                    refine wpAny_ready (rs := [0, 3]) (by kernel_rfl) (by simp) ?_
                    refine (AllReady.cons rfl (fun K hK => ?p26q0) (AllReady.cons rfl (fun K hK => ?p26q3) AllReady.nil))
                    case p26q0 =>
                      go_simp
                      refine hK _ _ ?_
                      clear hK K
                      refine wpAny_ready (rs := [3]) (by kernel_rfl) (by simp) ?_
                      refine (AllReady.cons rfl (fun K hK => ?p27q3) AllReady.nil)
                      case p27q3 =>
                        go_simp
                        refine hK _ _ ?_
                        clear hK K
                        refine wpAny_take (i := 6) (v := ?_) rfl (by kernel_rfl) (by kernel_rfl) (by kernel_rfl) (fun _ _ _ h => h) (Or.inl ⟨by rfl, ?_⟩) ?_
                        rotate_left
                        · (intro w; go_simp; first | done | with_reducible rfl)
                        simp only [List.getElem_toArray, List.getElem_cons_succ, List.getElem_cons_zero, Act.put, List.setIfInBounds_toArray, List.set_cons_zero, List.set_cons_succ]
                        refine wpAny_take (i := 7) (v := ?_) rfl (by kernel_rfl) (by kernel_rfl) (by kernel_rfl) (fun _ _ _ h => h) (Or.inl ⟨by rfl, ?_⟩) ?_
                        rotate_left
                        · (intro w; go_simp; first | done | with_reducible rfl)
                        simp only [List.getElem_toArray, List.getElem_cons_succ, List.getElem_cons_zero, Act.put, List.setIfInBounds_toArray, List.set_cons_zero, List.set_cons_succ]
                        refine wpAny_ready (rs := [8]) (by kernel_rfl) (by simp) ?_
                        refine (AllReady.cons rfl (fun K hK => ?p28q8) AllReady.nil)
                        case p28q8 =>
                          refine stepE_append_own_at _ (by rfl) (.tmp 106) (.tmp 113) 36 (by rfl) W5.heap.size 26 iE (.agg #[.int .u8 0, .int .i64 0, .int .i64 0, .int .i64 0]) 4 32 Try.underlying36 hi hz0 hz1 hz2 (by rfl) (by decide) (.slice (some ⟨W5.heap.size, 0, none⟩) 0 0) 0 [] (by rfl) HOE.out ⟨g, 0, none⟩ m cap (eCells (L.take m)) (by rfl) (by rw [eCells_len, HTK.out]) HTC.out (eCells_one _) (by have := HML.out.1; have := HLB.out; unfold maxLen; omega) (by have := HML.out.1; have := HLB.out; omega) HW56.out ?_
                          intro v6 w6 hown6 hgrow6 hob6
                          obtain ⟨hb6, v7, w7, hr7, hb7, ho7⟩ := res_join hown6 hgrow6 hob6 HML.out HNB.out HCUT.out
                          have HR7 := Lib.hid hr7
                          have HB7 := Lib.hid hb7
                          have HO7 := Lib.hid ho7
                          have yb : w6.cell? ⟨b11, 1, none⟩ = some (.int .i64 (nb : Int)) := (hb6.cell (p := ⟨b11, 1, none⟩) HLT5.out).trans y1
                          clear hown6 hgrow6 hob6 hr7 hb7 ho7 hb6
                          refine hK _ _ ?_
                          clear hK K
                          refine wpAny_ready (rs := [15]) (by kernel_rfl) (by simp) ?_
                          refine (AllReady.cons rfl (fun K hK => ?p29q15) AllReady.nil)
                          case p29q15 =>
                            refine step_append_run _ (by rfl) (.tmp 114) (.tmp 120) 36 3 (by rfl) _ _ (by rfl) (by rfl) _ _ HR7.out ?_
                            refine hK _ _ ?_
                            clear hK K
                            refine wpAny_take (i := 16) (v := ?_) rfl (by kernel_rfl) (by kernel_rfl) (by kernel_rfl) (fun _ _ _ h => h) (Or.inl ⟨by rfl, ?_⟩) ?_
                            rotate_left
                            · (intro w; go_simp; first | done | with_reducible rfl)
                            simp only [List.getElem_toArray, List.getElem_cons_succ, List.getElem_cons_zero, Act.put, List.setIfInBounds_toArray, List.set_cons_zero, List.set_cons_succ]
                            refine wpAny_done (by kernel_rfl) ?_ _
                            obtain ⟨q7, c7, rfl, hc7, hc8, hrow7, hq7, hl7⟩ := HO7.out
                            have HD7 := Lib.hid (HD5.out.below HB7.out)
                            have HC7 := Lib.hid (HK5.out.c.below HB7.out)
                            have HT7 := Lib.hid (HT5.out.below HB7.out)
                            have HF7 := Lib.hid (And.intro hc7 (And.intro hc8 (And.intro hrow7 (And.intro hq7 hl7))))
                            clear hc7 hc8 hrow7 hq7 hl7 y1 y2 yd yb m0 m1 HO7 HR7
                            obtain ⟨_, z0, z1, _, _⟩ := HD7.out
                            obtain ⟨_, c0, c1, f0, f1⟩ := HC7.out
                            go_wp2_with fail
                            go_meet
                            refine ⟨nb, _, _, M', q7, c7, by rw [HF7.out.2.2.2.2], HK1.out.store (Ap.of_below (HB5.out.trans (HB7.out.mono HB5.out.size))) HC7.out HT7.out (by rw [HM'.out]; exact HK1.out.ls.res (by have := HNB.out; omega)) HF7.out.2.2.1 ?_ (by rw [HF7.out.2.2.2.2]; exact ⟨HF7.out.1, HF7.out.2.1⟩) HNB.out⟩
                            have h1 := HF7.out.2.2.2.1
                            have h2 := HK5.out.c.lt
                            omega
                    case p26q3 =>
                      go_simp
                      refine hK _ _ ?_
                      clear hK K
                      refine wpAny_take (i := 6) (v := ?_) rfl (by kernel_rfl) (by kernel_rfl) (by kernel_rfl) (fun _ _ _ h => h) (Or.inl ⟨by rfl, ?_⟩) ?_
                      rotate_left
                      · (intro w; go_simp; first | done | with_reducible rfl)
                      simp only [List.getElem_toArray, List.getElem_cons_succ, List.getElem_cons_zero, Act.put, List.setIfInBounds_toArray, List.set_cons_zero, List.set_cons_succ]
                      refine wpAny_take (i := 7) (v := ?_) rfl (by kernel_rfl) (by kernel_rfl) (by kernel_rfl) (fun _ _ _ h => h) (Or.inl ⟨by rfl, ?_⟩) ?_
                      rotate_left
                      · (intro w; go_simp; first | done | with_reducible rfl)
                      simp only [List.getElem_toArray, List.getElem_cons_succ, List.getElem_cons_zero, Act.put, List.setIfInBounds_toArray, List.set_cons_zero, List.set_cons_succ]
                      refine wpAny_ready (rs := [0]) (by kernel_rfl) (by simp) ?_
                      refine (AllReady.cons rfl (fun K hK => ?p31q0) AllReady.nil)
                      case p31q0 =>
                        go_simp
                        refine hK _ _ ?_
                        clear hK K
                        refine wpAny_ready (rs := [8]) (by kernel_rfl) (by simp) ?_
                        refine (AllReady.cons rfl (fun K hK => ?p32q8) AllReady.nil)
                        case p32q8 =>
                          refine stepE_append_own_at _ (by rfl) (.tmp 106) (.tmp 113) 36 (by rfl) W5.heap.size 26 iE (.agg #[.int .u8 0, .int .i64 0, .int .i64 0, .int .i64 0]) 4 32 Try.underlying36 hi hz0 hz1 hz2 (by rfl) (by decide) (.slice (some ⟨W5.heap.size, 0, none⟩) 0 0) 0 [] (by rfl) HOE.out ⟨g, 0, none⟩ m cap (eCells (L.take m)) (by rfl) (by rw [eCells_len, HTK.out]) HTC.out (eCells_one _) (by have := HML.out.1; have := HLB.out; unfold maxLen; omega) (by have := HML.out.1; have := HLB.out; omega) HW56.out ?_
                          intro v6 w6 hown6 hgrow6 hob6
                          obtain ⟨hb6, v7, w7, hr7, hb7, ho7⟩ := res_join hown6 hgrow6 hob6 HML.out HNB.out HCUT.out
                          have HR7 := Lib.hid hr7
                          have HB7 := Lib.hid hb7
                          have HO7 := Lib.hid ho7
                          have yb : w6.cell? ⟨b11, 1, none⟩ = some (.int .i64 (nb : Int)) := (hb6.cell (p := ⟨b11, 1, none⟩) HLT5.out).trans y1
                          clear hown6 hgrow6 hob6 hr7 hb7 ho7 hb6
                          refine hK _ _ ?_
                          clear hK K
                          refine wpAny_ready (rs := [15]) (by kernel_rfl) (by simp) ?_
                          refine (AllReady.cons rfl (fun K hK => ?p33q15) AllReady.nil)
                          case p33q15 =>
                            refine step_append_run _ (by rfl) (.tmp 114) (.tmp 120) 36 3 (by rfl) _ _ (by rfl) (by rfl) _ _ HR7.out ?_
                            refine hK _ _ ?_
                            clear hK K
                            refine wpAny_take (i := 16) (v := ?_) rfl (by kernel_rfl) (by kernel_rfl) (by kernel_rfl) (fun _ _ _ h => h) (Or.inl ⟨by rfl, ?_⟩) ?_
                            rotate_left
                            · (intro w; go_simp; first | done | with_reducible rfl)
                            simp only [List.getElem_toArray, List.getElem_cons_succ, List.getElem_cons_zero, Act.put, List.setIfInBounds_toArray, List.set_cons_zero, List.set_cons_succ]
                            refine wpAny_done (by kernel_rfl) ?_ _
                            obtain ⟨q7, c7, rfl, hc7, hc8, hrow7, hq7, hl7⟩ := HO7.out
                            have HD7 := Lib.hid (HD5.out.below HB7.out)
                            have HC7 := Lib.hid (HK5.out.c.below HB7.out)
                            have HT7 := Lib.hid (HT5.out.below HB7.out)
                            have HF7 := Lib.hid (And.intro hc7 (And.intro hc8 (And.intro hrow7 (And.intro hq7 hl7))))
                            clear hc7 hc8 hrow7 hq7 hl7 y1 y2 yd yb m0 m1 HO7 HR7
                            obtain ⟨_, z0, z1, _, _⟩ := HD7.out
                            obtain ⟨_, c0, c1, f0, f1⟩ := HC7.out
                            go_wp2_with fail
                            go_meet
                            refine ⟨nb, _, _, M', q7, c7, by rw [HF7.out.2.2.2.2], HK1.out.store (Ap.of_below (HB5.out.trans (HB7.out.mono HB5.out.size))) HC7.out HT7.out (by rw [HM'.out]; exact HK1.out.ls.res (by have := HNB.out; omega)) HF7.out.2.2.1 ?_ (by rw [HF7.out.2.2.2.2]; exact ⟨HF7.out.1, HF7.out.2.1⟩) HNB.out⟩
                            have h1 := HF7.out.2.2.2.1
                            have h2 := HK5.out.c.lt
                            omega

          · by_cases k2 : ak = 2
            · subst k2
              clear k0 k1 x0 x1 x2 x3
              have x2 := HA1.out.c2
              have x3 := HA1.out.c3
              have x4 := HA1.out.c4
              have x5 := HA1.out.c5
              have x6 := HA1.out.c6
              have x7 := HA1.out.c7
              have x8 := HA1.out.c8
              have x9 := HA1.out.c9
              dsimp only at x2 x3 x4 x5 x6 x7 x8 x9
              have hS := chtSwap_any (E : Int) (BN : Int) T (.slice At T.length ct) ⟨wk, ws, wm, wf⟩ ⟨ek, es, em, ef⟩ W1 HT1.out
              have HLB : Hid (L.length ≤ 2000) := Lib.hid (by rw [HK1.out.ls.len]; exact HK1.out.b2)
              by_cases hs : EOk ⟨ek, es, em, ef⟩
              · obtain ⟨s1, s2, s3⟩ := HK1.out.ls.swapY ⟨wk, ws, wm, wf⟩ hs
                rw [s1, s2, s3] at hS
                have HX := Lib.hid hs
                unfold EN.v at hS
                dsimp only at hS
                clear hs s1 s2 s3
                obtain ⟨M', hM'⟩ : ∃ M', M' = swapL ⟨wk, ws, wm, wf⟩ ⟨ek, es, em, ef⟩ L := ⟨_, rfl⟩
                rw [← hM'] at hS
                have HM' := Lib.hid hM'
                obtain ⟨cn, hcn⟩ : ∃ cn, cn = L.countP (swapQ ⟨wk, ws, wm, wf⟩) := ⟨_, rfl⟩
                rw [← hcn] at hS
                have HCN := Lib.hid hcn
                clear hM' hcn
                go_upto_region 26 with (go_at_call 31; (with_reducible refine hS.mono ?_); rintro e w5 ⟨td, rfl, htd, hb5⟩; obtain ⟨Ad, cd, rfl⟩ := htd.tabs.form; have hb6 := hb5.trans ((below1 w5 (.cells #[.int .i64 (BN : Int), .slice Ad (ofM E M').length cd] 44)).mono hb5.size); have HK5 := Lib.hid (HK1.out.below hb6); have HA5 := Lib.hid (HA1.out.below hb6 HA1lt.out); have HD5 := Lib.hid (B2.new w5 (.int .i64 (BN : Int)) (.slice Ad (ofM E M').length cd) 44); have HT5 := Lib.hid (htd.below (below1 w5 (.cells #[.int .i64 (BN : Int), .slice Ad (ofM E M').length cd] 44))); have HB5 := Lib.hid hb6; have HS5 : Hid (g < w5.heap.size ∧ b11 < w5.heap.size) := Lib.hid ⟨Nat.lt_of_lt_of_le HK1.out.row.1 hb5.size, Nat.lt_of_lt_of_le HA1lt.out hb5.size⟩; clear hb5 hb6 htd x2 x3 x4 x5 x6 x7 x8 x9 q0 q1 c0 c1)
                generalize w5.alloc (.cells #[.int .i64 (BN : Int), .slice Ad (ofM E M').length cd] 44) = W5 at HK5 HA5 HD5 HT5 HB5 ⊢
                have HAL : Hid (b11 < W5.heap.size) := Lib.hid (Nat.lt_of_lt_of_le HA1lt.out HB5.out.size)
                generalize w5.heap.size = b12 at HD5 HS5 ⊢
                have HZERO : Hid (halfW ⟨wk, ws, wm, wf⟩ ⟨ek, es, em, ef⟩ L 0 = L) := Lib.hid (by unfold halfW swapL; simp)
                have HFULL : Hid (halfW ⟨wk, ws, wm, wf⟩ ⟨ek, es, em, ef⟩ L L.length = M') := Lib.hid (by rw [HM'.out]; unfold halfW; simp)
                have hwl := HLB.out
                go_wp2
                go_loopw [19, 138] (fun mx ix wj => ∃ (j : Nat), j ≤ L.length ∧ ix = .int .i64 (j : Int) ∧ mx = .int .i64 ((L.take j).countP (swapQ ⟨wk, ws, wm, wf⟩) : Int) ∧ Ap (fun q => q = g) W5 wj ∧ RowE wj g (halfW ⟨wk, ws, wm, wf⟩ ⟨ek, es, em, ef⟩ L j)) (fun _ ix _ => L.length - (intOf ix).toNat)
                case atStart => exact ⟨0, Nat.zero_le _, rfl, rfl, Ap.refl _, by rw [HZERO.out]; exact HK5.out.row⟩
                case round =>
                  obtain ⟨j, hj, rfl, rfl, hap, hrw⟩ := hrel
                  have HAPJ := Lib.hid hap
                  have HRW := Lib.hid hrw
                  clear hap hrw
                  by_cases hjl : j < L.length
                  · have HJL := Lib.hid hjl
                    have hlen := halfW_len ⟨wk, ws, wm, wf⟩ ⟨ek, es, em, ef⟩ L (Nat.le_of_lt hjl)
                    have hat := HRW.out.2.1 j (by rw [hlen]; exact hjl)
                    rw [halfW_at _ _ _ hjl] at hat
                    obtain ⟨r0, r1, r2, r3⟩ := hat
                    have HNX := Lib.hid (halfW_next ⟨wk, ws, wm, wf⟩ ⟨ek, es, em, ef⟩ L hjl)
                    have HSY := Lib.hid (fun h => halfW_stay ⟨wk, ws, wm, wf⟩ ⟨ek, es, em, ef⟩ L hjl h)
                    have HCT := Lib.hid (cnt_next ⟨wk, ws, wm, wf⟩ L hjl)
                    have HLEN := Lib.hid hlen
                    have HFZ := Lib.hid HRW.out.2.2
                    obtain ⟨cq, hcq⟩ : ∃ cq : Nat, cq = (L.take j).countP (swapQ ⟨wk, ws, wm, wf⟩) := ⟨_, rfl⟩
                    have HCL : Hid (cq ≤ 2000) := Lib.hid (by rw [hcq]; exact Nat.le_trans List.countP_le_length (by rw [List.length_take]; have := HLB.out; omega))
                    rw [← hcq] at HCT ⊢
                    have HCQ := Lib.hid hcq
                    clear hcq hlen
                    generalize L.getD j EN.zero = y at r0 r1 r2 r3 HNX HSY HCT
                    obtain ⟨pk, ps, pm, pf⟩ := y
                    dsimp only at r0 r1 r2 r3
                    have hi0 : (0 : Int) ≤ (j : Int) := by omega
                    have hi1 : (j : Int) < (L.length : Int) := by omega
                    have HWC : Hid (wrap64 ((cq : Int) + 1) = (cq : Int) + 1) := Lib.hid (by have := HCL.out; unfold wrap64; omega)
                    have hag : ¬ b11 = g := by have := HS1.out.1; omega
                    have v6 := (HAPJ.out.cell HAL.out hag _).trans HA5.out.c6
                    have v7 := (HAPJ.out.cell HAL.out hag _).trans HA5.out.c7
                    have v8 := (HAPJ.out.cell HAL.out hag _).trans HA5.out.c8
                    have v9 := (HAPJ.out.cell HAL.out hag _).trans HA5.out.c9
                    dsimp only at v6 v7 v8 v9
                    go_upto_region 30 with fail
                    have z0 : ∀ p : Wk (fun W2 => W2 = wr.drew), p.W.cell? ⟨g, j * 4, none⟩ = some (.int .u8 pk) := fun p => by rw [p.h]; exact r0
                    have z1 : ∀ p : Wk (fun W2 => W2 = wr.drew), p.W.cell? ⟨g, j * 4 + 1, none⟩ = some (.int .i64 ps) := fun p => by rw [p.h]; exact r1
                    have z2 : ∀ p : Wk (fun W2 => W2 = wr.drew), p.W.cell? ⟨g, j * 4 + 2, none⟩ = some (.int .i64 pm) := fun p => by rw [p.h]; exact r2
                    have z3 : ∀ p : Wk (fun W2 => W2 = wr.drew), p.W.cell? ⟨g, j * 4 + 3, none⟩ = some (.int .i64 pf) := fun p => by rw [p.h]; exact r3
                    have w6 : ∀ p : Wk (fun W2 => W2 = wr.drew), p.W.cell? ⟨b11, 0 + 6, none⟩ = some (.int .u8 wk) := fun p => by rw [p.h]; exact v6
                    have w7 : ∀ p : Wk (fun W2 => W2 = wr.drew), p.W.cell? ⟨b11, 0 + 7, none⟩ = some (.int .i64 ws) := fun p => by rw [p.h]; exact v7
                    have w8 : ∀ p : Wk (fun W2 => W2 = wr.drew), p.W.cell? ⟨b11, 0 + 8, none⟩ = some (.int .i64 wm) := fun p => by rw [p.h]; exact v8
                    have w9 : ∀ p : Wk (fun W2 => W2 = wr.drew), p.W.cell? ⟨b11, 0 + 9, none⟩ = some (.int .i64 wf) := fun p => by rw [p.h]; exact v9
                    clear v6 v7 v8 v9 r0 r1 r2 r3
                    simp only [Nat.zero_add] at w6 w7 w8 w9
                    have HAPD := Lib.hid HAPJ.out.drew
                    have HRWD : Hid (RowE wr.drew g (halfW ⟨wk, ws, wm, wf⟩ ⟨ek, es, em, ef⟩ L j)) := Lib.hid (HRW.out.below (Below.refl _ _).drew)
                    rcases en_cases pk ps pm pf wk ws wm wf with he | ⟨hne, hcs⟩
                    · injection he with p0 p1 p2 p3
                      subst p0 p1 p2 p3
                      by_cases hz : pk = 0
                      · have b4 : (pk == 0) = true := by rw [beq_iff_eq]; exact hz
                        have b5 : (pk != 0) = false := by rw [bne, b4]; rfl
                        have HS := Lib.hid (HSY.out (by unfold swap1; rw [if_neg (fun e => by have := e.2; unfold fullB at this; rw [b5] at this; cases this)]))
                        have HC : Hid ((L.take (j + 1)).countP (swapQ ⟨pk, ps, pm, pf⟩) = cq) := Lib.hid (by rw [HCT.out, if_neg (by unfold swapQ; intro e; have := (of_decide_eq_true e).2; unfold fullB at this; rw [b5] at this; cases this)]; rfl)
                        clear hz
                        refine wp_region_wk (fun W2 => W2 = wr.drew) (by kernel_rfl) (by kernel_rfl) rfl ?_
                        have ne : Nonempty (Wk (fun W2 => W2 = wr.drew)) := ⟨⟨_, rfl⟩⟩
                        iterate 19 (first | go_big_quiet_skip | (go_big_quiet_want; go_big_quiet_op; go_big_quiet_on))
                        refine wpQuiet_nil ?_
                        intro p
                        rw [p.h]
                        clear z0 z1 z2 z3 w6 w7 w8 w9 ne p
                        clear b4 b5
                        go_wp2
                        go_roundw
                        case rel => exact ⟨j + 1, by have := HJL.out; omega, by go_num, by rw [HC.out], HAPD.out, by rw [← HS.out]; exact HRWD.out⟩
                        case measure => have := HJL.out; simp [intOf]; omega
                      · have b4 : (pk == 0) = false := by rw [beq_eq_false_iff_ne]; exact hz
                        have b5 : (pk != 0) = true := by rw [bne, b4]; rfl
                        have hfull : fullB ⟨pk, ps, pm, pf⟩ = true := b5
                        have HC : Hid ((L.take (j + 1)).countP (swapQ ⟨pk, ps, pm, pf⟩) = cq + 1) := Lib.hid (by rw [HCT.out, if_pos (by unfold swapQ; exact decide_eq_true ⟨rfl, hfull⟩)])
                        have HN : Hid ((halfW ⟨pk, ps, pm, pf⟩ ⟨ek, es, em, ef⟩ L j).set j ⟨ek, es, em, ef⟩ = halfW ⟨pk, ps, pm, pf⟩ ⟨ek, es, em, ef⟩ L (j + 1)) := Lib.hid (by rw [← HNX.out]; unfold swap1; rw [if_pos ⟨rfl, hfull⟩])
                        clear hz hfull
                        refine wp_region_wk (fun W2 => W2 = wr.drew) (by kernel_rfl) (by kernel_rfl) rfl ?_
                        have ne : Nonempty (Wk (fun W2 => W2 = wr.drew)) := ⟨⟨_, rfl⟩⟩
                        iterate 19 (first | go_big_quiet_skip | (go_big_quiet_want; go_big_quiet_op; go_big_quiet_on))
                        refine wpQuiet_nil ?_
                        intro p
                        rw [p.h]
                        clear z0 z1 z2 z3 w6 w7 w8 w9 ne p
                        clear b4 b5
                        have y2 := (HAPD.out.cell HAL.out hag _).trans HA5.out.c2
                        have y3 := (HAPD.out.cell HAL.out hag _).trans HA5.out.c3
                        have y4 := (HAPD.out.cell HAL.out hag _).trans HA5.out.c4
                        have y5 := (HAPD.out.cell HAL.out hag _).trans HA5.out.c5
                        dsimp only at y2 y3 y4 y5
                        obtain ⟨r0, r1, r2, r3⟩ := HRWD.out.2.1 j (by rw [HLEN.out]; exact HJL.out)
                        have hfz := HRWD.out.2.2
                        rw [HLEN.out] at hfz
                        have f0 := hfz (j * 4) (by omega); have f1 := hfz (j * 4 + 1) (by omega); have f2 := hfz (j * 4 + 2) (by omega); have f3 := hfz (j * 4 + 3) (by omega)
                        have HPUT := Lib.hid (HRWD.out.put j (by rw [HLEN.out]; exact HJL.out) ⟨ek, es, em, ef⟩)
                        have HAP2 := Lib.hid (HAPD.out.trans (ap_putN wr.drew g (j * 4) ⟨ek, es, em, ef⟩))
                        rw [HN.out] at HPUT
                        unfold putN at HPUT HAP2
                        dsimp only at HPUT HAP2
                        clear hfz
                        generalize wr.drew = Wd at HPUT HAP2 y2 y3 y4 y5 r0 r1 r2 r3 f0 f1 f2 f3 ⊢
                        have hwc := HWC.out
                        go_wp2
                        rw [hwc]
                        clear hwc y2 y3 y4 y5 r0 r1 r2 r3 f0 f1 f2 f3
                        go_roundw
                        case rel => exact ⟨j + 1, by have := HJL.out; omega, by go_num, by rw [HC.out, Int.natCast_add]; rfl, HAP2.out, HPUT.out⟩
                        case measure => have := HJL.out; simp [intOf]; omega
                    · have HS := Lib.hid (HSY.out (by unfold swap1; rw [if_neg (fun e => hne e.1)]))
                      have HC : Hid ((L.take (j + 1)).countP (swapQ ⟨wk, ws, wm, wf⟩) = cq) := Lib.hid (by rw [HCT.out, if_neg (by unfold swapQ; intro e; exact hne (of_decide_eq_true e).1)]; rfl)
                      clear hne
                      rcases hcs with b0 | ⟨b0, b1⟩ | ⟨b0, b1, b2⟩ | ⟨b0, b1, b2, b3⟩
                      all_goals
                        refine wp_region_wk (fun W2 => W2 = wr.drew) (by kernel_rfl) (by kernel_rfl) rfl ?_
                        have ne : Nonempty (Wk (fun W2 => W2 = wr.drew)) := ⟨⟨_, rfl⟩⟩
                        iterate 19 (first | go_big_quiet_skip | (go_big_quiet_want; go_big_quiet_op; go_big_quiet_on))
                        refine wpQuiet_nil ?_
                        intro p
                        rw [p.h]
                        clear z0 z1 z2 z3 w6 w7 w8 w9 ne p
                        go_wp2
                        go_roundw
                        case rel => exact ⟨j + 1, by have := HJL.out; omega, by go_num, by rw [HC.out], HAPD.out, by rw [← HS.out]; exact HRWD.out⟩
                        case measure => have := HJL.out; simp [intOf]; omega
                  · obtain rfl : j = L.length := by omega
                    have hcnt : (L.take L.length).countP (swapQ ⟨wk, ws, wm, wf⟩) = cn := by rw [List.take_length, HCN.out]
                    rw [hcnt]
                    have HRW2 : Hid (RowE wr g M') := Lib.hid (by rw [← HFULL.out]; exact HRW.out)
                    have HD6 := Lib.hid (HD5.out.ap HAPJ.out (by have := HS5.out.1; omega))
                    have HC6 := Lib.hid (HK5.out.c.ap HAPJ.out (by have := HK5.out.hb.2; omega))
                    have HT6 := Lib.hid (HT5.out.ap (HAPJ.out.weak fun q e => by rw [e]; exact HK1.out.row.1))
                    have HA6 := Lib.hid ((Ap.of_below (S := fun q => q = g) HB5.out).trans HAPJ.out)
                    have HLM : Hid (M'.length = L.length) := Lib.hid (by rw [HM'.out]; unfold swapL; rw [List.length_map])
                    obtain ⟨_, d0, d1, _, _⟩ := HD6.out
                    obtain ⟨_, c0, c1, f0, f1⟩ := HC6.out
                    clear hcnt
                    go_wp2_with fail
                    go_meet
                    exact ⟨BN, _, _, M', g, cap, by rw [HLM.out], HK1.out.store HA6.out HC6.out HT6.out (by rw [HM'.out]; exact HK1.out.ls.swap _ HX.out) HRW2.out HK1.out.hb.2 (by rw [HLM.out]; exact HK1.out.hc) HK1.out.b2⟩
              · obtain ⟨s1, s2, s3⟩ := HK1.out.ls.swapNo ⟨wk, ws, wm, wf⟩ hs
                rw [s1, s2, s3, show ((0 : Nat) : Int) = 0 from rfl] at hS
                unfold EN.v at hS
                dsimp only at hS
                clear hs s1 s2 s3
                go_upto_region 26 with (go_at_call 31; (with_reducible refine hS.mono ?_); rintro e w5 ⟨td, rfl, htd, hb5⟩; obtain ⟨Ad, cd, rfl⟩ := htd.tabs.form; have hb6 := hb5.trans ((below1 w5 (.cells #[.int .i64 (BN : Int), .slice Ad T.length cd] 44)).mono hb5.size); have HK5 := Lib.hid (HK1.out.below hb6); have HD5 := Lib.hid (B2.new w5 (.int .i64 (BN : Int)) (.slice Ad T.length cd) 44); have HT5 := Lib.hid (htd.below (below1 w5 (.cells #[.int .i64 (BN : Int), .slice Ad T.length cd] 44))); have HB5 := Lib.hid hb6; clear hb5 hb6 htd x2 x3 x4 x5 x6 x7 x8 x9 q0 q1 c0 c1)
                generalize w5.alloc (.cells #[.int .i64 (BN : Int), .slice Ad T.length cd] 44) = W5 at HK5 HD5 HT5 HB5 ⊢
                generalize w5.heap.size = b12 at HD5 ⊢
                have hwl := HLB.out
                go_wp2
                go_loopw [19, 138] (fun mx ix wj => ∃ (j : Nat), j ≤ L.length ∧ ix = .int .i64 (j : Int) ∧ mx = .int .i64 0 ∧ Below W5.heap.size W5 wj) (fun _ ix _ => L.length - (intOf ix).toNat)
                case atStart => exact ⟨0, Nat.zero_le _, rfl, rfl, Below.refl _ _⟩
                case round =>
                  obtain ⟨j, hj, rfl, rfl, hbj⟩ := hrel
                  have HBJ := Lib.hid hbj
                  clear hbj
                  by_cases hjl : j < L.length
                  · have HJL := Lib.hid hjl
                    have hi0 : (0 : Int) ≤ (j : Int) := by omega
                    have hi1 : (j : Int) < (L.length : Int) := by omega
                    go_upto_region 30 with fail
                    refine wp_region_wk (fun W2 => W2 = wr.drew) (by kernel_rfl) (by kernel_rfl) rfl ?_
                    have ne : Nonempty (Wk (fun W2 => W2 = wr.drew)) := ⟨⟨_, rfl⟩⟩
                    iterate 19 (first | go_big_quiet_skip | (go_big_quiet_want; go_big_quiet_op; go_big_quiet_on))
                    refine wpQuiet_nil ?_
                    intro p
                    rw [p.h]
                    clear ne p
                    go_wp2
                    go_roundw
                    case rel => exact ⟨j + 1, by have := HJL.out; omega, by go_num, rfl, HBJ.out.drew⟩
                    case measure => have := HJL.out; simp [intOf]; omega
                  · obtain rfl : j = L.length := by omega
                    have HK6 := Lib.hid (HK5.out.below HBJ.out)
                    have HD6 := Lib.hid (HD5.out.below HBJ.out)
                    obtain ⟨_, d0, d1, _, _⟩ := HD6.out
                    obtain ⟨_, c0, c1, f0, f1⟩ := HK6.out.c
                    go_wp2_with fail
                    go_meet
                    exact ⟨BN, T, _, L, g, cap, rfl, HK1.out.store (Ap.of_below (HB5.out.trans (HBJ.out.mono HB5.out.size))) HK6.out.c (HT5.out.below HBJ.out) HK1.out.ls HK6.out.row HK1.out.hb.2 HK1.out.hc HK1.out.b2⟩
            · have e0 : (ak == 0) = false := by rw [beq_eq_false_iff_ne]; exact k0
              have e1 : (ak == 1) = false := by rw [beq_eq_false_iff_ne]; exact k1
              have e2 : (ak == 2) = false := by rw [beq_eq_false_iff_ne]; exact k2
              go_wp2_with fail
              go_meet
              exact ⟨BN, T, _, L, g, cap, rfl, HK1.out⟩
      case rest =>
      obtain ⟨BN', T', tv', L', g', cap', rfl, hk'⟩ := hcut
      have HK2 := Lib.hid hk'
      obtain ⟨A', c', rfl⟩ := hk'.t.tabs.form
      have hCk := chtCheck_any (E : Int) (BN' : Int) T' (.slice A' T'.length c') wc hk'.t.tabs
      rw [show chtE (E : Int) ⟨(BN' : Int), T'⟩ = 0 from if_pos hk'.ls.okB] at hCk
      obtain ⟨_, c0, c1, _, _⟩ := hk'.c
      have e1 : ((BN' : Int) == (L'.length : Int)) = true := by rw [hk'.ls.len]; simp
      have e2 : ((BN' : Int) != (L'.length : Int)) = false := by rw [hk'.ls.len]; simp
      have hw1 := HW1.out
      clear hk' q0 q1
      go_wp2_with (go_at_call 35; (with_reducible refine hCk.mono ?_); rintro e w6 ⟨rfl, hb6⟩; have HK6 := Lib.hid (HK2.out.below hb6); clear hb6 c0 c1; obtain ⟨_, c0, c1, _, _⟩ := HK6.out.c)
      rw [hw1]
      clear hw1
      go_roundw
      case rel => exact ⟨i + 1, BN', T', _, L', g', cap', by have := HI.out; omega, by go_num, rfl, HK6.out⟩
      case measure => have := HI.out; simp [intOf]; omega
    · obtain rfl : i = acts.length := by omega
      obtain ⟨At, ct, rfl⟩ := HKi.out.t.tabs.form
      have hgT := fun (j : Nat) (W : World) (h : TabsS W (.slice At T.length ct) T) => chtGet_any (E : Int) (BN : Int) (j : Int) T (.slice At T.length ct) W h
      have hAll := fun (W : World) (h : TabsS W (.slice At T.length ct) T) => chtAll_any (E : Int) (BN : Int) T (.slice At T.length ct) W h
      rw [show allErr (E : Int) ⟨(BN : Int), T⟩ = 0 from if_pos HKi.out.ls.okB] at hAll
      have HLEN : Hid ((atC (E : Int) ⟨(BN : Int), T⟩).length ≤ L.length) := Lib.hid (by
        unfold atC
        rw [if_pos HKi.out.ls.okB, HKi.out.ls.len]
        unfold blocksC fullL
        rw [List.length_map]
        refine Nat.le_trans (List.length_filter_le _ _) ?_
        rw [List.length_range]; show (BN : Int).toNat ≤ BN; rw [Int.toNat_natCast]; exact Nat.le_refl _)
      generalize atC (E : Int) ⟨(BN : Int), T⟩ = la at hAll HLEN
      generalize enC (E : Int) ⟨(BN : Int), T⟩ = le at hAll
      go_wp2
      go_loopw [186] (fun ix wj => ∃ (j : Nat), j ≤ L.length ∧ ix = .int .i64 (j : Int) ∧ KL w wj b7 E BN T (.slice At T.length ct) L g cap) (fun ix _ => L.length - (intOf ix).toNat)
      case atStart => exact ⟨0, Nat.zero_le _, rfl, HKi.out⟩
      case round =>
        obtain ⟨j, hj, rfl, hkj⟩ := hrel
        have HJ := Lib.hid hkj
        clear hkj
        by_cases hjl : j < L.length
        · have HJL := Lib.hid hjl
          obtain ⟨r0, r1, r2, r3⟩ := HJ.out.row.2.1 j hjl
          have hG := hgT j
          rw [(HJ.out.ls.getY (by rw [← HJ.out.ls.len]; exact hjl)).1, (HJ.out.ls.getY (by rw [← HJ.out.ls.len]; exact hjl)).2] at hG
          have HW2 := Lib.hid (wrap_succ hjl HJ.out.hc.1 HJ.out.hc.2)
          generalize L.getD j EN.zero = y at r0 r1 r2 r3 hG
          obtain ⟨yk, ys, ym, yf⟩ := y
          unfold EN.v at hG
          dsimp only at r0 r1 r2 r3 hG
          have HY1 := Lib.hid (EBox.new wr yk ys ym yf 26)
          have HJ1 := Lib.hid (HJ.out.below (below1 wr (.cells #[.int .u8 yk, .int .i64 ys, .int .i64 ym, .int .i64 yf] 26)))
          go_upto_region 43 with fail
          clear r0 r1 r2 r3
          generalize wr.alloc (.cells #[.int .u8 yk, .int .i64 ys, .int .i64 ym, .int .i64 yf] 26) = W1 at HY1 HJ1 ⊢
          generalize wr.heap.size = b22 at HY1 ⊢
          obtain ⟨_, c0, c1, _, _⟩ := HJ1.out.c
          have hw1 := HW2.out
          go_upto_region 44 with (go_at_call 23; (with_reducible refine (hG _ HJ1.out.t.tabs).mono ?_); rintro e w5 ⟨rfl, hb5⟩; have hb6 := hb5.trans ((below1 w5 (.cells #[.int .u8 yk, .int .i64 ys, .int .i64 ym, .int .i64 yf] 26)).mono hb5.size); have HJ5 := Lib.hid (HJ1.out.below hb6); have HY5 := Lib.hid (HY1.out.below hb6); have HZ5 := Lib.hid (EBox.new w5 yk ys ym yf 26); clear hb5 hb6 c0 c1)
          generalize w5.alloc (.cells #[.int .u8 yk, .int .i64 ys, .int .i64 ym, .int .i64 yf] 26) = W5 at HJ5 HY5 HZ5 ⊢
          generalize w5.heap.size = b23 at HZ5 ⊢
          obtain ⟨_, x0, x1, x2, x3, _⟩ := HY5.out
          obtain ⟨_, z0, z1, z2, z3, _⟩ := HZ5.out
          dsimp only at x0 x1 x2 x3 z0 z1 z2 z3
          go_wp2_with fail
          rw [hw1]
          clear hw1
          go_roundw
          case rel => exact ⟨j + 1, by have := HJL.out; omega, by go_num, HJ5.out⟩
          case measure => have := HJL.out; simp [intOf]; omega
        · obtain rfl : j = L.length := by omega
          obtain ⟨_, c0, c1, _, _⟩ := HJ.out.c
          have d1 : decide ((la.length : Int) ≤ (L.length : Int)) = true := decide_eq_true (by have := HLEN.out; omega)
          have d2 : decide (la.length ≤ L.length) = true := decide_eq_true HLEN.out
          go_wp2_with (go_at_call 29; (with_reducible refine (hAll _ HJ.out.t.tabs).mono ?_); rintro e w5 ⟨ra, rb, rfl, hia, _, hb5⟩; obtain ⟨Aa, ca, rfl, _⟩ := hia; have HJ5 := Lib.hid (HJ.out.below hb5); clear hb5 c0 c1)
          go_ret
          exact ⟨rfl, HJ5.out.bl⟩
end Go.Proofs.Ytjocdbacdbhemaa
namespace Go.Proofs.Ytjocdbacdbhemaa
open Go.RowKit

theorem chartLast_any {w : World} (e : Int) {q0 : Prop} (_ : q0) (nb : Int) {q1 : Prop} (_ : q1) {va : Value} {acts : List A14} (h : A14S w va acts) : Calls Try.prog 7 #[.int .i64 e, .int .i64 nb, va] w fun e' w' => e' = .returned (.bool true) ∧ Below w.heap.size w w' := by
  by_cases h1 : 2000 < nb ∨ 60 < acts.length
  · exact chartLast_out e nb acts va w h h1
  · have hb : nb ≤ 2000 := by omega
    have hl : acts.length ≤ 60 := by omega
    by_cases h2 : nb < 0 ∨ (0 ≤ nb ∧ ¬ (1 ≤ e ∧ e ≤ 8192))
    · exact chartLast_none e nb acts va w h hb hl h2
    · have h3 : 0 ≤ nb := by omega
      have h4 : 1 ≤ e ∧ e ≤ 8192 := by
        by_cases hx : 1 ≤ e ∧ e ≤ 8192
        · exact hx
        · exact absurd (Or.inr ⟨h3, hx⟩) h2
      obtain ⟨E, rfl⟩ : ∃ E : Nat, e = (E : Int) := ⟨e.toNat, by omega⟩
      obtain ⟨B, rfl⟩ : ∃ B : Nat, nb = (B : Int) := ⟨nb.toNat, by omega⟩
      exact chartLast_main E B acts va w h (by omega) (by omega) (by omega) hl
end Go.Proofs.Ytjocdbacdbhemaa
