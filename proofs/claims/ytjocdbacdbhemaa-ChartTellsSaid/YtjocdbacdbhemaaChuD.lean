/- Charts: the document's own Swap where it changes. -/
import Derived.Test.YtjocdbacdbhemaaChuC
namespace Go.Proofs.Ytjocdbacdbhemaa
open Go.RowKit

set_option maxRecDepth 100000 in
set_option maxHeartbeats 8000000 in
theorem rchtSwap_yes (E BN : Nat) (T : List TB) (v : Value) (x y : EN) (w : World) (hv : TabsS w v T) (hOK : COk E BN T) (hok : okB (E : Int) ⟨(BN : Int), T⟩ = true) (hy : EOk y) :
    Calls Try.prog 32 #[.int .i64 (E : Int), .agg #[.int .i64 (BN : Int), v], x.v, y.v] w fun e' w' => ∃ tv, e' = .returned (.tuple #[.agg #[.int .i64 (BN : Int), tv], .int .i64 ((flatM E BN T).countP (swapQ x) : Int), .int .i64 0]) ∧ TabsS w' tv (ofM E (swapL x y (flatM E BN T))) ∧ Below w.heap.size w w' := by
  have hC := fun W h => rchtCheck_any (E : Int) (BN : Int) T v W h
  unfold chtE at hC
  rw [hok, if_pos rfl] at hC
  have hX := rentCheck_any y
  rw [show entE y = 0 from if_pos hy] at hX
  have hF := fun W h => rchtFlat_any E BN T v W h hOK
  have HLN : Hid ((flatM E BN T).length = BN) := Lib.hid (flatM_len E BN T)
  have HL2 : Hid ((swapL x y (flatM E BN T)).length = BN) := Lib.hid (by unfold swapL; rw [List.length_map]; exact flatM_len E BN T)
  have hO := fun u W h => rchtOf_any E (swapL x y (flatM E BN T)) u W h ⟨hOK.e1, hOK.e2⟩ (by rw [HL2.out]; exact hOK.b2)
  rw [HL2.out] at hO
  have HG0 := Lib.hid (SW.new w (BN : Int) v x y)
  have HV := Lib.hid hv
  have HBN : Hid (BN ≤ 65536) := Lib.hid hOK.b2
  clear hv hOK hok hy
  obtain ⟨A, cap, rfl⟩ := HV.out.form
  generalize flatM E BN T = F at hF hO HLN HL2 ⊢
  obtain ⟨cn, hcn⟩ : ∃ cn : Nat, cn = F.countP (swapQ x) := ⟨_, rfl⟩
  rw [← hcn]
  have HCN := Lib.hid hcn
  have HFE : Hid (swapL x y F = halfW x y F F.length) := Lib.hid (by unfold halfW; rw [List.take_of_length_le (Nat.le_refl _), List.drop_of_length_le (Nat.le_refl _), List.append_nil])
  have HNEXT : Hid (∀ i, i < F.length → (halfW x y F i).getD i EN.zero = F.getD i EN.zero ∧ (halfW x y F i).length = BN ∧ (swapQ x (F.getD i EN.zero) = true → (halfW x y F i).set i y = halfW x y F (i + 1) ∧ (F.take (i + 1)).countP (swapQ x) = (F.take i).countP (swapQ x) + 1) ∧ (swapQ x (F.getD i EN.zero) = false → halfW x y F i = halfW x y F (i + 1) ∧ (F.take (i + 1)).countP (swapQ x) = (F.take i).countP (swapQ x))) := Lib.hid (fun i hi => by
    refine ⟨halfW_at x y F hi, (halfW_len x y F (by omega)).trans HLN.out, fun hq => ?_, fun hq => ?_⟩
    · have h1 := halfW_next x y F hi
      have h2 : swap1 x y (F.getD i EN.zero) = y := if_pos (by unfold swapQ at hq; exact of_decide_eq_true hq)
      rw [h2] at h1
      exact ⟨h1, by rw [cnt_next x F hi, if_pos hq]⟩
    · have h2 : swap1 x y (F.getD i EN.zero) = F.getD i EN.zero := if_neg (by unfold swapQ at hq; exact of_decide_eq_false hq)
      exact ⟨halfW_stay x y F hi h2, by rw [cnt_next x F hi, if_neg (by rw [hq]; decide)]; rfl⟩)
  have HZERO : Hid (halfW x y F 0 = F) := Lib.hid (by unfold halfW swapL; simp)
  clear hcn
  have HSWQ : Hid (∀ p, swapQ x p = decide (p = x ∧ fullB p = true)) := Lib.hid (fun _ => rfl)
  unfold EN.v at hX ⊢
  obtain ⟨k, st, mb, fr⟩ := x
  obtain ⟨k', st', mb', fr'⟩ := y
  dsimp only at hX HG0 hO HL2 ⊢
  go_enter Try.func32, Try.ntmps32
  go_upto_region 1 with fail
  generalize (((w.alloc (.cells #[.int .i64 (BN : Int), .slice A T.length cap] 44)).alloc (.cells #[.int .u8 k, .int .i64 st, .int .i64 mb, .int .i64 fr] 26)).alloc (.cells #[.int .u8 k', .int .i64 st', .int .i64 mb', .int .i64 fr'] 26)).alloc (.cells #[.int .i64 0, .slice none 0 0] 44) = w0 at HG0 ⊢
  have HV0 := Lib.hid (HV.out.below HG0.out.bl)
  obtain ⟨_, y0, y1, _, _⟩ := HG0.out.c
  go_upto_region 3 with (go_at_call 36; (with_reducible refine (hC _ HV0.out).mono ?_); rintro e w1 ⟨rfl, hb1⟩; have HG1 := Lib.hid (HG0.out.below hb1); have HV1 := Lib.hid (HV0.out.below hb1); clear hb1 y0 y1)
  obtain ⟨_, x0, x1, x2, x3, _⟩ := HG1.out.f
  dsimp only at x0 x1 x2 x3
  go_upto_region 5 with (go_at_call 14; (with_reducible refine (hX _).mono ?_); rintro e w2 ⟨rfl, hb2⟩; have HG2 := Lib.hid (HG1.out.below hb2); have HV2 := Lib.hid (HV1.out.below hb2); clear hb2 x0 x1 x2 x3; obtain ⟨_, y0, y1, _, _⟩ := HG2.out.c)
  go_upto_region 6 with (go_at_call 49; (with_reducible refine (hF _ HV2.out).mono ?_); rintro e w3 ⟨rfl, hrow, hb3⟩; have HG3 := Lib.hid (HG2.out.below hb3); have HROW := Lib.hid hrow; have HGE : Hid (w.heap.size + 3 < w2.heap.size + 1) := Lib.hid (by have := HG2.out.r.lt; omega); clear hb3 hrow y0 y1)
  generalize w2.heap.size + 1 = g at HROW HGE ⊢
  go_wp2
  go_loopw [12, 29] (fun cx ix wr => ∃ (i : Nat), i ≤ BN ∧ ix = .int .i64 (i : Int) ∧ cx = .int .i64 ((F.take i).countP (swapQ ⟨k, st, mb, fr⟩) : Int) ∧ SW w wr (BN : Int) (.slice A T.length cap) ⟨k, st, mb, fr⟩ ⟨k', st', mb', fr'⟩ ∧ RowE wr g (halfW ⟨k, st, mb, fr⟩ ⟨k', st', mb', fr'⟩ F i)) (fun _ ix _ => BN - (intOf ix).toNat)
  case atStart => exact ⟨0, Nat.zero_le _, rfl, rfl, HG3.out, by rw [HZERO.out]; exact HROW.out⟩
  case round =>
    obtain ⟨i, hi, rfl, rfl, hG, hR⟩ := hrel
    have HG := Lib.hid hG
    have HR := Lib.hid hR
    clear hG hR HG0 HG1 HG2 HG3
    by_cases hlt : i < BN
    · have hF1 : i < F.length := by rw [HLN.out]; exact hlt
      have HN := Lib.hid (HNEXT.out i hF1)
      have hat := HR.out.2.1 i (by rw [HN.out.2.1]; exact hlt)
      rw [HN.out.1] at hat
      obtain ⟨q0, q1, q2, q3⟩ := hat
      obtain ⟨cq, hcq⟩ : ∃ cq : Nat, cq = (F.take i).countP (swapQ ⟨k, st, mb, fr⟩) := ⟨_, rfl⟩
      have HCQ := Lib.hid hcq
      have HCL : Hid (cq ≤ 65536) := Lib.hid (by rw [hcq]; exact Nat.le_trans List.countP_le_length (by rw [List.length_take]; have := HBN.out; omega))
      rw [← hcq]
      rw [← hcq] at HN
      clear hcq
      generalize F.getD i EN.zero = p at q0 q1 q2 q3 HN
      obtain ⟨pk, ps, pm, pf⟩ := p
      dsimp only at q0 q1 q2 q3
      have hdl : decide ((i : Int) < (BN : Int)) = true := decide_eq_true (by omega)
      have hdl2 : decide (i < BN) = true := decide_eq_true hlt
      have HW1 : Hid (wrap64 ((i : Int) + 1) = (i : Int) + 1) := Lib.hid (by have := HBN.out; unfold wrap64; omega)
      have HW2 : Hid (wrap64 ((cq : Int) + 1) = (cq : Int) + 1) := Lib.hid (by have := HCL.out; unfold wrap64; omega)
      have HG1 := Lib.hid (HG.out.below (below1 wr (.cells #[.int .u8 pk, .int .i64 ps, .int .i64 pm, .int .i64 pf] 26)))
      have HR1 := Lib.hid (HR.out.below (below1 wr (.cells #[.int .u8 pk, .int .i64 ps, .int .i64 pm, .int .i64 pf] 26)))
      have HP1 := Lib.hid (EBox.new wr pk ps pm pf 26)
      have HWG : Hid (w.heap.size + 3 < wr.heap.size) := Lib.hid HG.out.r.lt
      go_upto_region 10 with fail
      generalize wr.alloc (.cells #[.int .u8 pk, .int .i64 ps, .int .i64 pm, .int .i64 pf] 26) = w4 at HG1 HR1 HP1 ⊢
      obtain ⟨_, e0, e1, e2, e3⟩ := HG1.out.e
      obtain ⟨_, p0, p1, p2, p3⟩ := HP1.out
      dsimp only at e0 e1 e2 e3 p0 p1 p2 p3
      by_cases h0 : pk = k
      · have b0 : (pk == k) = true := by rw [beq_iff_eq]; exact h0
        by_cases h1 : ps = st
        · have b1 : (ps == st) = true := by rw [beq_iff_eq]; exact h1
          by_cases h2 : pm = mb
          · have b2 : (pm == mb) = true := by rw [beq_iff_eq]; exact h2
            by_cases h3 : pf = fr
            · have b3 : (pf == fr) = true := by rw [beq_iff_eq]; exact h3
              by_cases hz : pk = 0
              · have b4 : (pk == 0) = true := by rw [beq_iff_eq]; exact hz
                have b5 : (pk != 0) = false := by rw [bne, b4]; rfl
                have HS := Lib.hid (HN.out.2.2.2 (by rw [HSWQ.out]; exact decide_eq_false (fun e => absurd e.2 (by unfold fullB; rw [b5]; decide))))
                clear HN HSWQ HP1 HNEXT
                have hw1 := HW1.out
                go_upto_region 11 with fail
                go_wp2
                rw [hw1]
                clear hw1
                go_roundw
                case rel => exact ⟨i + 1, by omega, by go_num, by rw [HS.out.2, HCQ.out], HG1.out, by rw [← HS.out.1]; exact HR1.out⟩
                case measure => simp [intOf]; omega
              · have b4 : (pk == 0) = false := by rw [beq_eq_false_iff_ne]; exact hz
                have b5 : (pk != 0) = true := by rw [bne, b4]; rfl
                have HS := Lib.hid (HN.out.2.2.1 (by rw [HSWQ.out]; exact decide_eq_true ⟨by rw [h0, h1, h2, h3], by unfold fullB; exact b5⟩))
                have hln := HN.out.2.1
                clear HN HSWQ HP1 HNEXT
                clear h0 h1 h2 h3 hz
                go_upto_region 11 with fail
                clear e0 e1 e2 e3 p0 p1 p2 p3 b0 b1 b2 b3 b4 b5 q0 q1 q2 q3
                obtain ⟨_, x0, x1, x2, x3⟩ := HG1.out.f
                dsimp only at x0 x1 x2 x3
                have hfz := HR1.out.2.2
                rw [hln] at hfz
                have f0 := hfz (i * 4) (by omega); have f1 := hfz (i * 4 + 1) (by omega); have f2 := hfz (i * 4 + 2) (by omega); have f3 := hfz (i * 4 + 3) (by omega)
                obtain ⟨r0, r1, r2, r3⟩ := HR1.out.2.1 i (by rw [hln]; exact hlt)
                have HPUT := Lib.hid (HR1.out.put i (by rw [hln]; exact hlt) ⟨k', st', mb', fr'⟩)
                have hap := ap_putN w4 g (i * 4) ⟨k', st', mb', fr'⟩
                have HG6 := Lib.hid (HG1.out.ap hap (fun q e => by have h := HGE.out; omega))
                unfold putN at HG6 HPUT
                dsimp only at HG6 HPUT
                clear hfz hap
                go_upto_region 12 with fail
                clear x0 x1 x2 x3 r0 r1 r2 r3 f0 f1 f2 f3
                have hw1 := HW1.out
                have hw2 := HW2.out
                generalize (((w4.setCell ⟨g, i * 4, none⟩ (.int .u8 k')).setCell ⟨g, i * 4 + 1, none⟩ (.int .i64 st')).setCell ⟨g, i * 4 + 2, none⟩ (.int .i64 mb')).setCell ⟨g, i * 4 + 3, none⟩ (.int .i64 fr') = w6 at HG6 HPUT ⊢
                go_wp2
                rw [hw1, hw2]
                clear hw1 hw2
                go_roundw
                case rel => exact ⟨i + 1, by omega, by go_num, by rw [HS.out.2, Int.natCast_add]; rfl, HG6.out, by rw [← HS.out.1]; exact HPUT.out⟩
                case measure => simp [intOf]; omega
            · have b3 : (pf == fr) = false := by rw [beq_eq_false_iff_ne]; exact h3
              have HS := Lib.hid (HN.out.2.2.2 (by rw [HSWQ.out]; exact decide_eq_false (fun e => h3 (by have := e.1; injection this))))
              clear HN HSWQ HP1 HNEXT
              have hw1 := HW1.out
              go_upto_region 11 with fail
              go_wp2
              rw [hw1]
              clear hw1
              go_roundw
              case rel => exact ⟨i + 1, by omega, by go_num, by rw [HS.out.2, HCQ.out], HG1.out, by rw [← HS.out.1]; exact HR1.out⟩
              case measure => simp [intOf]; omega
          · have b2 : (pm == mb) = false := by rw [beq_eq_false_iff_ne]; exact h2
            have HS := Lib.hid (HN.out.2.2.2 (by rw [HSWQ.out]; exact decide_eq_false (fun e => h2 (by have := e.1; injection this))))
            clear HN HSWQ HP1 HNEXT
            have hw1 := HW1.out
            go_upto_region 11 with fail
            go_wp2
            rw [hw1]
            clear hw1
            go_roundw
            case rel => exact ⟨i + 1, by omega, by go_num, by rw [HS.out.2, HCQ.out], HG1.out, by rw [← HS.out.1]; exact HR1.out⟩
            case measure => simp [intOf]; omega
        · have b1 : (ps == st) = false := by rw [beq_eq_false_iff_ne]; exact h1
          have HS := Lib.hid (HN.out.2.2.2 (by rw [HSWQ.out]; exact decide_eq_false (fun e => h1 (by have := e.1; injection this))))
          clear HN HSWQ HP1 HNEXT
          have hw1 := HW1.out
          go_upto_region 11 with fail
          go_wp2
          rw [hw1]
          clear hw1
          go_roundw
          case rel => exact ⟨i + 1, by omega, by go_num, by rw [HS.out.2, HCQ.out], HG1.out, by rw [← HS.out.1]; exact HR1.out⟩
          case measure => simp [intOf]; omega
      · have b0 : (pk == k) = false := by rw [beq_eq_false_iff_ne]; exact h0
        have HS := Lib.hid (HN.out.2.2.2 (by rw [HSWQ.out]; exact decide_eq_false (fun e => h0 (by have := e.1; injection this))))
        clear HN HSWQ HP1 HNEXT
        have hw1 := HW1.out
        go_upto_region 11 with fail
        go_wp2
        rw [hw1]
        clear hw1
        go_roundw
        case rel => exact ⟨i + 1, by omega, by go_num, by rw [HS.out.2, HCQ.out], HG1.out, by rw [← HS.out.1]; exact HR1.out⟩
        case measure => simp [intOf]; omega
    · obtain rfl : i = BN := by omega
      have hd1 : decide ((i : Int) < (i : Int)) = false := decide_eq_false (by omega)
      have hd2 : decide (i < i) = false := decide_eq_false (by omega)
      have he : halfW ⟨k, st, mb, fr⟩ ⟨k', st', mb', fr'⟩ F i = swapL ⟨k, st, mb, fr⟩ ⟨k', st', mb', fr'⟩ F := by rw [HFE.out, HLN.out]
      have hc2 : (F.take i).countP (swapQ ⟨k, st, mb, fr⟩) = cn := by rw [HCN.out, List.take_of_length_le (by rw [HLN.out]; exact Nat.le_refl _)]
      rw [hc2]
      have hES := HR.out.ents i (by rw [he, HL2.out]; exact Nat.le_refl _) (by have := HBN.out; unfold maxLen; omega)
      rw [he, HL2.out] at hES
      have HES := Lib.hid hES
      clear hES he hc2 HR HNEXT HSWQ HZERO
      go_wp2_with (go_at_call 53; (with_reducible refine (hO _ _ HES.out).mono ?_); rintro e w5 ⟨tv, us5, rfl, htv, hb5⟩; have HG5 := Lib.hid (HG.out.below hb5); obtain ⟨A5, cap5, rfl⟩ := htv.tabs.form; have HTV := Lib.hid htv; clear hb5 htv; obtain ⟨_, z0, z1, f0, f1⟩ := HG5.out.r)
      obtain ⟨hB, y0, y1⟩ := HG5.out.ends (.int .i64 (i : Int)) (.slice A5 (ofM E (swapL ⟨k, st, mb, fr⟩ ⟨k', st', mb', fr'⟩ F)).length cap5)
      have hap : Ap (fun q => q = w.heap.size + 3) w5 ((w5.setCell ⟨w.heap.size + 3, 0, none⟩ (.int .i64 (i : Int))).setCell ⟨w.heap.size + 3, 1, none⟩ (.slice A5 (ofM E (swapL ⟨k, st, mb, fr⟩ ⟨k', st', mb', fr'⟩ F)).length cap5)) := (ap_put w5 (w.heap.size + 3) 0 _).trans (ap_put _ (w.heap.size + 3) 1 _)
      refine bodyPost_ret (v := .tuple #[.agg #[.int .i64 (i : Int), .slice A5 (ofM E (swapL ⟨k, st, mb, fr⟩ ⟨k', st', mb', fr'⟩ F)).length cap5], .int .i64 (cn : Int), .int .i64 0]) (by simp [results, Try.results32, go_sem, y0, y1]) rfl ?_
      exact ⟨_, rfl, (HTV.out.ap hap (fun q e => by have := HG.out.r.lt; omega)).tabs, hB⟩
end Go.Proofs.Ytjocdbacdbhemaa
