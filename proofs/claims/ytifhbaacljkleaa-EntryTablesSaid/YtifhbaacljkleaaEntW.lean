/- Entries: the walks of EntryTables and EntryBack. -/
import Derived.Test.YtifhbaacljkleaaEntT
import Derived.Test.YtifhbaacljkleaaEntI
namespace Go.Proofs.Ytifhbaacljkleaa
open Go.RowKit

set_option maxRecDepth 100000 in
set_option maxHeartbeats 4000000 in
theorem entryTables_any {w : World} {v : Value} {L : List EN} (hv : EntsS w v L) (s : ByteArray) (hsz : s.size ≤ maxLen) : Calls Try.prog 4 #[v, .string s] w fun e w' => e = .returned (.bool true) ∧ Below w.heap.size w w' := by
  have hL := ent13Lives_any
  by_cases h : s.size ≤ 131072
  case neg =>
    have d0 : decide ((131072 : Int) < (s.size : Int)) = true := decide_eq_true (by omega)
    clear h hsz
    go_enter Try.func4, Try.ntmps4
    go_wp2_with (go_at_call 12; with_reducible refine (hL _).mono ?_; rintro e w1 ⟨rfl, hb1⟩)
    go_ret
    exact ⟨rfl, hb1⟩
  case pos =>
  have d0 : decide ((131072 : Int) < (s.size : Int)) = false := decide_eq_false (by omega)
  have hT := fun W (hb : Below w.heap.size w W) => entTable_any L v W (hv.below hb (Nat.le_refl _))
  have hRT := fun W (hb : Below w.heap.size w W) => rentTable_any L v W (hv.below hb (Nat.le_refl _))
  have hP := entParseTable_any s hsz
  have hRP := rentParseTable_any s hsz
  have hS := fun W x y (h1 : EntsS W x (ptL s.data.toList)) (h2 : EntsS W y (ptL s.data.toList)) => rentSame_any _ _ x y W h1 h2
  generalize ptE s.data.toList = pe at hP hRP
  generalize ptL s.data.toList = pl at hP hRP hS
  generalize tabE L = te at hT hRT
  generalize (⟨(tabL L).toArray⟩ : ByteArray) = X at hT hRT
  rw [show decide (pl = pl) = true from decide_eq_true rfl] at hS
  have HV := Lib.hid hv
  clear hv h hsz
  go_enter Try.func4, Try.ntmps4
  go_upto_region 4 with (go_at_call 17; with_reducible refine (hT _ (Below.refl _ _)).mono ?_; rintro e w1 ⟨rfl, hb1⟩; have HB1 := Lib.hid hb1; clear hb1)
  go_upto_region 5 with (go_at_call 18; with_reducible refine (hRT _ HB1.out).mono ?_; rintro e w2 ⟨rfl, hb2⟩; have HB2 := Lib.hid (HB1.out.trans (hb2.mono HB1.out.size)); clear hb2)
  go_upto_region 6 with (go_at_call 19; with_reducible refine (hP _).mono ?_; rintro e w3 ⟨⟨x, rfl, hx⟩, hb3⟩; have HB3 := Lib.hid (HB2.out.trans (hb3.mono HB2.out.size)); have HX3 := Lib.hid hx; clear hb3 hx)
  go_upto_region 7 with (go_at_call 20; with_reducible refine (hRP _).mono ?_; rintro e w4 ⟨⟨y, rfl, hy⟩, hb4⟩; have HB4 := Lib.hid (HB3.out.trans (hb4.mono HB3.out.size)); have HX4 := Lib.hid (HX3.out.below hb4 (Nat.le_refl _)); have HY4 := Lib.hid hy; clear hb4 hy)
  go_wp2_with (first
    | (go_at_call 12; with_reducible refine (hL _).mono ?_; rintro e w5 ⟨rfl, hb5⟩; have HB5 := Lib.hid (HB4.out.trans (hb5.mono HB4.out.size)); have HX5 := Lib.hid (HX4.out.below hb5 (Nat.le_refl _)); have HY5 := Lib.hid (HY4.out.below hb5 (Nat.le_refl _)); clear hb5)
    | (go_at_call 21; with_reducible refine (hS _ _ _ HX5.out HY5.out).mono ?_; rintro e w6 ⟨rfl, hb6⟩; have HB6 := Lib.hid (HB5.out.trans (hb6.mono HB5.out.size)); clear hb6))
  go_ret
  exact ⟨rfl, HB6.out⟩
theorem tabL_size (L : List EN) : (tabL L).length ≤ 65536 := by
  by_cases h : tabE L = 0
  · rw [(tab_back h).2.2]; have := (tabE_ok.1 h).1; omega
  · unfold tabL; rw [if_neg h]; simp
/-- What the law's last question asks. -/
theorem back_cases (s : List UInt8) : (ptE s ≠ 0) ∨ (ptE s = 0 ∧ tabE (ptL s) = 0 ∧ tabL (ptL s) = s) := by
  by_cases h : ptOk s
  · exact .inr ⟨if_pos h, tab_forth h⟩
  · refine .inl ?_
    unfold ptE; rw [if_neg h]; decide
set_option maxRecDepth 100000 in
set_option maxHeartbeats 4000000 in
theorem entryBack_any {w : World} {v : Value} {L : List EN} (hv : EntsS w v L) (s : ByteArray) (hsz : s.size ≤ maxLen) : Calls Try.prog 5 #[v, .string s] w fun e w' => e = .returned (.bool true) ∧ Below w.heap.size w w' := by
  have hL := ent13Lives_any
  obtain ⟨A, cap, rfl, hc1, hc2, hc3⟩ := hv
  have hv : EntsS w (.slice A L.length cap) L := ⟨A, cap, rfl, hc1, hc2, hc3⟩
  have HV := Lib.hid hv
  have hT := fun W (hb : Below w.heap.size w W) => entTable_any L (.slice A L.length cap) W (hv.below hb (Nat.le_refl _))
  have hP2 := entParseTable_any s hsz
  have hP1 := entParseTable_any ⟨(tabL L).toArray⟩ (by show (tabL L).length ≤ maxLen; have := tabL_size L; unfold maxLen; omega)
  rw [show (⟨(tabL L).toArray⟩ : ByteArray).data.toList = tabL L from rfl] at hP1
  have hT2 := fun W y (h : EntsS W y (ptL s.data.toList)) => entTable_any _ y W h
  have hS := fun W x (h1 : EntsS W x (ptL (tabL L))) (h2 : EntsS W (.slice A L.length cap) L) => rentSame_any _ _ x _ W h1 h2
  have HBK := Lib.hid (back_cases s.data.toList)
  have HOK := Lib.hid (ptL_ok s.data.toList)
  have HTB : Hid (tabE L = 0 → ptE (tabL L) = 0 ∧ ptL (tabL L) = L ∧ (tabL L).length = 8 * L.length ∧ L.length ≤ 8192) := Lib.hid (fun h => ⟨if_pos (tab_back h).1, (tab_back h).2.1, (tab_back h).2.2, (tabE_ok.1 h).1⟩)
  have HXS : Hid ((⟨(tabL L).toArray⟩ : ByteArray).size = (tabL L).length) := Lib.hid rfl
  clear hsz hv hc3
  generalize ptL (tabL L) = pl1 at hP1 hS HTB
  generalize ptE (tabL L) = pe1 at hP1 HTB
  generalize (tabL L).length = tl at HTB HXS
  generalize (⟨(tabL L).toArray⟩ : ByteArray) = X at hT hP1 HXS
  generalize tabE L = te at hT HTB
  have HYB : Hid (ptE s.data.toList ≠ 0 ∨ (ptE s.data.toList = 0 ∧ tabE (ptL s.data.toList) = 0 ∧ (⟨(tabL (ptL s.data.toList)).toArray⟩ : ByteArray) = s)) := Lib.hid (by
    rcases HBK.out with h | ⟨h1, h2, h3⟩
    · exact .inl h
    · exact .inr ⟨h1, h2, by rw [h3]⟩)
  clear HBK
  generalize (⟨(tabL (ptL s.data.toList)).toArray⟩ : ByteArray) = Y at hT2 HYB
  generalize tabE (ptL s.data.toList) = te2 at hT2 HYB
  generalize ptE s.data.toList = pe2 at hP2 HYB
  generalize ptL s.data.toList = pl2 at hP2 hT2 HOK
  go_enter Try.func5, Try.ntmps5
  go_upto_region 3 with (go_at_call 12; with_reducible refine (hL _).mono ?_; rintro e w0 ⟨rfl, hb0⟩; have HB0 := Lib.hid hb0; clear hb0)
  go_upto_region 4 with (go_at_call 17; with_reducible refine (hT _ HB0.out).mono ?_; rintro e w1 ⟨rfl, hb1⟩; have HB1 := Lib.hid (HB0.out.trans (hb1.mono HB0.out.size)); clear hb1)
  go_upto_region 5 with (go_at_call 19; with_reducible refine (hP1 _).mono ?_; rintro e w2 ⟨⟨x, rfl, hx⟩, hb2⟩; have HB2 := Lib.hid (HB1.out.trans (hb2.mono HB1.out.size)); have HX2 := Lib.hid hx; clear hb2 hx)
  go_upto_region 6 with (go_at_call 19; with_reducible refine (hP2 _).mono ?_; rintro e w3 ⟨⟨y, rfl, hy⟩, hb3⟩; have HB3 := Lib.hid (HB2.out.trans (hb3.mono HB2.out.size)); have HX3 := Lib.hid (HX2.out.below hb3 (Nat.le_refl _)); have HY3 := Lib.hid hy; clear hb3 hy)
  go_upto_region 7 with (go_at_call 17; with_reducible refine (hT2 _ _ HY3.out).mono ?_; rintro e w4 ⟨rfl, hb4⟩; have HB4 := Lib.hid (HB3.out.trans (hb4.mono HB3.out.size)); have HX4 := Lib.hid (HX3.out.below hb4 (Nat.le_refl _)); have HY4 := Lib.hid (HY3.out.below hb4 (Nat.le_refl _)); clear hb4)
  have HV4 := Lib.hid (HV.out.below HB4.out (Nat.le_refl _))
  obtain ⟨A2, cap2, rfl, hd1, hd2, hd3⟩ := HY4.out
  have HD3 := Lib.hid hd3
  clear hd3
  have hmain : te = 0 ∨ te ≠ 0 := by omega
  rcases hmain with hte | hte
  · obtain ⟨e1, e2, e3, e4⟩ := HTB.out hte
    have HSZ : Hid (X.size = 8 * L.length) := Lib.hid (HXS.out.trans e3)
    have d3 : ((X.size : Int) == 8 * (L.length : Int)) = true := by rw [beq_iff_eq, HSZ.out]; omega
    have d4 : wrap64 (8 * (L.length : Int)) = 8 * (L.length : Int) := by unfold wrap64; omega
    have d5 : ((X.size : Int) != 8 * (L.length : Int)) = false := by rw [bne_eq_false_iff_eq, HSZ.out]; omega
    subst hte
    rw [e2] at hS
    rw [show decide (L = L) = true from decide_eq_true rfl] at hS
    rw [e2] at HX4
    rw [e1]
    clear e1 e2 e3 e4 HTB HXS HX2 HX3
    go_upto_region 9 with (go_at_call 21; with_reducible refine (hS _ _ HX4.out HV4.out).mono ?_; rintro e w5 ⟨rfl, hb5⟩; have HB5 := Lib.hid (HB4.out.trans (hb5.mono HB4.out.size)); have HLT5 := Lib.hid hb5; clear hb5)
    clear d3 d4 d5
    have HLT := HLT5
    go_wp2
    go_loopw [59] (fun ix wr => ∃ (j : Nat), j ≤ pl2.length ∧ ix = .int .i64 (j : Int) ∧ Below w4.heap.size w4 wr) (fun ix _ => pl2.length - (intOf ix).toNat)
    case atStart => exact ⟨0, Nat.zero_le _, rfl, HLT.out⟩
    case round =>
      obtain ⟨j, hj, rfl, hb⟩ := hrel
      have HR := Lib.hid hb
      clear hb
      by_cases hlt : j < pl2.length
      · obtain ⟨b, off, rfl, hb, hcell⟩ := HD3.out.resolve_left (by intro e; rw [e] at hlt; simp at hlt)
        obtain ⟨q0, q1, q2, q3⟩ := (hcell j hlt).below HR.out hb
        have hCh := entCheck_any (pl2.getD j EN.zero)
        have HCE : Hid (entE (pl2.getD j EN.zero) = 0) := Lib.hid (if_pos (HOK.out _ (by rw [List.getD, List.getElem?_eq_getElem hlt]; exact List.getElem_mem _)))
        rw [HCE.out] at hCh
        have hw1 := wrap_succ hlt hd1 hd2
        clear hcell hb HCE
        generalize pl2.getD j EN.zero = p at q0 q1 q2 q3 hCh
        obtain ⟨k, st, mb, fr⟩ := p
        unfold EN.v at hCh
        dsimp only at hCh q0 q1 q2 q3
        go_wp2_with (go_at_call 13; with_reducible refine (hCh _).mono ?_; rintro e w6 ⟨rfl, hb6⟩; have HR6 := Lib.hid ((HR.out.trans ((below1 wr (.cells #[.int .u8 k, .int .i64 st, .int .i64 mb, .int .i64 fr] 26)).mono HR.out.size)).trans (hb6.mono (by have := HR.out.size; simp; omega))); clear hb6)
        rw [hw1]
        clear hw1
        go_roundw
        case rel => exact ⟨j + 1, by omega, by go_num, HR6.out⟩
        case measure => simp [intOf]; omega
      · obtain rfl : j = pl2.length := by omega
        have HFIN := Lib.hid (HB4.out.trans (HR.out.mono HB4.out.size))
        rcases HYB.out with h | ⟨h1, h2, h3⟩
        · have d1 : (pe2 == 0) = false := by rw [beq_eq_false_iff_ne]; exact h
          have d2 : (pe2 != 0) = true := by rw [bne_iff_ne]; exact h
          go_wp2
          go_ret
          exact ⟨rfl, HFIN.out⟩
        · subst h1 h2 h3
          go_wp2
          go_ret
          exact ⟨rfl, HFIN.out⟩
  · have d1 : (te == 0) = false := by rw [beq_eq_false_iff_ne]; exact hte
    have d2 : (te != 0) = true := by rw [bne_iff_ne]; exact hte
    have HLT := Lib.hid (Below.refl w4.heap.size w4)
    clear HTB HXS HX2 HX3
    go_upto_region 9 with fail
    clear d1 d2 hte
    go_wp2
    go_loopw [59] (fun ix wr => ∃ (j : Nat), j ≤ pl2.length ∧ ix = .int .i64 (j : Int) ∧ Below w4.heap.size w4 wr) (fun ix _ => pl2.length - (intOf ix).toNat)
    case atStart => exact ⟨0, Nat.zero_le _, rfl, HLT.out⟩
    case round =>
      obtain ⟨j, hj, rfl, hb⟩ := hrel
      have HR := Lib.hid hb
      clear hb
      by_cases hlt : j < pl2.length
      · obtain ⟨b, off, rfl, hb, hcell⟩ := HD3.out.resolve_left (by intro e; rw [e] at hlt; simp at hlt)
        obtain ⟨q0, q1, q2, q3⟩ := (hcell j hlt).below HR.out hb
        have hCh := entCheck_any (pl2.getD j EN.zero)
        have HCE : Hid (entE (pl2.getD j EN.zero) = 0) := Lib.hid (if_pos (HOK.out _ (by rw [List.getD, List.getElem?_eq_getElem hlt]; exact List.getElem_mem _)))
        rw [HCE.out] at hCh
        have hw1 := wrap_succ hlt hd1 hd2
        clear hcell hb HCE
        generalize pl2.getD j EN.zero = p at q0 q1 q2 q3 hCh
        obtain ⟨k, st, mb, fr⟩ := p
        unfold EN.v at hCh
        dsimp only at hCh q0 q1 q2 q3
        go_wp2_with (go_at_call 13; with_reducible refine (hCh _).mono ?_; rintro e w6 ⟨rfl, hb6⟩; have HR6 := Lib.hid ((HR.out.trans ((below1 wr (.cells #[.int .u8 k, .int .i64 st, .int .i64 mb, .int .i64 fr] 26)).mono HR.out.size)).trans (hb6.mono (by have := HR.out.size; simp; omega))); clear hb6)
        rw [hw1]
        clear hw1
        go_roundw
        case rel => exact ⟨j + 1, by omega, by go_num, HR6.out⟩
        case measure => simp [intOf]; omega
      · obtain rfl : j = pl2.length := by omega
        have HFIN := Lib.hid (HB4.out.trans (HR.out.mono HB4.out.size))
        rcases HYB.out with h | ⟨h1, h2, h3⟩
        · have d1 : (pe2 == 0) = false := by rw [beq_eq_false_iff_ne]; exact h
          have d2 : (pe2 != 0) = true := by rw [bne_iff_ne]; exact h
          go_wp2
          go_ret
          exact ⟨rfl, HFIN.out⟩
        · subst h1 h2 h3
          go_wp2
          go_ret
          exact ⟨rfl, HFIN.out⟩
end Go.Proofs.Ytifhbaacljkleaa
