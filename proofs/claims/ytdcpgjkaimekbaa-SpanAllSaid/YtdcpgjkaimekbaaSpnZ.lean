/- Spans: SpanAll. -/
import Derived.Test.YtdcpgjkaimekbaaSpnY
import Derived.Test.YtdcpgjkaimekbaaSpnI
namespace Go.Proofs.Ytdcpgjkaimekbaa
open Go.RowKit

theorem strInfo' : ∃ i, Try.prog.info? 9 = some i ∧ i.zero = some (.string ⟨#[]⟩) ∧ i.size = 1 ∧ i.bytes = 16 := by
  have e : (Try.prog.info? 9).map (fun i => (i.zero, i.size, i.bytes)) = some (some (.string ⟨#[]⟩), 1, 16) := by kernel_rfl
  obtain ⟨i, hi, hz⟩ := Option.map_eq_some_iff.1 e
  simp only [Prod.mk.injEq] at hz
  exact ⟨i, hi, hz.1, hz.2.1, hz.2.2⟩
theorem one_str (x : ByteArray) : ∀ u ∈ ([.string x] : List Value), u.oneCell' = true := by
  intro u hu
  rw [List.mem_singleton] at hu
  rw [hu]; rfl
theorem split_str (X : ByteArray) (k : Nat) : (X.extract 0 k).data.toList ++ (X.extract k X.size).data.toList = X.data.toList := by
  rw [ByteArray.data_extract, ByteArray.data_extract, Array.toList_extract, Array.toList_extract, List.extract_eq_take_drop, List.extract_eq_take_drop]
  rw [List.drop_zero, Nat.sub_zero, List.take_of_length_le (l := List.drop k X.data.toList) (by rw [List.length_drop]; simp), List.take_append_drop]
theorem sz_pre {X : ByteArray} {k : Nat} (h : k ≤ X.size) : (X.extract 0 k).size = k := by rw [ByteArray.size_extract]; omega
theorem sz_post (X : ByteArray) (k : Nat) : (X.extract k X.size).size = X.size - k := by rw [ByteArray.size_extract]; omega
/-- What Whole answers, as numbers. -/
theorem who_nat {S O N : Nat} {rf rt : Int} (ho : O ≤ 1099511627776) (hn : N ≤ 4096) (h : (⟨rf, rt⟩ : RG) = if (O + N) / S ≤ upF S O then RG.zero else ⟨(upF S O : Nat), ((O + N) / S : Nat)⟩) : ∃ f t : Nat, rf = (f : Int) ∧ rt = (t : Int) ∧ f ≤ t ∧ t ≤ 2199023255552 ∧ t - f = (O + N) / S - upF S O ∧ ∀ q, upF S O ≤ q → q < (O + N) / S → f ≤ q ∧ q < t := by
  have h1 : (O + N) / S ≤ O + N := Nat.div_le_self _ _
  by_cases hc : (O + N) / S ≤ upF S O
  · rw [if_pos hc] at h
    injection h with a b
    exact ⟨0, 0, a, b, Nat.le_refl _, by omega, by omega, fun q h1 h2 => by omega⟩
  · rw [if_neg hc] at h
    injection h with a b
    exact ⟨_, _, a, b, by omega, by omega, rfl, fun q h1 h2 => ⟨h1, h2⟩⟩
theorem byte_eq {a b : ByteArray} (h : a.data.toList = b.data.toList) : a = b := by
  apply ByteArray.ext
  exact Array.ext' h
/-- A part more. -/
theorem fit_next {S q u y k : Nat} {L : List SP} {ps : List ByteArray} {j : Nat} {x : ByteArray} (hpl : ps.length = j) (h : ∀ i, i < j → fitB (S : Int) (L.getD i SP.zero) (ps.getD i ⟨#[]⟩).size = true) (hg : L.getD j SP.zero = ⟨(q : Int), (u : Int), (y : Int)⟩) (hx : x.size = k) (hf : fitB (S : Int) ⟨(q : Int), (u : Int), (y : Int)⟩ k = true) :
    ∀ i, i < j + 1 → fitB (S : Int) (L.getD i SP.zero) ((ps ++ [x]).getD i ⟨#[]⟩).size = true := by
  intro i hi
  by_cases e : i = j
  · rw [e, hg, List.getD_eq_getElem?_getD (l := ps ++ [x]), List.getElem?_append_right (by omega), show j - ps.length = 0 by omega]
    show fitB _ _ x.size = true
    rw [hx]; exact hf
  · have := h i (by omega)
    rw [List.getD_eq_getElem?_getD (l := ps ++ [x]), List.getElem?_append_left (by omega), ← List.getD_eq_getElem?_getD]
    exact this
theorem cat_next {X s : ByteArray} {ps : List ByteArray} {k : Nat} (h : catL ps ++ X.data.toList = s.data.toList) : catL (ps ++ [X.extract 0 k]) ++ (X.extract k X.size).data.toList = s.data.toList := by
  rw [catL_snoc, List.append_assoc, split_str, h]
set_option maxRecDepth 100000 in
set_option maxHeartbeats 8000000 in
theorem spanAll_walk {w : World} (s off : Int) (str : ByteArray) (hsb : -9223372036854775808 ≤ s ∧ s < 9223372036854775808) (hst : str.size ≤ 140737488351232) :
    Calls Try.prog 7 #[.int .i64 s, .int .i64 off, .string str] w fun e w' => e = .returned (.bool true) ∧ Below w.heap.size w w' := by
  have hLv := spnLives_any w
  by_cases hlong : 4096 < str.size
  · have d0 : decide ((4096 : Int) < (str.size : Int)) = true := decide_eq_true (by omega)
    have d0' : decide (4096 < str.size) = true := decide_eq_true hlong
    go_enter Try.func7, Try.ntmps7
    go_wp2_with (go_at_call 22; (with_reducible refine hLv.mono ?_); rintro e w1 ⟨rfl, hb1⟩)
    go_ret
    exact ⟨rfl, hb1⟩
  have d0 : decide ((4096 : Int) < (str.size : Int)) = false := decide_eq_false (by omega)
  have d0' : decide (4096 < str.size) = false := decide_eq_false hlong
  obtain ⟨N, hN⟩ : ∃ N : Nat, N = str.size := ⟨_, rfl⟩
  have hN1 : (str.size : Int) = (N : Int) := by rw [hN]
  have HN := Lib.hid hN
  have hNb : N ≤ 4096 := by omega
  have hC := spanCut_any s off (N : Int)
  have hW := spanWhole_any s off (N : Int)
  cases hrt : rightB s off (N : Int)
  · -- there are no such bytes
    have hce : cutE s off (N : Int) = 1 := by
      rcases cutE_cases s off (N : Int) with ⟨_, h⟩ | ⟨h, _⟩ | ⟨h, _⟩
      · exact h
      · rw [h] at hrt; cases hrt
      · rw [h] at hrt; cases hrt
    rw [hce, cutL_no (by rw [hce]; decide)] at hC
    rw [(who_no hrt).1, (who_no hrt).2] at hW
    clear hce hrt hN hlong HN
    go_enter Try.func7, Try.ntmps7
    go_wp2_with (go_at_call 22; (with_reducible refine hLv.mono ?_); rintro e w1 ⟨rfl, hb1⟩; have HB1 := Lib.hid hb1; clear hb1)
    (with_reducible refine (hC _).mono ?_)
    rintro e w2 ⟨x2, rfl, hx2, hb2⟩
    have HB2 := Lib.hid (HB1.out.trans (hb2.mono HB1.out.size))
    obtain ⟨A2, c2, rfl⟩ := hx2.form
    clear hx2 hb2 HB1
    go_wp2_with fail
    (with_reducible refine (hW _).mono ?_)
    rintro e w3 ⟨rfl, hb3⟩
    have HB3 := Lib.hid (HB2.out.trans (hb3.mono HB2.out.size))
    clear hb3 HB2
    go_wp2_with fail
    go_ret
    exact ⟨rfl, HB3.out.alloc HB3.out.size _⟩
  obtain ⟨h1, h2, h3⟩ := (rightB_iff _ _ _).1 hrt
  rw [szOk_iff] at h1
  rw [byOk_iff] at h2
  obtain ⟨S, rfl⟩ : ∃ S : Nat, s = (S : Int) := ⟨s.toNat, by omega⟩
  obtain ⟨O, rfl⟩ : ∃ O : Nat, off = (O : Int) := ⟨off.toNat, by omega⟩
  have hs : 0 < S := by omega
  have hS2 : S ≤ 65536 := by omega
  have hO2 : O ≤ 1099511627776 := by omega
  have hce : cutE (S : Int) (O : Int) (N : Int) = 0 := by
    rcases cutE_cases (S : Int) (O : Int) (N : Int) with ⟨h, _⟩ | ⟨_, h, _⟩ | ⟨_, _, h⟩
    · rw [h] at hrt; cases hrt
    · omega
    · exact h
  obtain ⟨L, hL⟩ : ∃ L, L = cutN S O N := ⟨_, rfl⟩
  have hcl : cutL (S : Int) (O : Int) (N : Int) = L := by unfold cutL; rw [if_pos hce, Int.toNat_natCast, Int.toNat_natCast, Int.toNat_natCast, hL]
  rw [hce, hcl] at hC
  obtain ⟨hw1, hw2⟩ := who_yes hs hrt
  rw [hw1] at hW
  have HWR : Hid ((whoR (S : Int) (O : Int) (N : Int)) = if (O + N) / S ≤ upF S O then RG.zero else ⟨(upF S O : Nat), ((O + N) / S : Nat)⟩) := Lib.hid hw2
  have HSA : Hid (SA S O N L 0 O N 0) := Lib.hid (by rw [hL]; exact SA.start hs)
  have HLL : Hid (L.length ≤ 4096) := Lib.hid (by rw [hL]; have := cutN_len hs N O; omega)
  have HSZ : Hid (szOk (S : Int) = true) := Lib.hid ((szOk_iff _).2 h1)
  generalize whoR (S : Int) (O : Int) (N : Int) = wr0 at hW HWR
  obtain ⟨rf, rt⟩ := wr0
  dsimp only at hW
  obtain ⟨f, t, rfl, rfl, hft, ht2, hwt, hin⟩ := who_nat hO2 hNb HWR.out
  have HWT := Lib.hid hwt
  have HIN := Lib.hid hin
  clear hwt hin HWR
  obtain ⟨i0, hi, hz0, hz1, hz2⟩ := strInfo'
  clear h1 h2 h3 hrt hce hcl hL hw1 hw2 hlong hN hsb hst
  go_enter Try.func7, Try.ntmps7
  go_wp2_with (go_at_call 22; (with_reducible refine hLv.mono ?_); rintro e w1 ⟨rfl, hb1⟩; have HB1 := Lib.hid hb1; clear hb1)
  (with_reducible refine (hC _).mono ?_)
  rintro e w2 ⟨x2, rfl, hx2, hb2⟩
  have HX2 := Lib.hid hx2
  have HB2 := Lib.hid (HB1.out.trans (hb2.mono HB1.out.size))
  obtain ⟨A2, c2, rfl⟩ := hx2.form
  clear hx2 hb2 HB1
  go_wp2_with fail
  (with_reducible refine (hW _).mono ?_)
  rintro e w3 ⟨rfl, hb3⟩
  have HX3 := Lib.hid (HX2.out.below hb3 (Nat.le_refl _))
  have HB3 := Lib.hid (HB2.out.trans (hb3.mono HB2.out.size))
  clear hb3 HB2 HX2
  go_wp2_with fail
  have hq4 := below_new w3 (.cells #[.int .i64 (f : Int), .int .i64 (t : Int)] 51)
  have HK4 := Lib.hid (BkC.new w3 [.int .i64 (f : Int), .int .i64 (t : Int)] 51)
  have HX4 := Lib.hid (HX3.out.below hq4 (Nat.le_refl _))
  have HB4 := Lib.hid (HB3.out.trans (hq4.mono HB3.out.size))
  generalize w3.alloc (.cells #[.int .i64 (f : Int), .int .i64 (t : Int)] 51) = w4 at HK4 HX4 HB4 ⊢
  generalize w3.heap.size = br at HK4 ⊢
  clear hq4 HX3 HB3
  obtain ⟨_, _, hv4, hc4, hm4, hl4⟩ := HX4.out
  injection hv4 with e1 _ e3
  subst e1 e3
  have HL4 := Lib.hid hl4
  clear hl4
  go_loopw [11, 12, 13, 14, 55] (fun ax hx rx vx ix wr => ∃ (j o r wh : Nat) (X : ByteArray) (z : Value) (ps : List ByteArray), ax = .int .i64 (o : Int) ∧ hx = .int .i64 (wh : Int) ∧ rx = .string X ∧ z = vx ∧ ix = .int .i64 (j : Int) ∧ SA S O N L j o r wh ∧ X.size = r ∧ catL ps ++ X.data.toList = str.data.toList ∧ ps.length = j ∧ wh ≤ j ∧ (∀ i, i < j → fitB (S : Int) (L.getD i SP.zero) (ps.getD i ⟨#[]⟩).size = true) ∧ wr.ownsRow w4.heap.size 9 1 z j (ps.flatMap sEnc) ∧ Below w4.heap.size w4 wr) (fun _ _ _ _ ix _ => L.length - (intOf ix).toNat)
  case atStart => exact ⟨0, O, N, 0, str, .slice none 0 0, [], rfl, rfl, rfl, rfl, rfl, HSA.out, HN.out.symm, rfl, rfl, Nat.le_refl _, (fun i h => absurd h (by omega)), World.ownsRow_nil _ _ _ _, Below.refl _ _⟩
  case round =>
    obtain ⟨j, o, r, wh, X, z, ps, rfl, rfl, rfl, rfl, rfl, hsa, hXr, hcat, hpl, hwj, hfit, hown, hB⟩ := hrel
    have HBW := Lib.hid hB
    have HB := Lib.hid (HB4.out.trans (hB.mono HB4.out.size))
    have HOWN := Lib.hid hown
    have HSJ := Lib.hid hsa
    have HCAT := Lib.hid hcat
    have HPL := Lib.hid hpl
    have HFIT := Lib.hid hfit
    have HXR := Lib.hid hXr
    have hjl : j ≤ L.length := hsa.jl
    have hj4 : j ≤ 4096 := by have := HLL.out; omega
    have hob : o ≤ 1099511631872 ∧ r ≤ 4096 := by have := hsa.sum; have := hsa.lo; omega
    obtain ⟨hob1, hrb⟩ := hob
    clear hB hown hsa hcat hpl hfit HSA
    by_cases hr : r = 0
    · subst hr
      obtain ⟨hjL, hwE⟩ := HSJ.out.done
      have hlt : decide ((j : Int) < (L.length : Int)) = false := decide_eq_false (by omega)
      have hlt' : decide (j < L.length) = false := decide_eq_false (by omega)
      have hX0 : X = ⟨#[]⟩ := byte_eq (by
        have h9 := HXR.out
        have : X.data.toList.length = 0 := by rw [Array.length_toList]; exact h9
        rw [List.eq_nil_of_length_eq_zero this])
      subst hX0
      have hcs : (⟨(catL ps).toArray⟩ : ByteArray) = str := byte_eq (by
        have h9 := HCAT.out
        rw [show (⟨#[]⟩ : ByteArray).data.toList = [] from rfl, List.append_nil] at h9
        simpa using h9)
      have hjo := joi_yes HSZ.out (show joiOk (S : Int) L ps from ⟨by rw [HPL.out]; omega, fun i hi => HFIT.out i (by omega)⟩)
      have ho := HOWN.out
      have hJ := spanJoin_any (S : Int) L ps (.slice A2 L.length c2) z wr (HX4.out.below HBW.out (Nat.le_refl _)) (StS.of_own sEnc_len (by rw [HPL.out]; exact ho)) (by rw [HPL.out]; omega)
      rw [hjo.1, hjo.2, hcs] at hJ
      have hk := HK4.out.below HBW.out
      have HKW := Lib.hid hk
      have e7 : (t : Int) - (f : Int) = (wh : Int) := by have := HWT.out; omega
      have e8 : ((wh : Int) == (wh : Int)) = true := by simp
      have hwb : wh ≤ 4096 := by omega
      clear ho hjo hcs hk hjL hwE HSJ HCAT HFIT HXR
      go_wp2_with fail
      (with_reducible refine hJ.mono ?_)
      rintro e w5 ⟨rfl, hb5⟩
      have hk5 := HKW.out.below hb5
      have y0 := hk5.c 0 _ rfl
      have y1 := hk5.c 1 _ rfl
      have HB5 := Lib.hid (HB.out.trans (hb5.mono HB.out.size))
      clear hk5 hb5 hJ
      go_wp2_with fail
      go_ret
      exact ⟨rfl, HB5.out⟩
    · obtain ⟨q, u, k, hq, hqu, hk0, hkr, huk, hjlt, hget, hfull, hprev, hnext⟩ := HSJ.out.step hs hr
      have HFULL : Hid (k = S → f ≤ q ∧ q < t) := Lib.hid (fun h => HIN.out q (hfull h).1 (hfull h).2)
      have HNEXT := Lib.hid hnext
      obtain ⟨y, hy⟩ : ∃ y : Nat, y = u + k := ⟨_, rfl⟩
      obtain ⟨c, hc⟩ : ∃ c : Nat, c = q * S := ⟨_, rfl⟩
      rw [← hy] at hget huk
      rw [← hc] at hqu
      have hqb : q ≤ o := by rw [hq]; exact Nat.div_le_self _ _
      have e1 : (y : Int) - (u : Int) = (k : Int) := by omega
      have ecc : (q : Int) * (S : Int) = (c : Int) := by rw [hc]; push_cast; rfl
      have M1 : Hid (IntKind.i64.wrap ((q : Int) * (S : Int)) = (c : Int)) := Lib.hid (by rw [ecc, IntKind.wrap_i64]; omega)
      have M2 : Hid (wrap64 ((q : Int) * (S : Int)) = (c : Int)) := Lib.hid (by rw [ecc]; unfold wrap64; omega)
      have M3 : Hid (IntKind.i64.wrap ((c : Int) + (u : Int)) = (o : Int)) := Lib.hid (by rw [IntKind.wrap_i64]; omega)
      have M4 : Hid ((c : Int) + (u : Int) = (o : Int)) := Lib.hid (by omega)
      have d1 : decide ((k : Int) < (1 : Int)) = false := decide_eq_false (by omega)
      have d1' : decide (k < 1) = false := decide_eq_false (by omega)
      have hXs : (X.size : Int) = (r : Int) := by rw [HXR.out]
      have d2 : decide ((r : Int) < (k : Int)) = false := decide_eq_false (by omega)
      have d2' : decide (r < k) = false := decide_eq_false (by omega)
      have d3 : ((o : Int) != (o : Int)) = false := by simp
      have d3' : ((o : Int) == (o : Int)) = true := by simp
      have hlt : decide ((j : Int) < (L.length : Int)) = true := decide_eq_true (by omega)
      obtain ⟨b, off, rfl, hbl, hcell⟩ := HL4.out.resolve_left (by intro e; rw [e] at hjlt; simp at hjlt)
      have HCE : Hid (∀ i, i < L.length → wr.cell? ⟨b, off + i * 3, none⟩ = some (.int .i64 (L.getD i SP.zero).b) ∧ wr.cell? ⟨b, off + i * 3 + 1, none⟩ = some (.int .i64 (L.getD i SP.zero).f) ∧ wr.cell? ⟨b, off + i * 3 + 2, none⟩ = some (.int .i64 (L.getD i SP.zero).t)) := Lib.hid (fun i hi => ⟨(HBW.out.cell (p := ⟨b, off + i * 3, none⟩) hbl).trans (hcell i hi 0 _ rfl), (HBW.out.cell (p := ⟨b, off + i * 3 + 1, none⟩) hbl).trans (hcell i hi 1 _ rfl), (HBW.out.cell (p := ⟨b, off + i * 3 + 2, none⟩) hbl).trans (hcell i hi 2 _ rfl)⟩)
      have HBL : Hid (b < wr.heap.size) := Lib.hid (Nat.lt_of_lt_of_le hbl HBW.out.size)
      obtain ⟨q0, q1, q2⟩ := HCE.out j hjlt
      rw [hget] at q0 q1 q2
      dsimp only at q0 q1 q2
      have HGET := Lib.hid hget
      have HPREV := Lib.hid hprev
      have HFK : Hid (fitB (S : Int) ⟨(q : Int), (u : Int), (y : Int)⟩ k = true) := Lib.hid ((fitB_iff _ _ _).2 (by dsimp only; omega))
      have HX := Lib.hid (Sp3.new wr ⟨(q : Int), (u : Int), (y : Int)⟩ 63)
      have HBX := Lib.hid (below_new wr (.cells #[.int .i64 (q : Int), .int .i64 (u : Int), .int .i64 (y : Int)] 63))
      dsimp only at HX
      clear hq hqu hfull hprev hnext hget hc hy ecc hcell hbl HIN
      go_upto_region 15 with fail
      generalize hw1 : wr.alloc (.cells #[.int .i64 (q : Int), .int .i64 (u : Int), .int .i64 (y : Int)] 63) = w5 at HX HBX ⊢
      generalize hbx : wr.heap.size = bx at HX ⊢
      clear q0 q1 q2 hw1
      obtain ⟨_, x0, x1, x2⟩ := HX.out
      dsimp only at x0 x1 x2
      go_upto_region 16 with fail
      have w1' := M1.out
      have w2' := M2.out
      have w3' := M3.out
      have w4' := M4.out
      rcases Nat.eq_zero_or_pos j with hj0 | hj0
      · subst hj0
        go_quiet (fail)
        have HB6' := Lib.hid ((HBW.out.trans (HBX.out.mono HBW.out.size)).trans ((below_drewN (Below.refl _ w5) nq).mono (by have := HBX.out.size; have := HBW.out.size; omega)))
        have HO6' := Lib.hid (ownS_keep (ownS_keep HOWN.out HBX.out) (below_drewN (Below.refl _ w5) nq))
        have HX6 := Lib.hid (HX.out.below (below_drewN (Below.refl _ w5) nq))
        have HR6 := Lib.hid (HK4.out.below HB6'.out)
        generalize w5.drewN nq = w6 at HB6' HO6' HX6 HR6 ⊢
        have HB6 := HB6'
        have HO6 := HO6'
        clear HB6' HO6' x0 x1 x2 w1' w2' w3' w4' HX HBX d1 d1' d2 d2' d3 d3'
        by_cases hkS : k = S
        · have hFT := HFULL.out hkS
          subst hkS
          have g1 : decide ((q : Int) < (f : Int)) = false := decide_eq_false (by omega)
          have g1' : decide (q < f) = false := decide_eq_false (by omega)
          have g2 : decide ((t : Int) ≤ (q : Int)) = false := decide_eq_false (by omega)
          have g2' : decide (t ≤ q) = false := decide_eq_false (by omega)
          have g3 : ((k : Int) == (k : Int)) = true := by simp
          obtain ⟨_, x0, x1, x2⟩ := HX6.out
          dsimp only at x0 x1 x2
          have r0 := HR6.out.c 0 _ rfl
          have r1 := HR6.out.c 1 _ rfl
          have hNX := HNEXT.out
          rw [if_pos rfl] at hNX
          have HNX := Lib.hid hNX
          have HXK := Lib.hid (split_str X k)
          have hkX : k ≤ X.size := by have := HXR.out; omega
          have HSP : Hid ((X.extract 0 k).size = k) := Lib.hid (sz_pre hkX)
          have HSQ : Hid ((X.extract k X.size).size = r - k) := Lib.hid (by rw [sz_post, HXR.out])
          have HFN := Lib.hid (fit_next (x := X.extract 0 k) HPL.out HFIT.out HGET.out HSP.out HFK.out)
          have HCN := Lib.hid (cat_next (k := k) HCAT.out)
          clear hNX
          go_wp2_with (at_builtin; (refine wpList_append_own _ rfl _ _ 46 rfl w4.heap.size 9 i0 _ 1 16 Try.underlying46 hi hz0 hz1 hz2 rfl (by decide) _ _ _ rfl (HO6.out.alloc _) ⟨w6.heap.size, 0, none⟩ 1 1 [.string (X.extract 0 k)] rfl rfl (new_cells w6 [.string (X.extract 0 k)] _) (one_str _) (by unfold maxLen; omega) (by omega) (by have := HB6.out.size; simp; omega) ?_); intro v' w7 hown7 hgrow _)
          have hB7 : Below w4.heap.size w4 w7 := (HB6.out.alloc HB6.out.size _).grown hgrow (by have := HB6.out.size; simp; omega) (fun g hg => (World.ownsRow.lt HO6.out g hg).1)
          go_roundw
          case rel => exact ⟨0 + 1, o + k, r - k, wh + 1, X.extract k X.size, v', ps ++ [X.extract 0 k], congrArg (Value.int .i64) (by omega), congrArg (Value.int .i64) (by omega), congrArg Value.string (by rw [HXR.out]), rfl, congrArg (Value.int .i64) (by omega), HNX.out, HSQ.out, HCN.out, by rw [List.length_append, HPL.out]; rfl, by omega, HFN.out, by rw [flat_snoc]; exact hown7, hB7⟩
          case measure => simp [intOf]; omega
        · have g3 : ((k : Int) == (S : Int)) = false := by rw [beq_eq_false_iff_ne]; omega
          have g3' : (k == S) = false := by rw [beq_eq_false_iff_ne]; exact hkS
          have hNX := HNEXT.out
          rw [if_neg hkS] at hNX
          have HNX := Lib.hid hNX
          have HXK := Lib.hid (split_str X k)
          have hkX : k ≤ X.size := by have := HXR.out; omega
          have HSP : Hid ((X.extract 0 k).size = k) := Lib.hid (sz_pre hkX)
          have HSQ : Hid ((X.extract k X.size).size = r - k) := Lib.hid (by rw [sz_post, HXR.out])
          have HFN := Lib.hid (fit_next (x := X.extract 0 k) HPL.out HFIT.out HGET.out HSP.out HFK.out)
          have HCN := Lib.hid (cat_next (k := k) HCAT.out)
          clear hNX
          go_wp2_with (at_builtin; (refine wpList_append_own _ rfl _ _ 46 rfl w4.heap.size 9 i0 _ 1 16 Try.underlying46 hi hz0 hz1 hz2 rfl (by decide) _ _ _ rfl (HO6.out.alloc _) ⟨w6.heap.size, 0, none⟩ 1 1 [.string (X.extract 0 k)] rfl rfl (new_cells w6 [.string (X.extract 0 k)] _) (one_str _) (by unfold maxLen; omega) (by omega) (by have := HB6.out.size; simp; omega) ?_); intro v' w7 hown7 hgrow _)
          have hB7 : Below w4.heap.size w4 w7 := (HB6.out.alloc HB6.out.size _).grown hgrow (by have := HB6.out.size; simp; omega) (fun g hg => (World.ownsRow.lt HO6.out g hg).1)
          go_roundw
          case rel => exact ⟨0 + 1, o + k, r - k, wh, X.extract k X.size, v', ps ++ [X.extract 0 k], congrArg (Value.int .i64) (by omega), rfl, congrArg Value.string (by rw [HXR.out]), rfl, congrArg (Value.int .i64) (by omega), HNX.out, HSQ.out, HCN.out, by rw [List.length_append, HPL.out]; rfl, by omega, HFN.out, by rw [flat_snoc]; exact hown7, hB7⟩
          case measure => simp [intOf]; omega
      · obtain ⟨i, rfl⟩ : ∃ i, j = i + 1 := ⟨j - 1, by omega⟩
        obtain ⟨pc, _, _⟩ := HCE.out i (by omega)
        have hpv := HPREV.out hj0
        rw [Nat.add_sub_cancel] at hpv
        obtain ⟨pv, hpv2⟩ : ∃ pv, pv = (L.getD i SP.zero).b := ⟨_, rfl⟩
        rw [← hpv2] at pc hpv
        have pc5 := (HBX.out.cell (p := ⟨b, off + i * 3, none⟩) HBL.out).trans pc
        have n0 : decide ((0 : Int) < (i : Int) + 1) = true := decide_eq_true (by omega)
        have n3 : ((q : Int) != (q : Int)) = false := by simp
        have N1 : Hid (IntKind.i64.wrap (pv + 1) = (q : Int)) := Lib.hid (by rw [hpv, IntKind.wrap_i64]; omega)
        have hpi : i < L.length := by omega
        have n1 := N1.out
        clear pc hpv2
        go_quiet (fail)
        have HB6' := Lib.hid ((HBW.out.trans (HBX.out.mono HBW.out.size)).trans ((below_drewN (Below.refl _ w5) nq).mono (by have := HBX.out.size; have := HBW.out.size; omega)))
        have HO6' := Lib.hid (ownS_keep (ownS_keep HOWN.out HBX.out) (below_drewN (Below.refl _ w5) nq))
        have HX6 := Lib.hid (HX.out.below (below_drewN (Below.refl _ w5) nq))
        have HR6 := Lib.hid (HK4.out.below HB6'.out)
        generalize w5.drewN nq = w6 at HB6' HO6' HX6 HR6 ⊢
        have HB6 := HB6'
        have HO6 := HO6'
        clear HB6' HO6' x0 x1 x2 w1' w2' w3' w4' HX HBX d1 d1' d2 d2' d3 d3'
        by_cases hkS : k = S
        · have hFT := HFULL.out hkS
          subst hkS
          have g1 : decide ((q : Int) < (f : Int)) = false := decide_eq_false (by omega)
          have g1' : decide (q < f) = false := decide_eq_false (by omega)
          have g2 : decide ((t : Int) ≤ (q : Int)) = false := decide_eq_false (by omega)
          have g2' : decide (t ≤ q) = false := decide_eq_false (by omega)
          have g3 : ((k : Int) == (k : Int)) = true := by simp
          obtain ⟨_, x0, x1, x2⟩ := HX6.out
          dsimp only at x0 x1 x2
          have r0 := HR6.out.c 0 _ rfl
          have r1 := HR6.out.c 1 _ rfl
          have hNX := HNEXT.out
          rw [if_pos rfl] at hNX
          have HNX := Lib.hid hNX
          have HXK := Lib.hid (split_str X k)
          have hkX : k ≤ X.size := by have := HXR.out; omega
          have HSP : Hid ((X.extract 0 k).size = k) := Lib.hid (sz_pre hkX)
          have HSQ : Hid ((X.extract k X.size).size = r - k) := Lib.hid (by rw [sz_post, HXR.out])
          have HFN := Lib.hid (fit_next (x := X.extract 0 k) HPL.out HFIT.out HGET.out HSP.out HFK.out)
          have HCN := Lib.hid (cat_next (k := k) HCAT.out)
          clear hNX
          go_wp2_with (at_builtin; (refine wpList_append_own _ rfl _ _ 46 rfl w4.heap.size 9 i0 _ 1 16 Try.underlying46 hi hz0 hz1 hz2 rfl (by decide) _ _ _ rfl (HO6.out.alloc _) ⟨w6.heap.size, 0, none⟩ 1 1 [.string (X.extract 0 k)] rfl rfl (new_cells w6 [.string (X.extract 0 k)] _) (one_str _) (by unfold maxLen; omega) (by omega) (by have := HB6.out.size; simp; omega) ?_); intro v' w7 hown7 hgrow _)
          have hB7 : Below w4.heap.size w4 w7 := (HB6.out.alloc HB6.out.size _).grown hgrow (by have := HB6.out.size; simp; omega) (fun g hg => (World.ownsRow.lt HO6.out g hg).1)
          go_roundw
          case rel => exact ⟨i + 1 + 1, o + k, r - k, wh + 1, X.extract k X.size, v', ps ++ [X.extract 0 k], congrArg (Value.int .i64) (by omega), congrArg (Value.int .i64) (by omega), congrArg Value.string (by rw [HXR.out]), rfl, congrArg (Value.int .i64) (by omega), HNX.out, HSQ.out, HCN.out, by rw [List.length_append, HPL.out]; rfl, by omega, HFN.out, by rw [flat_snoc]; exact hown7, hB7⟩
          case measure => simp [intOf]; omega
        · have g3 : ((k : Int) == (S : Int)) = false := by rw [beq_eq_false_iff_ne]; omega
          have g3' : (k == S) = false := by rw [beq_eq_false_iff_ne]; exact hkS
          have hNX := HNEXT.out
          rw [if_neg hkS] at hNX
          have HNX := Lib.hid hNX
          have HXK := Lib.hid (split_str X k)
          have hkX : k ≤ X.size := by have := HXR.out; omega
          have HSP : Hid ((X.extract 0 k).size = k) := Lib.hid (sz_pre hkX)
          have HSQ : Hid ((X.extract k X.size).size = r - k) := Lib.hid (by rw [sz_post, HXR.out])
          have HFN := Lib.hid (fit_next (x := X.extract 0 k) HPL.out HFIT.out HGET.out HSP.out HFK.out)
          have HCN := Lib.hid (cat_next (k := k) HCAT.out)
          clear hNX
          go_wp2_with (at_builtin; (refine wpList_append_own _ rfl _ _ 46 rfl w4.heap.size 9 i0 _ 1 16 Try.underlying46 hi hz0 hz1 hz2 rfl (by decide) _ _ _ rfl (HO6.out.alloc _) ⟨w6.heap.size, 0, none⟩ 1 1 [.string (X.extract 0 k)] rfl rfl (new_cells w6 [.string (X.extract 0 k)] _) (one_str _) (by unfold maxLen; omega) (by omega) (by have := HB6.out.size; simp; omega) ?_); intro v' w7 hown7 hgrow _)
          have hB7 : Below w4.heap.size w4 w7 := (HB6.out.alloc HB6.out.size _).grown hgrow (by have := HB6.out.size; simp; omega) (fun g hg => (World.ownsRow.lt HO6.out g hg).1)
          go_roundw
          case rel => exact ⟨i + 1 + 1, o + k, r - k, wh, X.extract k X.size, v', ps ++ [X.extract 0 k], congrArg (Value.int .i64) (by omega), rfl, congrArg Value.string (by rw [HXR.out]), rfl, congrArg (Value.int .i64) (by omega), HNX.out, HSQ.out, HCN.out, by rw [List.length_append, HPL.out]; rfl, by omega, HFN.out, by rw [flat_snoc]; exact hown7, hB7⟩
          case measure => simp [intOf]; omega
theorem spanAll_any {w : World} (s : Int) (hs : (Lit.int .i64 s).wf = true) (off : Int) (_ : (Lit.int .i64 off).wf = true) (str : ByteArray) (_ : str.size ≤ maxLen) (hst : str.size ≤ 140737488351232) :
    Calls Try.prog 7 #[.int .i64 s, .int .i64 off, .string str] w fun e w' => e = .returned (.bool true) ∧ Below w.heap.size w w' :=
  spanAll_walk s off str (by have := td_i64 hs; omega) hst
end Go.Proofs.Ytdcpgjkaimekbaa
