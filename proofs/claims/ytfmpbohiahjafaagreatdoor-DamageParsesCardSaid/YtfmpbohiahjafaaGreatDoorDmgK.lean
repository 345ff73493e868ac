/- Reports of damage: the program's Text. -/
import Derived.Test.YtfmpbohiahjafaaGreatDoorDmgJ
namespace Go.Proofs.YtfmpbohiahjafaaGreatDoor
open Go.RowKit Go.Lib Go.Shelf Go.Sort

set_option maxHeartbeats 8000000 in
theorem dmgText_any {w : World} {u v : Value} {W : List WD} {L : List LO} (hu : WdS w u W) (hv : LoS w v L) (hK : KsOk W) (hD : DmW w) :
    Calls Tryz.prog 7 #[.agg #[u, v]] w fun e w' => e = .returned (.tuple #[Bs (txL W L), .int .i64 (ckE W L)]) ∧ Below w.heap.size w w' := by
  have HCK : Hid (∀ V, Below w.heap.size w V → _) := Lib.hid (fun V hb => dmgCheck_any (hu.below hb (Nat.le_refl _)) (hv.below hb (Nat.le_refl _)) hK (hD.below hb))
  obtain ⟨r, hr⟩ : ∃ r, r = ckE W L := ⟨_, rfl⟩
  obtain ⟨tx, htx⟩ : ∃ tx, tx = txL W L := ⟨_, rfl⟩
  have HR := Lib.hid hr
  have HT := Lib.hid htx
  rw [← hr] at HCK ⊢
  rw [← htx]
  have HDM := Lib.hid hD
  clear hr htx hK hD
  obtain ⟨A, ca, rfl, ha1, ha2, ha3⟩ := hu
  obtain ⟨B, cb, rfl, hb1, hb2, hb3⟩ := hv
  obtain ⟨n, hn⟩ : ∃ n, n = W.length := ⟨_, rfl⟩
  obtain ⟨m, hm⟩ : ∃ m, m = L.length := ⟨_, rfl⟩
  have HN := Lib.hid hn
  have HM := Lib.hid hm
  have hnx : n ≤ maxLen := by rw [hn]; exact Nat.le_trans ha1 ha2
  have hmx : m ≤ maxLen := by rw [hm]; exact Nat.le_trans hb1 hb2
  have HNX := Lib.hid hnx
  have HMX := Lib.hid hmx
  have HA := Lib.hid ha3
  have HBB := Lib.hid hb3
  rw [← hn, ← hm] at HCK ⊢
  clear hn hm hnx hmx ha1 ha2 ha3 hb1 hb2 hb3
  have HX := box2 w (.slice A n ca) (.slice B m cb) 25
  have HB0 := Lib.hid (below_new w (.cells #[.slice A n ca, .slice B m cb] 25))
  go_enter Tryz.func7, Tryz.ntmps7
  go_upto_region 1 with fail
  have HQ : Hid (w.heap.size < (w.alloc (.cells #[.slice A n ca, .slice B m cb] 25)).heap.size ∧ w.heap.size + 1 = (w.alloc (.cells #[.slice A n ca, .slice B m cb] 25)).heap.size) := Lib.hid ⟨by simp, by simp⟩
  generalize w.alloc (.cells #[.slice A n ca, .slice B m cb] 25) = w1 at HX HB0 HQ ⊢
  rw [HQ.out.2] at HX
  obtain ⟨y0, y1⟩ := HX.out w1 (Below.refl _ _)
  have hCK := HCK.out w1 HB0.out
  clear HCK
  by_cases h0 : r = 0
  case neg =>
    have d0 : (r != 0) = true := by rw [bne_iff_ne]; exact h0
    have d1 : (r == 0) = false := by rw [beq_eq_false_iff_ne]; exact h0
    have HT2 : Hid (tx = []) := Lib.hid (by rw [HT.out]; unfold txL; rw [← HR.out, if_neg h0])
    clear h0
    go_wp2_with (go_at_call 12; (with_reducible refine hCK.mono ?_); rintro e w2 ⟨rfl, hb2⟩; have HB2 := Lib.hid (HB0.out.trans (hb2.mono HB0.out.size)); clear hb2)
    go_ret2
    exact ⟨by rw [HT2.out]; rfl, HB2.out⟩
  subst h0
  have HOK : Hid ((∀ x ∈ W, wdOk x = true) ∧ (∀ x ∈ L, loOk x = true) ∧ n + m ≤ 16384) := Lib.hid (by
    have h := ckE_iff.1 HR.out.symm
    exact ⟨h.2.1, h.2.2, by rw [HN.out, HM.out]; exact h.1⟩)
  have HT2 : Hid (tx = txB W L) := Lib.hid (by rw [HT.out]; unfold txL; rw [← HR.out, if_pos rfl])
  clear HR HT
  go_upto_region 4 with (go_at_call 12; (with_reducible refine hCK.mono ?_); rintro e w2 ⟨rfl, hb2⟩; have HB2 := Lib.hid hb2; clear hb2)
  obtain ⟨y2, y3⟩ := HX.out w2 HB2.out
  have HBW2 : Hid (Below w.heap.size w w2) := Lib.hid (HB0.out.trans (HB2.out.mono HB0.out.size))
  have HXX : Hid (∀ V, Below w2.heap.size w2 V → V.cell? ⟨w.heap.size, 0, none⟩ = some (.slice A n ca) ∧ V.cell? ⟨w.heap.size, 1, none⟩ = some (.slice B m cb)) := Lib.hid (fun V hb => HX.out V (HB2.out.trans (hb.mono HB2.out.size)))
  have HBF := Lib.hid (bldFresh w2 w2.heap.size (Nat.le_refl _))
  have HBN := Lib.hid (below_new w2 (.cells #[.pointer none, .slice none 0 0] 50))
  have hxx := HXX.out _ HBN.out
  clear hCK y0 y1 HX HQ y2 y3
  go_upto_region 5 with fail
  generalize w2.alloc (.cells #[.pointer none, .slice none 0 0] 50) = w3 at HBF HBN hxx ⊢
  obtain ⟨y2, y3⟩ := hxx
  go_wp2
  go_loopw [18] (fun ix wr => ∃ (j : Nat), j ≤ n ∧ ix = .int .i64 (j : Int) ∧ IsBld w2.heap.size w2.heap.size ((W.take j).flatMap fun x => wLn x ++ [10]) wr ∧ Below w2.heap.size w2 wr) (fun ix _ => n - (RowKit.intOf ix).toNat)
  case atStart => exact ⟨0, Nat.zero_le _, rfl, HBF.out, HBN.out⟩
  case round =>
    obtain ⟨j, hj, rfl, hown, hb⟩ := hrel
    have HB := Lib.hid hb
    have HO := Lib.hid hown
    clear hb hown
    by_cases hlt : j < n
    · obtain ⟨g, o, rfl, hglt, hk⟩ := HA.out.resolve_left (by intro e; have := HN.out; rw [e] at this; simp at this; omega)
      have hjL : j < W.length := by rw [← HN.out]; exact hlt
      have hbw : Below w.heap.size w wr := HBW2.out.trans (HB.out.mono HBW2.out.size)
      have hc := stAt (k := 5) hbw hglt hk hjL
      have hmem : W.getD j WD.zero ∈ W := by rw [List.getD, List.getElem?_eq_getElem hjL]; exact List.getElem_mem hjL
      have hok := HOK.out.1 _ hmem
      have hCj := woundLine_any hok (w := wr.alloc (.cells (W.getD j WD.zero).enc.toArray 42)) (HDM.out.below (hbw.alloc hbw.size _))
      have hln : (wLn (W.getD j WD.zero) ++ [10]).length ≤ 51 := by have := wLn_len hok; rw [List.length_append]; simpa using this
      have HT := Lib.hid (txW_take hjL)
      have HTL : Hid (((W.take j).flatMap fun x => wLn x ++ [10]).length ≤ 100000000) := Lib.hid (by
        have h1 := txW_bound (W := W.take j) (fun x hx => HOK.out.1 x (List.mem_of_mem_take hx))
        have h2 := HOK.out.2.2
        have h3 : (W.take j).length ≤ j := List.length_take_le ..
        omega)
      generalize ((W.take j).flatMap fun x => wLn x ++ [10]) = acc at HO HT HTL
      generalize W.getD j WD.zero = p at hc hCj hln HT
      generalize wLn p ++ [10] = ln at hCj hln HT
      obtain ⟨k, id, ix, pl, hl⟩ := p
      unfold WD.enc at hCj
      dsimp only at hCj
      have q0 : wr.cell? ⟨g, o + j * 5, none⟩ = some (.int .u8 k) := hc 0 _ rfl
      have q1 : wr.cell? ⟨g, o + j * 5 + 1, none⟩ = some (.int .i64 id) := hc 1 _ rfl
      have q2 : wr.cell? ⟨g, o + j * 5 + 2, none⟩ = some (.int .i64 ix) := hc 2 _ rfl
      have q3 : wr.cell? ⟨g, o + j * 5 + 3, none⟩ = some (.int .i64 pl) := hc 3 _ rfl
      have q4 : wr.cell? ⟨g, o + j * 5 + 4, none⟩ = some (.bool hl) := hc 4 _ rfl
      have HJ : Hid (j + 1 ≤ n ∧ n - (j + 1) < n - j ∧ ln.length ≤ 51) := Lib.hid ⟨hlt, by omega, hln⟩
      have hbx := (Below.refl wr.heap.size wr).alloc (Nat.le_refl _) (.cells #[.int .u8 k, .int .i64 id, .int .i64 ix, .int .i64 pl, .bool hl] 42)
      have HBX := Lib.hid (HB.out.trans (hbx.mono HB.out.size))
      have HO2 := Lib.hid (HO.out.below hbx)
      have hw1 := nextD hlt HNX.out
      have HSB := Lib.hid (bsz ln)
      clear hk hc hjL hbw hbx hmem hok hln
      go_wp2_with (first
        | (go_at_call 22; (with_reducible refine hCj.mono ?_); rintro e w4 ⟨rfl, hb2⟩; have HB4 := Lib.hid (HBX.out.trans (hb2.mono HBX.out.size)); have hWS := bldWriteString_any (HO2.out.below hb2) HB4.out.size ⟨ln.toArray⟩ (by rw [HSB.out]; have := HJ.out.2.2; have := HTL.out; omega); clear hb2)
        | (go_at_call 21; (with_reducible refine hWS.mono ?_); rintro e w5 ⟨rfl, hb3, hbl3, _, _⟩; have HB5 := Lib.hid (HB4.out.trans hbl3); have HO5 := Lib.hid hb3; clear hb3 hbl3))
      (try rw [hw1])
      clear hw1
      go_roundw
      case rel => exact ⟨j + 1, HJ.out.1, by go_num, by rw [HT.out]; exact .inr HO5.out, HB5.out⟩
      case measure => have h := HJ.out.2.1; simp only [RowKit.intOf]; omega
    · obtain rfl : j = n := by omega
      have e : W.take j = W := by rw [HN.out, List.take_length]
      rw [e] at HO
      clear e hlt hj
      have HWB : Hid ((W.flatMap fun x => wLn x ++ [10]).length ≤ 51 * 16384) := Lib.hid (by
        have h1 := txW_bound HOK.out.1
        have h2 := HOK.out.2.2
        have h3 := HN.out
        omega)
      have HTB : Hid (tx = (W.flatMap fun x => wLn x ++ [10]) ++ L.flatMap fun x => lLn x ++ [10]) := Lib.hid HT2.out
      obtain ⟨y4, y5⟩ := HXX.out wr HB.out
      generalize (W.flatMap fun x => wLn x ++ [10]) = pre at HO HWB HTB
      obtain ⟨wq, hwq⟩ : ∃ wq, wq = wr := ⟨_, rfl⟩
      rw [← hwq] at HB HO y4 y5 ⊢
      clear hwq
      go_wp2
      go_loopw [29] (fun ix wr => ∃ (j : Nat), j ≤ m ∧ ix = .int .i64 (j : Int) ∧ IsBld w2.heap.size w2.heap.size (pre ++ (L.take j).flatMap fun x => lLn x ++ [10]) wr ∧ Below w2.heap.size w2 wr) (fun ix _ => m - (RowKit.intOf ix).toNat)
      case atStart => exact ⟨0, Nat.zero_le _, rfl, by simpa using HO.out, HB.out⟩
      case round =>
        obtain ⟨i, hi, rfl, hown, hb⟩ := hrel
        have HBi := Lib.hid hb
        have HOi := Lib.hid hown
        clear hb hown
        by_cases hlt2 : i < m
        · obtain ⟨g, o, rfl, hglt, hk⟩ := HBB.out.resolve_left (by intro e; have := HM.out; rw [e] at this; simp at this; omega)
          have hjL : i < L.length := by rw [← HM.out]; exact hlt2
          have hbw : Below w.heap.size w wr := HBW2.out.trans (HBi.out.mono HBW2.out.size)
          have hc := stAt (k := 3) hbw hglt hk hjL
          have hmem : L.getD i LO.zero ∈ L := by rw [List.getD, List.getElem?_eq_getElem hjL]; exact List.getElem_mem hjL
          have hok := HOK.out.2.1 _ hmem
          have hCj := lostLine_any hok (w := wr.alloc (.cells (L.getD i LO.zero).enc.toArray 46)) (HDM.out.below (hbw.alloc hbw.size _))
          have hln : (lLn (L.getD i LO.zero) ++ [10]).length ≤ 51 := by have := lLn_len hok; rw [List.length_append]; simpa using this
          have HT : Hid (pre ++ ((L.take (i + 1)).flatMap fun x => lLn x ++ [10]) = (pre ++ ((L.take i).flatMap fun x => lLn x ++ [10])) ++ (lLn (L.getD i LO.zero) ++ [10])) := Lib.hid (by rw [txLo_take hjL, List.append_assoc])
          have HTL : Hid ((pre ++ (L.take i).flatMap fun x => lLn x ++ [10]).length ≤ 100000000) := Lib.hid (by
            have h1 := txLo_bound (L := L.take i) (fun x hx => HOK.out.2.1 x (List.mem_of_mem_take hx))
            have h2 := HOK.out.2.2
            have h3 : (L.take i).length ≤ i := List.length_take_le ..
            have h4 := HWB.out
            rw [List.length_append]
            omega)
          generalize (pre ++ (L.take i).flatMap fun x => lLn x ++ [10]) = acc at HOi HT HTL
          generalize L.getD i LO.zero = p at hc hCj hln HT
          generalize lLn p ++ [10] = ln at hCj hln HT
          obtain ⟨c, f, t⟩ := p
          unfold LO.enc at hCj
          dsimp only at hCj
          have q0 : wr.cell? ⟨g, o + i * 3, none⟩ = some (.int .i64 c) := hc 0 _ rfl
          have q1 : wr.cell? ⟨g, o + i * 3 + 1, none⟩ = some (.int .i64 f) := hc 1 _ rfl
          have q2 : wr.cell? ⟨g, o + i * 3 + 2, none⟩ = some (.int .i64 t) := hc 2 _ rfl
          have HJ : Hid (i + 1 ≤ m ∧ m - (i + 1) < m - i ∧ ln.length ≤ 51) := Lib.hid ⟨hlt2, by omega, hln⟩
          have hbx := (Below.refl wr.heap.size wr).alloc (Nat.le_refl _) (.cells #[.int .i64 c, .int .i64 f, .int .i64 t] 46)
          have HBX := Lib.hid (HBi.out.trans (hbx.mono HBi.out.size))
          have HO2 := Lib.hid (HOi.out.below hbx)
          have hw1 := nextD hlt2 HMX.out
          have HSB := Lib.hid (bsz ln)
          clear hk hc hjL hbw hbx hmem hok hln
          go_wp2_with (first
            | (go_at_call 23; (with_reducible refine hCj.mono ?_); rintro e w4 ⟨rfl, hb2⟩; have HB4 := Lib.hid (HBX.out.trans (hb2.mono HBX.out.size)); have hWS := bldWriteString_any (HO2.out.below hb2) HB4.out.size ⟨ln.toArray⟩ (by rw [HSB.out]; have := HJ.out.2.2; have := HTL.out; omega); clear hb2)
            | (go_at_call 21; (with_reducible refine hWS.mono ?_); rintro e w5 ⟨rfl, hb3, hbl3, _, _⟩; have HB5 := Lib.hid (HB4.out.trans hbl3); have HO5 := Lib.hid hb3; clear hb3 hbl3))
          (try rw [hw1])
          clear hw1
          go_roundw
          case rel => exact ⟨i + 1, HJ.out.1, by go_num, by rw [HT.out]; exact .inr HO5.out, HB5.out⟩
          case measure => have h := HJ.out.2.1; simp only [RowKit.intOf]; omega
        · obtain rfl : i = m := by omega
          have e : L.take i = L := by rw [HM.out, List.take_length]
          rw [e] at HOi
          clear e
          have hStr := bldString_any HOi.out HBi.out.size
          rw [← HTB.out] at hStr
          go_wp2_with (go_at_call 24; (with_reducible refine hStr.mono ?_); rintro e w6 ⟨rfl, hb2, _⟩; have HB6 := Lib.hid (HBi.out.trans hb2); clear hb2)
          go_ret2
          exact ⟨rfl, HBW2.out.trans (HB6.out.mono HBW2.out.size)⟩
end Go.Proofs.YtfmpbohiahjafaaGreatDoor
