/- Spans: Cut, the document's; Same of spans, and of ranges. -/
import Derived.Test.YtdcpgjkaimekbaaSpnC
import Derived.Deep.Cut
namespace Go.Proofs.Ytdcpgjkaimekbaa
open Go.RowKit

set_option maxRecDepth 100000 in
set_option maxHeartbeats 2000000 in
theorem rCut_any (s off n : Int) (w : World) (hi : -9223372036854775808 ≤ s ∧ s < 9223372036854775808) :
    Calls Try.prog 24 #[.int .i64 s, .int .i64 off, .int .i64 n] w fun e w' => ∃ x, e = .returned (.tuple #[x, .int .i64 (cutE s off n)]) ∧ SpnS w' x (cutL s off n) ∧ Below w.heap.size w w' := by
  have hR := right_any s off n
  rcases cutE_cases s off n with ⟨h, he⟩ | ⟨h, hn, he⟩ | ⟨h, hn, he⟩
  · rw [he, cutL_no (by rw [he]; decide)]
    rw [h] at hR
    clear h he
    go_enter Try.func24, Try.ntmps24
    go_wp2_with (go_at_call 45; (with_reducible refine (hR _).mono ?_); rintro e w1 ⟨rfl, hx⟩; subst w1)
    go_ret2
    exact ⟨_, rfl, StS.nil _, Below.refl _ _⟩
  · rw [he, cutL_no (by rw [he]; decide)]
    rw [h] at hR
    have d0 : decide ((1048576 : Int) < n) = true := decide_eq_true hn
    clear h he
    go_enter Try.func24, Try.ntmps24
    go_wp2_with (go_at_call 45; (with_reducible refine (hR _).mono ?_); rintro e w1 ⟨rfl, hx⟩; subst w1)
    go_ret2
    exact ⟨_, rfl, StS.nil _, Below.refl _ _⟩
  · have hL : cutL s off n = cutN s.toNat off.toNat n.toNat := by unfold cutL; rw [if_pos he]
    rw [he, hL]
    rw [h] at hR
    obtain ⟨h1, h2, h3⟩ := (rightB_iff _ _ _).1 h
    rw [szOk_iff] at h1
    rw [byOk_iff] at h2 h3
    clear hL h he
    obtain ⟨S, rfl⟩ : ∃ S : Nat, s = (S : Int) := ⟨s.toNat, by omega⟩
    obtain ⟨O, rfl⟩ : ∃ O : Nat, off = (O : Int) := ⟨off.toNat, by omega⟩
    obtain ⟨N, rfl⟩ : ∃ N : Nat, n = (N : Int) := ⟨n.toNat, by omega⟩
    rw [Int.toNat_natCast, Int.toNat_natCast, Int.toNat_natCast]
    have d0 : decide ((1048576 : Int) < (N : Int)) = false := decide_eq_false (by omega)
    have hs : 0 < S := by omega
    have hs2 : S ≤ 65536 := by omega
    obtain ⟨L, hL⟩ : ∃ L, L = cutN S O N := ⟨_, rfl⟩
    have HLL : Hid (L.length ≤ 1048576) := Lib.hid (by rw [hL]; have := cutN_len hs N O; omega)
    have HL0 : Hid (L.drop 0 = cutN S O N) := Lib.hid (by rw [hL]; rfl)
    have HB : Hid (O + N ≤ 2199023255552) := Lib.hid (by omega)
    rw [← hL]
    clear hL h1 h2 h3 hi hn
    obtain ⟨i0, hi, hz0, hz1, hz2⟩ := spInfo
    go_enter Try.func24, Try.ntmps24
    go_wp2_with (go_at_call 45; (with_reducible refine (hR _).mono ?_); rintro e w1 ⟨rfl, hx⟩; subst w1)
    clear d0
    go_loopw [1, 2, 8] (fun ox nx vx wr => ∃ (j o r : Nat) (z : Value), ox = .int .i64 (o : Int) ∧ nx = .int .i64 (r : Int) ∧ z = vx ∧ o + r = O + N ∧ L.drop j = cutN S o r ∧ j ≤ L.length ∧ wr.ownsRow w.heap.size 63 3 z j ((L.take j).flatMap SP.cells) ∧ Below w.heap.size w wr) (fun _ nx _ _ => (intOf nx).toNat)
    case atStart => exact ⟨0, O, N, .slice none 0 0, rfl, rfl, rfl, rfl, HL0.out, Nat.zero_le _, World.ownsRow_nil _ _ _ _, Below.refl _ _⟩
    case round =>
      obtain ⟨j, o, r, z, rfl, rfl, rfl, hor, hdr, hjl, hown, hB⟩ := hrel
      have HBE := Lib.hid hB
      have HOWN := Lib.hid hown
      have HDR := Lib.hid hdr
      have HJL := Lib.hid hjl
      have HOR := Lib.hid hor
      clear hB hown hdr hjl hor HL0
      by_cases hr : r = 0
      · have d1 : decide ((0 : Int) < (r : Int)) = false := decide_eq_false (by omega)
        have HDN : Hid (j = L.length) := Lib.hid (by have h1 := HDR.out; rw [hr] at h1; have := cut_done h1; have := HJL.out; omega)
        have ho := HOWN.out
        rw [HDN.out, List.take_of_length_le (Nat.le_refl _)] at ho
        have HO := Lib.hid ho
        subst hr
        clear ho
        go_wp2
        go_ret2
        exact ⟨_, rfl, StS.of_own sp_len HO.out, HBE.out⟩
      · have d1 : decide ((0 : Int) < (r : Int)) = true := decide_eq_true (by omega)
        obtain ⟨h1, h2, h3⟩ := cut_drop hs HDR.out hr
        obtain ⟨q, u, t, hq, hu, ht, hus, ht0, htr, hut, e1, e2, e3, e4, e5, huo, hqo⟩ := stp_words (o := o) hs hr
        have HTK : Hid ((L.take (j + 1)).flatMap SP.cells = (L.take j).flatMap SP.cells ++ (L.getD j SP.zero).cells) := Lib.hid (by rw [getD_snoc SP.zero h1, flat_snoc])
        rw [h2, ← hq, ← hu, ← ht] at HTK
        rw [← ht] at h3
        have HD3 := Lib.hid h3
        have HLT := Lib.hid h1
        have HT := Lib.hid (show 0 < t ∧ t ≤ r ∧ o + r = O + N from ⟨ht0, htr, HOR.out⟩)
        have hb0 : o ≤ 2199023255552 := by have := HB.out; have := HOR.out; omega
        have hb1 : r ≤ 2199023255552 := by have := HB.out; have := HOR.out; omega
        obtain ⟨y, hy⟩ : ∃ y : Nat, y = u + t := ⟨_, rfl⟩
        have e7 : (if (r : Int) < (S : Int) - (u : Int) then (r : Int) else (S : Int) - (u : Int)) = (t : Int) := by rw [← e5]; split <;> omega
        have d2 : decide (0 < r) = true := decide_eq_true (by omega)
        have e6 : (u : Int) + (t : Int) = (y : Int) := by omega
        rw [← hy] at HTK
        clear h1 h2 h3 hq hu ht hut hy
        go_wp2_with (at_builtin; (refine wpList_append_own _ rfl _ _ 47 rfl w.heap.size 63 i0 _ 3 24 Try.underlying47 hi hz0 hz1 hz2 rfl (by decide) _ _ _ rfl (HOWN.out.alloc _) ⟨wr.heap.size, 0, none⟩ 1 1 [.int .i64 (q : Int), .int .i64 (u : Int), .int .i64 (y : Int)] rfl rfl (new_cells wr [.int .i64 (q : Int), .int .i64 (u : Int), .int .i64 (y : Int)] _) (sp_one ⟨q, u, y⟩) (by have := HLL.out; have := HLT.out; unfold maxLen; omega) (by have := HLL.out; have := HLT.out; omega) (by have := HBE.out.size; simp; omega) ?_); intro v' w3 hown3 hgrow _)
        have hB3 : Below w.heap.size w w3 := (HBE.out.alloc HBE.out.size _).grown hgrow (by have := HBE.out.size; simp; omega) (fun g hg => (World.ownsRow.lt HOWN.out g hg).1)
        go_roundw
        case rel => exact ⟨j + 1, o + t, r - t, v', by go_num, congrArg (Value.int .i64) (by have := HT.out; omega), rfl, by have := HT.out; omega, HD3.out, HLT.out, by rw [HTK.out]; exact hown3, hB3⟩
        case measure => simp [intOf]; have := HT.out; omega
theorem same_allSP {A B : List SP} (hl : A.length = B.length) (h : ∀ i, i < A.length → A.getD i SP.zero = B.getD i SP.zero) : A = B := by
  apply List.ext_getElem hl
  intro i h1 h2
  have := h i h1
  rw [List.getD, List.getD, List.getElem?_eq_getElem h1, List.getElem?_eq_getElem h2] at this
  exact this
set_option maxRecDepth 100000 in
set_option maxHeartbeats 2000000 in
theorem sSame_any (A B : List SP) (va vb : Value) (w : World) (ha : SpnS w va A) (hb : SpnS w vb B) :
    Calls Try.prog 27 #[va, vb] w fun e w' => e = .returned (.bool (decide (A = B))) ∧ Below w.heap.size w w' := by
  obtain ⟨PA, capA, rfl, ha1, ha2, ha3⟩ := ha
  obtain ⟨PB, capB, rfl, hb1, hb2, hb3⟩ := hb
  have HA := Lib.hid ha3
  have HBB := Lib.hid hb3
  clear ha3 hb3
  by_cases hl : A.length = B.length
  case neg =>
    have d0 : ((A.length : Int) == (B.length : Int)) = false := by rw [beq_eq_false_iff_ne]; omega
    have d1 : ((A.length : Int) != (B.length : Int)) = true := by rw [bne_iff_ne]; omega
    have HF : Hid (decide (A = B) = false) := Lib.hid (decide_eq_false (fun e => hl (by rw [e])))
    clear hl
    go_enter Try.func27, Try.ntmps27
    go_wp2
    go_ret
    exact ⟨by rw [HF.out]; rfl, Below.refl _ _⟩
  case pos =>
  have d0 : ((A.length : Int) == (B.length : Int)) = true := by rw [beq_iff_eq]; omega
  have d1 : ((A.length : Int) != (B.length : Int)) = false := by rw [bne_eq_false_iff_eq]; omega
  have HL := Lib.hid hl
  clear hl
  go_enter Try.func27, Try.ntmps27
  go_wp2
  clear d0 d1
  go_loopw [13] (fun ix wr => ∃ (j : Nat), j ≤ A.length ∧ ix = .int .i64 (j : Int) ∧ (∀ i, i < j → A.getD i SP.zero = B.getD i SP.zero) ∧ Below w.heap.size w wr) (fun ix _ => A.length - (intOf ix).toNat)
  case atStart => exact ⟨0, Nat.zero_le _, rfl, (fun i h => absurd h (by omega)), Below.refl _ _⟩
  case round =>
    obtain ⟨j, hj, rfl, hp, hB⟩ := hrel
    have HB := Lib.hid hB
    have HP := Lib.hid hp
    clear hB hp
    by_cases hlt : j < A.length
    · have hlt2 : j < B.length := by have := HL.out; omega
      obtain ⟨b, off, rfl, hb, hcell⟩ := HA.out.resolve_left (by intro e; rw [e] at hlt; simp at hlt)
      obtain ⟨b2, off2, rfl, hb2, hcell2⟩ := HBB.out.resolve_left (by intro e; rw [e] at hlt2; simp at hlt2)
      have hcA : ∀ q u, (A.getD j SP.zero).cells[q]? = some u → wr.cell? ⟨b, off + j * 3 + q, none⟩ = some u := fun q u hu => (HB.out.cell (p := ⟨b, off + j * 3 + q, none⟩) hb).trans (hcell j hlt q u hu)
      have hcB : ∀ q u, (B.getD j SP.zero).cells[q]? = some u → wr.cell? ⟨b2, off2 + j * 3 + q, none⟩ = some u := fun q u hu => (HB.out.cell (p := ⟨b2, off2 + j * 3 + q, none⟩) hb2).trans (hcell2 j hlt2 q u hu)
      have hdl : decide ((j : Int) < (B.length : Int)) = true := decide_eq_true (by omega)
      have HEQ : Hid (A.getD j SP.zero = B.getD j SP.zero → ∀ i, i < j + 1 → A.getD i SP.zero = B.getD i SP.zero) := Lib.hid (fun h i hi => by
        by_cases e : i = j
        · rw [e]; exact h
        · exact HP.out i (by omega))
      have HNE0 : Hid (A.getD j SP.zero ≠ B.getD j SP.zero → A ≠ B) := Lib.hid (fun h e => h (by rw [e]))
      clear hcell hcell2 hb hb2
      generalize A.getD j SP.zero = p at hcA HEQ HNE0
      generalize B.getD j SP.zero = q at hcB HEQ HNE0
      obtain ⟨pb, pf, pt⟩ := p
      obtain ⟨pb', pf', pt'⟩ := q
      have q0 : wr.cell? ⟨b, off + j * 3, none⟩ = some (.int .i64 pb) := hcA 0 _ rfl
      have r0 : wr.cell? ⟨b2, off2 + j * 3, none⟩ = some (.int .i64 pb') := hcB 0 _ rfl
      have q1 : wr.cell? ⟨b, off + j * 3 + 1, none⟩ = some (.int .i64 pf) := hcA 1 _ rfl
      have r1 : wr.cell? ⟨b2, off2 + j * 3 + 1, none⟩ = some (.int .i64 pf') := hcB 1 _ rfl
      have q2 : wr.cell? ⟨b, off + j * 3 + 2, none⟩ = some (.int .i64 pt) := hcA 2 _ rfl
      have r2 : wr.cell? ⟨b2, off2 + j * 3 + 2, none⟩ = some (.int .i64 pt') := hcB 2 _ rfl
      clear hcA hcB
      by_cases h0 : pb = pb'
      · have b0 : (pb == pb') = true := by rw [beq_iff_eq]; exact h0
        by_cases h1 : pf = pf'
        · have b1 : (pf == pf') = true := by rw [beq_iff_eq]; exact h1
          by_cases h2 : pt = pt'
          · have b2 : (pt == pt') = true := by rw [beq_iff_eq]; exact h2
            have HJ := Lib.hid (HEQ.out (by rw [h0, h1, h2]))
            clear HEQ HNE0 h0 h1 h2
            have hw1 := wrap_nx hlt ha1 ha2
            go_upto_region 6 with fail
            go_quiet (fail)
            go_wp2
            clear hdl b0 b1 b2
            rw [hw1]
            clear hw1
            go_roundw
            case rel => exact ⟨j + 1, by omega, by go_num, HJ.out, below_drewN HB.out _⟩
            case measure => simp [intOf]; omega
          · have hd : (pt == pt') = false := by rw [beq_eq_false_iff_ne]; exact h2
            have HF : Hid (decide (A = B) = false) := Lib.hid (decide_eq_false (HNE0.out (fun e => h2 (by injection e))))
            clear h2 h1 h0 HEQ HNE0
            go_upto_region 6 with fail
            go_quiet (fail)
            go_wp2
            go_ret
            exact ⟨by rw [HF.out]; rfl, below_drewN HB.out _⟩
        · have hd : (pf == pf') = false := by rw [beq_eq_false_iff_ne]; exact h1
          have HF : Hid (decide (A = B) = false) := Lib.hid (decide_eq_false (HNE0.out (fun e => h1 (by injection e))))
          clear h1 h0 HEQ HNE0
          go_upto_region 6 with fail
          go_quiet (fail)
          go_wp2
          go_ret
          exact ⟨by rw [HF.out]; rfl, below_drewN HB.out _⟩
      · have hd : (pb == pb') = false := by rw [beq_eq_false_iff_ne]; exact h0
        have HF : Hid (decide (A = B) = false) := Lib.hid (decide_eq_false (HNE0.out (fun e => h0 (by injection e))))
        clear h0 HEQ HNE0
        go_upto_region 6 with fail
        go_quiet (fail)
        go_wp2
        go_ret
        exact ⟨by rw [HF.out]; rfl, below_drewN HB.out _⟩
    · obtain rfl : j = A.length := by omega
      have HF : Hid (decide (A = B) = true) := Lib.hid (decide_eq_true (same_allSP HL.out HP.out))
      go_wp2
      go_ret
      exact ⟨by rw [HF.out]; rfl, HB.out⟩
theorem same_allRG {A B : List RG} (hl : A.length = B.length) (h : ∀ i, i < A.length → A.getD i RG.zero = B.getD i RG.zero) : A = B := by
  apply List.ext_getElem hl
  intro i h1 h2
  have := h i h1
  rw [List.getD, List.getD, List.getElem?_eq_getElem h1, List.getElem?_eq_getElem h2] at this
  exact this
set_option maxRecDepth 100000 in
set_option maxHeartbeats 2000000 in
theorem rSame_any (A B : List RG) (va vb : Value) (w : World) (ha : RgsS w va A) (hb : RgsS w vb B) :
    Calls Try.prog 35 #[va, vb] w fun e w' => e = .returned (.bool (decide (A = B))) ∧ Below w.heap.size w w' := by
  obtain ⟨PA, capA, rfl, ha1, ha2, ha3⟩ := ha
  obtain ⟨PB, capB, rfl, hb1, hb2, hb3⟩ := hb
  have HA := Lib.hid ha3
  have HBB := Lib.hid hb3
  clear ha3 hb3
  by_cases hl : A.length = B.length
  case neg =>
    have d0 : ((A.length : Int) == (B.length : Int)) = false := by rw [beq_eq_false_iff_ne]; omega
    have d1 : ((A.length : Int) != (B.length : Int)) = true := by rw [bne_iff_ne]; omega
    have HF : Hid (decide (A = B) = false) := Lib.hid (decide_eq_false (fun e => hl (by rw [e])))
    clear hl
    go_enter Try.func35, Try.ntmps35
    go_wp2
    go_ret
    exact ⟨by rw [HF.out]; rfl, Below.refl _ _⟩
  case pos =>
  have d0 : ((A.length : Int) == (B.length : Int)) = true := by rw [beq_iff_eq]; omega
  have d1 : ((A.length : Int) != (B.length : Int)) = false := by rw [bne_eq_false_iff_eq]; omega
  have HL := Lib.hid hl
  clear hl
  go_enter Try.func35, Try.ntmps35
  go_wp2
  clear d0 d1
  go_loopw [13] (fun ix wr => ∃ (j : Nat), j ≤ A.length ∧ ix = .int .i64 (j : Int) ∧ (∀ i, i < j → A.getD i RG.zero = B.getD i RG.zero) ∧ Below w.heap.size w wr) (fun ix _ => A.length - (intOf ix).toNat)
  case atStart => exact ⟨0, Nat.zero_le _, rfl, (fun i h => absurd h (by omega)), Below.refl _ _⟩
  case round =>
    obtain ⟨j, hj, rfl, hp, hB⟩ := hrel
    have HB := Lib.hid hB
    have HP := Lib.hid hp
    clear hB hp
    by_cases hlt : j < A.length
    · have hlt2 : j < B.length := by have := HL.out; omega
      obtain ⟨b, off, rfl, hb, hcell⟩ := HA.out.resolve_left (by intro e; rw [e] at hlt; simp at hlt)
      obtain ⟨b2, off2, rfl, hb2, hcell2⟩ := HBB.out.resolve_left (by intro e; rw [e] at hlt2; simp at hlt2)
      have hcA : ∀ q u, (A.getD j RG.zero).cells[q]? = some u → wr.cell? ⟨b, off + j * 2 + q, none⟩ = some u := fun q u hu => (HB.out.cell (p := ⟨b, off + j * 2 + q, none⟩) hb).trans (hcell j hlt q u hu)
      have hcB : ∀ q u, (B.getD j RG.zero).cells[q]? = some u → wr.cell? ⟨b2, off2 + j * 2 + q, none⟩ = some u := fun q u hu => (HB.out.cell (p := ⟨b2, off2 + j * 2 + q, none⟩) hb2).trans (hcell2 j hlt2 q u hu)
      have hdl : decide ((j : Int) < (B.length : Int)) = true := decide_eq_true (by omega)
      have HEQ : Hid (A.getD j RG.zero = B.getD j RG.zero → ∀ i, i < j + 1 → A.getD i RG.zero = B.getD i RG.zero) := Lib.hid (fun h i hi => by
        by_cases e : i = j
        · rw [e]; exact h
        · exact HP.out i (by omega))
      have HNE0 : Hid (A.getD j RG.zero ≠ B.getD j RG.zero → A ≠ B) := Lib.hid (fun h e => h (by rw [e]))
      clear hcell hcell2 hb hb2
      generalize A.getD j RG.zero = p at hcA HEQ HNE0
      generalize B.getD j RG.zero = q at hcB HEQ HNE0
      obtain ⟨pf, pt⟩ := p
      obtain ⟨pf', pt'⟩ := q
      have q0 : wr.cell? ⟨b, off + j * 2, none⟩ = some (.int .i64 pf) := hcA 0 _ rfl
      have r0 : wr.cell? ⟨b2, off2 + j * 2, none⟩ = some (.int .i64 pf') := hcB 0 _ rfl
      have q1 : wr.cell? ⟨b, off + j * 2 + 1, none⟩ = some (.int .i64 pt) := hcA 1 _ rfl
      have r1 : wr.cell? ⟨b2, off2 + j * 2 + 1, none⟩ = some (.int .i64 pt') := hcB 1 _ rfl
      clear hcA hcB
      by_cases h0 : pf = pf'
      · have b0 : (pf == pf') = true := by rw [beq_iff_eq]; exact h0
        by_cases h1 : pt = pt'
        · have b1 : (pt == pt') = true := by rw [beq_iff_eq]; exact h1
          have HJ := Lib.hid (HEQ.out (by rw [h0, h1]))
          clear HEQ HNE0 h0 h1
          have hw1 := wrap_nx hlt ha1 ha2
          go_upto_region 6 with fail
          go_quiet (fail)
          go_wp2
          clear hdl b0 b1
          rw [hw1]
          clear hw1
          go_roundw
          case rel => exact ⟨j + 1, by omega, by go_num, HJ.out, below_drewN HB.out _⟩
          case measure => simp [intOf]; omega
        · have hd : (pt == pt') = false := by rw [beq_eq_false_iff_ne]; exact h1
          have HF : Hid (decide (A = B) = false) := Lib.hid (decide_eq_false (HNE0.out (fun e => h1 (by injection e))))
          clear h1 h0 HEQ HNE0
          go_upto_region 6 with fail
          go_quiet (fail)
          go_wp2
          go_ret
          exact ⟨by rw [HF.out]; rfl, below_drewN HB.out _⟩
      · have hd : (pf == pf') = false := by rw [beq_eq_false_iff_ne]; exact h0
        have HF : Hid (decide (A = B) = false) := Lib.hid (decide_eq_false (HNE0.out (fun e => h0 (by injection e))))
        clear h0 HEQ HNE0
        go_upto_region 6 with fail
        go_quiet (fail)
        go_wp2
        go_ret
        exact ⟨by rw [HF.out]; rfl, below_drewN HB.out _⟩
    · obtain rfl : j = A.length := by omega
      have HF : Hid (decide (A = B) = true) := Lib.hid (decide_eq_true (same_allRG HL.out HP.out))
      go_wp2
      go_ret
      exact ⟨by rw [HF.out]; rfl, HB.out⟩
end Go.Proofs.Ytdcpgjkaimekbaa
