/- Spans: Join, the document's. -/
import Derived.Test.YtdcpgjkaimekbaaSpnJ
namespace Go.Proofs.Ytdcpgjkaimekbaa
open Go.RowKit

theorem sappS (a : List UInt8) (s : ByteArray) : (⟨a.toArray⟩ : ByteArray) ++ s = ⟨(a ++ s.data.toList).toArray⟩ := by
  apply ByteArray.ext
  rw [ByteArray.data_append]
  apply Array.ext'
  simp
theorem size_mkS (l : List UInt8) : (⟨l.toArray⟩ : ByteArray).size = l.length := by show l.toArray.size = _; simp
theorem joi_pre {s : Int} {L : List SP} {S : List ByteArray} {j : Nat} (hs : szOk s = true) (hl : L.length = S.length) (hS : S.length ≤ 8192) (hj : j ≤ L.length) (h : ∀ i, i < j → fitB s (L.getD i SP.zero) (S.getD i ⟨#[]⟩).size = true) : catN (S.take j) ≤ 536870912 := by
  have h1 : catN (S.take j) ≤ (S.take j).length * 65536 := catN_le _ (fun x hx => by
    obtain ⟨i, hi, rfl⟩ := List.mem_iff_getElem.1 hx
    rw [List.length_take] at hi
    have h2 := h i (by omega)
    rw [fitB_iff, List.getD_eq_getElem?_getD (l := S), List.getElem?_eq_getElem (by omega)] at h2
    have h3 := (szOk_iff s).1 hs
    simp only [Option.getD_some] at h2
    rw [List.getElem_take]
    omega)
  rw [List.length_take] at h1
  have : min j S.length * 65536 ≤ 8192 * 65536 := Nat.mul_le_mul_right _ (by omega)
  omega
set_option maxRecDepth 100000 in
set_option maxHeartbeats 4000000 in
theorem rJoin_any (s : Int) (L : List SP) (S : List ByteArray) (v u : Value) (w : World) (hv : SpnS w v L) (hu : StrL w u S) (hS : S.length ≤ 8192) :
    Calls Try.prog 32 #[.int .i64 s, v, u] w fun e w' => e = .returned (.tuple #[.string ⟨(joiL s L S).toArray⟩, .int .i64 (joiE s L S)]) ∧ Below w.heap.size w w' := by
  obtain ⟨A, cap, rfl, _, _, hc3⟩ := hv
  obtain ⟨A2, cap2, rfl, _, _, hd3⟩ := hu
  have hR := right_any s 0 0
  have hr0 : rightB s 0 0 = szOk s := by unfold rightB byOk; simp
  rw [hr0] at hR
  clear hr0
  cases hs : szOk s
  · rw [(joi_no0 hs).1, (joi_no0 hs).2]
    rw [hs] at hR
    clear hc3 hd3 hs
    go_enter Try.func32, Try.ntmps32
    go_wp2_with (go_at_call 45; (with_reducible refine (hR _).mono ?_); rintro e w1 ⟨rfl, hx⟩; subst w1)
    go_ret2
    exact ⟨rfl, Below.refl _ _⟩
  rw [hs] at hR
  by_cases hl : L.length = S.length
  case neg =>
    have hE := joi_no1 hs (fun h => hl h.1)
    rw [hE.1, hE.2]
    have e1 : ((L.length : Int) != (S.length : Int)) = true := by rw [bne_iff_ne]; omega
    have e2 : ((L.length : Int) == (S.length : Int)) = false := by rw [beq_eq_false_iff_ne]; omega
    clear hc3 hd3 hs hE hl
    go_enter Try.func32, Try.ntmps32
    go_wp2_with (go_at_call 45; (with_reducible refine (hR _).mono ?_); rintro e w1 ⟨rfl, hx⟩; subst w1)
    go_ret2
    exact ⟨rfl, Below.refl _ _⟩
  case pos =>
  have hsb : s ≤ 65536 := by have := (szOk_iff s).1 hs; omega
  have e1 : ((L.length : Int) != (S.length : Int)) = false := by rw [bne_eq_false_iff_eq]; omega
  have e2 : ((L.length : Int) == (S.length : Int)) = true := by rw [beq_iff_eq]; omega
  have HC3 := Lib.hid hc3
  have HD3 := Lib.hid hd3
  have HL := Lib.hid hl
  have HSZ := Lib.hid hs
  have HS := Lib.hid hS
  have hll : L.length ≤ 8192 := by omega
  clear hc3 hd3 hl hs
  go_enter Try.func32, Try.ntmps32
  go_wp2_with (go_at_call 45; (with_reducible refine (hR _).mono ?_); rintro e w1 ⟨rfl, hx⟩; subst w1)
  clear e1 e2
  go_loopw [8, 21] (fun sx ix wr => ∃ (j : Nat) (X : ByteArray), j ≤ L.length ∧ ix = .int .i64 (j : Int) ∧ sx = .string X ∧ X = ⟨(catL (S.take j)).toArray⟩ ∧ (∀ i, i < j → fitB s (L.getD i SP.zero) (S.getD i ⟨#[]⟩).size = true) ∧ Below w.heap.size w wr) (fun _ ix _ => L.length - (intOf ix).toNat)
  case atStart => exact ⟨0, ⟨#[]⟩, Nat.zero_le _, rfl, rfl, rfl, (fun i h => absurd h (by omega)), Below.refl _ _⟩
  case round =>
    obtain ⟨j, X, hj, rfl, rfl, hX, hp, hB⟩ := hrel
    have HB := Lib.hid hB
    have HP := Lib.hid hp
    have HX0 := Lib.hid hX
    have hXs : X.size ≤ 536870912 := by rw [hX, size_mkS, catL_len]; exact joi_pre HSZ.out HL.out hS hj hp
    clear hB hp hX
    by_cases hlt : j < L.length
    · have hlt2 : j < S.length := by have := HL.out; omega
      have hltd : decide ((j : Int) < (S.length : Int)) = true := decide_eq_true (by omega)
      obtain ⟨b, off, rfl, hb, hcell⟩ := HC3.out.resolve_left (by intro e; rw [e] at hlt; simp at hlt)
      obtain ⟨b2, off2, rfl, hb2, hcell2⟩ := HD3.out.resolve_left (by intro e; rw [e] at hlt2; simp at hlt2)
      have hcA : ∀ q u, (L.getD j SP.zero).cells[q]? = some u → wr.cell? ⟨b, off + j * 3 + q, none⟩ = some u := fun q u hu => (HB.out.cell (p := ⟨b, off + j * 3 + q, none⟩) hb).trans (hcell j hlt q u hu)
      have hcB : wr.cell? ⟨b2, off2 + j, none⟩ = some (.string (S.getD j ⟨#[]⟩)) := by
        have h := hcell2 j hlt2 0 (.string (S.getD j ⟨#[]⟩)) rfl
        rw [Nat.mul_one, Nat.add_zero] at h
        exact (HB.out.cell (p := ⟨b2, off2 + j, none⟩) hb2).trans h
      have hB2l : b2 < wr.heap.size := Nat.lt_of_lt_of_le hb2 HB.out.size
      have HNE : Hid (fitB s (L.getD j SP.zero) (S.getD j ⟨#[]⟩).size = false → joiE s L S = 2 ∧ joiL s L S = []) := Lib.hid (fun h => joi_no1 HSZ.out (fun h2 => by rw [h2.2 j hlt] at h; cases h))
      have HEQ : Hid (fitB s (L.getD j SP.zero) (S.getD j ⟨#[]⟩).size = true → ∀ i, i < j + 1 → fitB s (L.getD i SP.zero) (S.getD i ⟨#[]⟩).size = true) := Lib.hid (fun h i hi => by
        by_cases e : i = j
        · rw [e]; exact h
        · exact HP.out i (by omega))
      have HXN : Hid (X ++ S.getD j ⟨#[]⟩ = ⟨(catL (S.take (j + 1))).toArray⟩) := Lib.hid (by rw [getD_snoc ⟨#[]⟩ hlt2, catL_snoc, HX0.out, sappS])
      generalize L.getD j SP.zero = p at hcA HNE HEQ
      generalize S.getD j ⟨#[]⟩ = str at hcB HNE HEQ HXN
      obtain ⟨pb, pf, pt⟩ := p
      have q0 : wr.cell? ⟨b, off + j * 3, none⟩ = some (.int .i64 pb) := hcA 0 _ rfl
      have q1 : wr.cell? ⟨b, off + j * 3 + 1, none⟩ = some (.int .i64 pf) := hcA 1 _ rfl
      have q2 : wr.cell? ⟨b, off + j * 3 + 2, none⟩ = some (.int .i64 pt) := hcA 2 _ rfl
      have HX := Lib.hid (Sp3.new wr ⟨pb, pf, pt⟩ 63)
      have HBX := Lib.hid (below_new wr (.cells #[.int .i64 pb, .int .i64 pf, .int .i64 pt] 63))
      dsimp only at HX
      rw [← Bool.not_eq_true, fitB_iff] at HNE
      rw [fitB_iff] at HEQ
      dsimp only at HNE HEQ
      clear hcA hcell hcell2 hb hb2
      go_upto_region 9 with fail
      have HSTR := Lib.hid ((HBX.out.cell (p := ⟨b2, off2 + j, none⟩) hB2l).trans hcB)
      have HBL := Lib.hid (HB.out.trans (HBX.out.mono HB.out.size))
      generalize wr.alloc (.cells #[.int .i64 pb, .int .i64 pf, .int .i64 pt] 63) = w1 at HX HBX HSTR HBL ⊢
      generalize wr.heap.size = bx at HX ⊢
      clear q0 q1 q2 hcB HBX hB2l HB
      obtain ⟨_, x0, x1, x2⟩ := HX.out
      have sx := HSTR.out
      obtain ⟨m, hm⟩ : ∃ m, m = str.size := ⟨_, rfl⟩
      have hm1 : (str.size : Int) = (m : Int) := by rw [hm]
      have HMS := Lib.hid hm
      rw [hm1] at HNE HEQ
      clear hm
      by_cases g1 : pf < 0
      · have d1 : decide (pf < (0 : Int)) = true := decide_eq_true g1
        have HE := Lib.hid (HNE.out (fun h => by omega))
        go_quiet (fail)
        go_wp2
        go_ret2
        rw [HE.out.1, HE.out.2]
        exact ⟨rfl, below_drewN HBL.out _⟩
      have d1 : decide (pf < (0 : Int)) = false := decide_eq_false g1
      by_cases g2 : s < pt
      · have d2 : decide (s < pt) = true := decide_eq_true g2
        have HE := Lib.hid (HNE.out (fun h => by omega))
        go_quiet (fail)
        go_wp2
        go_ret2
        rw [HE.out.1, HE.out.2]
        exact ⟨rfl, below_drewN HBL.out _⟩
      have d2 : decide (s < pt) = false := decide_eq_false g2
      by_cases g3 : pt < pf
      · have d3 : decide (pt < pf) = true := decide_eq_true g3
        have HE := Lib.hid (HNE.out (fun h => by omega))
        go_quiet (fail)
        go_wp2
        go_ret2
        rw [HE.out.1, HE.out.2]
        exact ⟨rfl, below_drewN HBL.out _⟩
      have d3 : decide (pt < pf) = false := decide_eq_false g3
      by_cases g4 : (m : Int) = pt - pf
      · have d4 : ((m : Int) == pt - pf) = true := by rw [beq_iff_eq]; exact g4
        have d5 : ((m : Int) != pt - pf) = false := by rw [bne_eq_false_iff_eq]; exact g4
        have HE := Lib.hid (HEQ.out (by omega))
        have hss : str.size ≤ 65536 := by have := HMS.out; omega
        clear g4
        go_quiet (fail)
        go_wp2
        go_roundw
        case rel => exact ⟨j + 1, X ++ str, hlt, by go_num, rfl, HXN.out, HE.out, below_drewN HBL.out _⟩
        case measure => simp [intOf]; omega
      · have d4 : ((m : Int) == pt - pf) = false := by rw [beq_eq_false_iff_ne]; exact g4
        have d5 : ((m : Int) != pt - pf) = true := by rw [bne_iff_ne]; exact g4
        have HE := Lib.hid (HNE.out (fun h => g4 h.2.2.2))
        clear g4
        go_quiet (fail)
        go_wp2
        go_ret2
        rw [HE.out.1, HE.out.2]
        exact ⟨rfl, below_drewN HBL.out _⟩
    · obtain rfl : j = L.length := by omega
      have hok : joiOk s L S := ⟨HL.out, fun i hi => HP.out i hi⟩
      have HE := Lib.hid (joi_yes HSZ.out hok)
      have HXE : Hid (X = ⟨(catL S).toArray⟩) := Lib.hid (by rw [HX0.out, HL.out, List.take_of_length_le (Nat.le_refl _)])
      clear hok
      go_wp2
      go_ret2
      rw [HE.out.1, HE.out.2, ← HXE.out]
      exact ⟨rfl, HB.out⟩
end Go.Proofs.Ytdcpgjkaimekbaa
