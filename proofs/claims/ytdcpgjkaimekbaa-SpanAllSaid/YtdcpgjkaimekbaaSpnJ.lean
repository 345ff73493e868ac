/- Spans: Join, the program's. -/
import Derived.Test.YtdcpgjkaimekbaaSpnH
namespace Go.Proofs.Ytdcpgjkaimekbaa
open Go.RowKit

def joiOk (s : Int) (L : List SP) (S : List ByteArray) : Prop := L.length = S.length ∧ ∀ j, j < L.length → fitB s (L.getD j SP.zero) (S.getD j ⟨#[]⟩).size = true
open Classical in
noncomputable def joiE (s : Int) (L : List SP) (S : List ByteArray) : Int := if szOk s = true then (if joiOk s L S then 0 else 2) else 1
open Classical in
noncomputable def joiL (s : Int) (L : List SP) (S : List ByteArray) : List UInt8 := if szOk s = true ∧ joiOk s L S then catL S else []
theorem joi_no0 {s : Int} {L : List SP} {S : List ByteArray} (h : szOk s = false) : joiE s L S = 1 ∧ joiL s L S = [] :=
  ⟨if_neg (by rw [h]; decide), if_neg (by rw [h]; rintro ⟨h, _⟩; cases h)⟩
theorem joi_no1 {s : Int} {L : List SP} {S : List ByteArray} (h : szOk s = true) (hn : ¬ joiOk s L S) : joiE s L S = 2 ∧ joiL s L S = [] :=
  ⟨by unfold joiE; rw [if_pos h, if_neg hn], if_neg (fun h => hn h.2)⟩
theorem joi_yes {s : Int} {L : List SP} {S : List ByteArray} (h : szOk s = true) (hn : joiOk s L S) : joiE s L S = 0 ∧ joiL s L S = catL S :=
  ⟨by unfold joiE; rw [if_pos h, if_pos hn], if_pos ⟨h, hn⟩⟩
theorem catN_le {m : Nat} : ∀ (S : List ByteArray), (∀ s ∈ S, s.size ≤ m) → catN S ≤ S.length * m
  | [], _ => by simp [catN]
  | s :: S, h => by
    have h1 := catN_le S (fun x hx => h x (List.mem_cons_of_mem _ hx))
    have h2 := h s (List.mem_cons_self ..)
    unfold catN at h1 ⊢
    rw [List.map_cons, List.sum_cons, List.length_cons, Nat.add_mul]; omega
theorem joi_small {s : Int} {L : List SP} {S : List ByteArray} (hs : szOk s = true) (h : joiOk s L S) (hS : S.length ≤ 8192) : catN S ≤ 536870912 := by
  have h1 : catN S ≤ S.length * 65536 := catN_le S (fun x hx => by
    obtain ⟨j, hj, rfl⟩ := List.mem_iff_getElem.1 hx
    have h2 := h.2 j (by rw [h.1]; exact hj)
    rw [fitB_iff] at h2
    rw [List.getD_eq_getElem?_getD (l := S), List.getElem?_eq_getElem hj] at h2
    have h3 := (szOk_iff s).1 hs
    simp only [Option.getD_some] at h2
    omega)
  have : S.length * 65536 ≤ 8192 * 65536 := Nat.mul_le_mul_right _ hS
  omega
/-- Three cells in a block. -/
structure Sp3 (W : World) (b : Nat) (x : SP) : Prop where
  lt : b < W.heap.size
  c0 : W.cell? ⟨b, 0, none⟩ = some (.int .i64 x.b)
  c1 : W.cell? ⟨b, 1, none⟩ = some (.int .i64 x.f)
  c2 : W.cell? ⟨b, 2, none⟩ = some (.int .i64 x.t)
theorem Sp3.new (W : World) (x : SP) (t : TypeId) : Sp3 (W.alloc (.cells #[.int .i64 x.b, .int .i64 x.f, .int .i64 x.t] t)) W.heap.size x :=
  ⟨by simp, by simp [go_sem], by simp [go_sem], by simp [go_sem]⟩
theorem Sp3.below {W W' : World} {b : Nat} {x : SP} (k : Sp3 W b x) (h : Below W.heap.size W W') : Sp3 W' b x :=
  ⟨Nat.lt_of_lt_of_le k.lt h.size, (h.cell (p := ⟨b, 0, none⟩) k.lt).trans k.c0, (h.cell (p := ⟨b, 1, none⟩) k.lt).trans k.c1, (h.cell (p := ⟨b, 2, none⟩) k.lt).trans k.c2⟩
set_option maxRecDepth 100000 in
set_option maxHeartbeats 4000000 in
theorem spanJoin_any (s : Int) (L : List SP) (S : List ByteArray) (v u : Value) (w : World) (hv : SpnS w v L) (hu : StrL w u S) (hS : S.length ≤ 8192) :
    Calls Try.prog 31 #[.int .i64 s, v, u] w fun e w' => e = .returned (.tuple #[.string ⟨(joiL s L S).toArray⟩, .int .i64 (joiE s L S)]) ∧ Below w.heap.size w w' := by
  have HU := Lib.hid hu
  obtain ⟨A, cap, rfl, _, _, hc3⟩ := hv
  obtain ⟨A2, cap2, rfl, _, _, hd3⟩ := hu
  have hSz := isSize_any s
  cases hs : szOk s
  · rw [(joi_no0 hs).1, (joi_no0 hs).2]
    rw [hs] at hSz
    clear hc3 hd3 hs
    go_enter Try.func31, Try.ntmps31
    go_wp2_with (go_at_call 42; (with_reducible refine (hSz _).mono ?_); rintro e w1 ⟨rfl, hx⟩; subst w1)
    go_ret2
    exact ⟨rfl, Below.refl _ _⟩
  rw [hs] at hSz
  by_cases hl : L.length = S.length
  case neg =>
    have hE := joi_no1 hs (fun h => hl h.1)
    rw [hE.1, hE.2]
    have e1 : ((L.length : Int) != (S.length : Int)) = true := by rw [bne_iff_ne]; omega
    have e2 : ((L.length : Int) == (S.length : Int)) = false := by rw [beq_eq_false_iff_ne]; omega
    clear hc3 hd3 hs hE hl
    go_enter Try.func31, Try.ntmps31
    go_wp2_with (go_at_call 42; (with_reducible refine (hSz _).mono ?_); rintro e w1 ⟨rfl, hx⟩; subst w1)
    go_ret2
    exact ⟨rfl, Below.refl _ _⟩
  case pos =>
  have hsb : s ≤ 9223372036854775807 := by have := (szOk_iff s).1 hs; omega
  have e1 : ((L.length : Int) != (S.length : Int)) = false := by rw [bne_eq_false_iff_eq]; omega
  have e2 : ((L.length : Int) == (S.length : Int)) = true := by rw [beq_iff_eq]; omega
  have HC3 := Lib.hid hc3
  have HD3 := Lib.hid hd3
  have HL := Lib.hid hl
  have HSZ := Lib.hid hs
  have HS := Lib.hid hS
  have hll : L.length ≤ 8192 := by omega
  clear hc3 hd3 hl hs
  go_enter Try.func31, Try.ntmps31
  go_wp2_with (go_at_call 42; (with_reducible refine (hSz _).mono ?_); rintro e w1 ⟨rfl, hx⟩; subst w1)
  clear e1 e2
  go_loopw [20] (fun ix wr => ∃ (j : Nat), j ≤ L.length ∧ ix = .int .i64 (j : Int) ∧ (∀ i, i < j → fitB s (L.getD i SP.zero) (S.getD i ⟨#[]⟩).size = true) ∧ Below w.heap.size w wr) (fun ix _ => L.length - (intOf ix).toNat)
  case atStart => exact ⟨0, Nat.zero_le _, rfl, (fun i h => absurd h (by omega)), Below.refl _ _⟩
  case round =>
    obtain ⟨j, hj, rfl, hp, hB⟩ := hrel
    have HB := Lib.hid hB
    have HP := Lib.hid hp
    clear hB hp
    by_cases hlt : j < L.length
    · have hlt2 : j < S.length := by have := HL.out; omega
      obtain ⟨b, off, rfl, hb, hcell⟩ := HC3.out.resolve_left (by intro e; rw [e] at hlt; simp at hlt)
      obtain ⟨b2, off2, rfl, hb2, hcell2⟩ := HD3.out.resolve_left (by intro e; rw [e] at hlt2; simp at hlt2)
      have hcA : ∀ q u, (L.getD j SP.zero).cells[q]? = some u → wr.cell? ⟨b, off + j * 3 + q, none⟩ = some u := fun q u hu => (HB.out.cell (p := ⟨b, off + j * 3 + q, none⟩) hb).trans (hcell j hlt q u hu)
      have hcB : wr.cell? ⟨b2, off2 + j, none⟩ = some (.string (S.getD j ⟨#[]⟩)) := by
        have h := hcell2 j hlt2 0 (.string (S.getD j ⟨#[]⟩)) rfl
        rw [Nat.mul_one, Nat.add_zero] at h
        exact (HB.out.cell (p := ⟨b2, off2 + j, none⟩) hb2).trans h
      have hB2l : b2 < wr.heap.size := Nat.lt_of_lt_of_le hb2 HB.out.size
      have HNE : Hid (fitB s (L.getD j SP.zero) (S.getD j ⟨#[]⟩).size = false → joiE s L S = 2 ∧ joiL s L S = []) := Lib.hid (fun h => joi_no1 HSZ.out (fun h2 => by rw [h2.2 j hlt] at h; cases h))
      have HEQ : Hid (fitB s (L.getD j SP.zero) (S.getD j ⟨#[]⟩).size = true → ∀ i, i < j + 1 → fitB s (L.getD i SP.zero) (S.getD i ⟨#[]⟩).size = true) := Lib.hid (fun h i hi => by
        by_cases e : i = j
        · rw [e]; exact h
        · exact HP.out i (by omega))
      have hF := fits_any s (L.getD j SP.zero) (S.getD j ⟨#[]⟩)
      generalize fitB s (L.getD j SP.zero) (S.getD j ⟨#[]⟩).size = r at hF HNE HEQ
      generalize L.getD j SP.zero = p at hcA hF
      generalize S.getD j ⟨#[]⟩ = str at hcB hF
      obtain ⟨pb, pf, pt⟩ := p
      have q0 : wr.cell? ⟨b, off + j * 3, none⟩ = some (.int .i64 pb) := hcA 0 _ rfl
      have q1 : wr.cell? ⟨b, off + j * 3 + 1, none⟩ = some (.int .i64 pf) := hcA 1 _ rfl
      have q2 : wr.cell? ⟨b, off + j * 3 + 2, none⟩ = some (.int .i64 pt) := hcA 2 _ rfl
      have HX := Lib.hid (Sp3.new wr ⟨pb, pf, pt⟩ 63)
      have HBX := Lib.hid (below_new wr (.cells #[.int .i64 pb, .int .i64 pf, .int .i64 pt] 63))
      unfold spV at hF
      dsimp only at hF HX
      clear hcA hcell hcell2 hb hb2
      go_upto_region 8 with fail
      have HSTR := Lib.hid ((HBX.out.cell (p := ⟨b2, off2 + j, none⟩) hB2l).trans hcB)
      have hB2m : b2 < (wr.alloc (.cells #[.int .i64 pb, .int .i64 pf, .int .i64 pt] 63)).heap.size := by simp; omega
      have HBL := Lib.hid (HB.out.trans (HBX.out.mono HB.out.size))
      generalize wr.alloc (.cells #[.int .i64 pb, .int .i64 pf, .int .i64 pt] 63) = w1 at HX HBX HSTR HBL hB2m ⊢
      generalize wr.heap.size = bx at HX ⊢
      clear q0 q1 q2 hcB HBX hB2l HB
      have HDR : Hid (w1.drew.cell? ⟨bx, 0, none⟩ = some (.int .i64 pb) ∧ w1.drew.cell? ⟨bx, 1, none⟩ = some (.int .i64 pf) ∧ w1.drew.cell? ⟨bx, 2, none⟩ = some (.int .i64 pt) ∧ w1.drew.cell? ⟨b2, off2 + j, none⟩ = some (.string str)) := Lib.hid ⟨HX.out.c0, HX.out.c1, HX.out.c2, HSTR.out⟩
      go_region_held3 (fun w' => w'.cell? ⟨bx, 0, none⟩ = some (.int .i64 pb) ∧ w'.cell? ⟨bx, 1, none⟩ = some (.int .i64 pf) ∧ w'.cell? ⟨bx, 2, none⟩ = some (.int .i64 pt) ∧ w'.cell? ⟨b2, off2 + j, none⟩ = some (.string str)) (first | exact HDR.out | exact HD5.out)
        (first | (go_at_call 46; refine (hF _ hsb).mono ?_; rintro e w5 ⟨rfl, hb5⟩; have HD5 : Hid (w5.cell? ⟨bx, 0, none⟩ = some (.int .i64 pb) ∧ w5.cell? ⟨bx, 1, none⟩ = some (.int .i64 pf) ∧ w5.cell? ⟨bx, 2, none⟩ = some (.int .i64 pt) ∧ w5.cell? ⟨b2, off2 + j, none⟩ = some (.string str)) := Lib.hid ⟨(hb5.cell (p := ⟨bx, 0, none⟩) HX.out.lt).trans HDR.out.1, (hb5.cell (p := ⟨bx, 1, none⟩) HX.out.lt).trans HDR.out.2.1, (hb5.cell (p := ⟨bx, 2, none⟩) HX.out.lt).trans HDR.out.2.2.1, (hb5.cell (p := ⟨b2, off2 + j, none⟩) hB2m).trans HDR.out.2.2.2⟩; have HB5 : Hid (Below w.heap.size w w5) := Lib.hid ((Below.drew HBL.out).trans (hb5.mono (HBL.out.size))); clear hb5))
      cases r
      · have HE := Lib.hid (HNE.out rfl)
        go_wp2
        go_ret2
        rw [HE.out.1, HE.out.2]
        exact ⟨rfl, HB5.out⟩
      · have HE := Lib.hid (HEQ.out rfl)
        go_wp2
        go_roundw
        case rel => exact ⟨j + 1, hlt, by go_num, HE.out, HB5.out⟩
        case measure => simp [intOf]; omega
    · obtain rfl : j = L.length := by omega
      have hok : joiOk s L S := ⟨HL.out, fun i hi => HP.out i hi⟩
      have HE := Lib.hid (joi_yes HSZ.out hok)
      have hT := together_any S _ wr (HU.out.below HB.out (Nat.le_refl _)) (by have := joi_small HSZ.out hok HS.out; omega)
      clear hok
      go_wp2_with (go_at_call 47; refine hT.mono ?_; rintro e w2 ⟨rfl, hb2⟩; have HB2 := Lib.hid (HB.out.trans (hb2.mono HB.out.size)); clear hb2)
      go_ret2
      rw [HE.out.1, HE.out.2]
      exact ⟨rfl, HB2.out⟩
end Go.Proofs.Ytdcpgjkaimekbaa
