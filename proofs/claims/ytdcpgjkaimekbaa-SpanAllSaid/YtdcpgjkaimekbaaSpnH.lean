/- Spans: fits, together, and Join, the program's. -/
import Derived.Test.YtdcpgjkaimekbaaSpnG
import Derived.Test.YtdcpgjkaimekbaaBld
import Derived.Deep.RegionHeld3
namespace Go.Proofs.Ytdcpgjkaimekbaa
open Go.RowKit

def sEnc (s : ByteArray) : List Value := [.string s]
abbrev StrL (w : World) (v : Value) (S : List ByteArray) : Prop := StS 1 sEnc ⟨#[]⟩ w v S
theorem sEnc_len (s : ByteArray) : (sEnc s).length = 1 := rfl
/-- One behind the other. -/
def catL (S : List ByteArray) : List UInt8 := S.flatMap fun s => s.data.toList
def catN (S : List ByteArray) : Nat := (S.map ByteArray.size).sum
theorem catN_snoc (S : List ByteArray) (s : ByteArray) : catN (S ++ [s]) = catN S + s.size := by unfold catN; simp
theorem catL_snoc (S : List ByteArray) (s : ByteArray) : catL (S ++ [s]) = catL S ++ s.data.toList := by unfold catL; rw [List.flatMap_append, List.flatMap_singleton]
theorem catL_len : ∀ (S : List ByteArray), (catL S).length = catN S
  | [] => rfl
  | s :: S => by
    have h := catL_len S
    unfold catL catN at h ⊢
    rw [List.flatMap_cons, List.length_append, h, List.map_cons, List.sum_cons]; simp
theorem catN_take (S : List ByteArray) (k : Nat) : catN (S.take k) ≤ catN S := by
  have h : catN S = catN (S.take k) + catN (S.drop k) := by
    unfold catN
    rw [← List.sum_append, ← List.map_append, List.take_append_drop]
  omega
/-- The part fits its span. -/
def fitB (n : Int) (x : SP) (m : Nat) : Bool := decide (0 ≤ x.f) && decide (x.f ≤ x.t) && decide (x.t ≤ n) && decide ((m : Int) = x.t - x.f)
theorem fitB_iff (n : Int) (x : SP) (m : Nat) : fitB n x m = true ↔ 0 ≤ x.f ∧ x.f ≤ x.t ∧ x.t ≤ n ∧ (m : Int) = x.t - x.f := by unfold fitB; simp [and_assoc]
set_option maxRecDepth 100000 in
set_option maxHeartbeats 2000000 in
theorem fits_any (n : Int) (x : SP) (s : ByteArray) (w : World) (hn : n ≤ 9223372036854775807) :
    Calls Try.prog 46 #[.int .i64 n, spV x, .string s] w fun e w' => e = .returned (.bool (fitB n x s.size)) ∧ Below w.heap.size w w' := by
  obtain ⟨pb, pf, pt⟩ := x
  have HYES : Hid (0 ≤ pf → pf ≤ pt → pt ≤ n → (s.size : Int) = pt - pf → fitB n ⟨pb, pf, pt⟩ s.size = true) := Lib.hid (fun a b c d => (fitB_iff _ _ _).2 ⟨a, b, c, d⟩)
  have HNO : Hid (¬ (0 ≤ pf ∧ pf ≤ pt ∧ pt ≤ n ∧ (s.size : Int) = pt - pf) → fitB n ⟨pb, pf, pt⟩ s.size = false) := Lib.hid (fun h => by rw [← Bool.not_eq_true, fitB_iff]; exact h)
  generalize fitB n ⟨pb, pf, pt⟩ s.size = r at HYES HNO ⊢
  have HB := Lib.hid (below_new w (.cells #[.int .i64 pb, .int .i64 pf, .int .i64 pt] 63))
  obtain ⟨m, hm⟩ : ∃ m, m = s.size := ⟨_, rfl⟩
  have hm1 : (s.size : Int) = (m : Int) := by rw [hm]
  rw [hm1] at HYES HNO
  clear hm
  unfold spV
  dsimp only
  by_cases g1 : 0 ≤ pf
  case neg =>
    have d1 : decide ((0 : Int) ≤ pf) = false := decide_eq_false g1
    obtain rfl := HNO.out (fun h => by omega)
    clear HYES HNO
    go_enter Try.func46, Try.ntmps46
    go_wp2
    go_ret
    exact ⟨rfl, HB.out⟩
  case pos =>
  have d1 : decide ((0 : Int) ≤ pf) = true := decide_eq_true g1
  by_cases g2 : pf ≤ pt
  case neg =>
    have d2 : decide (pf ≤ pt) = false := decide_eq_false g2
    obtain rfl := HNO.out (fun h => by omega)
    clear HYES HNO
    go_enter Try.func46, Try.ntmps46
    go_wp2
    go_ret
    exact ⟨rfl, HB.out⟩
  case pos =>
  have d2 : decide (pf ≤ pt) = true := decide_eq_true g2
  by_cases g3 : pt ≤ n
  case neg =>
    have d3 : decide (pt ≤ n) = false := decide_eq_false g3
    obtain rfl := HNO.out (fun h => by omega)
    clear HYES HNO
    go_enter Try.func46, Try.ntmps46
    go_wp2
    go_ret
    exact ⟨rfl, HB.out⟩
  case pos =>
  have d3 : decide (pt ≤ n) = true := decide_eq_true g3
  by_cases g4 : (m : Int) = pt - pf
  · have d4 : ((m : Int) == pt - pf) = true := by rw [beq_iff_eq]; exact g4
    obtain rfl := HYES.out g1 g2 g3 g4
    clear HYES HNO g4
    go_enter Try.func46, Try.ntmps46
    go_wp2
    go_ret
    exact ⟨rfl, HB.out⟩
  · have d4 : ((m : Int) == pt - pf) = false := by rw [beq_eq_false_iff_ne]; exact g4
    obtain rfl := HNO.out (fun h => g4 h.2.2.2)
    clear HYES HNO g4
    go_enter Try.func46, Try.ntmps46
    go_wp2
    go_ret
    exact ⟨rfl, HB.out⟩
set_option maxRecDepth 100000 in
set_option maxHeartbeats 2000000 in
theorem together_any (S : List ByteArray) (v : Value) (w : World) (hv : StrL w v S) (hN : catN S ≤ 140737488355328) :
    Calls Try.prog 47 #[v] w fun e w' => e = .returned (.string ⟨(catL S).toArray⟩) ∧ Below w.heap.size w w' := by
  obtain ⟨A, cap, rfl, hc1, hc2, hc3⟩ := hv
  have HC3 := Lib.hid hc3
  have HCAP := Lib.hid (And.intro hc1 hc2)
  have HTK : Hid (∀ k, catN (S.take k) ≤ 140737488355328) := Lib.hid (fun k => Nat.le_trans (catN_take S k) hN)
  clear hc1 hc2 hc3 hN
  go_enter Try.func47, Try.ntmps47
  go_wp2
  go_loopw [3, 11] (fun nx ix wr => ∃ (j n : Nat), j ≤ S.length ∧ ix = .int .i64 (j : Int) ∧ nx = .int .i64 (n : Int) ∧ n = catN (S.take j) ∧ Below w.heap.size w wr) (fun _ ix _ => S.length - (intOf ix).toNat)
  case atStart => exact ⟨0, 0, Nat.zero_le _, rfl, rfl, rfl, Below.refl _ _⟩
  case round =>
    obtain ⟨j, n, hj, rfl, rfl, hn, hB⟩ := hrel
    have HB := Lib.hid hB
    have HN := Lib.hid hn
    have hn1 : n ≤ 140737488355328 := by rw [hn]; exact HTK.out j
    clear hB hn
    by_cases hlt : j < S.length
    · obtain ⟨b, off, rfl, hb, hcell⟩ := HC3.out.resolve_left (by intro e; rw [e] at hlt; simp at hlt)
      have q0 : wr.cell? ⟨b, off + j, none⟩ = some (.string (S.getD j ⟨#[]⟩)) := by
        have h := hcell j hlt 0 (.string (S.getD j ⟨#[]⟩)) rfl
        rw [Nat.mul_one, Nat.add_zero] at h
        exact (HB.out.cell (p := ⟨b, off + j, none⟩) hb).trans h
      have HNX : Hid (catN (S.take (j + 1)) = n + (S.getD j ⟨#[]⟩).size) := Lib.hid (by rw [getD_snoc ⟨#[]⟩ hlt, catN_snoc, HN.out])
      have HNB := Lib.hid (HTK.out (j + 1))
      rw [HNX.out] at HNB
      generalize S.getD j ⟨#[]⟩ = s at q0 HNX HNB
      obtain ⟨m, hm⟩ : ∃ m, m = s.size := ⟨_, rfl⟩
      have hm1 : (s.size : Int) = (m : Int) := by rw [hm]
      rw [← hm] at HNX HNB
      have hm2 : m ≤ 140737488355328 := by have := HNB.out; omega
      have hw1 := wrap_nx hlt HCAP.out.1 HCAP.out.2
      clear hcell hb hm
      go_wp2
      rw [hw1]
      clear hw1 q0 hm1
      go_roundw
      case rel => exact ⟨j + 1, n + m, hlt, by go_num, by go_num, HNX.out.symm, HB.out⟩
      case measure => simp [intOf]; omega
    · obtain rfl : j = S.length := by omega
      have HT : Hid (S.take S.length = S) := Lib.hid (List.take_of_length_le (Nat.le_refl _))
      have hGr := bldGrow_any (B := w.heap.size) (n := n) wr.heap.size HB.out.size (heap_alloc_new wr (.cells #[.pointer none, .slice none 0 0] 98)) (by have := HB.out.size; simp; omega) (by omega)
      have HBN := Lib.hid (HB.out.alloc HB.out.size (.cells #[.pointer none, .slice none 0 0] 98))
      obtain ⟨bb, hbb⟩ : ∃ bb, bb = wr.heap.size := ⟨_, rfl⟩
      have HBBL : Hid (w.heap.size ≤ bb) := Lib.hid (by rw [hbb]; exact HB.out.size)
      clear HN
      rw [← hbb] at hGr
      go_wp2_with (go_at_call 55; rw [← hbb]; refine hGr.mono ?_; rintro e w1 ⟨rfl, hbl, hb1⟩; have HBL0 := Lib.hid hbl; have HB1 := Lib.hid (HBN.out.trans hb1); clear hbl hb1)
      rw [← hbb]
      clear hbb hGr HBN
      go_loopw [24] (fun ix wr => ∃ (j : Nat), j ≤ S.length ∧ ix = .int .i64 (j : Int) ∧ IsBld w.heap.size bb (catL (S.take j)) wr ∧ Below w.heap.size w wr) (fun ix _ => S.length - (intOf ix).toNat)
      case atStart => exact ⟨0, Nat.zero_le _, rfl, .inr HBL0.out, HB1.out⟩
      case round =>
        obtain ⟨j, hj, rfl, hbl, hB⟩ := hrel
        have HBE := Lib.hid hB
        have HBL := Lib.hid hbl
        clear hB hbl HBL0 HB1 HB
        by_cases hlt : j < S.length
        · obtain ⟨b, off, rfl, hb, hcell⟩ := HC3.out.resolve_left (by intro e; rw [e] at hlt; simp at hlt)
          have q0 : wr.cell? ⟨b, off + j, none⟩ = some (.string (S.getD j ⟨#[]⟩)) := by
            have h := hcell j hlt 0 (.string (S.getD j ⟨#[]⟩)) rfl
            rw [Nat.mul_one, Nat.add_zero] at h
            exact (HBE.out.cell (p := ⟨b, off + j, none⟩) hb).trans h
          have HNX : Hid (catL (S.take (j + 1)) = catL (S.take j) ++ (S.getD j ⟨#[]⟩).data.toList) := Lib.hid (by rw [getD_snoc ⟨#[]⟩ hlt, catL_snoc])
          have HNB : Hid ((catL (S.take j)).length + (S.getD j ⟨#[]⟩).size ≤ 140737488355328) := Lib.hid (by
            have := HTK.out (j + 1)
            rw [getD_snoc ⟨#[]⟩ hlt, catN_snoc] at this
            rw [catL_len]; exact this)
          generalize S.getD j ⟨#[]⟩ = s at q0 HNX HNB
          have hWS := bldWriteString_any (B := w.heap.size) (b := bb) HBL.out HBE.out.size s HNB.out
          have hw1 := wrap_nx hlt HCAP.out.1 HCAP.out.2
          clear hcell hb
          go_wp2_with (go_at_call 56; refine hWS.mono ?_; rintro e w3 ⟨rfl, hb3, hbl3, _, _⟩; have HB3 := Lib.hid (HBE.out.trans hbl3); have HBD := Lib.hid hb3; clear hb3 hbl3)
          rw [hw1]
          clear hw1 q0 hWS
          go_roundw
          case rel => exact ⟨j + 1, hlt, by go_num, by rw [HNX.out]; exact .inr HBD.out, HB3.out⟩
          case measure => simp [intOf]; omega
        · obtain rfl : j = S.length := by omega
          have hb := HBL.out
          rw [HT.out] at hb
          have hStr := bldString_any hb HBE.out.size
          clear hb
          go_wp2_with (go_at_call 57; refine hStr.mono ?_; rintro e w2 ⟨rfl, hb2, _⟩)
          go_ret
          exact ⟨rfl, HBE.out.trans hb2⟩
end Go.Proofs.Ytdcpgjkaimekbaa
