/- fill and Same of the dev statements. -/
import Derived.Test.YtmbjcphhfnemgaaDevL
namespace Go.Proofs.Ytmbjcphhfnemgaa
open Go.RowKit Go.Maps

/-- A sector's bytes, all of them one. -/
def fillL (c : UInt8) : List UInt8 := List.replicate 512 c
def fillS (c : UInt8) : ByteArray := ⟨(fillL c).toArray⟩
theorem fillL_len (c : UInt8) : (fillL c).length = 512 := List.length_replicate ..
theorem fillS_size (c : UInt8) : (fillS c).size = 512 := by show (fillL c).toArray.size = 512; rw [List.size_toArray, fillL_len]
theorem fillS_list (c : UInt8) : (fillS c).data.toList = fillL c := rfl
set_option maxRecDepth 100000 in
set_option maxHeartbeats 1000000 in
theorem fill_any (c : UInt8) (w : World) :
    Calls Try.prog 25 #[.int .u8 (c.toNat : Int)] w fun e w' => e = .returned (.string (fillS c)) ∧ Below w.heap.size w w' := by
  have hmk : ∀ w : World, (Instr.makeSlice 73 (.int .i64 512) (.int .i64 512)).run Try.prog w = .ok (.slice (some ⟨w.heap.size, 0, none⟩) 512 512) (w.alloc (.cells (madeCells #[.int .u8 0] 512) 5)) := run_make_row' (P := Try.prog) 73 5 (.int .u8 0) 1 Try.underlying73 infoU8 rfl .i64 .i64 512 (by omega) (by omega)
  have HR0 := Lib.hid (row_made w 512 5)
  have HB0 : Hid (Below w.heap.size w (w.alloc (.cells (madeCells #[.int .u8 0] 512) 5))) := Lib.hid ((Below.refl _ _).alloc (Nat.le_refl _) _)
  go_enter Try.func25, Try.ntmps25
  go_wp2_with fail
  clear hmk
  generalize w.alloc (.cells (madeCells #[.int .u8 0] 512) 5) = w1 at HR0 HB0 ⊢
  go_loopw [8] (fun ix wr => ∃ (j : Nat) (l : List UInt8), j ≤ 512 ∧ ix = .int .i64 (j : Int) ∧ l.length = 512 ∧ (∀ q, q < j → l.getD q 0 = c) ∧ Row8 wr w.heap.size 0 l ∧ Below w.heap.size w wr) (fun ix _ => 512 - (intOf ix).toNat)
  case atStart => exact ⟨0, List.replicate 512 0, by omega, rfl, List.length_replicate .., (fun q hq => by omega), HR0.out, HB0.out⟩
  case round =>
    obtain ⟨j, l, hj, rfl, hl, hlq, hrow, hb⟩ := hrel
    have HB := Lib.hid hb
    have HROW := Lib.hid hrow
    have HLQ := Lib.hid hlq
    clear hrow hb hlq HR0 HB0
    by_cases hlt : j < 512
    · have hcell := (HROW.out.2 j (by omega)).1
      have hfz := (HROW.out.2 j (by omega)).2
      rw [Nat.zero_add] at hcell hfz
      generalize l.getD j 0 = y at hcell
      go_wp2
      go_roundw
      case rel => exact ⟨j + 1, l.set j c, by omega, by go_num, by rw [List.length_set]; exact hl, (fun q hq => by
          by_cases e : q = j
          · subst e; simp [List.getD, hl, hlt]
          · have := HLQ.out q (by omega)
            simp only [List.getD] at this ⊢
            rw [List.getElem?_set_ne (Ne.symm e)]; exact this), (by have := HROW.out.set j (by omega) c; rw [Nat.zero_add] at this; exact this), HB.out.setCell (p := ⟨w.heap.size, j, none⟩) (Nat.le_refl _) _⟩
      case measure => simp [intOf]; omega
    · obtain rfl : j = 512 := by omega
      obtain rfl : l = fillL c := List.ext_getElem (by rw [hl, fillL_len]) (fun q hq _ => by
        have := HLQ.out q (by omega)
        rw [List.getD, List.getElem?_eq_getElem hq] at this
        have h2 : (fillL c)[q] = c := List.getElem_replicate ..
        rw [h2]; exact this)
      have hcv := string_of_row (P := Try.prog) (cap := 512) 512 (fillL_len c).symm HROW.out 73 9 5 Try.underlying73 Try.underlying5 Try.underlying9
      rw [show (⟨(fillL c).toArray⟩ : ByteArray) = fillS c from rfl] at hcv
      clear HROW HLQ hl hlt hj
      go_wp2
      go_ret
      exact ⟨rfl, HB.out⟩
/-- A slice that reads as these numbers, wherever it lies. -/
def IntsR (w : World) (v : Value) (L : List Int) : Prop :=
  ∃ A cap, v = .slice A L.length cap ∧ L.length ≤ cap ∧ cap ≤ 9223372036854775807 ∧ (L = [] ∨ ∃ b off, A = some ⟨b, off, none⟩ ∧ ∀ j, j < L.length → w.cell? ⟨b, off + j, none⟩ = some (.int .i64 (L.getD j 0)))
theorem IntsOf.toR {w : World} {base : Nat} {v : Value} {L : List Int} (h : IntsOf w base v L) : IntsR w v L := by
  rcases h.reads with ⟨rfl, rfl⟩ | ⟨g, cap, rfl, _, _, h1, h2, h3⟩
  · exact ⟨none, 0, rfl, Nat.le_refl _, by omega, .inl rfl⟩
  · exact ⟨_, cap, rfl, h1, h2, .inr ⟨g, 0, rfl, fun j hj => by rw [Nat.zero_add]; exact h3 j hj⟩⟩
set_option maxHeartbeats 1000000 in
theorem same_any {w : World} {u v : Value} {K L : List Int} (hu : IntsR w u K) (hv : IntsR w v L) :
    Calls Try.prog 14 #[u, v] w fun e w' => e = .returned (.bool (decide (K = L))) ∧ Below w.heap.size w w' := by
  obtain ⟨A, c1, rfl, k1, k2, k3⟩ := hu
  obtain ⟨B, c2, rfl, l1, l2, l3⟩ := hv
  by_cases hl : K.length = L.length
  case neg =>
    have e1 : ((K.length : Int) != (L.length : Int)) = true := by rw [bne_iff_ne]; omega
    have e2 : ((K.length : Int) == (L.length : Int)) = false := by rw [beq_eq_false_iff_ne]; omega
    have hd : decide (K = L) = false := decide_eq_false (fun e => hl (by rw [e]))
    rw [hd]
    clear k3 l3 hl hd
    go_enter Try.func14, Try.ntmps14
    go_wp2
    go_ret
    exact ⟨rfl, Below.refl _ _⟩
  case pos =>
  obtain ⟨r, hr⟩ : ∃ r, r = decide (K = L) := ⟨_, rfl⟩
  rw [← hr]
  have HRR := Lib.hid hr
  clear hr
  obtain ⟨m, hm⟩ : ∃ m, m = K.length := ⟨_, rfl⟩
  have HM := Lib.hid hm
  have HML : Hid (m = L.length) := Lib.hid (hm.trans hl)
  have HK := Lib.hid k3
  have HL := Lib.hid l3
  rw [← HML.out] at l1 ⊢
  rw [← hm] at k1 ⊢
  clear k3 l3 hl hm
  have e1 : ((m : Int) != (m : Int)) = false := by simp
  go_enter Try.func14, Try.ntmps14
  go_wp2_with fail
  go_loopw [13] (fun ix wr => ∃ j : Nat, j ≤ m ∧ ix = .int .i64 (j : Int) ∧ (∀ q, q < j → K.getD q 0 = L.getD q 0) ∧ (∀ p, wr.cell? p = w.cell? p) ∧ Below w.heap.size w wr) (fun ix _ => m - (intOf ix).toNat)
  case atStart => exact ⟨0, Nat.zero_le _, rfl, (fun q hq => by omega), (fun _ => rfl), Below.refl _ _⟩
  case round =>
    obtain ⟨j, hj, rfl, hq, hc, hb⟩ := hrel
    have HQ := Lib.hid hq
    have HC := Lib.hid hc
    have HB := Lib.hid hb
    clear hq hc hb
    by_cases hlt : j < m
    · obtain ⟨b, o, rfl, hk⟩ := HK.out.resolve_left (by intro e; have := HM.out; rw [e] at this; simp at this; omega)
      obtain ⟨b', o', rfl, hl⟩ := HL.out.resolve_left (by intro e; have := HML.out; rw [e] at this; simp at this; omega)
      have ck : wr.cell? ⟨b, o + j, none⟩ = some (.int .i64 (K.getD j 0)) := (HC.out _).trans (hk j (by rw [← HM.out]; exact hlt))
      have cl : wr.cell? ⟨b', o' + j, none⟩ = some (.int .i64 (L.getD j 0)) := (HC.out _).trans (hl j (by rw [← HML.out]; exact hlt))
      have HE : Hid (∀ x y, K.getD j 0 = x → L.getD j 0 = y → (x = y → ∀ q, q < j + 1 → K.getD q 0 = L.getD q 0) ∧ (x ≠ y → decide (K = L) = false)) := Lib.hid (fun x y hx hy => ⟨fun e q hq => by
        by_cases g : q = j
        · rw [g, hx, hy, e]
        · exact HQ.out q (by omega), fun ne => decide_eq_false (fun e => ne (by rw [← hx, ← hy, e]))⟩)
      generalize hx : K.getD j 0 = x at ck
      generalize hy : L.getD j 0 = y at cl
      obtain ⟨E1, E2⟩ := HE.out x y hx hy
      have HE1 := Lib.hid E1
      have HE2 := Lib.hid E2
      clear E1 E2 HE hk hl hx hy
      have hi0 : (0 : Int) ≤ (j : Int) := by omega
      have hi1 : (j : Int) < (m : Int) := by omega
      by_cases hxy : x = y
      · have HQ2 := Lib.hid (HE1.out hxy)
        subst hxy
        have hb : (x != x) = false := by simp
        clear HE1 HE2 HQ
        go_wp2_with fail
        go_region
        all_goals go_wp2
        all_goals go_roundw
        case rel => exact ⟨j + 1, by omega, by go_num, HQ2.out, HC.out, HB.out.drew⟩
        case measure => simp [intOf]; omega
      · have hr := HRR.out.trans (HE2.out hxy)
        have hb : (x == y) = false := by rw [beq_eq_false_iff_ne]; exact hxy
        have hb2 : (x != y) = true := by rw [bne_iff_ne]; exact hxy
        clear HE1 HE2 HQ HRR hxy
        subst hr
        go_wp2_with fail
        go_region
        all_goals go_wp2
        all_goals go_ret
        all_goals exact ⟨rfl, HB.out.drew⟩
    · obtain rfl : j = m := by omega
      have hd : decide (K = L) = true := decide_eq_true (List.ext_getElem (HM.out.symm.trans HML.out) (fun q h1 h2 => by
        have := HQ.out q (by rw [HM.out]; exact h1)
        rw [List.getD, List.getD, List.getElem?_eq_getElem h1, List.getElem?_eq_getElem h2] at this; exact this))
      have hr := HRR.out.trans hd
      clear hd HK HL HM HML HQ HRR
      subst hr
      go_wp2
      go_ret
      exact ⟨rfl, HB.out⟩
end Go.Proofs.Ytmbjcphhfnemgaa
