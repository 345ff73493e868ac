/- Reports of damage: whether two lists of wounds, or two reports, are one, of two that read alike. -/
import Derived.Test.YtfmpbohiahjafaaGreatDoorDmgC
import Derived.BigQuiet
import Derived.Deep.QuietTactic
namespace Go.Proofs.YtfmpbohiahjafaaGreatDoor
open Go.RowKit

set_option maxRecDepth 100000 in
set_option maxHeartbeats 4000000 in
theorem sameW_self {L : List WD} {va vb : Value} {w : World} (ha : WdS w va L) (hb : WdS w vb L) :
    Calls Tryz.prog 9 #[va, vb] w fun e w' => e = .returned (.bool true) ∧ Below w.heap.size w w' := by
  obtain ⟨PA, capA, rfl, ha1, ha2, ha3⟩ := ha
  obtain ⟨PB, capB, rfl, hb1, hb2, hb3⟩ := hb
  have HA := Lib.hid ha3
  have HBB := Lib.hid hb3
  obtain ⟨n, hn⟩ : ∃ n, n = L.length := ⟨_, rfl⟩
  have HN := Lib.hid hn
  have HNX : Hid (n ≤ maxLen) := Lib.hid (by omega)
  rw [← hn]
  clear ha1 ha2 ha3 hb1 hb2 hb3 hn
  go_enter Tryz.func9, Tryz.ntmps9
  go_wp2
  go_loopw [13] (fun ix wr => ∃ (j : Nat), j ≤ n ∧ ix = .int .i64 (j : Int) ∧ Below w.heap.size w wr) (fun ix _ => n - (intOf ix).toNat)
  case atStart => exact ⟨0, Nat.zero_le _, rfl, Below.refl _ _⟩
  case round =>
    obtain ⟨j, hj, rfl, hB⟩ := hrel
    have HB := Lib.hid hB
    clear hB
    by_cases hlt : j < n
    · have hlt2 : j < L.length := by rw [← HN.out]; exact hlt
      obtain ⟨b, off, rfl, hb, hcell⟩ := HA.out.resolve_left (by intro e; rw [e] at hlt2; simp at hlt2)
      obtain ⟨b2, off2, rfl, hb2, hcell2⟩ := HBB.out.resolve_left (by intro e; rw [e] at hlt2; simp at hlt2)
      have hc := stAt (k := 5) HB.out hb hcell hlt2
      have hc2 := stAt (k := 5) HB.out hb2 hcell2 hlt2
      have HJ : Hid (j + 1 ≤ n ∧ n - (j + 1) < n - j) := Lib.hid ⟨hlt, by omega⟩
      have hw1 := nextD hlt HNX.out
      generalize L.getD j WD.zero = p at hc hc2
      obtain ⟨k, id, ix, pl, hl⟩ := p
      have q0 : wr.cell? ⟨b, off + j * 5, none⟩ = some (.int .u8 k) := hc 0 _ rfl
      have q1 : wr.cell? ⟨b, off + j * 5 + 1, none⟩ = some (.int .i64 id) := hc 1 _ rfl
      have q2 : wr.cell? ⟨b, off + j * 5 + 2, none⟩ = some (.int .i64 ix) := hc 2 _ rfl
      have q3 : wr.cell? ⟨b, off + j * 5 + 3, none⟩ = some (.int .i64 pl) := hc 3 _ rfl
      have q4 : wr.cell? ⟨b, off + j * 5 + 4, none⟩ = some (.bool hl) := hc 4 _ rfl
      have r0 : wr.cell? ⟨b2, off2 + j * 5, none⟩ = some (.int .u8 k) := hc2 0 _ rfl
      have r1 : wr.cell? ⟨b2, off2 + j * 5 + 1, none⟩ = some (.int .i64 id) := hc2 1 _ rfl
      have r2 : wr.cell? ⟨b2, off2 + j * 5 + 2, none⟩ = some (.int .i64 ix) := hc2 2 _ rfl
      have r3 : wr.cell? ⟨b2, off2 + j * 5 + 3, none⟩ = some (.int .i64 pl) := hc2 3 _ rfl
      have r4 : wr.cell? ⟨b2, off2 + j * 5 + 4, none⟩ = some (.bool hl) := hc2 4 _ rfl
      clear hc hc2 hcell hcell2 hb hb2 hlt2
      go_upto_region 6 with fail
      go_quiet (fail)
      go_wp2
      (try rw [hw1])
      clear hw1
      go_roundw
      case rel => exact ⟨j + 1, HJ.out.1, by go_num, below_drewN HB.out _⟩
      case measure => have h := HJ.out.2; simp only [intOf]; omega
    · obtain rfl : j = n := by omega
      go_wp2
      go_ret
      exact ⟨rfl, HB.out⟩
set_option maxRecDepth 100000 in
set_option maxHeartbeats 8000000 in
theorem sameR_self {W : List WD} {L : List LO} {ua va ub vb : Value} {w : World} (h1 : WdS w ua W) (h2 : LoS w va L) (h3 : WdS w ub W) (h4 : LoS w vb L) :
    Calls Tryz.prog 20 #[.agg #[ua, va], .agg #[ub, vb]] w fun e w' => e = .returned (.bool true) ∧ Below w.heap.size w w' := by
  have HSW : Hid (∀ V, Below w.heap.size w V → _) := Lib.hid (fun V hb => sameW_self (h1.below hb (Nat.le_refl _)) (h3.below hb (Nat.le_refl _)))
  obtain ⟨A1, c1, rfl⟩ := h1.form
  obtain ⟨A3, c3, rfl⟩ := h3.form
  obtain ⟨PA, capA, rfl, ha1, ha2, ha3⟩ := h2
  obtain ⟨PB, capB, rfl, hb1, hb2, hb3⟩ := h4
  have HA := Lib.hid ha3
  have HBB := Lib.hid hb3
  obtain ⟨n, hn⟩ : ∃ n, n = L.length := ⟨_, rfl⟩
  have HN := Lib.hid hn
  have HNX : Hid (n ≤ maxLen) := Lib.hid (by omega)
  rw [← hn]
  obtain ⟨w1, hw1⟩ : ∃ w1, w1 = w.alloc (.cells #[.slice A1 W.length c1, .slice PA n capA] 25) := ⟨_, rfl⟩
  obtain ⟨w2, hw2⟩ : ∃ w2, w2 = w1.alloc (.cells #[.slice A3 W.length c3, .slice PB n capB] 25) := ⟨_, rfl⟩
  have hs1 : w1.heap.size = w.heap.size + 1 := by rw [hw1]; simp
  have hs2 : w2.heap.size = w.heap.size + 1 + 1 := by rw [hw2]; simp [hs1]
  have hb1' : Below w.heap.size w w1 := by rw [hw1]; exact below_new w _
  have hb2' : Below w1.heap.size w1 w2 := by rw [hw2]; exact below_new w1 _
  have e1 := cell2 w (.slice A1 W.length c1) (.slice PA n capA) 25
  have e2 := cell2 w1 (.slice A3 W.length c3) (.slice PB n capB) 25
  rw [← hw1] at e1
  rw [← hw2, hs1] at e2
  have HB2 : Hid (Below w.heap.size w w2) := Lib.hid (hb1'.trans (hb2'.mono hb1'.size))
  have HX : Hid (∀ V, Below w2.heap.size w2 V → V.cell? ⟨w.heap.size, 0, none⟩ = some (.slice A1 W.length c1) ∧ V.cell? ⟨w.heap.size, 1, none⟩ = some (.slice PA n capA) ∧ V.cell? ⟨w.heap.size + 1, 0, none⟩ = some (.slice A3 W.length c3) ∧ V.cell? ⟨w.heap.size + 1, 1, none⟩ = some (.slice PB n capB)) := Lib.hid (fun V hb =>
    ⟨cell_keep hb (cell_keep hb2' e1.1), cell_keep hb (cell_keep hb2' e1.2), cell_keep hb e2.1, cell_keep hb e2.2⟩)
  have HW1 := Lib.hid hw1
  have HW2 := Lib.hid hw2
  clear ha1 ha2 ha3 hb1 hb2 hb3 hn hw1 hw2 hs1 hs2 hb1' hb2' e1 e2 h1 h3
  go_enter Tryz.func20, Tryz.ntmps20
  go_upto_region 1 with fail
  rw [← HW1.out, ← HW2.out]
  obtain ⟨y0, y1, y2, y3⟩ := HX.out w2 (Below.refl _ _)
  have hSW := HSW.out w2 HB2.out
  go_wp2_with (go_at_call 9; (with_reducible refine hSW.mono ?_); rintro e w3 ⟨rfl, hb3⟩; have HB3 := Lib.hid hb3; obtain ⟨z0, z1, z2, z3⟩ := HX.out w3 hb3; clear hb3)
  go_loopw [24] (fun ix wr => ∃ (j : Nat), j ≤ n ∧ ix = .int .i64 (j : Int) ∧ Below w2.heap.size w2 wr) (fun ix _ => n - (intOf ix).toNat)
  case atStart => exact ⟨0, Nat.zero_le _, rfl, HB3.out⟩
  case round =>
    obtain ⟨j, hj, rfl, hB⟩ := hrel
    have HB := Lib.hid hB
    obtain ⟨x0, x1, x2, x3⟩ := HX.out wr hB
    clear hB
    by_cases hlt : j < n
    · have hlt2 : j < L.length := by rw [← HN.out]; exact hlt
      have hbw : Below w.heap.size w wr := HB2.out.trans (HB.out.mono HB2.out.size)
      obtain ⟨b, off, rfl, hb, hcell⟩ := HA.out.resolve_left (by intro e; rw [e] at hlt2; simp at hlt2)
      obtain ⟨b2, off2, rfl, hb2, hcell2⟩ := HBB.out.resolve_left (by intro e; rw [e] at hlt2; simp at hlt2)
      have hc := stAt (k := 3) hbw hb hcell hlt2
      have hc2 := stAt (k := 3) hbw hb2 hcell2 hlt2
      have HJ : Hid (j + 1 ≤ n ∧ n - (j + 1) < n - j) := Lib.hid ⟨hlt, by omega⟩
      have hw1 := nextD hlt HNX.out
      generalize L.getD j LO.zero = p at hc hc2
      obtain ⟨c, f, t⟩ := p
      have q0 : wr.cell? ⟨b, off + j * 3, none⟩ = some (.int .i64 c) := hc 0 _ rfl
      have q1 : wr.cell? ⟨b, off + j * 3 + 1, none⟩ = some (.int .i64 f) := hc 1 _ rfl
      have q2 : wr.cell? ⟨b, off + j * 3 + 2, none⟩ = some (.int .i64 t) := hc 2 _ rfl
      have r0 : wr.cell? ⟨b2, off2 + j * 3, none⟩ = some (.int .i64 c) := hc2 0 _ rfl
      have r1 : wr.cell? ⟨b2, off2 + j * 3 + 1, none⟩ = some (.int .i64 f) := hc2 1 _ rfl
      have r2 : wr.cell? ⟨b2, off2 + j * 3 + 2, none⟩ = some (.int .i64 t) := hc2 2 _ rfl
      clear hc hc2 hcell hcell2 hb hb2 hlt2 hbw y0 y1 y2 y3 z0 z1 z2 z3
      go_upto_region 6 with fail
      go_quiet (fail)
      go_wp2
      (try rw [hw1])
      clear hw1
      go_roundw
      case rel => exact ⟨j + 1, HJ.out.1, by go_num, below_drewN HB.out _⟩
      case measure => have h := HJ.out.2; simp only [intOf]; omega
    · obtain rfl : j = n := by omega
      go_wp2
      go_ret
      exact ⟨rfl, HB2.out.trans (HB.out.mono HB2.out.size)⟩
end Go.Proofs.YtfmpbohiahjafaaGreatDoor
