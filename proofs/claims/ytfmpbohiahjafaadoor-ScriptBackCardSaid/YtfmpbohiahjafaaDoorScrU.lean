/- Scripts: whether two lists of deeds are one, of two that read alike. -/
import Derived.Test.YtfmpbohiahjafaaDoorScrT
import Derived.BigQuiet
import Derived.Deep.QuietTactic
namespace Go.Proofs.YtfmpbohiahjafaaDoor
open Go.RowKit

theorem nextU {j n : Nat} (h : j < n) (h1 : n ≤ maxLen) : wrap64 ((j : Int) + 1) = (j : Int) + 1 := wrap_nx h (Nat.le_refl _) h1
/-- A struct read of a slice. -/
theorem stAtU {α : Type} {k : Nat} {enc : α → List Value} {z : α} {w W : World} {b off j : Nat} {L : List α} (hb : Below w.heap.size w W) (hlt : b < w.heap.size) (hc : ∀ j, j < L.length → ∀ q u, (enc (L.getD j z))[q]? = some u → w.cell? ⟨b, off + j * k + q, none⟩ = some u) (hj : j < L.length) :
    ∀ q u, (enc (L.getD j z))[q]? = some u → W.cell? ⟨b, off + j * k + q, none⟩ = some u :=
  fun q u hu => (hb.cell (p := ⟨b, off + j * k + q, none⟩) hlt).trans (hc j hj q u hu)
set_option maxRecDepth 100000 in
set_option maxHeartbeats 4000000 in
theorem sameD_self {L : List DD} {va vb : Value} {w : World} (ha : DdS w va L) (hb : DdS w vb L) :
    Calls Tryd.prog 15 #[va, vb] w fun e w' => e = .returned (.bool true) ∧ Below w.heap.size w w' := by
  obtain ⟨PA, capA, rfl, ha1, ha2, ha3⟩ := ha
  obtain ⟨PB, capB, rfl, hb1, hb2, hb3⟩ := hb
  have HA := Lib.hid ha3
  have HBB := Lib.hid hb3
  obtain ⟨n, hn⟩ : ∃ n, n = L.length := ⟨_, rfl⟩
  have HN := Lib.hid hn
  have HNX : Hid (n ≤ maxLen) := Lib.hid (by omega)
  rw [← hn]
  clear ha1 ha2 ha3 hb1 hb2 hb3 hn
  go_enter Tryd.func15, Tryd.ntmps15
  go_wp2
  go_loopw [13] (fun ix wr => ∃ (j : Nat), j ≤ n ∧ ix = .int .i64 (j : Int) ∧ Below w.heap.size w wr) (fun ix _ => n - (intOf ix).toNat)
  case atStart => exact ⟨0, Nat.zero_le _, rfl, Below.refl _ _⟩
  case round =>
    obtain ⟨j, hj, rfl, hB⟩ := hrel
    have HB := Lib.hid hB
    clear hB
    by_cases hlt : j < n
    · have hlt2 : j < L.length := by rw [← HN.out]; exact hlt
      obtain ⟨b, off, rfl, hb, hcell⟩ := HA.out.resolve_left (by intro e; rw [e] at hlt2; simp at hlt2)
      obtain ⟨b2, off2, rfl, hb2, hcell2⟩ := HBB.out.resolve_left (by intro e; rw [e] at hlt2; simp at hlt2)
      have hc := stAtU (k := 5) HB.out hb hcell hlt2
      have hc2 := stAtU (k := 5) HB.out hb2 hcell2 hlt2
      have HJ : Hid (j + 1 ≤ n ∧ n - (j + 1) < n - j) := Lib.hid ⟨hlt, by omega⟩
      have hw1 := nextU hlt HNX.out
      generalize L.getD j DD.zero = p at hc hc2
      obtain ⟨k, id, ix, pl, hl⟩ := p
      have q0 : wr.cell? ⟨b, off + j * 5, none⟩ = some (.int .u8 k) := hc 0 _ rfl
      have q1 : wr.cell? ⟨b, off + j * 5 + 1, none⟩ = some (.int .i64 id) := hc 1 _ rfl
      have q2 : wr.cell? ⟨b, off + j * 5 + 2, none⟩ = some (.int .i64 ix) := hc 2 _ rfl
      have q3 : wr.cell? ⟨b, off + j * 5 + 3, none⟩ = some (.int .i64 pl) := hc 3 _ rfl
      have q4 : wr.cell? ⟨b, off + j * 5 + 4, none⟩ = some (Bs hl) := hc 4 _ rfl
      have r0 : wr.cell? ⟨b2, off2 + j * 5, none⟩ = some (.int .u8 k) := hc2 0 _ rfl
      have r1 : wr.cell? ⟨b2, off2 + j * 5 + 1, none⟩ = some (.int .i64 id) := hc2 1 _ rfl
      have r2 : wr.cell? ⟨b2, off2 + j * 5 + 2, none⟩ = some (.int .i64 ix) := hc2 2 _ rfl
      have r3 : wr.cell? ⟨b2, off2 + j * 5 + 3, none⟩ = some (.int .i64 pl) := hc2 3 _ rfl
      have r4 : wr.cell? ⟨b2, off2 + j * 5 + 4, none⟩ = some (Bs hl) := hc2 4 _ rfl
      clear hc hc2 hcell hcell2 hb hb2 hlt2
      go_upto_region 6 with fail
      go_quiet (fail)
      go_wp2
      (try rw [hw1])
      clear hw1
      go_roundw
      case rel => exact ⟨j + 1, HJ.out.1, by go_num, below_drewN HB.out _⟩
      case measure => have h := HJ.out.2; simp only [intOf]; omega
    · obtain rfl : j = n := by omega
      go_wp2
      go_ret
      exact ⟨rfl, HB.out⟩
end Go.Proofs.YtfmpbohiahjafaaDoor
