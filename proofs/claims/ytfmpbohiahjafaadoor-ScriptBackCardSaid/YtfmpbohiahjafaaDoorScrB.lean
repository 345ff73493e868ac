/- Scripts: the program's number of a word. -/
import Derived.Test.YtfmpbohiahjafaaDoorScrA
namespace Go.Proofs.YtfmpbohiahjafaaDoor
open Go.RowKit Go.Lib Go.Shelf Go.Sort

theorem numB_no {s : List UInt8} (h : ∀ u, Lib.atoiAll s ≠ .ok u) : numB s = none := by
  unfold numB
  split
  · rename_i u hu; exact absurd hu (h u)
  · rfl
theorem numB_ok {s : List UInt8} {v : Int} (h : Lib.atoiAll s = .ok v) : numB s = if nbOk v = true ∧ itoa v = s then some v else none := by unfold numB; rw [h]
/-- What toNumber answers. -/
def NAns (s : List UInt8) (e : Ending) : Prop := (∃ v, numB s = some v ∧ e = .returned (.tuple #[.int .i64 v, .bool true])) ∨ numB s = none ∧ e = .returned (.tuple #[.int .i64 0, .bool false])
set_option maxHeartbeats 8000000 in
set_option maxRecDepth 100000 in
theorem toNum_any {s : List UInt8} (hl : s.length ≤ 100000000) {w : World} (hD : ScW w) :
    Calls Tryd.prog 42 #[.string ⟨s.toArray⟩] w fun e w' => NAns s e ∧ Below w.heap.size w w' := by
  have HD := Lib.hid hD
  by_cases hok : ∃ u, Lib.atoiAll s = .ok u
  case neg =>
    have hno : ∀ u, Lib.atoiAll s ≠ .ok u := fun u hu => hok ⟨u, hu⟩
    have HN := Lib.hid (numB_no hno)
    have hA := atoiNo_any hl hno hD
    clear hok hno hl hD
    go_enter Tryd.func42, Tryd.ntmps42
    go_wp2_with (go_at_call 58; (with_reducible refine hA.mono ?_); rintro e w2 ⟨v, t, p, rfl, hb2⟩; have HB2 := Lib.hid hb2; clear hb2)
    go_ret2
    exact ⟨.inr ⟨HN.out, rfl⟩, HB2.out⟩
  obtain ⟨v, hv⟩ := hok
  have hN := numB_ok hv
  have hA := atoiOk_any hl hv w
  have HI : Hid (∀ V, Below w.heap.size w V → _) := Lib.hid (fun V hb => itoaI_any (atoi_in hv) (HD.out.below hb))
  clear hv hl hD
  by_cases h0 : v < 0
  · have d0 : decide (v < 0) = true := decide_eq_true h0
    rw [if_neg (by rw [nbOk_iff]; omega)] at hN
    have HN := Lib.hid hN
    clear hN HI HD
    go_enter Tryd.func42, Tryd.ntmps42
    go_wp2_with (go_at_call 58; (with_reducible refine hA.mono ?_); rintro e w2 ⟨rfl, hb2⟩; have HB2 := Lib.hid hb2; clear hb2)
    go_ret2
    exact ⟨.inr ⟨HN.out, rfl⟩, HB2.out⟩
  have d0 : decide (v < 0) = false := decide_eq_false h0
  by_cases h1 : 1099511627776 < v
  · have d1 : decide (1099511627776 < v) = true := decide_eq_true h1
    rw [if_neg (by rw [nbOk_iff]; omega)] at hN
    have HN := Lib.hid hN
    clear hN HI HD
    go_enter Tryd.func42, Tryd.ntmps42
    go_wp2_with (go_at_call 58; (with_reducible refine hA.mono ?_); rintro e w2 ⟨rfl, hb2⟩; have HB2 := Lib.hid hb2; clear hb2)
    go_ret2
    exact ⟨.inr ⟨HN.out, rfl⟩, HB2.out⟩
  have d1 : decide (1099511627776 < v) = false := decide_eq_false h1
  by_cases h2 : itoa v = s
  · have d2 : (itoa v == s) = true := by rw [beq_iff_eq]; exact h2
    have d3 : (itoa v != s) = false := by rw [bne_eq_false_iff_eq]; exact h2
    rw [if_pos ⟨nbOk_iff.2 (by omega), h2⟩] at hN
    have HN := Lib.hid hN
    clear hN HD h0 h1 h2
    go_enter Tryd.func42, Tryd.ntmps42
    go_wp2_with (first
      | (go_at_call 58; (with_reducible refine hA.mono ?_); rintro e w2 ⟨rfl, hb2⟩; have hIt := HI.out w2 hb2; have HB2 := Lib.hid hb2; clear hb2)
      | (go_at_call 35; (with_reducible refine hIt.mono ?_); rintro e w3 ⟨rfl, hb3⟩; have HB3 := Lib.hid (HB2.out.trans (hb3.mono HB2.out.size)); clear hb3))
    go_ret2
    exact ⟨.inl ⟨v, HN.out, rfl⟩, HB3.out⟩
  · have d2 : (itoa v == s) = false := by rw [beq_eq_false_iff_ne]; exact h2
    have d3 : (itoa v != s) = true := by rw [bne_iff_ne]; exact h2
    rw [if_neg (fun h => h2 h.2)] at hN
    have HN := Lib.hid hN
    clear hN HD h0 h1 h2
    go_enter Tryd.func42, Tryd.ntmps42
    go_wp2_with (first
      | (go_at_call 58; (with_reducible refine hA.mono ?_); rintro e w2 ⟨rfl, hb2⟩; have hIt := HI.out w2 hb2; have HB2 := Lib.hid hb2; clear hb2)
      | (go_at_call 35; (with_reducible refine hIt.mono ?_); rintro e w3 ⟨rfl, hb3⟩; have HB3 := Lib.hid (HB2.out.trans (hb3.mono HB2.out.size)); clear hb3))
    go_ret2
    exact ⟨.inr ⟨HN.out, rfl⟩, HB3.out⟩
end Go.Proofs.YtfmpbohiahjafaaDoor
