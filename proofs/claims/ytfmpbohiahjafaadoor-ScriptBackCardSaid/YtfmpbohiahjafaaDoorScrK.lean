/- Scripts: the lines that a script's iterator tells. -/
import Derived.Test.YtfmpbohiahjafaaDoorScrJ
import Derived.Test.YtfmpbohiahjafaaDoorRangeI
import Derived.RangeFuncBox
import Derived.TacticsIn
import Derived.OwnWalkIn
import Derived.Sort.CutIn
namespace Go.Proofs.YtfmpbohiahjafaaDoor
open Go.RowKit Go.Lib Go.Shelf Go.Sort
attribute [local go_sem] Oper.semAt_some

abbrev DdS (w : World) (v : Value) (L : List DD) : Prop := StS 5 DD.enc DD.zero w v L
def eN (o : Option (List UInt8)) : Int := if o.isSome then 0 else 2
theorem line_tup {d : DD} (hok : DDok d) {w : World} (hD : ScW w) : Calls Tryd.prog 7 #[.agg d.enc.toArray] w fun e w' => e = .returned (.tuple #[Bs ((lnD d).getD []), .int .i64 (eN (lnD d))]) ∧ Below w.heap.size w w' := by
  refine (line_any hok hD).mono ?_
  rintro e w' ⟨⟨l, h, rfl⟩ | ⟨h, rfl⟩, hb⟩ <;> rw [h] <;> exact ⟨rfl, hb⟩
theorem setup_tup {c : SU} (hok : SUok c) {w : World} (hD : ScW w) : Calls Tryd.prog 46 #[.agg c.enc.toArray] w fun e w' => e = .returned (.tuple #[Bs ((lnS c).getD []), .int .i64 (eN (lnS c))]) ∧ Below w.heap.size w w' := by
  refine (setupLine_any hok hD).mono ?_
  rintro e w' ⟨⟨l, h, rfl⟩ | ⟨h, rfl⟩, hb⟩ <;> rw [h] <;> exact ⟨rfl, hb⟩
/-- The k-th line. -/
def lnK (c : SU) (L : List DD) (k : Nat) : Option (List UInt8) := if k = 0 then lnS c else lnD (L.getD (k - 1) DD.zero)
def encsP (c : SU) (L : List DD) (k : Nat) : Array Value := #[Bs ((lnK c L k).getD []), .int .i64 (eN (lnK c L k))]
/-- What the iterator reads. -/
def RDP (c : SU) (L : List DD) (bS bD : Nat) (v : Value) (_ : Nat) (A : World) : Prop := (A.cell? ⟨bS, 0, none⟩ = some (.int .i64 c.s) ∧ A.cell? ⟨bS, 1, none⟩ = some (.int .i64 c.k) ∧ A.cell? ⟨bS, 2, none⟩ = some (.int .i64 c.m) ∧ A.cell? ⟨bS, 3, none⟩ = some (.int .i64 c.c) ∧ A.cell? ⟨bS, 4, none⟩ = some (.int .i64 c.l)) ∧ A.cell? ⟨bD, 0, none⟩ = some v ∧ DdS A v L ∧ ScW A
theorem toldP_any (c0 c1 c2 c3 c4 : Int) (A : Option Addr) (n cap : Nat) (w : World) :
    Calls Tryd.prog 26 #[.agg #[.int .i64 c0, .int .i64 c1, .int .i64 c2, .int .i64 c3, .int .i64 c4], .slice A n cap] w fun e w' =>
      e = .returned (.func (.func 45) #[] #[.pointer (some ⟨w.heap.size, 0, none⟩), .pointer (some ⟨w.heap.size + 1, 0, none⟩)]) ∧ w' = (w.alloc (.cells #[.int .i64 c0, .int .i64 c1, .int .i64 c2, .int .i64 c3, .int .i64 c4] 35)).alloc (.cells #[.slice A n cap] 36) := by
  go_enter Tryd.func26, Tryd.ntmps26
  go_wp2
  go_ret
  exact ⟨by simp, rfl⟩
set_option maxHeartbeats 16000000 in
set_option maxRecDepth 100000 in
theorem toldP_tells (n : Nat) (hn : 1 ≤ n) {c : SU} (hc : SUok c) {L : List DD} (hL : ∀ d ∈ L, DDok d) (bS bD : Nat) (v : Value) (w : World) :
    TellsI Fence.wide n Tryd.prog 45 #[.pointer (some ⟨bS, 0, none⟩), .pointer (some ⟨bD, 0, none⟩)] (encsP c L) (L.length + 1) (RDP c L bS bD v) w := by
  intro l J Jx W hW hJb hJd hY h0
  refine callsIn_of_wp Tryd.func45 rfl trivial ?_ rfl
  simp only [Tryd.ntmps45, List.size_toArray, List.length_cons, List.length_nil, Nat.reduceAdd, Nat.reduceSub, Array.replicate_succ, Array.replicate_zero, List.push_toArray, List.append_toArray, List.nil_append, List.cons_append]
  have HJB := Lib.hid hJb
  have HJD := Lib.hid hJd
  have HY := Lib.hid hY
  have HLO := Lib.hid hL
  obtain ⟨⟨q0, q1, q2, q3, q4⟩, -, -, hsw⟩ := hJd _ _ h0
  have hSL := fun j => (callsIn_wide (n := j)).2 (setup_tup hc hsw)
  unfold SU.enc at hSL
  have HL0 : Hid (lnK c L 0 = lnS c) := Lib.hid rfl
  have H0 := Lib.hid h0
  have hf0 : Fence.wide.fn 46 := trivial
  have hf1 : Fence.wide.fn 7 := trivial
  clear hJb hJd hY hL h0 hW hsw
  gi_wp2_with (gi_at_call 46; refine (hSL _).mono ?_; rintro e W2 ⟨rfl, hb2⟩; have HJ2 := Lib.hid (HJB.out _ _ _ H0.out hb2); obtain ⟨fn, tmps, assign, body, hy, hRR⟩ := HY.out _ _ HJ2.out (Nat.succ_pos _); unfold encsP at hy; rw [HL0.out] at hy; clear hb2)
  refine hRR.mono ?_
  clear hSL q0 q1 q2 q3 q4 hy hRR
  rintro e W3 (⟨rfl, hJ3⟩ | ⟨rfl, hJx3⟩)
  case inr =>
    gi_wp2
    refine bodyPost_ret (results_none rfl _ _ _) rfl ?_
    exact ⟨⟨_, rfl⟩, .inr ⟨_, Nat.succ_pos _, hJx3⟩⟩
  have HJ3 := Lib.hid hJ3
  obtain ⟨-, hbd, hds, -⟩ := HJD.out _ _ hJ3
  obtain ⟨vA, vc, rfl⟩ := hds.form
  clear hJ3 hds
  gi_wp2
  clear hbd
  gi_loopw [15, 5] (fun ix _ wr => ∃ j : Nat, j ≤ L.length ∧ ix = .int .i64 (j : Int) ∧ J (j + 1) wr) (fun ix _ _ => L.length - (RowKit.intOf ix).toNat)
  case atStart => exact ⟨0, Nat.zero_le _, rfl, HJ3.out⟩
  case round =>
    obtain ⟨j, hj, rfl, hJ⟩ := hrel
    have HJ := Lib.hid hJ
    clear hJ
    by_cases hlt : j < L.length
    · have d0 : decide ((j : Int) < (L.length : Int)) = true := decide_eq_true (by omega)
      have d1 : decide (j < L.length) = true := decide_eq_true hlt
      have k2 : (j : Int) < (L.length : Int) := by omega
      obtain ⟨-, -, hds, hsw⟩ := HJD.out _ _ HJ.out
      obtain ⟨A', cap', hv, hq1, hq2, h3⟩ := hds
      injection hv with e1 e2 e3
      subst e1 e3
      obtain ⟨g, off, rfl, hgl, hcd⟩ := h3.resolve_left (by intro e; rw [e] at hlt; simp at hlt)
      have hc5 := hcd j hlt
      have hok := HLO.out (L.getD j DD.zero) (by rw [List.getD, List.getElem?_eq_getElem hlt]; exact List.getElem_mem hlt)
      have HLK : Hid (lnK c L (j + 1) = lnD (L.getD j DD.zero)) := Lib.hid rfl
      obtain ⟨d, hd⟩ : ∃ d, d = L.getD j DD.zero := ⟨_, rfl⟩
      rw [← hd] at hc5 hok HLK
      obtain ⟨dk, da, db, dn, dt⟩ := d
      have y0 := hc5 0 _ rfl
      rw [Nat.add_zero] at y0
      have y1 := hc5 1 _ rfl
      have y2 := hc5 2 _ rfl
      have y3 := hc5 3 _ rfl
      have y4 := hc5 4 _ rfl
      dsimp only at y0 y1 y2 y3 y4
      have HJ4 := Lib.hid (HJB.out _ _ _ HJ.out (below_new wr (.cells #[.int .u8 dk, .int .i64 da, .int .i64 db, .int .i64 dn, Bs dt] 24)))
      obtain ⟨z0, z1, z2, z3, z4⟩ := new5 wr (.int .u8 dk) (.int .i64 da) (.int .i64 db) (.int .i64 dn) (Bs dt) 24
      have hLn := fun j => (callsIn_wide (n := j)).2 (line_tup hok ((HJD.out _ _ HJ4.out).2.2.2))
      unfold DD.enc at hLn
      dsimp only at hLn
      have hw1 : wrap64 ((j : Int) + 1) = (j : Int) + 1 := by unfold maxLen at hq2; unfold wrap64; omega
      have HW1 := Lib.hid hw1
      have HJL := Lib.hid hlt
      clear hd hc5 hcd h3 hok hsw hw1 hgl hq1 hq2
      gi_upto_region 4 with fail
      generalize wr.alloc (.cells #[.int .u8 dk, .int .i64 da, .int .i64 db, .int .i64 dn, Bs dt] 24) = w4 at HJ4 z0 z1 z2 z3 z4 hLn ⊢
      clear y0 y1 y2 y3 y4 d0 d1 k2
      generalize lnD ⟨dk, da, db, dn, dt⟩ = o at hLn HLK
      gi_wp2_with (gi_at_call 7; refine (hLn _).mono ?_; rintro e W6 ⟨rfl, hb6⟩; have HJ6 := Lib.hid (HJB.out _ _ _ HJ4.out hb6); obtain ⟨fn, tmps, assign, body, hy, hRR⟩ := HY.out _ _ HJ6.out (Nat.succ_lt_succ HJL.out); unfold encsP at hy; rw [HLK.out] at hy; clear hb6)
      refine hRR.mono ?_
      clear hLn z0 z1 z2 z3 z4 hy
      rintro e W7 (⟨rfl, hJ7⟩ | ⟨rfl, hJx7⟩)
      · have HJ7 := Lib.hid hJ7
        clear hJ7
        gi_wp2
        (try rw [HW1.out])
        go_roundw
        case rel => exact ⟨j + 1, HJL.out, by go_num, HJ7.out⟩
        case measure => simp only [RowKit.intOf]; have := HJL.out; omega
      · gi_wp2
        refine bodyPost_ret (results_none rfl _ _ _) rfl ?_
        exact ⟨⟨_, rfl⟩, .inr ⟨_, Nat.succ_lt_succ HJL.out, hJx7⟩⟩
    · obtain rfl : j = L.length := by omega
      gi_wp2
      go_end0
      exact ⟨⟨_, rfl⟩, .inl HJ.out⟩
end Go.Proofs.YtfmpbohiahjafaaDoor
