/- Numbers that a closure tells: slices.AppendSeq, Collect, Sorted of them; slices.Values of a slice of numbers. -/
import Derived.Test.YtdcpgjkaimekbaaIdx
import Derived.Test.YtdcpgjkaimekbaaRangeI
import Derived.Test.YtdcpgjkaimekbaaShelf
import Derived.Test.YtdcpgjkaimekbaaStr
import Derived.RangeFuncBox
import Derived.OwnWalkIn
import Derived.Deep.MidRow
namespace Go.Proofs.Ytdcpgjkaimekbaa
open Go.RowKit Go.Shelf Go.Sort Go.Maps
attribute [local go_sem] Oper.semAt_some

def idxV (L : List Int) (k : Nat) : Int := L.getD k 0
def encsI (L : List Int) (k : Nat) : Array Value := #[.int .i64 (idxV L k)]
def intV (L : List Int) : List Value := L.map (Value.int .i64)
theorem intV_snoc (L : List Int) (x : Int) : intV (L ++ [x]) = intV L ++ [.int .i64 x] := by unfold intV; rw [List.map_append]; rfl
theorem sq_info : ∃ i, Try.prog.info? 3 = some i ∧ i.zero = some (.int .i64 0) ∧ i.size = 1 ∧ i.bytes = 8 := by
  have e : (Try.prog.info? 3).map (fun i => (i.zero, i.size, i.bytes)) = some (some (.int .i64 0), 1, 8) := by kernel_rfl
  obtain ⟨i, hi, hz⟩ := Option.map_eq_some_iff.1 e
  simp only [Prod.mk.injEq] at hz
  exact ⟨i, hi, hz.1, hz.2.1, hz.2.2⟩
theorem sq_one (x : Int) : ∀ u ∈ ([.int .i64 x] : List Value), u.oneCell' = true := by
  intro u hu
  rw [List.mem_singleton] at hu
  rw [hu]; rfl
set_option maxRecDepth 100000 in
set_option maxHeartbeats 2000000 in
/-- slices.AppendSeq(nil, seq) of what is told. -/
theorem appSeqI_any {w : World} {gf : Nat} {lb : Array Value} {L : List Int} {RD : Nat → World → Prop} (hL : L.length * 8 ≤ 140737488355328)
    (eg : ∀ args w, (callFunc gf args).run Try.prog w = .ok (.enter gf args) w)
    (hT : ∀ n W, 1 ≤ n → TellsI Fence.wide n Try.prog gf lb (encsI L) L.length RD W) (hRD : ∀ k A, Below w.heap.size w A → RD k A) (j : Nat) (hj : 8 ≤ j) :
    CallsIn Fence.wide j Try.prog 64 #[.slice none 0 0, .func (.func gf) #[] lb] w fun e w' => ∃ r, e = .returned r ∧ w'.ownsRow w.heap.size 3 1 r L.length (intV L) ∧ Below w.heap.size w w' := by
  have hf0 : Fence.wide.fn 64 := trivial
  have HN := Lib.hid hL
  clear hL
  refine callsIn_of_wp_marks Try.func64 rfl hf0 ?_ rfl
  simp only [Try.ntmps64, List.size_toArray, List.length_cons, List.length_nil, Nat.reduceAdd, Nat.reduceSub, Array.replicate_succ, Array.replicate_zero, List.push_toArray, List.append_toArray, List.nil_append, List.cons_append]
  gi_wp2
  refine wpIn_range_ix rfl (by omega) (gf := gf) (lb := lb) (by simp [go_sem]) trivial eg (encs := encsI L) (fun _ => rfl)
    (hT _ _ (by omega))
    (fun k W => (∃ u, Boxed W w.heap.size 29 u ∧ W.ownsRow w.heap.size 3 1 u k (intV (L.take k))) ∧ Below w.heap.size w W)
    (fun _ _ => False)
    ?own
    (fun _ _ _ _ hs _ _ => hs)
    (fun k X hs => hRD k X hs.2)
    ⟨⟨_, Boxed.new w _ _, World.ownsRow_nil _ _ _ _⟩, (Below.refl _ w).alloc (Nat.le_refl _) _⟩ ?a1 ?assign ?body ?done ?stop
  case own =>
    rintro k X Y row ⟨⟨u, hu, hrow⟩, hb⟩ hg hr
    simp only [World.size_alloc] at hr
    refine ⟨⟨u, hu.kept hg (fun e => by have := (hr _ e.symm).1; omega), hrow.kept hg ?_⟩, hb.grown hg hb.size (fun r e => by have := (hr r e).1; omega)⟩
    rcases hrow.2 with ⟨rfl, _⟩ | ⟨g, cap, cur, rfl, _, hgb, _⟩
    · exact .inl rfl
    · refine .inr fun e' => ?_
      obtain ⟨_, o, ho, hc⟩ := hr g (by simpa [Value.ownBlock] using e'.symm)
      rw [hgb] at ho; cases ho; cases hc
  case assign =>
    intro l k W K hK
    unfold encsI
    gi_wp2
    exact hK
  case body =>
    rintro l k W ⟨⟨u, hu, hrow⟩, hb⟩ hk
    have c1 := hu.cell
    have f1 := hu.frozen
    obtain ⟨i0, hi, hz0, hz1, hz2⟩ := sq_info
    have HV := Lib.hid hu
    have HRW := Lib.hid hrow
    have HBE := Lib.hid hb
    have HKL := Lib.hid hk
    have HTK : Hid (intV (L.take (k + 1)) = intV (L.take k) ++ [.int .i64 (idxV L k)]) := Lib.hid (by rw [getD_snoc 0 hk, intV_snoc]; rfl)
    clear hu hrow hb
    gi_wp2_with (gi_at_builtin; refine wpListIn_append_own _ rfl _ _ 29 rfl w.heap.size 3 i0 _ 1 8 Try.underlying29 hi hz0 hz1 hz2 rfl (by decide) _ _ _ rfl (HRW.out.alloc _) ⟨W.heap.size, 0, none⟩ 1 1 [.int .i64 (idxV L k)] rfl rfl (new_cells W [.int .i64 (idxV L k)] _) (sq_one _) (by have := HKL.out; have := HN.out; unfold maxLen; omega) (by have := HKL.out; have := HN.out; omega) (by have := HBE.out.size; simp; omega) ?_; intro v' w1 hown' hgrow _; obtain ⟨g', cap', rfl⟩ := ownsRow_succ hown'; have HAP := Lib.hid (HV.out.appended (by decide) HRW.out HBE.out.size (Nat.le_refl _) hown' hgrow); have hc1 := HAP.out.1.cell; have hf1 := HAP.out.1.frozen; clear hown' hgrow)
    obtain ⟨_, q2, q3, q4, q5⟩ := HAP.out
    refine ⟨q4.from _, ⟨_, q2, ?_⟩, HBE.out.trans q5⟩
    rw [HTK.out]
    exact q3
  case done =>
    rintro D W hD ⟨⟨u, hu, hrow⟩, hb⟩ hK
    have c1 := hu.cell
    rw [List.take_of_length_le (Nat.le_refl _)] at hrow
    have HRW := Lib.hid hrow
    have HBE := Lib.hid hb
    have HK := Lib.hid hK
    have hDD : w.heap.size ≤ D := by simp only [World.size_alloc] at hD; omega
    have huu : (u = .slice none 0 0) ∨ ∃ g cap, u = .slice (some ⟨g, 0, none⟩) L.length cap := by
      rcases hrow.2 with ⟨h, _⟩ | ⟨g, cap, _, h, _⟩
      · exact .inl h
      · exact .inr ⟨g, cap, h⟩
    clear hu hrow hb hK hD
    rcases huu with rfl | ⟨g, cap, rfl⟩
    all_goals gi_wp2
    all_goals refine ⟨by simp, .inl ⟨_, _, rfl, run_takeDeferred HK.out, ?_⟩⟩
    · refine ⟨.slice none 0 0, ?_, _, rfl, ownsRow_putObj HRW.out _ HK.out rfl, HBE.out.grown (grownBy_putObj' _ D _) HBE.out.size (fun r e => by cases e; omega)⟩
      simp [results, Try.f64, go_sem]
    · refine ⟨.slice (some ⟨g, 0, none⟩) L.length cap, ?_, _, rfl, ownsRow_putObj HRW.out _ HK.out rfl, HBE.out.grown (grownBy_putObj' _ D _) HBE.out.size (fun r e => by cases e; omega)⟩
      simp [results, Try.f64, go_sem]
  case stop =>
    rintro D k W hD hk h' hK
    exact h'.elim
theorem collectI_any {w : World} {gf : Nat} {lb : Array Value} {L : List Int} {RD : Nat → World → Prop} (hL : L.length * 8 ≤ 140737488355328)
    (eg : ∀ args w, (callFunc gf args).run Try.prog w = .ok (.enter gf args) w)
    (hT : ∀ n W, 1 ≤ n → TellsI Fence.wide n Try.prog gf lb (encsI L) L.length RD W) (hRD : ∀ k A, Below w.heap.size w A → RD k A) :
    Calls Try.prog 58 #[.func (.func gf) #[] lb] w fun e w' => ∃ r, e = .returned r ∧ w'.ownsRow w.heap.size 3 1 r L.length (intV L) ∧ Below w.heap.size w w' := by
  have hA := (callsIn_wide (n := 12)).1 (appSeqI_any hL eg hT hRD 12 (by omega))
  clear hT hRD
  go_enter Try.func58, Try.ntmps58
  go_wp2_with (go_at_call 64; refine hA.mono ?_; rintro e w2 ⟨r, rfl, hr, hb2⟩)
  go_ret
  exact ⟨_, rfl, hr, hb2⟩
/-- What a slice of numbers has, sorted. -/
def sortL (L : List Int) : List Int := L.mergeSort (fun x y => decide (x ≤ y))
theorem sortL_len (L : List Int) : (sortL L).length = L.length := List.length_mergeSort ..
theorem holds_own {w : World} {base g n cap : Nat} {L : List Int} (h : w.ownsRow base 3 1 (.slice (some ⟨g, 0, none⟩) n cap) L.length (intV L)) : Holds (Value.int .i64) w g 0 L.toArray ∧ g < w.heap.size ∧ base ≤ g ∧ n = L.length ∧ ∃ cur, w.heap[g]? = some (.cells cur 3 (0, 0)) ∧ n ≤ cap ∧ cap ≤ maxLen ∧ cur.size = cap * 1 := by
  rcases h.2 with ⟨h0, _⟩ | ⟨g', cap', cur, hv, hb, hh, h1, h2, h3, h4⟩
  · cases h0
  · injection hv with e1 e2 e3
    injection e1 with e1
    injection e1 with e1 _ _
    subst e1 e2 e3
    exact ⟨holds_of_block_i hh (by simpa [intV] using h4), (Array.getElem?_eq_some_iff.1 hh).1, hb, rfl, cur, hh, h1, h2, h3⟩
set_option maxHeartbeats 1000000 in
theorem sortedI_any {w : World} {gf : Nat} {lb : Array Value} {L : List Int} {RD : Nat → World → Prop} (hL : L.length * 8 ≤ 140737488355328)
    (eg : ∀ args w, (callFunc gf args).run Try.prog w = .ok (.enter gf args) w)
    (hT : ∀ n W, 1 ≤ n → TellsI Fence.wide n Try.prog gf lb (encsI L) L.length RD W) (hRD : ∀ k A, Below w.heap.size w A → RD k A) :
    Calls Try.prog 49 #[.func (.func gf) #[] lb] w fun e w' => ∃ r, e = .returned r ∧ w'.ownsRow w.heap.size 3 1 r L.length (intV (sortL L)) ∧ Below w.heap.size w w' := by
  have hC := collectI_any hL eg hT hRD
  clear hT hRD
  go_enter Try.func49, Try.ntmps49
  go_wp2_with (go_at_call 58; refine hC.mono ?_; rintro e w2 ⟨r, rfl, hr, hb2⟩)
  rcases hr.2 with ⟨rfl, h0⟩ | ⟨g, cap, cur, rfl, hb, hh, h1, h2, h3, h4⟩
  · have hL0 : L = [] := List.eq_nil_of_length_eq_zero h0
    subst hL0
    have hS := AnyM.slices_Sort_int_none Try.sortI none 0 w2
    go_wp2_with (go_at_call 59; refine hS.mono ?_; rintro e w3 ⟨rfl, rfl⟩)
    go_ret
    exact ⟨_, rfl, by simpa [sortL] using hr, hb2⟩
  · obtain ⟨q1, q2, q3, _, _⟩ := holds_own hr
    have hS := AnyM.slices_Sort_int Try.sortI g 0 cap L w2 q1 q2 (by omega)
    go_wp2_with (go_at_call 59; refine hS.mono ?_; rintro e w3 ⟨rfl, nn, os, rfl⟩)
    go_ret
    refine ⟨_, rfl, ?_, hb2.grown (grownBy_sorted_i _) hb2.size (fun j hj => by cases hj; exact hb)⟩
    have h9 := ownsRow_sorted_i (n := nn) (ss := L) (ts := sortL L) (os := os) (sortL_len L) hb hh h1 h2 h3
    exact h9
/-- What slices.Values reads. -/
def RDv (B0 : Nat) (v : Value) (L : List Int) (_ : Nat) (A : World) : Prop := A.cell? ⟨B0, 0, none⟩ = some v ∧ IdxS A v L
set_option maxRecDepth 100000 in
set_option maxHeartbeats 2000000 in
theorem values_tells (n : Nat) (hn : 1 ≤ n) (B0 : Nat) (v : Value) (L : List Int) (w : World) :
    TellsI Fence.wide n Try.prog 60 #[.pointer (some ⟨B0, 0, none⟩)] (encsI L) L.length (RDv B0 v L) w := by
  intro l J Jx W hW hJb hJd hY h0
  refine callsIn_of_wp Try.func60 rfl trivial ?_ rfl
  simp only [Try.ntmps60, List.size_toArray, List.length_cons, List.length_nil, Nat.reduceAdd, Nat.reduceSub, Array.replicate_succ, Array.replicate_zero, List.push_toArray, List.append_toArray, List.nil_append, List.cons_append]
  obtain ⟨hc0, hu⟩ := hJd _ _ h0
  obtain ⟨A, cap, rfl, hcp1, hcp2, _⟩ := hu
  have HY := Lib.hid hY
  have HJD := Lib.hid hJd
  have H0 := Lib.hid h0
  clear hY hJd hJb h0 hW
  gi_wp2
  clear hc0
  gi_loopw [7] (fun i wr => ∃ q : Nat, q ≤ L.length ∧ i = .int .i64 (q : Int) ∧ J q wr) (fun i _ => L.length - (intOf i).toNat)
  case atStart => exact ⟨0, Nat.zero_le _, rfl, H0.out⟩
  case round =>
    obtain ⟨q, hqq, rfl, hJs⟩ := hrel
    have HJ := Lib.hid hJs
    clear hJs H0
    by_cases hlt : q < L.length
    · obtain ⟨_, hu⟩ := HJD.out _ _ HJ.out
      obtain ⟨A', cap', hv, _, _, h3⟩ := hu
      injection hv with e1 e2 e3
      subst e1 e3
      obtain ⟨g, off, rfl, _, hc⟩ := h3.resolve_left (by intro e; rw [e] at hlt; simp at hlt)
      have ce := hc q hlt
      obtain ⟨fn, tmps, assign, body, hy, hRR⟩ := HY.out _ wr HJ.out hlt
      unfold encsI at hy
      have hw1 := wrap_nx hlt hcp1 hcp2
      unfold idxV at hy
      generalize L.getD q 0 = x at ce hy
      clear hc h3
      gi_wp2
      refine hRR.mono ?_
      rintro e W3 (⟨rfl, hJ3⟩ | ⟨rfl, hJx3⟩)
      · have HJ3 := Lib.hid hJ3
        clear hJ3 hRR hy ce
        gi_wp2
        try rw [hw1]
        clear hw1
        go_roundw
        case rel => exact ⟨q + 1, hlt, by go_num, HJ3.out⟩
        case measure => simp [intOf]; omega
      · gi_wp2
        refine bodyPost_ret (results_none rfl _ _ _) rfl ?_
        exact ⟨⟨_, rfl⟩, .inr ⟨_, hlt, hJx3⟩⟩
    · obtain rfl : q = L.length := by omega
      gi_wp2
      go_end0
      exact ⟨⟨_, rfl⟩, .inl HJ.out⟩
theorem values_any (A : Option Addr) (n c : Nat) (w : World) :
    Calls Try.prog 50 #[.slice A n c] w fun e w' => e = .returned (.func (.func 60) #[] #[.pointer (some ⟨w.heap.size, 0, none⟩)]) ∧ w' = w.alloc (.cells #[.slice A n c] 29) := by
  go_enter Try.func50, Try.ntmps50
  go_wp2
  go_ret
  exact ⟨rfl, rfl⟩
/-- slices.Sorted of what slices.Values tells. -/
theorem sortedV_any {w : World} {v : Value} {L : List Int} (h : IdxS w v L) (hL : L.length * 8 ≤ 140737488355328) :
    Calls Try.prog 49 #[.func (.func 60) #[] #[.pointer (some ⟨w.heap.size, 0, none⟩)]] (w.alloc (.cells #[v] 29)) fun e w' => ∃ r, e = .returned r ∧ w'.ownsRow w.heap.size 3 1 r L.length (intV (sortL L)) ∧ Below w.heap.size w w' := by
  have hb := below_new w (.cells #[v] 29)
  have hc : (w.alloc (.cells #[v] 29)).cell? ⟨w.heap.size, 0, none⟩ = some v := by have := new_cells w [v] 29 0 v rfl; rwa [add_mid0] at this
  have hs := sortedI_any (w := w.alloc (.cells #[v] 29)) (lb := #[.pointer (some ⟨w.heap.size, 0, none⟩)]) hL (enters_of Try.func60 (by kernel_rfl) rfl) (fun n W hn => values_tells n hn w.heap.size v L W) (fun k A hA => ⟨(hA.cell (p := ⟨w.heap.size, 0, none⟩) (by simp)).trans hc, (h.below hb (Nat.le_refl _)).below hA (Nat.le_refl _)⟩)
  refine hs.mono ?_
  rintro e w' ⟨r, rfl, h1, h3⟩
  refine ⟨r, rfl, ?_, hb.trans (h3.mono (by simp))⟩
  refine ⟨h1.1, ?_⟩
  rcases h1.2 with h0 | ⟨g, cap, cur, hv, hg, r⟩
  · exact .inl h0
  · exact .inr ⟨g, cap, cur, hv, by simp at hg; omega, r⟩
end Go.Proofs.Ytdcpgjkaimekbaa
