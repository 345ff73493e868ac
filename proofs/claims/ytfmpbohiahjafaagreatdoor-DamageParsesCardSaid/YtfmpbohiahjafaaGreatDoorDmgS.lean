/- Wounds: what slices.Values tells, collected, and sorted: the program's Sort. -/
import Derived.Test.YtfmpbohiahjafaaGreatDoorDmgE
import Derived.Test.YtfmpbohiahjafaaGreatDoorDmgR
import Derived.Test.YtfmpbohiahjafaaGreatDoorRangeZ
import Derived.RangeFuncBox
import Derived.OwnWalkIn
import Derived.Maps.OwnIn
import Derived.Sort.CutIn
import Derived.Shelf.SlSortCmp.NoneTotal
namespace Go.Proofs.YtfmpbohiahjafaaGreatDoor
open Go.RowKit Go.Shelf Go.Sort Go.Maps
attribute [local go_sem] Oper.semAt_some

def wdV (L : List WD) (k : Nat) : WD := L.getD k WD.zero
def encsW (L : List WD) (k : Nat) : Array Value := #[.agg #[.int .u8 (wdV L k).k, .int .i64 (wdV L k).id, .int .i64 (wdV L k).ix, .int .i64 (wdV L k).pl, .bool (wdV L k).hl]]
def obW (L : List WD) (k : Nat) : Obj := .cells #[.int .u8 (wdV L k).k, .int .i64 (wdV L k).id, .int .i64 (wdV L k).ix, .int .i64 (wdV L k).pl, .bool (wdV L k).hl] 42
/-- What slices.Values reads. -/
def RDw (B0 : Nat) (v : Value) (L : List WD) (_ : Nat) (A : World) : Prop := A.cell? ⟨B0, 0, none⟩ = some v ∧ WdS A v L
set_option maxRecDepth 100000 in
set_option maxHeartbeats 4000000 in
theorem valuesW_tells (n : Nat) (hn : 2 ≤ n) (B0 : Nat) (v : Value) (L : List WD) (w : World) :
    TellsZ Fence.wide n Tryz.prog 49 #[.pointer (some ⟨B0, 0, none⟩)] (encsW L) L.length (RDw B0 v L) w := by
  intro l J Jx W hW hJb hJa hJr hJd hY h0
  refine callsIn_of_wp Tryz.func49 rfl trivial ?_ rfl
  simp only [Tryz.ntmps49, List.size_toArray, List.length_cons, List.length_nil, Nat.reduceAdd, Nat.reduceSub, Array.replicate_succ, Array.replicate_zero, List.push_toArray, List.append_toArray, List.nil_append, List.cons_append]
  obtain ⟨hc0, hu⟩ := hJd _ _ _ h0
  obtain ⟨A, cap, rfl, hcp1, hcp2, _⟩ := hu
  have HY := Lib.hid hY
  have HJB := Lib.hid hJb
  have HJD := Lib.hid hJd
  have H0 := Lib.hid h0
  have hn1 : 1 ≤ n := by omega
  clear hY hJd hJb hJa hJr h0 hW
  gi_wp2
  clear hc0
  gi_loopw [7] (fun i wr => ∃ q : Nat, q ≤ L.length ∧ i = .int .i64 (q : Int) ∧ J [] q wr) (fun i _ => L.length - (RowKit.intOf i).toNat)
  case atStart => exact ⟨0, Nat.zero_le _, rfl, H0.out⟩
  case round =>
    obtain ⟨q, hqq, rfl, hJs⟩ := hrel
    have HJ := Lib.hid hJs
    clear hJs H0
    by_cases hlt : q < L.length
    · obtain ⟨_, hu⟩ := HJD.out _ _ _ HJ.out
      obtain ⟨A', cap', hv, _, _, h3⟩ := hu
      injection hv with e1 e2 e3
      subst e1 e3
      obtain ⟨g, off, rfl, _, hc⟩ := h3.resolve_left (by intro e; rw [e] at hlt; simp at hlt)
      have ce := hc q hlt
      have HJ1 : Hid (J [] q (wr.alloc (obW L q))) := Lib.hid (HJB.out _ _ _ _ HJ.out (below_new wr _))
      obtain ⟨fn, tmps, assign, body, hy, hRR⟩ := HY.out _ _ (wr.alloc (obW L q)) HJ1.out hlt
      unfold encsW at hy
      unfold obW at HJ1 hy hRR
      have hw1 := wrap_nx hlt hcp1 hcp2
      unfold wdV at HJ1 hy hRR
      generalize L.getD q WD.zero = x at ce HJ1 hy hRR
      obtain ⟨k, id, ix, pl, hl⟩ := x
      dsimp only at HJ1 hy hRR
      have y0 : wr.cell? ⟨g, off + q * 5, none⟩ = some (.int .u8 k) := ce 0 _ rfl
      have y1 : wr.cell? ⟨g, off + q * 5 + 1, none⟩ = some (.int .i64 id) := ce 1 _ rfl
      have y2 : wr.cell? ⟨g, off + q * 5 + 2, none⟩ = some (.int .i64 ix) := ce 2 _ rfl
      have y3 : wr.cell? ⟨g, off + q * 5 + 3, none⟩ = some (.int .i64 pl) := ce 3 _ rfl
      have y4 : wr.cell? ⟨g, off + q * 5 + 4, none⟩ = some (.bool hl) := ce 4 _ rfl
      clear hc h3 ce
      gi_wp2
      refine hRR.mono ?_
      rintro e W3 (⟨rfl, hJ3⟩ | ⟨rfl, hJx3⟩)
      · have HJ3 := Lib.hid hJ3
        clear hJ3 hRR hy y0 y1 y2 y3 y4
        gi_wp2
        try rw [hw1]
        clear hw1
        go_roundw
        case rel => exact ⟨q + 1, hlt, by go_num, HJ3.out⟩
        case measure => simp [RowKit.intOf]; omega
      · gi_wp2
        refine bodyPost_ret (results_none rfl _ _ _) rfl ?_
        exact ⟨⟨_, rfl⟩, .inr ⟨_, hlt, hJx3⟩⟩
    · obtain rfl : q = L.length := by omega
      gi_wp2
      go_end0
      exact ⟨⟨_, rfl⟩, .inl ⟨[], HJ.out⟩⟩
/-- What a call answers, of slices.Values: the row under way. -/
structure SQ (n0 : Nat) (w : World) (L : List WD) (X : List (Nat × Obj)) (k : Nat) (W : World) (u : Value) : Prop where
  bx : Boxed W n0 22 u
  ow : W.ownsRow n0 42 5 u k ((L.take k).flatMap WD.enc)
  ne : ∀ p ∈ X, u.ownBlock ≠ some p.1
  lo : Below n0 w W
  kx : KX (n0 + 1) X W
set_option maxRecDepth 100000 in
set_option maxHeartbeats 8000000 in
/-- slices.AppendSeq(nil, seq) of what is told. -/
theorem appSeqW_any {w : World} {gf : Nat} {lb : Array Value} {L : List WD} {RD : Nat → World → Prop} (hL : L.length ≤ 1000000)
    (eg : ∀ args w, (callFunc gf args).run Tryz.prog w = .ok (.enter gf args) w)
    (hT : ∀ n W, 2 ≤ n → TellsZ Fence.wide n Tryz.prog gf lb (encsW L) L.length RD W) (hRD : ∀ k A, Below w.heap.size w A → RD k A) (j : Nat) (hj : 8 ≤ j) :
    CallsIn Fence.wide j Tryz.prog 66 #[.slice none 0 0, .func (.func gf) #[] lb] w fun e w' => ∃ r, e = .returned r ∧ w'.ownsRow w.heap.size 42 5 r L.length (L.flatMap WD.enc) ∧ Below w.heap.size w w' := by
  have hf0 : Fence.wide.fn 66 := trivial
  have HN := Lib.hid hL
  clear hL
  refine callsIn_of_wp_marks Tryz.func66 rfl hf0 ?_ rfl
  simp only [Tryz.ntmps66, List.size_toArray, List.length_cons, List.length_nil, Nat.reduceAdd, Nat.reduceSub, Array.replicate_succ, Array.replicate_zero, List.push_toArray, List.append_toArray, List.nil_append, List.cons_append]
  gi_wp2
  refine wpIn_range_oz rfl (by omega) (gf := gf) (lb := lb) (by simp [go_sem]) trivial eg (encs := encsW L) (fun _ => rfl)
    (hT _ _ (by omega))
    (fun X k W => ∃ u, SQ w.heap.size w L X k W u)
    (fun _ _ => False)
    ?own (fun _ _ _ _ hs _ _ => hs) ?add ?read
    (fun X k A hs => by obtain ⟨u, hs⟩ := hs; exact hRD k A hs.lo) ?h0 (obW L) ?a1 ?assign ?body ?done ?stop
  case own =>
    rintro X k A C row ⟨u, hs⟩ hg hr
    simp only [World.size_alloc] at hr
    refine ⟨u, ⟨hs.bx.kept hg (fun e => by have := (hr _ e.symm).1; omega), hs.ow.kept hg ?_, hs.ne, hs.lo.grown hg hs.lo.size (fun r e => by have := (hr r e).1; omega), hs.kx.own hg hr⟩⟩
    rcases hs.ow.2 with ⟨rfl, _⟩ | ⟨g, cap, cur, rfl, _, hgb, _⟩
    · exact .inl rfl
    · refine .inr fun e' => ?_
      obtain ⟨_, o, ho, hc⟩ := hr g (by simpa [Value.ownBlock] using e'.symm)
      rw [hgb] at ho; cases ho; cases hc
  case add =>
    rintro X k A C b o ⟨u, hs⟩ hb hn ho hc hsz
    simp only [World.size_alloc] at hsz
    refine ⟨u, ⟨(hb.block _ hs.bx.lt).trans hs.bx, ownS_keep hs.ow hb, ?_, hs.lo.trans (hb.mono hs.lo.size), ?_⟩⟩
    · intro p hp
      rcases List.mem_cons.1 hp with rfl | hp
      · intro e
        have h1 := World.ownsRow.lt hs.ow _ e
        have h2 := h1.2
        dsimp only at h2
        omega
      · exact hs.ne p hp
    · intro p hp
      rcases List.mem_cons.1 hp with rfl | hp
      · exact ⟨hc, by dsimp only; omega, ho⟩
      · exact ⟨(hs.kx p hp).1, (hs.kx p hp).2.1, (hb.block _ (hs.kx.lt hp)).trans (hs.kx p hp).2.2⟩
  case read =>
    rintro X k A b o ⟨u, hs⟩ hm
    exact (hs.kx _ hm).2.2
  case h0 => exact ⟨_, ⟨Boxed.new w _ _, World.ownsRow_nil _ _ _ _, (fun p hp => by cases hp), below_new w _, KX.nil _ _⟩⟩
  case assign =>
    intro l k B W K hB hK
    unfold encsW
    unfold obW at hK
    gi_wp2
    exact hK
  case body =>
    rintro l X k B W ⟨u, hs⟩ hk hB hob hX
    have hBW : B < W.heap.size := (Array.getElem?_eq_some_iff.1 hob).1
    have c1 := hs.bx.cell
    have f1 := hs.bx.frozen
    obtain ⟨i0, hi, hz0, hz1, hz2⟩ := wdInf
    have HTK : Hid ((L.take (k + 1)).flatMap WD.enc = (L.take k).flatMap WD.enc ++ [.int .u8 (wdV L k).k, .int .i64 (wdV L k).id, .int .i64 (wdV L k).ix, .int .i64 (wdV L k).pl, .bool (wdV L k).hl]) := Lib.hid (by rw [getD_snoc WD.zero hk, flat_snoc]; rfl)
    unfold obW at hob
    have hone := WD.enc_one (wdV L k)
    unfold WD.enc at hone
    have HON := Lib.hid hone
    obtain ⟨xk, hxk⟩ : ∃ xk, xk = wdV L k := ⟨_, rfl⟩
    have HS := Lib.hid hs
    have HKL := Lib.hid hk
    have HXB : Hid (∀ p ∈ X, p.1 < B ∧ B < W.heap.size) := Lib.hid (fun p hp => ⟨hX p hp, hBW⟩)
    rw [← hxk] at hob HTK HON ⊢
    obtain ⟨k', id, ix, pl, hl⟩ := xk
    clear hxk hone
    dsimp only at hob HTK HON ⊢
    have y0 : W.cell? ⟨B, 0, none⟩ = some (.int .u8 k') := by rw [cell_of_row _ _ _ _ _ (0, 0) hob]; rfl
    have y1 : W.cell? ⟨B, 1, none⟩ = some (.int .i64 id) := by rw [cell_of_row _ _ _ _ _ (0, 0) hob]; rfl
    have y2 : W.cell? ⟨B, 2, none⟩ = some (.int .i64 ix) := by rw [cell_of_row _ _ _ _ _ (0, 0) hob]; rfl
    have y3 : W.cell? ⟨B, 3, none⟩ = some (.int .i64 pl) := by rw [cell_of_row _ _ _ _ _ (0, 0) hob]; rfl
    have y4 : W.cell? ⟨B, 4, none⟩ = some (.bool hl) := by rw [cell_of_row _ _ _ _ _ (0, 0) hob]; rfl
    clear hs hob hX hBW hB hk
    gi_wp2_with (gi_at_builtin; refine wpListIn_append_own_at _ rfl _ _ 22 rfl w.heap.size 42 i0 _ 5 40 Tryz.underlying22 hi hz0 hz1 hz2 rfl (by decide) _ _ _ rfl (HS.out.ow.alloc _) ⟨W.heap.size, 0, none⟩ 1 1 [.int .u8 k', .int .i64 id, .int .i64 ix, .int .i64 pl, .bool hl] rfl rfl (new_cells W [.int .u8 k', .int .i64 id, .int .i64 ix, .int .i64 pl, .bool hl] _) HON.out (by have := HKL.out; have := HN.out; unfold maxLen; omega) (by have := HKL.out; have := HN.out; omega) (by have := HS.out.lo.size; simp; omega) ?_; intro v' w1 hown' hgrow _ hat; obtain ⟨g', cap', rfl⟩ := ownsRow_succ hown'; have HAP := Lib.hid (HS.out.bx.appended (by decide) HS.out.ow HS.out.lo.size (Nat.le_refl _) hown' hgrow); have HGR := Lib.hid hgrow; have HAT := Lib.hid hat; have hc1 := HAP.out.1.cell; have hf1 := HAP.out.1.frozen; clear hown' hgrow hat)
    obtain ⟨_, q2, q3, q4, q5⟩ := HAP.out
    refine ⟨q4.from _, _, ⟨q2, ?_, ?_, HS.out.lo.trans q5, ?_⟩⟩
    · rw [HTK.out]; exact q3
    · intro p hp e
      have hlt := HXB.out p hp
      rcases HAT.out with e2 | e2
      · exact HS.out.ne p hp (e2.symm.trans e)
      · rw [e] at e2
        injection e2 with e2
        simp at e2
        omega
    · intro p hp
      refine ⟨(HS.out.kx p hp).1, (HS.out.kx p hp).2.1, ?_⟩
      have hlt := HXB.out p hp
      have h1 : (W.alloc (.cells #[.int .u8 k', .int .i64 id, .int .i64 ix, .int .i64 pl, .bool hl] 42)).heap[p.1]? = some p.2 := ((below_new W _).block _ (by omega)).trans (HS.out.kx p hp).2.2
      have h2 := HGR.out.block p.1 (by simp; omega) (fun e => HS.out.ne p hp e.symm)
      have hne : w.heap.size ≠ p.1 := by have := (HS.out.kx p hp).2.1; omega
      show (w1.heap.modify w.heap.size _)[p.1]? = _
      rw [Array.getElem?_modify, if_neg hne, h2]
      exact h1
  case done =>
    rintro D X W hD ⟨u, hs⟩ hK
    have c1 := hs.bx.cell
    have hrow := hs.ow
    rw [List.take_of_length_le (Nat.le_refl _)] at hrow
    have HRW := Lib.hid hrow
    have HBE := Lib.hid hs.lo
    have HK := Lib.hid hK
    have hDD : w.heap.size ≤ D := by simp only [World.size_alloc] at hD; omega
    have huu : (u = .slice none 0 0) ∨ ∃ g cap, u = .slice (some ⟨g, 0, none⟩) L.length cap := by
      rcases hrow.2 with ⟨h, _⟩ | ⟨g, cap, _, h, _⟩
      · exact .inl h
      · exact .inr ⟨g, cap, h⟩
    clear hs hrow hK hD
    rcases huu with rfl | ⟨g, cap, rfl⟩
    all_goals gi_wp2
    all_goals refine ⟨by simp, .inl ⟨_, _, rfl, run_takeDeferred HK.out, ?_⟩⟩
    · refine ⟨.slice none 0 0, ?_, _, rfl, ownsRow_putObj HRW.out _ HK.out rfl, HBE.out.grown (grownBy_putObj' _ D _) HBE.out.size (fun r e => by cases e; omega)⟩
      simp [results, Tryz.f66, go_sem]
    · refine ⟨.slice (some ⟨g, 0, none⟩) L.length cap, ?_, _, rfl, ownsRow_putObj HRW.out _ HK.out rfl, HBE.out.grown (grownBy_putObj' _ D _) HBE.out.size (fun r e => by cases e; omega)⟩
      simp [results, Tryz.f66, go_sem]
  case stop =>
    rintro D k W hD hk h' hK
    exact h'.elim
theorem collectW_any {w : World} {gf : Nat} {lb : Array Value} {L : List WD} {RD : Nat → World → Prop} (hL : L.length ≤ 1000000)
    (eg : ∀ args w, (callFunc gf args).run Tryz.prog w = .ok (.enter gf args) w)
    (hT : ∀ n W, 2 ≤ n → TellsZ Fence.wide n Tryz.prog gf lb (encsW L) L.length RD W) (hRD : ∀ k A, Below w.heap.size w A → RD k A) :
    Calls Tryz.prog 47 #[.func (.func gf) #[] lb] w fun e w' => ∃ r, e = .returned r ∧ w'.ownsRow w.heap.size 42 5 r L.length (L.flatMap WD.enc) ∧ Below w.heap.size w w' := by
  have hA := (callsIn_wide (n := 12)).1 (appSeqW_any hL eg hT hRD 12 (by omega))
  clear hT hRD
  go_enter Tryz.func47, Tryz.ntmps47
  go_wp2_with (go_at_call 66; refine hA.mono ?_; rintro e w2 ⟨r, rfl, hr, hb2⟩)
  go_ret
  exact ⟨_, rfl, hr, hb2⟩
instance : Inhabited WD := ⟨WD.zero⟩
theorem holdsW {w : World} {base g n cap : Nat} {L : List WD} (h : w.ownsRow base 42 5 (.slice (some ⟨g, 0, none⟩) n cap) L.length (L.flatMap WD.enc)) : HoldsK WD.enc 5 w g 0 L.toArray ∧ g < w.heap.size ∧ base ≤ g ∧ n = L.length ∧ L.length ≤ cap ∧ cap ≤ maxLen := by
  rcases h.2 with ⟨h0, _⟩ | ⟨g', cap', cur, hv, hb, hh, h1, h2, h3, h4⟩
  · cases h0
  · injection hv with e1 e2 e3
    injection e1 with e1
    injection e1 with e1 _ _
    subst e1 e2 e3
    refine ⟨fun t ht => ?_, (Array.getElem?_eq_some_iff.1 hh).1, hb, rfl, h1, h2⟩
    rw [size_flatK] at ht
    have ht2 : t < L.length * 5 := by simpa using ht
    rw [get_flatK _ _ _ _ (by simpa using ht2), Nat.zero_add]
    refine ⟨?_, frozen_of_row w g t cur _ hh⟩
    rw [cell_of_row w g t cur _ (0, 0) hh]
    have hj : t / 5 < L.length := by omega
    have hq : t % 5 < 5 := by omega
    have h5 := flat_at (z := WD.zero) WD.enc_len L (t / 5) hj (t % 5) hq
    have et : t / 5 * 5 + t % 5 = t := by omega
    rw [et, ← h4, List.getElem?_take, if_pos ht2, Array.getElem?_toList] at h5
    have e6 : (L.toArray)[t / 5]! = L.getD (t / 5) WD.zero := by
      rw [getElem!_pos _ _ (by simpa using hj), List.getD, List.getElem?_eq_getElem hj]; simp
    have h7 : (t % 5) < (L.getD (t / 5) WD.zero).enc.length := by rw [WD.enc_len]; exact hq
    rw [e6, h5, List.getElem?_eq_getElem h7, getElem!_pos (L.getD (t / 5) WD.zero).enc (t % 5) h7]; rfl
theorem cmpLaysW (g size : Nat) (w : World) : CmpLays Tryz.prog 29 #[] WD.enc 5 cmpW g 0 size w := by
  intro m os dk _ x y
  show Calls Tryz.prog 29 #[.agg x.enc.toArray, .agg y.enc.toArray] _ _
  exact (woundOrder_any x y _).mono fun e w' ⟨he, hb, hd⟩ => ⟨he, grow_of hb hd⟩
theorem grownBy_sorted_g {α : Type} [Inhabited α] {enc : α → Value} {w : World} {g n : Nat} {os : Array Obj} (d : Array α) : w.grownBy (grow (putRow enc (Sort.ahead w n) g 0 d) os) (some g) := by
  refine ⟨rfl, rfl, rfl, by simp, fun k hk hne => ?_⟩
  rw [heap_grow_old _ _ (by simpa using hk)]
  have : g ≠ k := fun e => hne (by rw [e])
  simp [putRow, mapBlock, Sort.ahead, Array.getElem?_modify, this]
theorem sortW_some {w : World} {base g n cap : Nat} {L : List WD} (h : w.ownsRow base 42 5 (.slice (some ⟨g, 0, none⟩) n cap) L.length (L.flatMap WD.enc)) (hl : L.length ≤ 1000000) (hbase : base ≤ w.heap.size) :
    Calls Tryz.prog 48 #[.slice (some ⟨g, 0, none⟩) n cap, .func (.func 29) #[] #[]] w fun e w' =>
      e = .returned (.tuple #[]) ∧ WdS w' (.slice (some ⟨g, 0, none⟩) n cap) (srt L) ∧ Below base w w' := by
  obtain ⟨hH, hg, hbg, rfl, hc1, hc2⟩ := holdsW h
  have eg : ∀ args w, (callFunc 29 args).run Tryz.prog w = .ok (.enter 29 args) w := enters_of Tryz.func29 (by kernel_rfl) rfl
  have hsz : L.toArray.size = L.length := by simp
  have hcon := AnyQ.slices_SortFunc Tryz.sortR 5 Tryz.isAgg42 Tryz.sizeOf42 WD.enc WD.enc_len WD.enc_one cmpW cmpW_swo 29 #[] g 0 cap L.toArray w eg (cmpLaysW g L.toArray.size w) hH hg (by rw [hsz]; omega)
  change Calls Tryz.prog 48 _ _ _ at hcon
  rw [hsz] at hcon
  refine hcon.mono ?_
  rintro e w' ⟨rfl, d, q, os, ⟨hp1, _, hp2⟩, hs, rfl⟩
  have hds : d.size = L.length := by rw [hp1, hsz]
  have hdl : d.toList.length = L.length := by rw [Array.length_toList (xs := d), hds]
  have e1 : d.extract 0 L.length = d := by rw [← hds]; simp
  have e2 : L.toArray.extract 0 L.length = L.toArray := by rw [← hsz]; simp
  rw [e1, e2] at hp2
  have hH2 := holdsK_sortWorldK_c WD.enc 5 w g 0 L.toArray d q os hH hg (by rw [hds, hsz])
  have hu : d.toList = srt L := srt_uniq (by simpa using hp2) (by
    unfold Srtd
    rw [List.pairwise_iff_getElem]
    intro i j hi hj hij hA
    rw [Array.length_toList] at hi hj
    have := hs i j (Nat.zero_le _) hij (by rw [← hds]; exact hj)
    rw [cmpW_lt, getElem!_pos d i hi, getElem!_pos d j hj] at this
    simp only [Array.getElem_toList] at hA
    rw [decide_eq_false_iff_not] at this
    exact this hA)
  rw [← hu]
  refine ⟨rfl, ⟨_, cap, by rw [hdl], by rw [hdl]; exact hc1, hc2, .inr ⟨g, 0, rfl, Nat.lt_of_lt_of_le hg (size_sortWorldK_c WD.enc 5 w g 0 q d os), fun j hj c u hu => ?_⟩⟩, ?_⟩
  · rw [Array.length_toList] at hj
    have hc3 : c < 5 := by have := (List.getElem?_eq_some_iff.1 hu).1; rwa [WD.enc_len] at this
    have h5 := (HoldsK.cell hH2 hj hc3).1
    have e6 : d[j]! = d.toList.getD j WD.zero := by
      rw [getElem!_pos d j hj, List.getD, List.getElem?_eq_getElem (by rw [Array.length_toList]; exact hj)]; simp
    rw [h5, e6, ← hu]
    have h7 : c < (d.toList.getD j WD.zero).enc.length := by rw [WD.enc_len]; exact hc3
    rw [List.getElem?_eq_getElem h7, getElem!_pos (d.toList.getD j WD.zero).enc c h7]
  · have hgr : w.grownBy (sortWorldK WD.enc 5 w g 0 q d os) (some g) := grownBy_sorted_g (enc := id) (flatK WD.enc 5 d)
    exact (RowKit.Below.refl base w).grown hgr hbase (fun k hk => by injection hk with hk; rw [← hk]; exact hbg)
theorem sortW_none (w : World) :
    Calls Tryz.prog 48 #[.slice none 0 0, .func (.func 29) #[] #[]] w fun e w' => e = .returned (.tuple #[]) ∧ Below w.heap.size w w' := by
  have h := AnyF.slices_SortFunc_none Tryz.sortR none 0 (.func (.func 29) #[] #[]) w
  change Calls Tryz.prog 48 _ _ _ at h
  refine h.mono ?_
  rintro e w' ⟨rfl, rfl⟩
  exact ⟨rfl, Below.refl _ _⟩
theorem srt_nil : srt [] = [] := by
  have h := srt_len []
  exact List.eq_nil_of_length_eq_zero h
theorem valuesW_any (A : Option Addr) (n c : Nat) (w : World) :
    Calls Tryz.prog 28 #[.slice A n c] w fun e w' => e = .returned (.func (.func 49) #[] #[.pointer (some ⟨w.heap.size, 0, none⟩)]) ∧ w' = w.alloc (.cells #[.slice A n c] 22) := by
  go_enter Tryz.func28, Tryz.ntmps28
  go_wp2
  go_ret
  exact ⟨rfl, rfl⟩
set_option maxHeartbeats 2000000 in
theorem sortedFn_any {w : World} {v : Value} {L : List WD} (h : WdS w v L) (hL : L.length ≤ 1000000) :
    Calls Tryz.prog 27 #[.func (.func 49) #[] #[.pointer (some ⟨w.heap.size, 0, none⟩)], .func (.func 29) #[] #[]] (w.alloc (.cells #[v] 22)) fun e w' => ∃ r, e = .returned r ∧ WdS w' r (srt L) ∧ Below w.heap.size w w' := by
  have hb := below_new w (.cells #[v] 22)
  have hc : (w.alloc (.cells #[v] 22)).cell? ⟨w.heap.size, 0, none⟩ = some v := by have := new_cells w [v] 22 0 v rfl; rwa [add_mid0] at this
  have hC := collectW_any (w := w.alloc (.cells #[v] 22)) (lb := #[.pointer (some ⟨w.heap.size, 0, none⟩)]) hL (enters_of Tryz.func49 (by kernel_rfl) rfl) (fun n W hn => valuesW_tells n hn w.heap.size v L W) (fun k A hA => ⟨(hA.cell (p := ⟨w.heap.size, 0, none⟩) (by simp)).trans hc, (h.below hb (Nat.le_refl _)).below hA (Nat.le_refl _)⟩)
  have HB := Lib.hid hb
  have HSZ : Hid (w.heap.size ≤ (w.alloc (.cells #[v] 22)).heap.size) := Lib.hid hb.size
  generalize w.alloc (.cells #[v] 22) = w1 at hC HB HSZ ⊢
  clear hb hc h
  go_enter Tryz.func27, Tryz.ntmps27
  go_upto_region 2 with (go_at_call 47; (with_reducible refine hC.mono ?_); rintro e w2 ⟨r, rfl, hr, hb2⟩)
  have HB2 : Hid (Below w.heap.size w w2) := Lib.hid (HB.out.trans (hb2.mono HSZ.out))
  rcases hr.2 with ⟨rfl, h0⟩ | ⟨g, cap, cur, rfl, _⟩
  · have hL0 : L = [] := List.eq_nil_of_length_eq_zero h0
    subst hL0
    have hS := sortW_none w2
    go_wp2_with (go_at_call 48; (with_reducible refine hS.mono ?_); rintro e w3 ⟨rfl, hb3⟩; have HB3 := Lib.hid (HB2.out.trans (hb3.mono HB2.out.size)); clear hb3)
    go_ret
    exact ⟨_, rfl, by rw [srt_nil]; exact StS.nil _, HB3.out⟩
  · have hS := sortW_some hr hL hb2.size
    have HSZ2 := Lib.hid hb2.size
    clear hr hb2
    go_wp2_with (go_at_call 48; (with_reducible refine hS.mono ?_); rintro e w3 ⟨rfl, hw3, hb3⟩; have HB3 := Lib.hid (HB2.out.trans (hb3.mono HSZ.out)); have HW3 := Lib.hid hw3; clear hb3 hw3)
    go_ret
    exact ⟨_, rfl, HW3.out, HB3.out⟩
/-- The program's Sort. -/
theorem dmgSort_any {w : World} {v : Value} {L : List WD} (h : WdS w v L) (hL : L.length ≤ 1000000) :
    Calls Tryz.prog 10 #[v] w fun e w' => ∃ r, e = .returned r ∧ WdS w' r (srt L) ∧ Below w.heap.size w w' := by
  have hS := sortedFn_any h hL
  obtain ⟨A, c, rfl⟩ := h.form
  have hV := valuesW_any A L.length c w
  go_enter Tryz.func10, Tryz.ntmps10
  go_wp2_with (first
    | (go_at_call 28; (with_reducible refine hV.mono ?_); rintro e w2 ⟨rfl, rfl⟩)
    | (go_at_call 27; (with_reducible refine hS.mono ?_); rintro e w3 ⟨r, rfl, hw3, hb3⟩; have HB3 := Lib.hid hb3; have HW3 := Lib.hid hw3; clear hb3 hw3))
  go_ret
  exact ⟨_, rfl, HW3.out, HB3.out⟩
end Go.Proofs.YtfmpbohiahjafaaGreatDoor
