/- Uses of clusters: those that are so, told one by one; how many are free, and which are used. -/
import Derived.Test.YtoaofhgkpnpglaaSpcA
import Derived.Test.YtoaofhgkpnpglaaRangeE
import Derived.RangeFuncBox
import Derived.OwnWalkIn
import Derived.Deep.MidRow
namespace Go.Proofs.Ytoaofhgkpnpglaa
open Go.RowKit Go.Shelf
attribute [local go_sem] Oper.semAt_some

set_option maxHeartbeats 1000000 in
theorem told_any (A : Option Addr) (n c : Nat) (b : Bool) (w : World) :
    Calls Try.prog 23 #[.slice A n c, .bool b] w fun e w' => e = .returned (.func (.func 25) #[] #[.pointer (some ⟨w.heap.size, 0, none⟩), .pointer (some ⟨w.heap.size + 1, 0, none⟩)]) ∧ w' = (w.alloc (.cells #[.slice A n c] 22)).alloc (.cells #[.bool b] 4) := by
  go_enter Try.func23, Try.ntmps23
  go_wp2
  go_ret
  exact ⟨by simp, rfl⟩
def frV (b : Bool) (Q : List Bool) (k : Nat) : Int := (((fr b Q).getD k 0 : Nat) : Int)
def encsT (b : Bool) (Q : List Bool) (k : Nat) : Array Value := #[.int .i64 (frV b Q k)]
/-- What the closure reads. -/
def RDt (B0 : Nat) (v : Value) (b : Bool) (Q : List Bool) (_ : Nat) (A : World) : Prop := Boxed A B0 22 v ∧ Boxed A (B0 + 1) 4 (.bool b) ∧ UseS A v Q
set_option maxRecDepth 100000 in
set_option maxHeartbeats 2000000 in
theorem told_tells (F : Fence) (n : Nat) (hf : F.fn 25) (hro : F.round = none) (hn : 1 ≤ n) (B0 : Nat) (v : Value) (b : Bool) (Q : List Bool) (hq : Q.length ≤ 5000) (w : World) :
    TellsI F n Try.prog 25 #[.pointer (some ⟨B0, 0, none⟩), .pointer (some ⟨B0 + 1, 0, none⟩)] (encsT b Q) (fr b Q).length (RDt B0 v b Q) w := by
  intro l J Jx W hW hJb hJd hY h0
  refine callsIn_of_wp Try.func25 rfl hf ?_ hro
  simp only [Try.ntmps25, List.size_toArray, List.length_cons, List.length_nil, Nat.reduceAdd, Nat.reduceSub, Array.replicate_succ, Array.replicate_zero, List.push_toArray, List.append_toArray, List.nil_append, List.cons_append]
  obtain ⟨hb0, _, hu⟩ := hJd _ _ h0
  obtain ⟨A, cap, rfl, _⟩ := hu
  have hc0 := hb0.cell
  clear hb0
  gi_wp2
  clear hc0
  gi_loopw [8] (fun i wr => ∃ q : Nat, q ≤ Q.length ∧ i = .int .i64 (q : Int) ∧ J (frI b Q q).length wr) (fun i _ => Q.length - idxOf i)
  case atStart => exact ⟨0, Nat.zero_le _, rfl, h0⟩
  case round =>
    obtain ⟨q, hqq, rfl, hJs⟩ := hrel
    obtain ⟨hb0, hb1, hu⟩ := hJd _ _ hJs
    by_cases hlt : q < Q.length
    · obtain ⟨A', cap', hv, _, _, h3⟩ := hu
      injection hv with e1 e2 e3
      subst e1 e3
      obtain ⟨g, off, rfl, _, hc⟩ := h3.resolve_left (by intro e; rw [e] at hlt; simp at hlt)
      have ce := hc q hlt
      have c1 := hb1.cell
      have d0 : decide ((q : Int) < (Q.length : Int)) = true := decide_eq_true (by omega)
      have hi0 : (0 : Int) ≤ (q : Int) := by omega
      have hi1 : (q : Int) < (Q.length : Int) := by omega
      have hw1 : wrap64 ((q : Int) + 1) = (q : Int) + 1 := by unfold wrap64; omega
      have hw2 : IntKind.i64.wrap ((q : Int) + 1) = (q : Int) + 1 := by rw [IntKind.wrap_i64]; omega
      have HLT := Lib.hid hlt
      by_cases g : Q.getD q false = b
      · obtain ⟨a1, a2, _⟩ := frI_at hlt g
        obtain ⟨fn, tmps, assign, body, hy, hRR⟩ := hY _ wr hJs a1
        unfold encsT at hy
        rw [show frV b Q (frI b Q q).length = (q : Int) by unfold frV; rw [show (fr b Q).getD (frI b Q q).length 0 = q from a2]] at hy
        have HS : Hid ((frI b Q (q + 1)).length = (frI b Q q).length + 1) := Lib.hid (by rw [frI_yes g, List.length_append]; rfl)
        have HA := Lib.hid a1
        rw [g] at ce
        clear hJs hc h3 hb0 hb1 g a1 a2
        gi_wp2
        refine hRR.mono ?_
        rintro e W3 (⟨rfl, hJ3⟩ | ⟨rfl, hJx3⟩)
        · rw [← HS.out] at hJ3
          have HJ3 := Lib.hid hJ3
          clear hJ3
          gi_wp2
          go_roundw
          case rel => exact ⟨q + 1, by have := HLT.out; omega, by simp, HJ3.out⟩
          case measure => simp [idxOf]; have := HLT.out; omega
        · gi_wp2
          refine bodyPost_ret (results_none rfl _ _ _) rfl ?_
          exact ⟨⟨_, rfl⟩, .inr ⟨_, HA.out, hJx3⟩⟩
      · have hs : (frI b Q (q + 1)).length = (frI b Q q).length := by rw [frI_no g]
        rw [← hs] at hJs
        have HJ := Lib.hid hJs
        rw [show Q.getD q false = !b by cases hh : Q.getD q false <;> cases b <;> simp_all] at ce
        clear hJs hc h3 hb0 hb1 g hs
        gi_wp2
        refine ⟨fun f hf => (by cases hf), ?_⟩
        gi_wp2
        go_roundw
        case rel => exact ⟨q + 1, by have := HLT.out; omega, by simp, HJ.out⟩
        case measure => simp [idxOf]; have := HLT.out; omega
    · obtain rfl : q = Q.length := by omega
      clear hb0 hb1 hu
      gi_wp2
      go_end0
      exact ⟨⟨_, rfl⟩, .inl hJs⟩
/-- What stands before a range over the told: the boxes. -/
theorem told_boxes {w W : World} {A : Option Addr} {n c : Nat} {b : Bool} (hb : Below w.heap.size w W) :
    Below w.heap.size w ((W.alloc (.cells #[.slice A n c] 22)).alloc (.cells #[.bool b] 4)) ∧ Boxed ((W.alloc (.cells #[.slice A n c] 22)).alloc (.cells #[.bool b] 4)) W.heap.size 22 (.slice A n c) ∧
    Boxed ((W.alloc (.cells #[.slice A n c] 22)).alloc (.cells #[.bool b] 4)) (W.heap.size + 1) 4 (.bool b) := by
  have h1 := Boxed.new (W.alloc (.cells #[.slice A n c] 22)) 4 (.bool b)
  rw [World.size_alloc] at h1
  exact ⟨(hb.alloc hb.size _).alloc (by have := hb.size; simp; omega) _, (Boxed.new W _ _).alloc _, h1⟩
set_option maxRecDepth 100000 in
set_option maxHeartbeats 2000000 in
theorem free_any {w : World} {v : Value} {Q : List Bool} (h : UseS w v Q) (hq : Q.length ≤ 5000) :
    Calls Try.prog 16 #[v] w fun e w' => e = .returned (.int .i64 ((fr false Q).length : Int)) ∧ Below w.heap.size w w' := by
  have HU := Lib.hid h
  obtain ⟨A, cap, rfl, _⟩ := h
  refine (callsIn_wide (n := 8)).1 ?_
  have hf0 : Fence.wide.fn 16 := trivial
  have hf1 : Fence.wide.fn 23 := trivial
  have hSt := fun (W : World) j => (callsIn_wide (n := j)).2 (told_any A Q.length cap false W)
  have HN : Hid ((fr false Q).length ≤ 5000) := Lib.hid (by have := frI_len false Q Q.length; unfold fr; omega)
  refine callsIn_of_wp_marks Try.func16 rfl hf0 ?_ rfl
  simp only [Try.ntmps16, List.size_toArray, List.length_cons, List.length_nil, Nat.reduceAdd, Nat.reduceSub, Array.replicate_succ, Array.replicate_zero, List.push_toArray, List.append_toArray, List.nil_append, List.cons_append]
  gi_wp2_with (gi_at_call 23; refine (hSt _ _).mono ?_; rintro e W3 ⟨rfl, hW3⟩; have HW3 := Lib.hid hW3; clear hW3)
  have HSZ : Hid (W3.heap.size = w.heap.size + 3) := Lib.hid (by rw [HW3.out]; simp)
  have HI0 : Hid (Boxed W3 w.heap.size 3 (.int .i64 ((0 : Nat) : Int)) ∧ Boxed W3 (w.heap.size + 1) 22 (.slice A Q.length cap) ∧ Boxed W3 (w.heap.size + 1 + 1) 4 (.bool false) ∧ Below w.heap.size w W3) := Lib.hid (by
    rw [HW3.out]
    have hb := told_boxes (A := A) (n := Q.length) (c := cap) (b := false) ((Below.refl w.heap.size w).alloc (Nat.le_refl _) (.cells #[.int .i64 0] 3))
    simp only [World.size_alloc] at hb
    exact ⟨((Boxed.new w _ _).alloc _).alloc _, hb.2.1, hb.2.2, hb.1⟩)
  refine wpIn_range_ix rfl (by omega) (gf := 25) (lb := #[.pointer (some ⟨w.heap.size + 1, 0, none⟩), .pointer (some ⟨w.heap.size + 1 + 1, 0, none⟩)]) (by simp [go_sem]) trivial (enters_of Try.func25 (by kernel_rfl) rfl) (encs := encsT false Q) (fun _ => rfl)
    (told_tells Fence.wide _ trivial rfl (by omega) (w.heap.size + 1) _ false Q hq W3)
    (fun k W => Boxed W w.heap.size 3 (.int .i64 (k : Int)) ∧ Boxed W (w.heap.size + 1) 22 (.slice A Q.length cap) ∧ Boxed W (w.heap.size + 1 + 1) 4 (.bool false) ∧ Below w.heap.size w W)
    (fun _ _ => False)
    (fun k X Y row hs hg hr => ⟨hs.1.kept hg (fun e => by have := (hr _ e.symm).1; have := HSZ.out; omega), hs.2.1.kept hg (fun e => by have := (hr _ e.symm).1; have := HSZ.out; omega), hs.2.2.1.kept hg (fun e => by have := (hr _ e.symm).1; have := HSZ.out; omega), hs.2.2.2.grown hg hs.2.2.2.size (fun r e => by have := (hr r e).1; have := HSZ.out; omega)⟩)
    (fun _ _ _ _ hs _ _ => hs)
    (fun k X hs => ⟨hs.2.1, hs.2.2.1, HU.out.below hs.2.2.2 (Nat.le_refl _)⟩)
    HI0.out ?a1 ?assign ?body ?done ?stop
  case assign =>
    intro l k W K hK
    unfold encsT
    gi_wp2
    exact hK
  case body =>
    rintro l k W ⟨h1, h2, h3, h4⟩ hk
    have c1 := h1.cell
    have f1 := h1.frozen
    have hw : IntKind.i64.wrap ((k : Int) + 1) = (k : Int) + 1 := by have := HN.out; rw [IntKind.wrap_i64]; omega
    have H1 := Lib.hid h1
    have H2 := Lib.hid h2
    have H3 := Lib.hid h3
    have H4 := Lib.hid h4
    clear h1 h2 h3 h4
    gi_wp2
    exact ⟨(KeepsOthers.setCell _ _ _).from _, H1.out.set _, H2.out.kept (grownBy_setCell' _ _ _) (by intro e; injection e with e; omega), H3.out.kept (grownBy_setCell' _ _ _) (by intro e; injection e with e; omega), H4.out.setCell (p := ⟨w.heap.size, 0, none⟩) (Nat.le_refl _) _⟩
  case done =>
    rintro D W hD ⟨h1, _, _, h4⟩ hK
    have c1 := h1.cell
    have H4 := Lib.hid h4
    have HK := Lib.hid hK
    clear h1 h4 hK
    gi_wp2
    refine ⟨by simp, .inl ⟨_, _, rfl, run_takeDeferred HK.out, ?_⟩⟩
    refine ⟨.int .i64 ((fr false Q).length : Int), ?_, rfl, H4.out.grown (grownBy_putObj' _ D _) H4.out.size (fun r e => by cases e; have := HSZ.out; omega)⟩
    simp [results, Try.f16, go_sem]
  case stop =>
    rintro D k W hD hk h' hK
    exact h'.elim
theorem infoIn : (Try.prog.info? 3).map (fun i => (i.zero, i.size, i.bytes)) = some (some (.int .i64 0), 1, 8) := by kernel_rfl
def ivs (L : List Nat) : List Value := L.map (fun i : Nat => Value.int .i64 (i : Int))
theorem ivs_snoc (L : List Nat) (i : Nat) : ivs (L ++ [i]) = ivs L ++ [.int .i64 (i : Int)] := by unfold ivs; rw [List.map_append]; rfl
theorem ivs_ints (L : List Nat) : ivs L = (intsN L).map (Value.int .i64) := by unfold ivs intsN; rw [List.map_map]; rfl
theorem fr_take {b : Bool} {Q : List Bool} {k : Nat} (h : k < (fr b Q).length) : (fr b Q).take (k + 1) = (fr b Q).take k ++ [(fr b Q).getD k 0] := by
  rw [List.take_succ_eq_append_getElem h, List.getD, List.getElem?_eq_getElem h]; rfl
theorem one_cell (W : World) (x : Int) (t : TypeId) : ∀ j u, ([.int .i64 x] : List Value)[j]? = some u → (W.alloc (.cells #[.int .i64 x] t)).cell? ((⟨W.heap.size, 0, none⟩ : Addr).add j) = some u := by
  intro j u hj
  rw [Addr.add_mid, Nat.zero_add, cell_of_row _ _ _ #[.int .i64 x] t (0, 0) (heap_alloc_new W _)]
  simpa using hj
set_option maxRecDepth 100000 in
set_option maxHeartbeats 2000000 in
/-- slices.AppendSeq of what is told. -/
theorem appSeq_any {w : World} {B0 : Nat} {A : Option Addr} {cap : Nat} {b : Bool} {Q : List Bool} (h : UseS w (.slice A Q.length cap) Q) (hq : Q.length ≤ 5000)
    (b0 : Boxed w B0 22 (.slice A Q.length cap)) (b1 : Boxed w (B0 + 1) 4 (.bool b)) (j : Nat) (hj : 8 ≤ j) :
    CallsIn Fence.wide j Try.prog 26 #[.slice none 0 0, .func (.func 25) #[] #[.pointer (some ⟨B0, 0, none⟩), .pointer (some ⟨B0 + 1, 0, none⟩)]] w fun e w' => ∃ r, e = .returned r ∧ w'.ownsRow w.heap.size 3 1 r (fr b Q).length (ivs (fr b Q)) ∧ Below w.heap.size w w' := by
  have HU := Lib.hid h
  have HB0 := Lib.hid b0
  have HB1 := Lib.hid b1
  clear b0 b1 h
  have hf0 : Fence.wide.fn 26 := trivial
  have HN : Hid ((fr b Q).length ≤ 5000) := Lib.hid (by have := frI_len b Q Q.length; unfold fr; omega)
  refine callsIn_of_wp_marks Try.func26 rfl hf0 ?_ rfl
  simp only [Try.ntmps26, List.size_toArray, List.length_cons, List.length_nil, Nat.reduceAdd, Nat.reduceSub, Array.replicate_succ, Array.replicate_zero, List.push_toArray, List.append_toArray, List.nil_append, List.cons_append]
  gi_wp2
  refine wpIn_range_ix rfl (by omega) (gf := 25) (lb := #[.pointer (some ⟨B0, 0, none⟩), .pointer (some ⟨B0 + 1, 0, none⟩)]) (by simp [go_sem]) trivial (enters_of Try.func25 (by kernel_rfl) rfl) (encs := encsT b Q) (fun _ => rfl)
    (told_tells Fence.wide _ trivial rfl (by omega) B0 _ b Q hq _)
    (fun k W => (∃ u, Boxed W w.heap.size 23 u ∧ W.ownsRow w.heap.size 3 1 u k (ivs ((fr b Q).take k))) ∧ Below w.heap.size w W)
    (fun _ _ => False)
    ?own
    (fun _ _ _ _ hs _ _ => hs)
    (fun k X hs => ⟨HB0.out.kept (belowG hs.2) (by simp), HB1.out.kept (belowG hs.2) (by simp), HU.out.below hs.2 (Nat.le_refl _)⟩)
    ⟨⟨_, Boxed.new w _ _, World.ownsRow_nil _ _ _ _⟩, (Below.refl _ w).alloc (Nat.le_refl _) _⟩ ?a1 ?assign ?body ?done ?stop
  case own =>
    rintro k X Y row ⟨⟨u, hu, hrow⟩, hb⟩ hg hr
    simp only [World.size_alloc] at hr
    refine ⟨⟨u, hu.kept hg (fun e => by have := (hr _ e.symm).1; omega), hrow.kept hg ?_⟩, hb.grown hg hb.size (fun r e => by have := (hr r e).1; omega)⟩
    rcases hrow.2 with ⟨rfl, _⟩ | ⟨g, cap, cur, rfl, _, hgb, _⟩
    · exact .inl rfl
    · refine .inr fun e' => ?_
      obtain ⟨_, o, ho, hc⟩ := hr g (by simpa [Value.ownBlock] using e'.symm)
      rw [hgb] at ho; cases ho; cases hc
  case assign =>
    intro l k W K hK
    unfold encsT
    gi_wp2
    exact hK
  case body =>
    rintro l k W ⟨⟨u, hu, hrow⟩, hb⟩ hk
    have c1 := hu.cell
    have f1 := hu.frozen
    obtain ⟨i0, hi, hz0, hz1, hz2⟩ := info_parts infoIn
    have HV := Lib.hid hu
    have HRW := Lib.hid hrow
    have HBE := Lib.hid hb
    have HKL : Hid (k + 1 ≤ 5000) := Lib.hid (by have := HN.out; omega)
    have HTK : Hid (ivs ((fr b Q).take (k + 1)) = ivs ((fr b Q).take k) ++ [.int .i64 (frV b Q k)]) := Lib.hid (by rw [fr_take hk, ivs_snoc]; rfl)
    clear hu hrow hb
    gi_wp2_with (gi_at_builtin; refine wpListIn_append_own _ rfl _ _ 23 rfl w.heap.size 3 i0 _ 1 8 Try.underlying23 hi hz0 hz1 hz2 rfl (by decide) _ _ _ rfl (HRW.out.alloc _) ⟨W.heap.size, 0, none⟩ 1 1 [.int .i64 (frV b Q k)] rfl rfl (one_cell W (frV b Q k) _) (fun u hu => by simp only [List.mem_cons, List.not_mem_nil, or_false] at hu; rcases hu with rfl; rfl) (by have := HKL.out; unfold maxLen; omega) (by have := HKL.out; omega) (by have := HBE.out.size; simp; omega) ?_; intro v' w1 hown' hgrow _; obtain ⟨g', cap', rfl⟩ := ownsRow_succ hown'; have HAP := Lib.hid (HV.out.appended (by decide) HRW.out HBE.out.size (Nat.le_refl _) hown' hgrow); have hc1 := HAP.out.1.cell; have hf1 := HAP.out.1.frozen; clear hown' hgrow)
    obtain ⟨_, q2, q3, q4, q5⟩ := HAP.out
    refine ⟨q4.from _, ⟨_, q2, ?_⟩, HBE.out.trans q5⟩
    rw [HTK.out]
    exact q3
  case done =>
    rintro D W hD ⟨⟨u, hu, hrow⟩, hb⟩ hK
    have c1 := hu.cell
    rw [List.take_of_length_le (Nat.le_refl _)] at hrow
    have HRW := Lib.hid hrow
    have HBE := Lib.hid hb
    have HK := Lib.hid hK
    have hDD : w.heap.size ≤ D := by simp only [World.size_alloc] at hD; omega
    have huu : (u = .slice none 0 0) ∨ ∃ g cap, u = .slice (some ⟨g, 0, none⟩) (fr b Q).length cap := by
      rcases hrow.2 with ⟨h, _⟩ | ⟨g, cap, _, h, _⟩
      · exact .inl h
      · exact .inr ⟨g, cap, h⟩
    clear hu hrow hb hK hD
    rcases huu with rfl | ⟨g, cap, rfl⟩
    all_goals gi_wp2
    all_goals refine ⟨by simp, .inl ⟨_, _, rfl, run_takeDeferred HK.out, ?_⟩⟩
    · refine ⟨.slice none 0 0, ?_, _, rfl, ownsRow_putObj HRW.out _ HK.out rfl, HBE.out.grown (grownBy_putObj' _ D _) HBE.out.size (fun r e => by cases e; omega)⟩
      simp [results, Try.f26, go_sem]
    · refine ⟨.slice (some ⟨g, 0, none⟩) (fr b Q).length cap, ?_, _, rfl, ownsRow_putObj HRW.out _ HK.out rfl, HBE.out.grown (grownBy_putObj' _ D _) HBE.out.size (fun r e => by cases e; omega)⟩
      simp [results, Try.f26, go_sem]
  case stop =>
    rintro D k W hD hk h' hK
    exact h'.elim
set_option maxRecDepth 100000 in
set_option maxHeartbeats 2000000 in
theorem used_any {w : World} {v : Value} {Q : List Bool} (h : UseS w v Q) (hq : Q.length ≤ 5000) :
    Calls Try.prog 18 #[v] w fun e w' => ∃ r, e = .returned r ∧ IdxS w' r (intsN (fr true Q)) ∧ Below w.heap.size w w' := by
  have HU := Lib.hid h
  obtain ⟨A, cap, rfl, _⟩ := h
  obtain ⟨hb, q0, q1⟩ := told_boxes (A := A) (n := Q.length) (c := cap) (b := true) (Below.refl w.heap.size w)
  have hA := (callsIn_wide (n := 12)).1 (appSeq_any (HU.out.below hb (Nat.le_refl _)) hq q0 q1 12 (by omega))
  have hC : Calls Try.prog 24 #[.func (.func 25) #[] #[.pointer (some ⟨w.heap.size, 0, none⟩), .pointer (some ⟨w.heap.size + 1, 0, none⟩)]] ((w.alloc (.cells #[.slice A Q.length cap] 22)).alloc (.cells #[.bool true] 4)) fun e w' => ∃ r, e = .returned r ∧ IdxS w' r (intsN (fr true Q)) ∧ Below w.heap.size w w' := by
    clear hb q0 q1
    go_enter Try.func24, Try.ntmps24
    go_wp2_with (go_at_call 26; refine hA.mono ?_; rintro e w2 ⟨r, rfl, hr, hb2⟩)
    go_ret
    refine ⟨_, rfl, idxS_of (by rw [← ivs_ints]; exact hr), ?_⟩
    exact ((((Below.refl _ w).alloc (Nat.le_refl _) _).alloc (by simp) _)).trans (hb2.mono (by simp; omega))
  have hT := told_any A Q.length cap true w
  clear hb q0 q1 hA
  go_enter Try.func18, Try.ntmps18
  go_wp2_with (first
    | (go_at_call 23; refine hT.mono ?_; rintro e w2 ⟨rfl, rfl⟩)
    | (go_at_call 24; refine hC.mono ?_; rintro e w3 ⟨r, rfl, hr, hb3⟩))
  go_ret
  exact ⟨_, rfl, hr, hb3⟩
end Go.Proofs.Ytoaofhgkpnpglaa
