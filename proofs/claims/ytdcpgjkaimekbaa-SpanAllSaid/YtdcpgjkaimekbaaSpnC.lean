/- Spans: Cut, the program's. -/
import Derived.Test.YtdcpgjkaimekbaaSpnB
import Derived.Test.YtdcpgjkaimekbaaRangeB
namespace Go.Proofs.Ytdcpgjkaimekbaa
open Go.RowKit Go.Shelf
attribute [local go_sem] Oper.semAt_some

theorem cutE_cases (s off n : Int) : (rightB s off n = false ∧ cutE s off n = 1) ∨ (rightB s off n = true ∧ 1048576 < n ∧ cutE s off n = 7) ∨ (rightB s off n = true ∧ n ≤ 1048576 ∧ cutE s off n = 0) := by
  unfold cutE
  by_cases h : szOk s = true ∧ byOk off = true ∧ byOk n = true
  · rw [if_pos h]
    have h1 := (rightB_iff s off n).2 h
    by_cases h2 : n ≤ 1048576
    · exact .inr (.inr ⟨h1, h2, if_pos h2⟩)
    · exact .inr (.inl ⟨h1, by omega, if_neg h2⟩)
  · rw [if_neg h]
    exact .inl ⟨by rw [← Bool.not_eq_true, rightB_iff]; exact h, rfl⟩
theorem cutL_no {s off n : Int} (h : cutE s off n ≠ 0) : cutL s off n = [] := if_neg h
theorem three_false {a b c : Bool} : (a && b && c) = false → (a = false) ∨ (a = true ∧ b = false) ∨ (a = true ∧ b = true ∧ c = false) := by cases a <;> cases b <;> cases c <;> simp
set_option maxRecDepth 100000 in
set_option maxHeartbeats 2000000 in
theorem spanCut_no (s off n : Int) (w : World) (h : rightB s off n = false) :
    Calls Try.prog 23 #[.int .i64 s, .int .i64 off, .int .i64 n] w fun e w' => e = .returned (.tuple #[.slice none 0 0, .int .i64 1]) ∧ Below w.heap.size w w' := by
  have hS := isSize_any s
  have hO := mayBe_any off
  have hN := mayBe_any n
  unfold rightB at h
  generalize szOk s = a at h hS
  generalize byOk off = b at h hO
  generalize byOk n = c at h hN
  rcases three_false h with rfl | ⟨rfl, rfl⟩ | ⟨rfl, rfl, rfl⟩
  · go_enter Try.func23, Try.ntmps23
    go_wp2_with (go_at_call 42; (with_reducible refine (hS _).mono ?_); rintro e w1 ⟨rfl, rfl⟩)
    go_ret2
    exact ⟨rfl, Below.refl _ _⟩
  · go_enter Try.func23, Try.ntmps23
    go_wp2_with (first
      | (go_at_call 42; (with_reducible refine (hS _).mono ?_); rintro e w1 ⟨rfl, rfl⟩)
      | (go_at_call 43; (with_reducible refine (hO _).mono ?_); rintro e w1 ⟨rfl, rfl⟩))
    go_ret2
    exact ⟨rfl, Below.refl _ _⟩
  · go_enter Try.func23, Try.ntmps23
    go_wp2_with (first
      | (go_at_call 42; (with_reducible refine (hS _).mono ?_); rintro e w1 ⟨rfl, rfl⟩)
      | (go_at_call 43; (with_reducible refine (hO _).mono ?_); rintro e w1 ⟨rfl, rfl⟩)
      | (go_at_call 43; (with_reducible refine (hN _).mono ?_); rintro e w1 ⟨rfl, rfl⟩))
    go_ret2
    exact ⟨rfl, Below.refl _ _⟩
set_option maxRecDepth 100000 in
set_option maxHeartbeats 2000000 in
theorem spanCut_long (s off n : Int) (w : World) (h : rightB s off n = true) (hl : 1048576 < n) :
    Calls Try.prog 23 #[.int .i64 s, .int .i64 off, .int .i64 n] w fun e w' => e = .returned (.tuple #[.slice none 0 0, .int .i64 7]) ∧ Below w.heap.size w w' := by
  obtain ⟨h1, h2, h3⟩ := (rightB_iff _ _ _).1 h
  have hS := isSize_any s
  have hO := mayBe_any off
  have hN := mayBe_any n
  rw [h1] at hS
  rw [h2] at hO
  rw [h3] at hN
  have d0 : decide ((1048576 : Int) < n) = true := decide_eq_true hl
  clear h h1 h2 h3 hl
  go_enter Try.func23, Try.ntmps23
  go_wp2_with (first
    | (go_at_call 42; (with_reducible refine (hS _).mono ?_); rintro e w1 ⟨rfl, rfl⟩)
    | (go_at_call 43; (with_reducible refine (hO _).mono ?_); rintro e w1 ⟨rfl, rfl⟩)
    | (go_at_call 43; (with_reducible refine (hN _).mono ?_); rintro e w1 ⟨rfl, rfl⟩))
  go_ret2
  exact ⟨rfl, Below.refl _ _⟩
def spObj (L : List SP) (k : Nat) : Obj := .cells #[.int .i64 (L.getD k SP.zero).b, .int .i64 (L.getD k SP.zero).f, .int .i64 (L.getD k SP.zero).t] 63 (0, 0)
theorem spObj_at {L : List SP} {k B : Nat} {W : World} (h : W.heap[B]? = some (spObj L k)) : W.cell? ⟨B, 0, none⟩ = some (.int .i64 (L.getD k SP.zero).b) ∧ W.cell? ⟨B, 1, none⟩ = some (.int .i64 (L.getD k SP.zero).f) ∧ W.cell? ⟨B, 2, none⟩ = some (.int .i64 (L.getD k SP.zero).t) := by
  unfold spObj at h
  exact ⟨(cell_of_row W B 0 _ _ (0, 0) h).trans rfl, (cell_of_row W B 1 _ _ (0, 0) h).trans rfl, (cell_of_row W B 2 _ _ (0, 0) h).trans rfl⟩
set_option maxRecDepth 100000 in
set_option maxHeartbeats 4000000 in
theorem spanCut_yes (s off n : Nat) (w : World) (h : rightB (s : Int) (off : Int) (n : Int) = true) (hl : n ≤ 1048576) :
    Calls Try.prog 23 #[.int .i64 (s : Int), .int .i64 (off : Int), .int .i64 (n : Int)] w fun e w' => ∃ x, e = .returned (.tuple #[x, .int .i64 0]) ∧ SpnS w' x (cutN s off n) ∧ Below w.heap.size w w' := by
  obtain ⟨h1, h2, h3⟩ := (rightB_iff _ _ _).1 h
  have hS := fun (W : World) j => (callsIn_wide (n := j)).2 (isSize_any (s : Int) W)
  have hO := fun (W : World) j => (callsIn_wide (n := j)).2 (mayBe_any (off : Int) W)
  have hN := fun (W : World) j => (callsIn_wide (n := j)).2 (mayBe_any (n : Int) W)
  rw [h1] at hS
  rw [h2] at hO
  rw [h3] at hN
  have g1 := (szOk_iff _).1 h1
  have g2 := (byOk_iff _).1 h2
  have d0 : decide ((1048576 : Int) < (n : Int)) = false := decide_eq_false (by omega)
  have hs : 0 < s := by omega
  have hs2 : s ≤ 65536 := by omega
  have ho2 : off ≤ 1099511627776 := by omega
  have hw : IntKind.i64.wrap ((off : Int) + (n : Int)) = ((off + n : Nat) : Int) := by rw [IntKind.wrap_i64]; omega
  have hw2 : wrap64 ((off : Int) + (n : Int)) = ((off + n : Nat) : Int) := by unfold wrap64; omega
  obtain ⟨en, hen⟩ : ∃ en : Nat, en = off + n := ⟨_, rfl⟩
  rw [← hen] at hw hw2
  have HEN := Lib.hid hen
  have hT := fun (W : World) j => (callsIn_wide (n := j)).2 (sTold_any (s : Int) (off : Int) (en : Int) W)
  obtain ⟨L, hL⟩ : ∃ L, L = cutN s off n := ⟨_, rfl⟩
  have HLL : Hid (L.length ≤ 1048576) := Lib.hid (by rw [hL]; have := cutN_len hs n off; omega)
  have HLQ := Lib.hid hL
  have HS := Lib.hid (And.intro hs hs2)
  have HO := Lib.hid (And.intro ho2 hl)
  rw [← hL]
  clear h h1 h2 h3 g1 g2 hen hL
  refine (callsIn_wide (n := 8)).1 ?_
  have hf0 : Fence.wide.fn 23 := trivial
  have hf1 : Fence.wide.fn 42 := trivial
  have hf2 : Fence.wide.fn 43 := trivial
  have hf3 : Fence.wide.fn 44 := trivial
  refine callsIn_of_wp_marks Try.func23 rfl hf0 ?_ rfl
  simp only [Try.ntmps23, List.size_toArray, List.length_cons, List.length_nil, Nat.reduceAdd, Nat.reduceSub, Array.replicate_succ, Array.replicate_zero, List.push_toArray, List.append_toArray, List.nil_append, List.cons_append]
  clear hl hs hs2 ho2
  gi_wp2_with (first
    | (gi_at_call 42; (with_reducible refine (hS _ _).mono ?_); rintro e w1 ⟨rfl, hx⟩; subst w1)
    | (gi_at_call 43; (with_reducible refine (hO _ _).mono ?_); rintro e w1 ⟨rfl, hx⟩; subst w1)
    | (gi_at_call 43; (with_reducible refine (hN _ _).mono ?_); rintro e w1 ⟨rfl, hx⟩; subst w1)
    | (gi_at_call 44; (with_reducible refine (hT _ _).mono ?_); rintro e W3 ⟨rfl, hW3⟩; have HW3 := Lib.hid hW3; clear hW3))
  have HSZ : Hid (W3.heap.size = w.heap.size + 4) := Lib.hid (by rw [HW3.out]; simp)
  have HI0 : Hid (Boxed W3 w.heap.size 47 (.slice none 0 0) ∧ Boxed W3 (w.heap.size + 1) 2 (.int .i64 (s : Int)) ∧ Boxed W3 (w.heap.size + 1 + 1) 2 (.int .i64 (off : Int)) ∧ Boxed W3 (w.heap.size + 1 + 2) 2 (.int .i64 (en : Int)) ∧ Below w.heap.size w W3) := Lib.hid (by
    rw [HW3.out]
    have b0 := Boxed.new w 47 (.slice none 0 0)
    have q0 : Below w.heap.size w (w.alloc (.cells #[.slice none 0 0] 47)) := (Below.refl _ w).alloc (Nat.le_refl _) _
    have s0 : (w.alloc (.cells #[.slice none 0 0] 47)).heap.size = w.heap.size + 1 := by simp
    generalize w.alloc (.cells #[.slice none 0 0] 47) = w1 at b0 q0 s0 ⊢
    have b1 := Boxed.new w1 2 (.int .i64 (s : Int))
    have q1 := q0.alloc (by omega) (.cells #[.int .i64 (s : Int)] 2)
    have s1 : (w1.alloc (.cells #[.int .i64 (s : Int)] 2)).heap.size = w.heap.size + 2 := by simp [s0]
    replace b0 := b0.alloc (.cells #[.int .i64 (s : Int)] 2)
    rw [s0] at b1
    generalize w1.alloc (.cells #[.int .i64 (s : Int)] 2) = w2 at b0 b1 q1 s1 ⊢
    have b2 := Boxed.new w2 2 (.int .i64 (off : Int))
    have q2 := q1.alloc (by omega) (.cells #[.int .i64 (off : Int)] 2)
    have s2 : (w2.alloc (.cells #[.int .i64 (off : Int)] 2)).heap.size = w.heap.size + 3 := by simp [s1]
    replace b0 := b0.alloc (.cells #[.int .i64 (off : Int)] 2)
    replace b1 := b1.alloc (.cells #[.int .i64 (off : Int)] 2)
    rw [s1] at b2
    generalize w2.alloc (.cells #[.int .i64 (off : Int)] 2) = w3 at b0 b1 b2 q2 s2 ⊢
    have b3 := Boxed.new w3 2 (.int .i64 (en : Int))
    rw [s2] at b3
    exact ⟨b0.alloc _, b1.alloc _, b2.alloc _, b3, q2.alloc (by omega) _⟩)
  refine wpIn_range_ib rfl (by omega) (gf := 54) (lb := #[.pointer (some ⟨w.heap.size + 1 + 1, 0, none⟩), .pointer (some ⟨w.heap.size + 1 + 2, 0, none⟩), .pointer (some ⟨w.heap.size + 1, 0, none⟩)]) (by simp [go_sem]) trivial (enters_of Try.func54 (by kernel_rfl) rfl) (encs := encsS (cutN s off n)) (fun _ => rfl)
    (sTold_tells Fence.wide _ trivial rfl (by omega) (w.heap.size + 1) s off n HS.out.1 HS.out.2 HO.out.1 (by have := HO.out; omega) W3)
    (fun k W => (∃ u, Boxed W w.heap.size 47 u ∧ W.ownsRow w.heap.size 63 3 u k ((L.take k).flatMap SP.cells)) ∧ Boxed W (w.heap.size + 1) 2 (.int .i64 (s : Int)) ∧ Boxed W (w.heap.size + 1 + 1) 2 (.int .i64 (off : Int)) ∧ Boxed W (w.heap.size + 1 + 2) 2 (.int .i64 (en : Int)) ∧ Below w.heap.size w W)
    (fun _ _ => False)
    ?own (fun _ _ _ _ hs _ _ => hs) ?rd ?start (spObj L) ?a1 ?assign ?body ?done ?stop
  case own =>
    rintro k X Y row ⟨⟨u, hu, hrow⟩, hb1, hb2, hb3, hb⟩ hg hr
    have hz := HSZ.out
    refine ⟨⟨u, hu.kept hg (fun e => by have := (hr _ e.symm).1; omega), hrow.kept hg ?_⟩, hb1.kept hg (fun e => by have := (hr _ e.symm).1; omega), hb2.kept hg (fun e => by have := (hr _ e.symm).1; omega), hb3.kept hg (fun e => by have := (hr _ e.symm).1; omega), hb.grown hg hb.size (fun r e => by have := (hr r e).1; omega)⟩
    rcases hrow.2 with ⟨rfl, _⟩ | ⟨g, cap, cur, rfl, _, hgb, _⟩
    · exact .inl rfl
    · refine .inr fun e' => ?_
      obtain ⟨_, o, ho, hc⟩ := hr g (by simpa [Value.ownBlock] using e'.symm)
      rw [hgb] at ho; cases ho; cases hc
  case rd =>
    rintro k A ⟨_, hb1, hb2, hb3, _⟩
    rw [HEN.out] at hb3
    exact ⟨hb1.cell, hb2.cell, hb3.cell⟩
  case start => exact ⟨⟨_, HI0.out.1, World.ownsRow_nil _ _ _ _⟩, HI0.out.2⟩
  case assign =>
    intro l k B W K hB hK
    unfold encsS spV
    rw [← HLQ.out]
    unfold spObj at hK
    gi_wp2
    exact hK
  case body =>
    rintro l k B W ⟨⟨u, hu, hrow⟩, hb1, hb2, hb3, hb⟩ hk hB hob
    rw [← HLQ.out] at hk
    have c1 := hu.cell
    have f1 := hu.frozen
    obtain ⟨x0, x1, x2⟩ := spObj_at hob
    obtain ⟨i0, hi, hz0, hz1, hz2⟩ := spInfo
    have HV := Lib.hid hu
    have HRW := Lib.hid hrow
    have HBE := Lib.hid hb
    have HBX := Lib.hid (And.intro hb1 (And.intro hb2 hb3))
    have HKL : Hid (k + 1 ≤ 1048576) := Lib.hid (by have := HLL.out; omega)
    have HTK : Hid ((L.take (k + 1)).flatMap SP.cells = (L.take k).flatMap SP.cells ++ (L.getD k SP.zero).cells) := Lib.hid (by rw [getD_snoc SP.zero hk, flat_snoc])
    generalize L.getD k SP.zero = x at x0 x1 x2 HTK
    obtain ⟨xb, xf, xt⟩ := x
    dsimp only at x0 x1 x2
    clear hu hrow hb hb1 hb2 hb3 hob
    gi_wp2_with (gi_at_builtin; (refine wpListIn_append_own _ rfl _ _ 47 rfl w.heap.size 63 i0 _ 3 24 Try.underlying47 hi hz0 hz1 hz2 rfl (by decide) _ _ _ rfl (HRW.out.alloc _) ⟨W.heap.size, 0, none⟩ 1 1 [.int .i64 xb, .int .i64 xf, .int .i64 xt] rfl rfl (new_cells W [.int .i64 xb, .int .i64 xf, .int .i64 xt] _) (sp_one ⟨xb, xf, xt⟩) (by have := HKL.out; unfold maxLen; omega) (by have := HKL.out; omega) (by have := HBE.out.size; simp; omega) ?_); intro v' w1 hown' hgrow _; obtain ⟨g', cap', rfl⟩ := ownsRow_succ hown'; have HAP := Lib.hid (HV.out.appended (by decide) HRW.out HBE.out.size (Nat.le_refl _) hown' hgrow); have hc1 := HAP.out.1.cell; have hf1 := HAP.out.1.frozen; have hbx : ∀ (B' : Nat) (u : Value), Boxed W B' 2 u → B' ≠ w.heap.size → Boxed (w1.setCell ⟨w.heap.size, 0, none⟩ (.slice (some ⟨g', 0, none⟩) (k + 1) cap')) B' 2 u := fun B' u hb hne => ((hb.alloc _).kept hgrow (hb.not_row (by decide) HRW.out)).kept (grownBy_setCell' _ _ _) (fun e => hne (by injection e)); have HBX2 := Lib.hid hbx; clear hown' hgrow hbx)
    obtain ⟨_, q2, q3, q4, q5⟩ := HAP.out
    refine ⟨q4.from _, ⟨_, q2, ?_⟩, HBX2.out _ _ HBX.out.1 (by omega), HBX2.out _ _ HBX.out.2.1 (by omega), HBX2.out _ _ HBX.out.2.2 (by omega), HBE.out.trans q5⟩
    rw [HTK.out]; exact q3
  case done =>
    rintro D W hD ⟨⟨u, hu, hrow⟩, _, _, _, hb⟩ hK
    rw [← HLQ.out] at hrow
    have c1 := hu.cell
    rw [List.take_of_length_le (Nat.le_refl _)] at hrow
    obtain ⟨ao, cap, rfl, _⟩ := ownS_form hrow
    have HRW := Lib.hid hrow
    have HBE := Lib.hid hb
    have HK := Lib.hid hK
    have hDD : w.heap.size ≤ D := by have := HSZ.out; omega
    clear hu hrow hb hK hD
    gi_wp2
    refine ⟨by simp, .inl ⟨_, _, rfl, run_takeDeferred HK.out, ?_⟩⟩
    refine ⟨.tuple #[.slice ao L.length cap, .int .i64 0], ?_, _, rfl, StS.of_own sp_len (ownsRow_putObj HRW.out _ HK.out rfl), HBE.out.grown (grownBy_putObj' _ D _) HBE.out.size (fun r e => by cases e; omega)⟩
    simp [results, Try.f23, go_sem]
  case stop =>
    rintro D k W hD hk h' hK
    exact h'.elim
end Go.Proofs.Ytdcpgjkaimekbaa
