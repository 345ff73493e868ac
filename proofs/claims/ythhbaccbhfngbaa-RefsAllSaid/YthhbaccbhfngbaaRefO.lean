/- References: the program's entries: what is told of some maps, one by one. -/
import Derived.Test.YthhbaccbhfngbaaMc05
import Derived.Test.YthhbaccbhfngbaaMb17
import Derived.Test.YthhbaccbhfngbaaRangeZ
import Derived.Sort.CutIn
namespace Go.Proofs.Ythhbaccbhfngbaa
open Go.RowKit Go.Shelf
attribute [local go_sem] Oper.semAt_some

theorem own_same {W W' : World} {base e s n : Nat} {v : Value} {xs : List Value} (h : W.ownsRow base e s v n xs) (hs : ∀ g, v.ownBlock = some g → W'.heap[g]? = W.heap[g]?) : W'.ownsRow base e s v n xs := by
  refine ⟨h.1, ?_⟩
  rcases h.2 with h0 | ⟨g, cap, cur, hv, hg, hh, r⟩
  · exact .inl h0
  · exact .inr ⟨g, cap, cur, hv, hg, (hs g (by rw [hv]; rfl)).trans hh, r⟩
/-- The maps ahead of the first wrong one. -/
def preE (e : Int) (C : List CH) : List CH := C.takeWhile (okB e)
def toldE (e : Int) (C : List CH) : List EN := (preE e C).flatMap (enC e)
def numE (e : Int) (C : List CH) : Nat := (toldE e C).length + (if rfOk e C = true then 0 else 1)
def telK (e : Int) (C : List CH) (k : Nat) : EN := (toldE e C).getD k EN.zero
def errK (e : Int) (C : List CH) (k : Nat) : Int := if k < (toldE e C).length then 0 else 2
def encsE (e : Int) (C : List CH) (k : Nat) : Array Value :=
  #[(telK e C k).v, .int .i64 (errK e C k)]
def offE (e : Int) (C : List CH) (j : Nat) : Nat := ((C.take j).flatMap (enC e)).length
theorem pre_take {e : Int} {C : List CH} : ∀ {j : Nat}, j ≤ C.length → (∀ q, q < j → okB e (C.getD q CH.zero) = true) → preE e C = C.take j ++ (C.drop j).takeWhile (okB e) := by
  induction C with
  | nil => intro j hj _; simp [preE]
  | cons c C ih =>
    intro j hj h
    cases j with
    | zero => rfl
    | succ j =>
      have h0 : okB e c = true := h 0 (by omega)
      have h1 := ih (j := j) (by simpa using hj) (fun q hq => by have := h (q + 1) (by omega); simpa using this)
      unfold preE at h1 ⊢
      rw [List.takeWhile_cons, if_pos h0, h1]; rfl
theorem getD_mid {α : Type} {A B D : List α} {i : Nat} {z : α} (hi : i < B.length) : (A ++ (B ++ D)).getD (A.length + i) z = B.getD i z := by
  rw [List.getD, List.getD, List.getElem?_append_right (by omega), Nat.add_sub_cancel_left, List.getElem?_append_left hi]
theorem drop_at {C : List CH} {j : Nat} (h : j < C.length) : C.drop j = C.getD j CH.zero :: C.drop (j + 1) := by
  rw [List.drop_eq_getElem_cons h, List.getD, List.getElem?_eq_getElem h]; rfl
/-- What is told of a right map. -/
theorem told_right {e : Int} {C : List CH} {j : Nat} (hj : j < C.length) (h : ∀ q, q < j → okB e (C.getD q CH.zero) = true) (hk : okB e (C.getD j CH.zero) = true) :
    offE e C (j + 1) = offE e C j + (enC e (C.getD j CH.zero)).length ∧ ∀ i, i < (enC e (C.getD j CH.zero)).length → offE e C j + i < numE e C ∧ encsE e C (offE e C j + i) = #[((enC e (C.getD j CH.zero)).getD i EN.zero).v, .int .i64 0] := by
  have hp := pre_take (Nat.le_of_lt hj) h
  rw [drop_at hj, List.takeWhile_cons, if_pos hk] at hp
  have ht : toldE e C = (C.take j).flatMap (enC e) ++ (enC e (C.getD j CH.zero) ++ ((C.drop (j + 1)).takeWhile (okB e)).flatMap (enC e)) := by
    unfold toldE; rw [hp, List.flatMap_append, List.flatMap_cons]
  refine ⟨?_, fun i hi => ?_⟩
  · unfold offE; rw [flat_take hj, List.length_append]
  · have hlt : offE e C j + i < (toldE e C).length := by
      rw [ht]; unfold offE; simp only [List.length_append]; omega
    refine ⟨by unfold numE; omega, ?_⟩
    unfold encsE telK errK
    rw [if_pos hlt, ht]
    unfold offE
    rw [getD_mid hi]
theorem told_wrong {e : Int} {C : List CH} {j : Nat} (hj : j < C.length) (h : ∀ q, q < j → okB e (C.getD q CH.zero) = true) (hk : ¬ okB e (C.getD j CH.zero) = true) :
    offE e C j < numE e C ∧ encsE e C (offE e C j) = #[EN.zero.v, .int .i64 2] ∧ numE e C = offE e C j + 1 := by
  have hp := pre_take (Nat.le_of_lt hj) h
  rw [drop_at hj, List.takeWhile_cons, if_neg hk, List.append_nil] at hp
  have ht : toldE e C = (C.take j).flatMap (enC e) := by unfold toldE; rw [hp]
  have hr : rfOk e C = false := rfOk_no hj hk
  have e1 : numE e C = offE e C j + 1 := by unfold numE offE; rw [hr, ht]; rfl
  refine ⟨by omega, ?_, e1⟩
  unfold encsE telK errK
  have hz : (toldE e C).getD (offE e C j) EN.zero = EN.zero := by
    rw [List.getD, List.getElem?_eq_none (by rw [ht]; exact Nat.le_refl _)]; rfl
  rw [if_neg (by rw [ht]; exact Nat.lt_irrefl _), hz]
theorem told_end {e : Int} {C : List CH} (h : ∀ q, q < C.length → okB e (C.getD q CH.zero) = true) : offE e C C.length = numE e C ∧ rfOk e C = true ∧ toldE e C = rfEnts e C := by
  have hp := pre_take (Nat.le_refl _) h
  rw [List.take_length, List.drop_length, List.takeWhile_nil, List.append_nil] at hp
  have hr : rfOk e C = true := by
    unfold rfOk
    rw [List.all_eq_true]
    intro c hc
    obtain ⟨q, hq, rfl⟩ := List.getElem_of_mem hc
    have := h q hq
    rwa [List.getD, List.getElem?_eq_getElem hq] at this
  refine ⟨?_, hr, ?_⟩
  · unfold numE offE toldE; rw [hr, hp, List.take_length]; rfl
  · unfold toldE rfEnts; rw [if_pos hr, hp]
theorem entries_any (e : Int) (v : Value) (w : World) (hv : ∃ A n c, v = .slice A n c) :
    Calls Try.prog 23 #[.int .i64 e, v] w fun r w' => r = .returned (.func (.func 35) #[] #[.pointer (some ⟨w.heap.size + 1, 0, none⟩), .pointer (some ⟨w.heap.size, 0, none⟩)]) ∧ w' = (w.alloc (.cells #[.int .i64 e] 3)).alloc (.cells #[v] 22) := by
  obtain ⟨A, n, c, rfl⟩ := hv
  go_enter Try.func23, Try.ntmps23
  go_wp2
  go_ret
  exact ⟨by simp, rfl⟩
/-- What the closure reads. -/
structure RDE (A : World) (e : Int) (C : List CH) (bl be : Nat) (v : Value) : Prop where
  l : A.cell? ⟨bl, 0, none⟩ = some v
  e : A.cell? ⟨be, 0, none⟩ = some (.int .i64 e)
  c : ChsS A v C
/-- A row that a call answered, as long as its block lies as it lay. -/
theorem own_block {W : World} {base : Nat} {b : Value} {L : List EN} (h : W.ownsRow base 50 4 b L.length (eCells L)) :
    (b = .slice none 0 0 ∧ L = []) ∨ ∃ g cap o, b = .slice (some ⟨g, 0, none⟩) L.length cap ∧ base ≤ g ∧ L.length ≤ cap ∧ cap ≤ maxLen ∧ W.heap[g]? = some o ∧ o.isCells = true ∧ ∀ W' : World, W'.heap[g]? = some o → ∀ i, i < L.length → EntAt W' g (i * 4) (L.getD i EN.zero) := by
  have h' := h
  rcases h.2 with ⟨rfl, h0⟩ | ⟨g, cap, cur, rfl, hb, hh, hn, hm, r⟩
  · exact .inl ⟨rfl, List.eq_nil_of_length_eq_zero h0⟩
  · refine .inr ⟨g, cap, _, rfl, hb, hn, hm, hh, own_cellsX h' rfl hh, fun W' hW i hi => ?_⟩
    have h2 : EntsS W' _ L := EntsS.of_own (own_same (W' := W') h' (fun g' e => by injection e with e; subst e; rw [hW, hh]))
    obtain ⟨A, c, hv, _, _, h3⟩ := h2
    injection hv with hv _ _
    rcases h3 with h3 | ⟨b', off, hA, _, hc⟩
    · rw [h3] at hi; simp at hi
    · rw [hA] at hv
      injection hv with hv
      injection hv with e1 e2 _
      subst e1; subst e2
      have := hc i hi
      rwa [Nat.zero_add] at this
theorem ChsS.at {w : World} {A : Option Addr} {n c : Nat} {C : List CH} (h : ChsS w (.slice A n c) C) {j : Nat} (hj : j < C.length) :
    ∃ b off tA tc, A = some ⟨b, off, none⟩ ∧ w.cell? ⟨b, off + j * 2, none⟩ = some (.int .i64 (C.getD j CH.zero).blocks) ∧ w.cell? ⟨b, off + j * 2 + 1, none⟩ = some (.slice tA (C.getD j CH.zero).tabs.length tc) ∧ TabsS w (.slice tA (C.getD j CH.zero).tabs.length tc) (C.getD j CH.zero).tabs := by
  obtain ⟨A', c', hv, _, _, h3⟩ := h
  injection hv with hv _ _
  subst hv
  obtain ⟨b, off, hA, _, hc⟩ := h3.resolve_left (by rintro rfl; simp at hj)
  obtain ⟨tA, tc, g1, g2, g3⟩ := hc j hj
  exact ⟨b, off, tA, tc, hA, g1, g2, g3⟩
/-- The row goes to the blocks that lie as they lay. -/
theorem row_kept {J : List (Nat × Obj) → Nat → World → Prop} {W W2 : World} {b : Value} {L : List EN} {X : List (Nat × Obj)} {k : Nat} (hJb : ∀ X k A C, J X k A → Below A.heap.size A C → J X k C)
    (hJa : ∀ X k A C b o, J X k A → Below A.heap.size A C → A.heap.size ≤ b → C.heap[b]? = some o → o.isCells = true → J ((b, o) :: X) k C) (hJ : J X k W) (hb : Below W.heap.size W W2) (h : W2.ownsRow W.heap.size 50 4 b L.length (eCells L)) :
    ∃ A cap X', b = .slice A L.length cap ∧ (L.length ≤ cap ∧ cap ≤ maxLen) ∧ J X' k W2 ∧ ∀ i, i < L.length → ∃ g o, A = some ⟨g, 0, none⟩ ∧ (g, o) ∈ X' ∧ ∀ W' : World, W'.heap[g]? = some o → EntAt W' g (i * 4) (L.getD i EN.zero) := by
  rcases own_block h with ⟨rfl, rfl⟩ | ⟨g, cap, o, rfl, hg, h1, h2, ho, hc, he⟩
  · exact ⟨none, 0, X, rfl, ⟨Nat.le_refl _, Nat.zero_le _⟩, hJb _ _ _ _ hJ hb, fun i hi => absurd hi (Nat.not_lt_zero _)⟩
  · exact ⟨_, cap, _, rfl, ⟨h1, h2⟩, hJa _ _ _ _ g o hJ hb hg ho hc, fun i hi => ⟨g, o, rfl, List.mem_cons_self .., fun W' hW => he W' hW i hi⟩⟩
theorem new4R (W : World) (a b c d : Value) (t : TypeId) : (W.alloc (.cells #[a, b, c, d] t)).cell? ⟨W.heap.size, 0, none⟩ = some a ∧ (W.alloc (.cells #[a, b, c, d] t)).cell? ⟨W.heap.size, 1, none⟩ = some b ∧ (W.alloc (.cells #[a, b, c, d] t)).cell? ⟨W.heap.size, 2, none⟩ = some c ∧ (W.alloc (.cells #[a, b, c, d] t)).cell? ⟨W.heap.size, 3, none⟩ = some d := by
  have h := heap_alloc_new W (.cells #[a, b, c, d] t)
  exact ⟨by rw [cell_of_row _ _ _ _ _ (0, 0) h]; rfl, by rw [cell_of_row _ _ _ _ _ (0, 0) h]; rfl, by rw [cell_of_row _ _ _ _ _ (0, 0) h]; rfl, by rw [cell_of_row _ _ _ _ _ (0, 0) h]; rfl⟩
set_option maxRecDepth 100000 in
set_option maxHeartbeats 8000000 in
theorem ent_tells (n : Nat) (hn : 2 ≤ n) (e : Int) (C : List CH) (hC : FewC C) (bl be : Nat) (v : Value) (w : World) :
    TellsZ Fence.wide n Try.prog 35 #[.pointer (some ⟨bl, 0, none⟩), .pointer (some ⟨be, 0, none⟩)] (encsE e C) (numE e C) (fun _ A => RDE A e C bl be v) w := by
  intro l J Jx W hW hJb hJa hJr hJd hY h0
  refine callsIn_of_wp Try.func35 rfl trivial ?_ rfl
  simp only [Try.ntmps35, List.size_toArray, List.length_cons, List.length_nil, Nat.reduceAdd, Nat.reduceSub, Array.replicate_succ, Array.replicate_zero, List.push_toArray, List.append_toArray, List.nil_append, List.cons_append]
  have hR0 := hJd _ _ _ h0
  obtain ⟨A0, cc0, rfl⟩ := hR0.c.form
  have hc0 := hR0.l
  have HLN := Lib.hid hC.1
  have H0 := Lib.hid h0
  have HJB := Lib.hid hJb
  have HJA := Lib.hid hJa
  have HJR := Lib.hid hJr
  have HJD := Lib.hid hJd
  have HY := Lib.hid hY
  have hf0 : Fence.wide.fn 22 := trivial
  have hn1 : 1 ≤ n := by omega
  clear h0 hC hJb hJa hJr hJd hY hW hR0
  gi_wp2
  clear hc0
  gi_loopw [13] (fun ix wr => ∃ (j : Nat) (X : List (Nat × Obj)), j ≤ C.length ∧ ix = .int .i64 (j : Int) ∧ (∀ q, q < j → okB e (C.getD q CH.zero) = true) ∧ J X (offE e C j) wr) (fun ix _ => C.length - (intOf ix).toNat)
  case atStart => exact ⟨0, [], Nat.zero_le _, rfl, fun q hq => absurd hq (Nat.not_lt_zero _), H0.out⟩
  case round =>
    obtain ⟨j, X, hj, rfl, hok, hJ⟩ := hrel
    have HJ := Lib.hid hJ
    have HOK := Lib.hid hok
    clear hJ H0 hok
    by_cases hlt : j < C.length
    · have hR := HJD.out _ _ _ HJ.out
      obtain ⟨b, off, tA, tc, rfl, q0, q1, htab⟩ := hR.c.at hlt
      have HE2 := Lib.hid hR.e
      have hmx : j < 10 := by have := HLN.out; omega
      have HMX := Lib.hid hmx
      have HRI := Lib.hid (told_right (e := e) hlt HOK.out)
      have HWR := Lib.hid (told_wrong (e := e) hlt HOK.out)
      have HNXOK : Hid (okB e (C.getD j CH.zero) = true → ∀ q, q < j + 1 → okB e (C.getD q CH.zero) = true) := Lib.hid (fun h q hq => by
        by_cases e' : q = j
        · rw [e']; exact h
        · exact HOK.out q (by omega))
      have HLT := Lib.hid hlt
      obtain ⟨c, hcdef⟩ : ∃ c, c = C.getD j CH.zero := ⟨_, rfl⟩
      rw [← hcdef] at q0 q1 htab HRI HWR HNXOK
      obtain ⟨B, T⟩ := c
      dsimp only at q0 q1 htab
      have d0 : decide ((j : Int) < (C.length : Int)) = true := decide_eq_true (by omega)
      have d1 : decide (j < C.length) = true := decide_eq_true hlt
      obtain ⟨w1, hw1⟩ : ∃ w1, w1 = wr.alloc (.cells #[.int .i64 B, .slice tA T.length tc] 44) := ⟨_, rfl⟩
      have hb1 : Below wr.heap.size wr w1 := by rw [hw1]; exact below_new wr _
      have HB1 := Lib.hid hb1
      have HT1 := Lib.hid (htab.below hb1)
      have HJ1 := Lib.hid (HJB.out _ _ _ _ HJ.out hb1)
      have hbe1 := (HJD.out _ _ _ HJ1.out).e
      have hbx := B2.new wr (.int .i64 B) (.slice tA T.length tc) 44
      rw [← hw1] at hbx
      obtain ⟨_, x0, x1, _, _⟩ := hbx
      have HW1 := Lib.hid hw1
      clear hR hlt hmx hcdef htab hb1 hw1
      gi_upto_region 3 with fail
      rw [← HW1.out]
      clear q0 q1 d0 d1
      by_cases hk : okB e ⟨B, T⟩ = true
      · have hA := fun j => (callsIn_wide (n := j)).2 (chtAll_own e B T _ w1 HT1.out hk)
        have HRI2 := Lib.hid (HRI.out hk)
        have HNX := Lib.hid (HNXOK.out hk)
        clear HRI HWR HNXOK hk
        generalize enC e ⟨B, T⟩ = L at hA HRI2
        gi_wp2_with (gi_at_call 22; refine (hA _).mono ?_; rintro r w2 ⟨a, b, rfl, ⟨hidx, hown⟩, hb2⟩; obtain ⟨aA, ac, rfl, _⟩ := hidx; obtain ⟨bA, bc, X', rfl, hcap, hJ2, hrd⟩ := row_kept HJB.out HJA.out HJ1.out hb2 hown; have HJ2 := Lib.hid hJ2; have HRD := Lib.hid hrd; have HCAP := Lib.hid hcap; clear hown hb2 hJ2 hrd hcap x0 x1 hbe1)
        gi_loopw [32] (fun ix wi => ∃ i : Nat, i ≤ L.length ∧ ix = .int .i64 (i : Int) ∧ J X' (offE e C j + i) wi) (fun ix _ => L.length - (intOf ix).toNat)
        case atStart => exact ⟨0, Nat.zero_le _, rfl, HJ2.out⟩
        case round =>
          obtain ⟨i, hi, rfl, hJ⟩ := hrel
          have HJ3 := Lib.hid hJ
          clear hJ HJ2
          by_cases hil : i < L.length
          · obtain ⟨g, o, rfl, hm, hent⟩ := HRD.out i hil
            obtain ⟨q0, q1, q2, q3⟩ := hent wr (HJR.out _ _ _ _ _ HJ3.out hm)
            obtain ⟨hlt, henc⟩ := HRI2.out.2 i hil
            have HLI := Lib.hid hlt
            generalize L.getD i EN.zero = p at q0 q1 q2 q3 henc
            obtain ⟨pk, ps, pm, pf⟩ := p
            dsimp only at q0 q1 q2 q3
            have d0 : decide ((i : Int) < (L.length : Int)) = true := decide_eq_true (by omega)
            have d1 : decide (i < L.length) = true := decide_eq_true hil
            obtain ⟨wx, hwx⟩ : ∃ wx, wx = wr.alloc (.cells #[.int .u8 pk, .int .i64 ps, .int .i64 pm, .int .i64 pf] 50) := ⟨_, rfl⟩
            have hb4 : Below wr.heap.size wr wx := by rw [hwx]; exact below_new wr _
            have HJ4 := Lib.hid (HJB.out _ _ _ _ HJ3.out hb4)
            obtain ⟨fn, tmps, assign, body, hy, hRR⟩ := HY.out _ _ _ HJ4.out hlt
            rw [henc] at hy
            unfold EN.v at hy
            dsimp only at hy
            obtain ⟨x0, x1, x2, x3⟩ := new4R wr (.int .u8 pk) (.int .i64 ps) (.int .i64 pm) (.int .i64 pf) 50
            rw [← hwx] at x0 x1 x2 x3
            have HWX := Lib.hid hwx
            obtain ⟨w3, w4⟩ := nextR hil (Nat.le_trans HCAP.out.1 HCAP.out.2)
            have HIL := Lib.hid hil
            clear hent hm hlt henc hwx hb4 hil hi
            gi_upto_region 9 with fail
            rw [← HWX.out]
            clear q0 q1 q2 q3 d0 d1
            gi_wp2
            refine hRR.mono ?_
            rintro r W3 (⟨rfl, hJ5⟩ | ⟨rfl, hJx⟩)
            · have HJ5 := Lib.hid hJ5
              clear hJ5 hRR hy x0 x1 x2 x3
              gi_wp2
              go_roundw
              case rel => exact ⟨i + 1, HIL.out, by go_num, HJ5.out⟩
              case measure => have h := HIL.out; clear w3 w4; simp only [intOf]; omega
            · have HJX := Lib.hid hJx
              clear hJx hRR hy x0 x1 x2 x3
              gi_wp2
              refine bodyPost_ret (results_none rfl _ _ _) rfl ?_
              exact ⟨⟨_, rfl⟩, .inr ⟨_, HLI.out, HJX.out⟩⟩
          · obtain rfl : i = L.length := by omega
            have d0 : decide ((L.length : Int) < (L.length : Int)) = false := decide_eq_false (by omega)
            have d1 : decide (L.length < L.length) = false := decide_eq_false (by omega)
            have HJ6 : Hid (J X' (offE e C (j + 1)) wr) := Lib.hid (by rw [HRI2.out.1]; exact HJ3.out)
            obtain ⟨w3, w4⟩ := nextR HMX.out (by unfold maxLen; omega)
            clear hi hil HJ3
            gi_wp2
            go_roundw
            case rel => exact ⟨j + 1, X', HLT.out, by go_num, HNX.out, HJ6.out⟩
            case measure => have h := HLT.out; clear w3 w4; simp only [intOf]; omega
      · have hA := fun j => (callsIn_wide (n := j)).2 (chtAll_no e B T _ w1 HT1.out (by simpa using hk))
        have HWR2 := Lib.hid (HWR.out hk)
        clear HRI HWR HNXOK hk
        gi_wp2_with (gi_at_call 22; refine (hA _).mono ?_; rintro r w2 ⟨a, b, rfl, hidx, hent, hb2⟩; obtain ⟨aA, ac, rfl, _⟩ := hidx; obtain ⟨bA, bc, rfl, _⟩ := hent; have HJ2 := Lib.hid (HJB.out _ _ _ _ HJ1.out hb2); obtain ⟨fn, tmps, assign, body, hy, hRR⟩ := HY.out _ _ _ HJ2.out HWR2.out.1; rw [HWR2.out.2.1] at hy; unfold EN.v EN.zero at hy; dsimp only at hy; clear hb2 x0 x1 hbe1)
        refine hRR.mono ?_
        rintro r W3 (⟨rfl, hJ5⟩ | ⟨rfl, hJx⟩)
        · have HJ5 := Lib.hid hJ5
          clear hJ5 hRR hy
          gi_wp2
          refine bodyPost_ret (results_none rfl _ _ _) rfl ?_
          exact ⟨⟨_, rfl⟩, .inl ⟨_, by rw [HWR2.out.2.2]; exact HJ5.out⟩⟩
        · have HJX := Lib.hid hJx
          clear hJx hRR hy
          gi_wp2
          refine bodyPost_ret (results_none rfl _ _ _) rfl ?_
          exact ⟨⟨_, rfl⟩, .inr ⟨_, HWR2.out.1, HJX.out⟩⟩
    · obtain rfl : j = C.length := by omega
      have d0 : decide ((C.length : Int) < (C.length : Int)) = false := decide_eq_false (by omega)
      have d1 : decide (C.length < C.length) = false := decide_eq_false (by omega)
      have HEND := Lib.hid (told_end HOK.out).1
      clear hj
      gi_wp2
      go_end0
      exact ⟨⟨_, rfl⟩, .inl ⟨X, by rw [← HEND.out]; exact HJ.out⟩⟩
end Go.Proofs.Ythhbaccbhfngbaa
