/- References: maps in a slice; the document's all. References: the document's Fresh. -/
import Derived.Test.YthhbaccbhfngbaaRefE
import Derived.Test.YthhbaccbhfngbaaMb17
namespace Go.Proofs.Ythhbaccbhfngbaa
open Go.RowKit

/-- A slice that reads as maps. -/
def ChsS (w : World) (v : Value) (C : List CH) : Prop :=
  ∃ A cap, v = .slice A C.length cap ∧ C.length ≤ cap ∧ cap ≤ maxLen ∧ (C = [] ∨ ∃ b off, A = some ⟨b, off, none⟩ ∧ b < w.heap.size ∧ ∀ j, j < C.length → ∃ tA tc, w.cell? ⟨b, off + j * 2, none⟩ = some (.int .i64 (C.getD j CH.zero).blocks) ∧ w.cell? ⟨b, off + j * 2 + 1, none⟩ = some (.slice tA (C.getD j CH.zero).tabs.length tc) ∧ TabsS w (.slice tA (C.getD j CH.zero).tabs.length tc) (C.getD j CH.zero).tabs)
theorem ChsS.below {w w' : World} {v : Value} {C : List CH} (h : ChsS w v C) (hb : Below w.heap.size w w') : ChsS w' v C := by
  obtain ⟨A, cap, hv, h1, h2, h3⟩ := h
  refine ⟨A, cap, hv, h1, h2, ?_⟩
  rcases h3 with h3 | ⟨b, off, hA, hlt, hc⟩
  · exact .inl h3
  · refine .inr ⟨b, off, hA, Nat.lt_of_lt_of_le hlt hb.size, fun j hj => ?_⟩
    obtain ⟨tA, tc, g1, g2, g3⟩ := hc j hj
    exact ⟨tA, tc, (hb.cell (p := ⟨b, off + j * 2, none⟩) hlt).trans g1, (hb.cell (p := ⟨b, off + j * 2 + 1, none⟩) hlt).trans g2, g3.below hb⟩
theorem ChsS.form {w : World} {v : Value} {C : List CH} (h : ChsS w v C) : ∃ A cap, v = .slice A C.length cap := by
  obtain ⟨A, cap, hv, _⟩ := h; exact ⟨A, cap, hv⟩
/-- Few, and narrow. -/
def FewC (C : List CH) : Prop := C.length ≤ 9 ∧ ∀ c ∈ C, c.blocks ≤ 400
def rfOk (e : Int) (C : List CH) : Bool := C.all (okB e)
def rfEnts (e : Int) (C : List CH) : List EN := if rfOk e C = true then C.flatMap (enC e) else []
theorem enC_len {e : Int} {c : CH} (h : c.blocks ≤ 400) : (enC e c).length ≤ 400 := by
  unfold enC
  split
  · unfold entsC fullL
    rw [List.length_map]
    refine Nat.le_trans (List.length_filter_le _ _) ?_
    rw [List.length_range]; omega
  · exact Nat.zero_le _
theorem flat_le {e : Int} : ∀ (C : List CH), (∀ c ∈ C, c.blocks ≤ 400) → (C.flatMap (enC e)).length ≤ C.length * 400
  | [], _ => Nat.le_refl _
  | c :: C, h => by
    have h1 := flat_le (e := e) C (fun x hx => h x (List.mem_cons_of_mem _ hx))
    have h2 := enC_len (e := e) (h c (List.mem_cons_self ..))
    rw [List.flatMap_cons, List.length_append, List.length_cons]; omega
theorem ents_src {w : World} {v : Value} {L : List EN} (h : EntsS w v L) : SrcS EN.cells w v L := by
  obtain ⟨A, cap, rfl, h1, h2, h3⟩ := h
  cases A with
  | none =>
    have h0 : L = [] := by
      rcases h3 with h | ⟨b, off, h, _⟩
      · exact h
      · cases h
    subst h0
    exact .inl ⟨⟨cap, rfl⟩, rfl⟩
  | some ad =>
    refine .inr ⟨ad, cap, rfl, fun j u hu => ?_⟩
    rcases h3 with rfl | ⟨b, off, h, hlt, hc⟩
    · simp at hu
    · injection h with h
      subst h
      exact ents_cells hc j u hu
theorem enCells_len (x : EN) : x.cells.length = 4 := rfl
theorem rfOk_take {e : Int} {C : List CH} {j : Nat} (h : j < C.length) : rfOk e (C.take (j + 1)) = (rfOk e (C.take j) && okB e (C.getD j CH.zero)) := by
  rw [getD_snoc CH.zero h]; unfold rfOk; rw [List.all_append]; simp
theorem rfOk_no {e : Int} {C : List CH} {j : Nat} (h : j < C.length) (hn : ¬ okB e (C.getD j CH.zero) = true) : rfOk e C = false := by
  unfold rfOk
  rw [List.all_eq_false]
  refine ⟨C.getD j CH.zero, by rw [List.getD, List.getElem?_eq_getElem h]; exact List.getElem_mem h, hn⟩
theorem flat_take {e : Int} {C : List CH} {j : Nat} (h : j < C.length) : (C.take (j + 1)).flatMap (enC e) = (C.take j).flatMap (enC e) ++ enC e (C.getD j CH.zero) := by
  rw [getD_snoc CH.zero h, List.flatMap_append, List.flatMap_singleton]
set_option maxHeartbeats 4000000 in
set_option maxRecDepth 100000 in
theorem docAll_any {w : World} {e : Int} {v : Value} {C : List CH} (hv : ChsS w v C) (hC : FewC C) :
    Calls Try.prog 26 #[.int .i64 e, v] w fun e' w' => ∃ x, e' = .returned (.tuple #[x, .bool (rfOk e C)]) ∧ EntsS w' x (rfEnts e C) ∧ Below w.heap.size w w' := by
  have HVC := Lib.hid hv
  obtain ⟨A, c1, rfl, k1, k2, k3⟩ := hv
  obtain ⟨i0, hi, hz0, hz1, hz2⟩ := entInfo'
  obtain ⟨N, hN⟩ : ∃ N, N = C.length := ⟨_, rfl⟩
  have HN := Lib.hid hN
  rw [← hN] at k1 ⊢
  have hN9 : N ≤ 9 := by rw [hN]; exact hC.1
  have HN9 := Lib.hid hN9
  have HK := Lib.hid k3
  have HCC := Lib.hid hC
  clear hN k3 hC hN9
  go_enter Try.func26, Try.ntmps26
  go_wp2
  go_loopw [6, 14] (fun vx ix wr => ∃ (j : Nat) (z : Value), j ≤ N ∧ ix = .int .i64 (j : Int) ∧ z = vx ∧ rfOk e (C.take j) = true ∧ wr.ownsRow w.heap.size 50 4 z ((C.take j).flatMap (enC e)).length (((C.take j).flatMap (enC e)).flatMap EN.cells) ∧ Below w.heap.size w wr) (fun _ ix _ => N - idxOf ix)
  case atStart => exact ⟨0, _, Nat.zero_le _, rfl, rfl, rfl, World.ownsRow_nil _ _ _ _, Below.refl _ _⟩
  case round =>
    obtain ⟨j, z, hj, rfl, rfl, hok, ho, hb⟩ := hrel
    have HB := Lib.hid hb
    have HO := Lib.hid ho
    have HOK := Lib.hid hok
    clear hb ho hok
    by_cases hlt : j < N
    · obtain ⟨g, o, rfl, hglt, hk⟩ := HK.out.resolve_left (by intro e; have := HN.out; rw [e] at this; simp at this; omega)
      have hjL : j < C.length := by rw [← HN.out]; exact hlt
      obtain ⟨tA, tc, q0, q1, q2⟩ := hk j hjL
      replace q0 := (HB.out.cell (p := ⟨g, o + j * 2, none⟩) hglt).trans q0
      replace q1 := (HB.out.cell (p := ⟨g, o + j * 2 + 1, none⟩) hglt).trans q1
      replace q2 := q2.below HB.out
      have hmem : C.getD j CH.zero ∈ C := by rw [List.getD, List.getElem?_eq_getElem hjL]; exact List.getElem_mem hjL
      have HBL := Lib.hid (enC_len (e := e) (HCC.out.2 _ hmem))
      have HFT := Lib.hid (flat_take (e := e) hjL)
      have HAT := Lib.hid (rfOk_take (e := e) hjL)
      have HNO := Lib.hid (rfOk_no (e := e) hjL)
      have hfl : ((C.take j).flatMap (enC e)).length ≤ 3600 := by
        have h1 := flat_le (e := e) (C.take j) (fun c hc => HCC.out.2 c (List.mem_of_mem_take hc))
        have h2 : (C.take j).length ≤ j := List.length_take_le ..
        have := HN9.out
        omega
      have HFL := Lib.hid hfl
      generalize C.getD j CH.zero = c at q0 q1 q2 HBL HFT HAT HNO
      obtain ⟨B, T⟩ := c
      dsimp only at q0 q1 q2
      have hAl := fun W (hw : Below wr.heap.size wr W) => rchtAll_any e B T (.slice tA T.length tc) W (q2.below hw)
      have HQ2 := Lib.hid q2
      have hi0 : (0 : Int) ≤ (j : Int) := by omega
      have hi1 : (j : Int) < (N : Int) := by omega
      have HJ : Hid (j + 1 ≤ N ∧ N - (j + 1) < N - j) := Lib.hid ⟨hlt, by omega⟩
      obtain ⟨hw1, hw2⟩ := nextR (j := j) (n := 10) (by have := HN9.out; omega) (by unfold maxLen; omega)
      have HBN : Hid (∀ oo : Obj, Below wr.heap.size wr (wr.alloc oo)) := Lib.hid (fun oo => below_new wr oo)
      clear hk hjL hmem hfl q2
      unfold allErr at hAl
      by_cases hok : okB e ⟨B, T⟩ = true
      · simp only [if_pos hok] at hAl
        have HAT2 : Hid (rfOk e (C.take (j + 1)) = true) := Lib.hid (by rw [HAT.out, HOK.out, hok]; rfl)
        generalize enC e ⟨B, T⟩ = S at hAl HBL HFT
        generalize (C.take j).flatMap (enC e) = D at HO HFT HFL ⊢
        clear HAT HNO hok
        go_wp2_with (first
          | (go_at_call 40; (with_reducible refine (hAl _ (HBN.out _)).mono ?_); rintro e' w3 ⟨av, bv, rfl, _, hes, hb3⟩; have HBW : Hid (Below wr.heap.size wr w3) := Lib.hid ((HBN.out _).trans (hb3.mono (HBN.out _).size)); obtain ⟨v1, w4, r1, o1, b1, -⟩ := app_src Try.underlying45 hi hz0 hz1 hz2 rfl (by decide) enCells_len ent_one (ownS_keep HO.out HBW.out) (ents_src hes) (by clear hw1 hw2; have := HFL.out; have := HBL.out; unfold maxLen; omega) (by clear hw1 hw2; have := HFL.out; have := HBL.out; omega) (Nat.le_trans HB.out.size HBW.out.size); have HR1 := Lib.hid r1; have HO1 := Lib.hid o1; have HB4 : Hid (Below w.heap.size w w4) := Lib.hid ((HB.out.trans (HBW.out.mono HB.out.size)).trans b1); clear r1 o1 b1 hes hb3)
          | (at_builtin; (refine Lib.wpList_append_run _ rfl (.tmp 27) (.tmp 28) 45 45 rfl _ _ rfl rfl _ _ HR1.out ?_)))
        go_roundw
        case rel => exact ⟨j + 1, v1, HJ.out.1, by go_num, rfl, HAT2.out, by rw [HFT.out]; exact HO1.out, HB4.out⟩
        case measure => have h := HJ.out.2; clear hw1 hw2; simp only [idxOf]; omega
      · simp only [if_neg hok] at hAl
        have HNO2 := Lib.hid (HNO.out hok)
        clear HAT HNO hok
        go_wp2_with (first
          | (go_at_call 40; (with_reducible refine (hAl _ (HBN.out _)).mono ?_); rintro e' w3 ⟨av, bv, rfl, _, _, hb3⟩; have HB3 : Hid (Below w.heap.size w w3) := Lib.hid (HB.out.trans (((HBN.out _).trans (hb3.mono (HBN.out _).size)).mono HB.out.size)); clear hb3))
        go_ret2
        refine ⟨_, by rw [HNO2.out]; rfl, ?_, HB3.out⟩
        unfold rfEnts
        rw [HNO2.out, if_neg (by decide)]
        exact EntsS.none _
    · obtain rfl : j = N := by omega
      have hno : ¬ ((j : Int) < (j : Int)) := by omega
      have e1 : C.take j = C := by rw [HN.out, List.take_length]
      rw [e1] at HO HOK
      have HES : Hid (EntsS wr z (rfEnts e C)) := Lib.hid (by unfold rfEnts; rw [if_pos HOK.out]; exact EntsS.of_own HO.out)
      clear e1
      go_wp2
      go_ret2
      exact ⟨_, by rw [HOK.out]; rfl, HES.out, HB.out⟩
end Go.Proofs.Ythhbaccbhfngbaa
namespace Go.Proofs.Ythhbaccbhfngbaa
open Go.RowKit

/-- The numbers of fresh data, each where it stands first. -/
def frS (out : List Int) (y : EN) : List Int := if y.kind = 2 ∧ y.fr ∉ out then out ++ [y.fr] else out
def frU (L : List EN) : List Int := L.foldl frS []
theorem frU_snoc {L : List EN} {j : Nat} (h : j < L.length) : (L.take (j + 1)).foldl frS [] = frS ((L.take j).foldl frS []) (L.getD j EN.zero) := by
  rw [getD_snoc EN.zero h, List.foldl_append]; rfl
theorem frS_len (out : List Int) (y : EN) : (frS out y).length ≤ out.length + 1 := by
  unfold frS; split
  · simp
  · omega
theorem frU_len : ∀ (L : List EN) (l : List Int), (L.foldl frS l).length ≤ l.length + L.length
  | [], l => Nat.le_refl _
  | b :: L, l => by
    have h1 := frU_len L (frS l b)
    have h2 := frS_len l b
    rw [List.foldl_cons, List.length_cons]; omega
theorem rfEnts_len {e : Int} {C : List CH} (h : FewC C) : (rfEnts e C).length ≤ 3600 := by
  unfold rfEnts
  split
  · have h1 := flat_le (e := e) C h.2
    have := h.1
    omega
  · exact Nat.zero_le _
theorem containsF_step {l : List Int} {i : Nat} {x : Int} (h : i < l.length) : (l.take (i + 1)).contains x = ((l.take i).contains x || (l.getD i 0 == x)) := by
  rw [getD_snoc 0 h, List.contains_eq_mem, List.contains_eq_mem]
  rw [Bool.eq_iff_iff]
  simp only [decide_eq_true_eq, Bool.or_eq_true, List.mem_append, List.mem_singleton, beq_iff_eq]
  exact or_congr Iff.rfl eq_comm
set_option maxHeartbeats 8000000 in
set_option maxRecDepth 100000 in
theorem docFresh_any {w : World} {e : Int} {v : Value} {C : List CH} (hv : ChsS w v C) (hC : FewC C) :
    Calls Try.prog 11 #[.int .i64 e, v] w fun e' w' => ∃ x, e' = .returned (.tuple #[x, .int .i64 (if rfOk e C = true then 0 else 2)]) ∧ IdxS w' x (frU (rfEnts e C)) ∧ Below w.heap.size w w' := by
  have hA := docAll_any (e := e) hv hC
  obtain ⟨A, c1, rfl, -⟩ := hv
  have HLN := Lib.hid (rfEnts_len (e := e) hC)
  obtain ⟨i0, hi, hz0, hz1, hz2⟩ := intInfR
  have HNil : Hid (rfOk e C = false → rfEnts e C = []) := Lib.hid (fun h => by unfold rfEnts; rw [h, if_neg (by decide)])
  clear hC
  generalize rfEnts e C = L at hA HLN HNil ⊢
  cases hok : rfOk e C with
  | false =>
    rw [hok] at hA HNil
    have hL := HNil.out rfl
    subst hL
    clear hok
    go_enter Try.func11, Try.ntmps11
    go_wp2_with (go_at_call 26; (with_reducible refine hA.mono ?_); rintro e' w1 ⟨x, rfl, hes, hb1⟩; obtain ⟨xA, xc, rfl, -⟩ := hes; have HB1 := Lib.hid hb1; clear hb1)
    go_ret2
    exact ⟨_, rfl, ⟨none, 0, rfl, Nat.le_refl _, Nat.zero_le _, .inl rfl⟩, HB1.out⟩
  | true =>
    rw [hok] at hA
    clear hok HNil
    obtain ⟨N, hN⟩ : ∃ N, N = L.length := ⟨_, rfl⟩
    have HN := Lib.hid hN
    have hN36 : N ≤ 3600 := by rw [hN]; exact HLN.out
    have HN36 := Lib.hid hN36
    clear hN hN36
    go_enter Try.func11, Try.ntmps11
    go_wp2_with (go_at_call 26; (with_reducible refine hA.mono ?_); rintro e' w1 ⟨x, rfl, hes, hb1⟩; obtain ⟨xA, xc, rfl, hx1, hx2, hx3⟩ := hes; have HK := Lib.hid hx3; have HB1 := Lib.hid hb1; rw [← HN.out]; clear hb1 hx3 hx1 hx2)
    go_loopw [8, 24] (fun vx ix wr => ∃ (j : Nat) (z : Value), j ≤ N ∧ ix = .int .i64 (j : Int) ∧ z = vx ∧ wr.ownsRow w1.heap.size 3 1 z ((L.take j).foldl frS []).length (((L.take j).foldl frS []).flatMap encI) ∧ Below w1.heap.size w1 wr) (fun _ ix _ => N - idxOf ix)
    case atStart => exact ⟨0, _, Nat.zero_le _, rfl, rfl, World.ownsRow_nil _ _ _ _, Below.refl _ _⟩
    case round =>
      obtain ⟨j, z, hj, rfl, rfl, ho, hb⟩ := hrel
      have HB := Lib.hid hb
      have HO := Lib.hid ho
      clear hb ho
      by_cases hlt : j < N
      · obtain ⟨g, o, rfl, hglt, hk⟩ := HK.out.resolve_left (by intro e; have := HN.out; rw [e] at this; simp at this; omega)
        have hjL : j < L.length := by rw [← HN.out]; exact hlt
        obtain ⟨c0, c1', c2, c3⟩ := (hk j hjL).below HB.out hglt
        have HNX := Lib.hid (frU_snoc hjL)
        have hdl : ((L.take j).foldl frS []).length ≤ 3600 := by
          have h1 := frU_len (L.take j) []
          have h2 : (L.take j).length ≤ j := List.length_take_le ..
          have := HN36.out
          simp at h1
          omega
        generalize L.getD j EN.zero = y at c0 c1' c2 c3 HNX
        obtain ⟨k, st, mb, fr⟩ := y
        dsimp only at c0 c1' c2 c3
        generalize (L.take j).foldl frS [] = D at HO HNX hdl ⊢
        have HDL := Lib.hid hdl
        have hi0 : (0 : Int) ≤ (j : Int) := by omega
        have hi1 : (j : Int) < (N : Int) := by omega
        have HJ : Hid (j + 1 ≤ N ∧ N - (j + 1) < N - j) := Lib.hid ⟨hlt, by omega⟩
        have HW := Lib.hid (nextR (j := j) (n := 4000) (by have := HN36.out; omega) (by unfold maxLen; omega))
        obtain ⟨BX, hBX⟩ : ∃ BX, BX = wr.alloc (.cells #[.int .u8 k, .int .i64 st, .int .i64 mb, .int .i64 fr] 50) := ⟨_, rfl⟩
        have hh := heap_alloc_new wr (.cells #[.int .u8 k, .int .i64 st, .int .i64 mb, .int .i64 fr] 50)
        rw [← hBX] at hh
        have hbx : Below wr.heap.size wr BX := by rw [hBX]; exact below_new wr _
        have x0 : BX.cell? ⟨wr.heap.size, 0, none⟩ = some (.int .u8 k) := by rw [cell_of_row _ _ _ _ _ (0, 0) hh]; rfl
        have x2 : BX.cell? ⟨wr.heap.size, 3, none⟩ = some (.int .i64 fr) := by rw [cell_of_row _ _ _ _ _ (0, 0) hh]; rfl
        have HBX := Lib.hid (HB.out.trans (hbx.mono HB.out.size))
        have HOX := Lib.hid (ownS_keep HO.out hbx)
        obtain ⟨dA, dc, rfl, -, -⟩ := ownS_form HO.out
        have HCE : Hid (∀ i, i < D.length → ∃ gd, dA = some ⟨gd, 0, none⟩ ∧ BX.cell? ⟨gd, i, none⟩ = some (.int .i64 (D.getD i 0))) := Lib.hid (fun i hi => by
          rcases own_src encI_len HOX.out with ⟨_, h0⟩ | ⟨gd, cap, hz, h1, h2, h3, h4, h5⟩
          · rw [h0] at hi; simp at hi
          · injection hz with e1 _ _
            exact ⟨gd, e1, h5 i _ (flatI_at hi)⟩)
        clear hk hjL hglt hh hbx hdl
        go_upto_region 8 with fail
        rw [← hBX]
        clear hBX c0 c1' c2 c3
        obtain ⟨b0, hb0⟩ : ∃ b0 : Bool, b0 = !(k == 2) := ⟨_, rfl⟩
        have hb1 : (k != 2) = b0 := by rw [hb0]; rfl
        have HYS : Hid (b0 = false → fr ∉ D → frS D ⟨k, st, mb, fr⟩ = D ++ [fr]) := Lib.hid (fun h1 h2 => by
          unfold frS
          rw [if_pos ⟨by rw [hb0] at h1; simpa using h1, h2⟩])
        have HNO : Hid ((b0 = true ∨ fr ∈ D) → frS D ⟨k, st, mb, fr⟩ = D) := Lib.hid (fun h => by
          unfold frS
          rw [if_neg]
          rintro ⟨h1, h2⟩
          rcases h with h | h
          · rw [hb0] at h; simp [show k = 2 from h1] at h
          · exact h2 h)
        clear hb0
        go_wp2
        clear x0
        obtain ⟨wo, rfl⟩ : ∃ wo, wo = wr := ⟨_, rfl⟩
        go_loopw [11, 33] (fun sx ix wi => ∃ i : Nat, i ≤ D.length ∧ ix = .int .i64 (i : Int) ∧ sx = .bool (b0 || (D.take i).contains fr) ∧ wi = BX) (fun _ ix _ => D.length - idxOf ix)
        case atStart => exact ⟨0, Nat.zero_le _, rfl, by simp, rfl⟩
        case round =>
          obtain ⟨i, hiD, rfl, rfl, hwi⟩ := hrel
          subst hwi
          by_cases hlt2 : i < D.length
          · obtain ⟨gd, rfl, hcd⟩ := HCE.out i hlt2
            have HST := Lib.hid (containsF_step (x := fr) hlt2)
            generalize D.getD i 0 = dx at hcd HST
            generalize (D.take i).contains fr = bi at HST ⊢
            have hi0' : (0 : Int) ≤ (i : Int) := by omega
            have hi1' : (i : Int) < (D.length : Int) := by omega
            have HI : Hid (i + 1 ≤ D.length ∧ D.length - (i + 1) < D.length - i) := Lib.hid ⟨hlt2, by omega⟩
            have HW2 := Lib.hid (nextR (j := i) (n := 4000) (by have := HDL.out; omega) (by unfold maxLen; omega))
            obtain ⟨hw1, hw2⟩ := HW2.out
            cases b0 with
            | true =>
              simp only [Bool.true_or]
              go_wp2
              go_roundw
              case rel => exact ⟨i + 1, HI.out.1, by go_num, by simp, by first | trivial | rfl⟩
              case measure => have h := HI.out.2; clear hw1 hw2; simp only [idxOf]; omega
            | false =>
              simp only [Bool.false_or] at HST ⊢
              cases bi with
              | true =>
                go_wp2
                go_roundw
                case rel => exact ⟨i + 1, HI.out.1, by go_num, by rw [HST.out]; rfl, by first | trivial | rfl⟩
                case measure => have h := HI.out.2; clear hw1 hw2; simp only [idxOf]; omega
              | false =>
                go_wp2
                go_roundw
                case rel => exact ⟨i + 1, HI.out.1, by go_num, by rw [HST.out]; rfl, by first | trivial | rfl⟩
                case measure => have h := HI.out.2; clear hw1 hw2; simp only [idxOf]; omega
          · obtain rfl : i = D.length := by omega
            have hno2 : ¬ ((D.length : Int) < (D.length : Int)) := by omega
            have e2 : D.take D.length = D := List.take_length
            rw [e2]
            obtain ⟨hw1, hw2⟩ := HW.out
            clear e2 hiD hlt2
            by_cases hs : b0 = false ∧ fr ∉ D
            · have HE := Lib.hid (HYS.out hs.1 hs.2)
              have hcon : (b0 || D.contains fr) = false := by rw [hs.1]; simpa using hs.2
              rw [hcon]
              have HSZ : Hid (w1.heap.size ≤ (wr.alloc (.cells #[.int .i64 fr] 3)).heap.size) := Lib.hid (by have := HBX.out.size; simp; omega)
              have HO2 := Lib.hid (HOX.out.alloc (.cells #[.int .i64 fr] 3))
              have HNW := Lib.hid (new_cells wr [.int .i64 fr] 3)
              have HCP : Hid (D.length + 1 ≤ maxLen ∧ (D.length + 1) * 8 ≤ 140737488355328) := Lib.hid (by clear hw1 hw2; have := HDL.out; unfold maxLen; omega)
              clear hcon hs hb1
              go_wp2_with (at_builtin; (refine wpList_append_own _ rfl _ _ 29 rfl w1.heap.size 3 i0 _ 1 8 Try.underlying29 hi hz0 hz1 hz2 rfl (by decide) _ _ _ rfl HO2.out ⟨wr.heap.size, 0, none⟩ 1 1 [.int .i64 fr] rfl rfl HNW.out (encI_one fr) HCP.out.1 HCP.out.2 HSZ.out ?_); intro v' w4 hown4 hgrow _; have HB4 : Hid (Below w1.heap.size w1 w4) := Lib.hid ((HBX.out.alloc HBX.out.size _).grown hgrow HSZ.out (fun g hg => (World.ownsRow.lt HO2.out g hg).1)); have HO4 := Lib.hid hown4; clear hown4 hgrow)
              go_roundw
              case rel => exact ⟨j + 1, v', HJ.out.1, by go_num, rfl, by rw [HNX.out, HE.out, List.length_append, flat_snoc]; exact HO4.out, HB4.out⟩
              case measure => have h := HJ.out.2; clear hw1 hw2; simp only [idxOf]; omega
            · have hs2 : b0 = true ∨ fr ∈ D := by
                cases hbb : b0 with
                | true => exact .inl rfl
                | false => exact .inr (Decidable.byContradiction (fun h => hs ⟨hbb, h⟩))
              have HE := Lib.hid (HNO.out hs2)
              have hcon : (b0 || D.contains fr) = true := by
                rcases hs2 with h | h
                · rw [h]; rfl
                · simp [h]
              rw [hcon]
              clear hcon hs hs2 hb1
              go_wp2
              go_roundw
              case rel => exact ⟨j + 1, _, HJ.out.1, by go_num, rfl, by rw [HNX.out, HE.out]; exact HOX.out, HBX.out⟩
              case measure => have h := HJ.out.2; clear hw1 hw2; simp only [idxOf]; omega
      · obtain rfl : j = N := by omega
        have hno : ¬ ((j : Int) < (j : Int)) := by omega
        have e1 : L.take j = L := by rw [HN.out, List.take_length]
        rw [e1] at HO
        have HR := Lib.hid (idxS_flat HO.out)
        clear e1
        go_wp2
        go_ret2
        exact ⟨_, rfl, HR.out, HB1.out.trans (HB.out.mono HB1.out.size)⟩
end Go.Proofs.Ythhbaccbhfngbaa
