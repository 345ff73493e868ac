/- Charts: All, any. Charts: the document's own All. Charts: the map of any right entries is right, and has them: what a row of changes keeps. -/
import Derived.Test.YthhbaccbhfngbaaChvY
import Derived.Test.YthhbaccbhfngbaaMb15
import Derived.Test.YthhbaccbhfngbaaMb10
namespace Go.Proofs.Ythhbaccbhfngbaa
open Go.RowKit

def atC (e : Int) (c : CH) : List Int := if okB e c = true then blocksC e.toNat c.blocks.toNat c.tabs else []
def enC (e : Int) (c : CH) : List EN := if okB e c = true then entsC e.toNat c.blocks.toNat c.tabs else []
def allErr (e : Int) (c : CH) : Int := if okB e c = true then 0 else 2
theorem IdxS.none (w : World) : IdxS w (.slice none 0 0) [] := ⟨Option.none, 0, rfl, Nat.le_refl _, Nat.zero_le _, .inl rfl⟩
theorem EntsS.none (w : World) : EntsS w (.slice none 0 0) [] := ⟨Option.none, 0, rfl, Nat.le_refl _, Nat.zero_le _, .inl rfl⟩
set_option maxRecDepth 100000 in
set_option maxHeartbeats 8000000 in
theorem chtAll_no (e B : Int) (T : List TB) (v : Value) (w : World) (hv : TabsS w v T) (h1 : okB e ⟨B, T⟩ = false) :
    Calls Try.prog 22 #[.int .i64 e, .agg #[.int .i64 B, v]] w fun e' w' => ∃ a b, e' = .returned (.tuple #[a, b, .int .i64 2]) ∧ IdxS w' a [] ∧ EntsS w' b [] ∧ Below w.heap.size w w' := by
  have hC := fun W h => chtCheck_any e B T v W h
  unfold chtE at hC
  rw [h1, if_neg (by decide)] at hC
  have HB0 := Lib.hid (below1 w (.cells #[.int .i64 B, v] 44))
  have HX0 := B2.new w (.int .i64 B) v 44
  have HV0 := Lib.hid (hv.below HB0.out)
  obtain ⟨A, cap, rfl⟩ := hv.form
  obtain ⟨_, y0, y1, _, _⟩ := HX0
  clear hv h1
  go_enter Try.func22, Try.ntmps22
  go_wp2_with (go_at_call 33; (with_reducible refine (hC _ HV0.out).mono ?_); rintro e w1 ⟨rfl, hb1⟩; have HB1 := Lib.hid (HB0.out.trans (hb1.mono (by simp))); clear hb1 y0 y1)
  refine bodyPost_ret (v := .tuple #[.slice none 0 0, .slice none 0 0, .int .i64 2]) (by simp [results, Try.results22, go_sem]) rfl ?_
  exact ⟨_, _, rfl, IdxS.none _, EntsS.none _, HB1.out⟩
theorem chtAll_any (e B : Int) (T : List TB) (v : Value) (w : World) (hv : TabsS w v T) :
    Calls Try.prog 22 #[.int .i64 e, .agg #[.int .i64 B, v]] w fun e' w' => ∃ a b, e' = .returned (.tuple #[a, b, .int .i64 (allErr e ⟨B, T⟩)]) ∧ IdxS w' a (atC e ⟨B, T⟩) ∧ EntsS w' b (enC e ⟨B, T⟩) ∧ Below w.heap.size w w' := by
  unfold atC enC allErr
  by_cases hok : okB e ⟨B, T⟩ = true
  · rw [if_pos hok, if_pos hok, if_pos hok]
    obtain ⟨E, BN, rfl, hBN, hc⟩ := cok_of hok
    dsimp only at hBN hc
    subst hBN
    dsimp only
    rw [Int.toNat_natCast, Int.toNat_natCast]
    exact chtAll_yes E BN T v w hv hc hok
  · rw [if_neg hok, if_neg hok, if_neg hok]
    exact chtAll_no e B T v w hv (by simpa using hok)
theorem chtAll_own (e B : Int) (T : List TB) (v : Value) (w : World) (hv : TabsS w v T) (hok : okB e ⟨B, T⟩ = true) :
    Calls Try.prog 22 #[.int .i64 e, .agg #[.int .i64 B, v]] w fun e' w' => ∃ a b, e' = .returned (.tuple #[a, b, .int .i64 0]) ∧ (IdxS w' a (atC e ⟨B, T⟩) ∧ w'.ownsRow w.heap.size 50 4 b (enC e ⟨B, T⟩).length (eCells (enC e ⟨B, T⟩))) ∧ Below w.heap.size w w' := by
  unfold atC enC
  rw [if_pos hok, if_pos hok]
  obtain ⟨E, BN, rfl, hBN, hc⟩ := cok_of hok
  dsimp only at hBN hc
  subst hBN
  dsimp only
  rw [Int.toNat_natCast, Int.toNat_natCast]
  exact (chtAll_yesO E BN T v w hv hc hok).mono fun _ _ ⟨a, b, h1, h2, h3, h4⟩ => ⟨a, b, h1, ⟨h2, h3⟩, h4⟩
end Go.Proofs.Ythhbaccbhfngbaa
namespace Go.Proofs.Ythhbaccbhfngbaa
open Go.RowKit

/-- The first i blocks that are no holes. -/
def fbF (F : List EN) (i : Nat) : List Nat := (List.range i).filter (fun b => fullB (F.getD b EN.zero))
def atF (F : List EN) (i : Nat) : List Int := (fbF F i).map (fun b : Nat => (b : Int))
def enF (F : List EN) (i : Nat) : List EN := (fbF F i).map (fun b => F.getD b EN.zero)
theorem fbF_yes {F : List EN} {i : Nat} (h : fullB (F.getD i EN.zero) = true) : fbF F (i + 1) = fbF F i ++ [i] := by
  unfold fbF; rw [List.range_succ, List.filter_append, List.filter_cons, if_pos h]; rfl
theorem fbF_no {F : List EN} {i : Nat} (h : fullB (F.getD i EN.zero) = false) : fbF F (i + 1) = fbF F i := by
  unfold fbF; rw [List.range_succ, List.filter_append, List.filter_cons, if_neg (by rw [h]; decide)]; simp
theorem fbF_len (F : List EN) (i : Nat) : (fbF F i).length ≤ i := by
  unfold fbF; refine Nat.le_trans (List.length_filter_le _ _) ?_; rw [List.length_range]; exact Nat.le_refl _
theorem fbF_flat {E BN : Nat} {T : List TB} : fbF (flatM E BN T) BN = fullL E BN T := by
  unfold fbF fullL
  refine List.filter_congr fun b hb => ?_
  rw [flatM_at E BN T (List.mem_range.1 hb)]
theorem atF_flat {E BN : Nat} {T : List TB} : atF (flatM E BN T) BN = blocksC E BN T := by unfold atF blocksC; rw [fbF_flat]
theorem enF_flat {E BN : Nat} {T : List TB} : enF (flatM E BN T) BN = entsC E BN T := by
  unfold enF entsC
  rw [fbF_flat]
  refine List.map_congr_left fun b hb => ?_
  exact flatM_at E BN T (List.mem_range.1 (List.mem_filter.1 hb).1)
theorem atF_len (F : List EN) (i : Nat) : (atF F i).length ≤ i := by unfold atF; rw [List.length_map]; exact fbF_len F i
theorem enF_len (F : List EN) (i : Nat) : (enF F i).length ≤ i := by unfold enF; rw [List.length_map]; exact fbF_len F i
set_option maxRecDepth 100000 in
set_option maxHeartbeats 8000000 in
theorem rchtAll_no (e B : Int) (T : List TB) (v : Value) (w : World) (hv : TabsS w v T) (h1 : okB e ⟨B, T⟩ = false) :
    Calls Try.prog 40 #[.int .i64 e, .agg #[.int .i64 B, v]] w fun e' w' => ∃ a b, e' = .returned (.tuple #[a, b, .int .i64 2]) ∧ IdxS w' a [] ∧ EntsS w' b [] ∧ Below w.heap.size w w' := by
  have hC := fun W h => rchtCheck_any e B T v W h
  unfold chtE at hC
  rw [h1, if_neg (by decide)] at hC
  have HB0 := Lib.hid (below1 w (.cells #[.int .i64 B, v] 44))
  have HX0 := B2.new w (.int .i64 B) v 44
  have HV0 := Lib.hid (hv.below HB0.out)
  obtain ⟨A, cap, rfl⟩ := hv.form
  obtain ⟨_, y0, y1, _, _⟩ := HX0
  clear hv h1
  go_enter Try.func40, Try.ntmps40
  go_wp2_with (go_at_call 58; (with_reducible refine (hC _ HV0.out).mono ?_); rintro e w1 ⟨rfl, hb1⟩; have HB1 := Lib.hid (HB0.out.trans (hb1.mono (by simp))); clear hb1 y0 y1)
  refine bodyPost_ret (v := .tuple #[.slice none 0 0, .slice none 0 0, .int .i64 2]) (by simp [results, Try.results40, go_sem]) rfl ?_
  exact ⟨_, _, rfl, IdxS.none _, EntsS.none _, HB1.out⟩
set_option maxRecDepth 100000 in
set_option maxHeartbeats 8000000 in
theorem rchtAll_yes (E BN : Nat) (T : List TB) (v : Value) (w : World) (hv : TabsS w v T) (hOK : COk E BN T) (hok : okB (E : Int) ⟨(BN : Int), T⟩ = true) :
    Calls Try.prog 40 #[.int .i64 (E : Int), .agg #[.int .i64 (BN : Int), v]] w fun e' w' => ∃ a b, e' = .returned (.tuple #[a, b, .int .i64 0]) ∧ IdxS w' a (blocksC E BN T) ∧ EntsS w' b (entsC E BN T) ∧ Below w.heap.size w w' := by
  have hC := fun W h => rchtCheck_any (E : Int) (BN : Int) T v W h
  unfold chtE at hC
  rw [hok, if_pos rfl] at hC
  have hF := fun W h => rchtFlat_any E BN T v W h hOK
  have HLN : Hid ((flatM E BN T).length = BN) := Lib.hid (flatM_len E BN T)
  have HBN : Hid (BN ≤ 65536) := Lib.hid hOK.b2
  have HB0 := Lib.hid (below1 w (.cells #[.int .i64 (BN : Int), v] 44))
  have HX0 := Lib.hid (B2.new w (.int .i64 (BN : Int)) v 44)
  have HV0 := Lib.hid (hv.below HB0.out)
  rw [← atF_flat, ← enF_flat]
  clear hOK hok
  obtain ⟨A, cap, rfl⟩ := hv.form
  clear hv
  generalize flatM E BN T = F at hF HLN ⊢
  go_enter Try.func40, Try.ntmps40
  obtain ⟨_, y0, y1, _, _⟩ := HX0.out
  go_wp2_with (first
    | (go_at_call 58; (with_reducible refine (hC _ HV0.out).mono ?_); rintro e w1 ⟨rfl, hb1⟩; have HB1 := Lib.hid (HB0.out.trans (hb1.mono (by simp))); have HV1 := Lib.hid (HV0.out.below hb1); have HX1 := Lib.hid (HX0.out.below hb1); clear hb1 y0 y1; obtain ⟨_, y0, y1, _, _⟩ := HX1.out)
    | (go_at_call 59; (with_reducible refine (hF _ HV1.out).mono ?_); rintro e w3 ⟨rfl, hrow, hb3⟩; have HB3 := Lib.hid (HB1.out.trans (hb3.mono HB1.out.size)); have HROW := Lib.hid hrow; clear hb3 hrow y0 y1))
  generalize w1.heap.size + 1 = g at HROW ⊢
  have HGL : Hid (g < w3.heap.size) := Lib.hid HROW.out.1
  obtain ⟨i0, hi, hz0, hz1, hz2⟩ := info_parts infoIn
  obtain ⟨i9, hi9, hz90, hz91, hz92⟩ := entInfo'
  go_loopw [7, 8, 19] (fun ax bx ix wr => ∃ (i : Nat), i ≤ BN ∧ ix = .int .i64 (i : Int) ∧ wr.ownsRow w3.heap.size 3 1 ax (atF F i).length ((atF F i).map (Value.int .i64)) ∧ wr.ownsRow w3.heap.size 50 4 bx (enF F i).length (eCells (enF F i)) ∧ Below w3.heap.size w3 wr) (fun _ _ ix _ => BN - (intOf ix).toNat)
  case atStart => exact ⟨0, Nat.zero_le _, rfl, World.ownsRow_nil _ _ _ _, World.ownsRow_nil _ _ _ _, Below.refl _ _⟩
  case round =>
    obtain ⟨i, hiB, rfl, hra, hrb, hbr⟩ := hrel
    obtain ⟨ao, ca, rfl, _⟩ := own_form hra
    obtain ⟨bo, cb, rfl, _⟩ := own_form hrb
    have HRA := Lib.hid hra
    have HRB := Lib.hid hrb
    have HBR := Lib.hid hbr
    clear hra hrb hbr
    by_cases hlt : i < BN
    · have HE := Lib.hid ((HROW.out.2.1 i (by rw [HLN.out]; exact hlt)).below HBR.out HGL.out)
      have HYA : Hid (fullB (F.getD i EN.zero) = true → atF F (i + 1) = atF F i ++ [(i : Int)] ∧ enF F (i + 1) = enF F i ++ [F.getD i EN.zero]) := Lib.hid (fun h => by
        unfold atF enF; rw [fbF_yes h, List.map_append, List.map_append]; exact ⟨rfl, rfl⟩)
      have HNA : Hid (fullB (F.getD i EN.zero) = false → atF F (i + 1) = atF F i ∧ enF F (i + 1) = enF F i) := Lib.hid (fun h => by
        unfold atF enF; rw [fbF_no h]; exact ⟨rfl, rfl⟩)
      have HW1 := Lib.hid (wrap_succ hlt (by omega : BN ≤ BN) (by have := HBN.out; unfold maxLen; omega))
      have HI := Lib.hid hlt
      generalize F.getD i EN.zero = x at HE HYA HNA
      obtain ⟨kk, st, mb, fr'x⟩ := x
      obtain ⟨q0, q1, q2, q3⟩ := HE.out
      unfold fullB at HYA HNA
      dsimp only at q0 q1 q2 q3 HYA HNA
      have HL1 := Lib.hid (Nat.le_trans (atF_len F i) hiB)
      have HL2 := Lib.hid (Nat.le_trans (enF_len F i) hiB)
      by_cases hk : kk = 0
      · subst hk
        obtain ⟨ha, hb⟩ := HNA.out rfl
        have HA := Lib.hid ha
        have HB := Lib.hid hb
        clear HYA HNA ha hb
        have HRA2 := Lib.hid (HRA.out.alloc (.cells #[.int .u8 0, .int .i64 st, .int .i64 mb, .int .i64 fr'x] 50))
        have HRB2 := Lib.hid (HRB.out.alloc (.cells #[.int .u8 0, .int .i64 st, .int .i64 mb, .int .i64 fr'x] 50))
        have HBR2 := Lib.hid (HBR.out.alloc HBR.out.size (.cells #[.int .u8 0, .int .i64 st, .int .i64 mb, .int .i64 fr'x] 50))
        have hw1 := HW1.out
        go_wp2
        rw [hw1]
        clear hw1
        go_roundw
        case rel => exact ⟨i + 1, by have := HI.out; omega, by go_num, by rw [HA.out]; exact HRA2.out, by rw [HB.out]; exact HRB2.out, HBR2.out⟩
        case measure => have := HI.out; simp [intOf]; omega
      · have d0 : (kk == 0) = false := by rw [beq_eq_false_iff_ne]; exact hk
        have d1 : (kk != 0) = true := by rw [bne, d0]; rfl
        obtain ⟨ha, hb⟩ := HYA.out d1
        have HA := Lib.hid ha
        have HB := Lib.hid hb
        clear HYA HNA ha hb
        go_upto_region 9 with fail
        have HX := Lib.hid (EBox.new wr kk st mb fr'x 50)
        have HAL := Lib.hid (fun q h => (HRA.out.lt q h).2)
        have HBL := Lib.hid (fun q h => (HRB.out.lt q h).2)
        have HRA1 := Lib.hid (HRA.out.alloc (.cells #[.int .u8 kk, .int .i64 st, .int .i64 mb, .int .i64 fr'x] 50))
        have HRB1 := Lib.hid (HRB.out.alloc (.cells #[.int .u8 kk, .int .i64 st, .int .i64 mb, .int .i64 fr'x] 50))
        have HBR1 := Lib.hid (HBR.out.alloc HBR.out.size (.cells #[.int .u8 kk, .int .i64 st, .int .i64 mb, .int .i64 fr'x] 50))
        clear q0 q1 q2 q3 d0 d1 HRA HRB HBR HE
        generalize wr.alloc (.cells #[.int .u8 kk, .int .i64 st, .int .i64 mb, .int .i64 fr'x] 50) = W1 at HX HRA1 HRB1 HBR1 ⊢
        generalize wr.heap.size = bx at HX HAL HBL ⊢
        have HRA2 := Lib.hid (HRA1.out.alloc (.cells #[.int .i64 (i : Int)] 3))
        have hw1 := HW1.out
        go_wp2_with (first
          | (at_builtin; (with_reducible refine wpList_append_own_at _ ?g0 (.tmp 27) (.tmp 29) 29 ?g1 w3.heap.size 3 i0 (.int .i64 0) 1 8 Try.underlying29 hi hz0 hz1 hz2 ?g2 (by decide) (.slice ao (atF F i).length ca) (atF F i).length ((atF F i).map (Value.int .i64)) ?g3 HRA2.out ⟨W1.heap.size, 0, none⟩ 1 1 [.int .i64 (i : Int)] ?g4 ?g5 ?c1 ?c2 ?c3 ?c4 ?c5 ?_); (case g0 => rfl); (case g1 => rfl); (case g2 => rfl); (case g3 => rfl); (case g4 => rfl); (case g5 => rfl); (case c1 => exact one_cell W1 (i : Int) _); (case c2 => intro u hu; simp only [List.mem_cons, List.not_mem_nil, or_false] at hu; rcases hu with rfl; rfl); (case c3 => have := HL1.out; have := HBN.out; unfold maxLen; omega); (case c4 => have := HL1.out; have := HBN.out; omega); (case c5 => have := HBR1.out.size; simp; omega); (intro v1 w4 hown1 hgrow1 _ hob1); (obtain ⟨g1, c1, rfl⟩ := ownsRow_succ hown1);
             have hk4 : Ap (fun q => (Value.slice ao (atF F i).length ca).ownBlock = some q) W1 w4 := Ap.grown (Ap.alloc (Ap.refl W1) (.cells #[.int .i64 (i : Int)] 3)) hgrow1 (fun q hq => .inl hq);
             have HX4 := Lib.hid (HX.out.ap hk4 (fun h => Nat.lt_irrefl _ (HAL.out _ h)));
             have HRB4 := Lib.hid ((HRB1.out.alloc (.cells #[.int .i64 (i : Int)] 3)).kept hgrow1 (own_apart HRB1.out HRA1.out (by decide)));
             have HBR4 := Lib.hid ((HBR1.out.alloc HBR1.out.size (.cells #[.int .i64 (i : Int)] 3)).grown hgrow1 (by have := HBR1.out.size; simp; omega) (fun q hq => (HRA1.out.lt q hq).1));
             have HRA4 := Lib.hid hown1;
             have HRB5 := Lib.hid (HRB4.out.alloc (.cells #[.int .u8 kk, .int .i64 st, .int .i64 mb, .int .i64 fr'x] 50));
             clear hown1 hgrow1 hob1 hk4;
             obtain ⟨_, x0, x1, x2, x3, _⟩ := HX4.out; dsimp only at x0 x1 x2 x3)
          | (at_builtin; (with_reducible refine wpList_append_own_at _ ?g0 (.tmp 31) (.tmp 33) 45 ?g1 w3.heap.size 50 i9 (.agg #[.int .u8 0, .int .i64 0, .int .i64 0, .int .i64 0]) 4 32 Try.underlying45 hi9 hz90 hz91 hz92 ?g2 (by decide) (.slice bo (enF F i).length cb) (enF F i).length (eCells (enF F i)) ?g3 HRB5.out ⟨w4.heap.size, 0, none⟩ 1 1 [.int .u8 kk, .int .i64 st, .int .i64 mb, .int .i64 fr'x] ?g4 ?g5 ?c1 ?c2 ?c3 ?c4 ?c5 ?_); (case g0 => rfl); (case g1 => rfl); (case g2 => rfl); (case g3 => rfl); (case g4 => rfl); (case g5 => rfl); (case c1 => exact new_cells4 w4 _ _ _ _ _); (case c2 => exact ent_one ⟨kk, st, mb, fr'x⟩); (case c3 => have := HL2.out; have := HBN.out; unfold maxLen; omega); (case c4 => have := HL2.out; have := HBN.out; omega); (case c5 => have := HBR4.out.size; simp; omega); (intro v2 w5 hown2 hgrow2 _ hob2); (obtain ⟨g2, c2, rfl⟩ := ownsRow_succ hown2);
             have HRA5 := Lib.hid ((HRA4.out.alloc (.cells #[.int .u8 kk, .int .i64 st, .int .i64 mb, .int .i64 fr'x] 50)).kept hgrow2 (own_apart HRA4.out HRB4.out (by decide)));
             have HBR5 := Lib.hid ((HBR4.out.alloc HBR4.out.size (.cells #[.int .u8 kk, .int .i64 st, .int .i64 mb, .int .i64 fr'x] 50)).grown hgrow2 (by have := HBR4.out.size; simp; omega) (fun q hq => (HRB4.out.lt q hq).1));
             have HRBE := Lib.hid hown2;
             clear hown2 hgrow2 hob2))
        rw [hw1]
        clear hw1
        go_roundw
        case rel =>
          refine ⟨i + 1, by have := HI.out; omega, by go_num, ?_, ?_, HBR5.out⟩
          · rw [HA.out, List.length_append, List.map_append]; exact HRA5.out
          · rw [HB.out, List.length_append, eCells_snoc]; exact HRBE.out
        case measure => have := HI.out; simp [intOf]; omega
    · obtain rfl : i = BN := by omega
      go_wp2
      refine bodyPost_ret (v := .tuple #[.slice ao (atF F i).length ca, .slice bo (enF F i).length cb, .int .i64 0]) (by simp [results, Try.results40, go_sem]) rfl ?_
      exact ⟨_, _, rfl, idxS_of HRA.out, EntsS.of_own HRB.out, HB3.out.trans (HBR.out.mono HB3.out.size)⟩
theorem rchtAll_any (e B : Int) (T : List TB) (v : Value) (w : World) (hv : TabsS w v T) :
    Calls Try.prog 40 #[.int .i64 e, .agg #[.int .i64 B, v]] w fun e' w' => ∃ a b, e' = .returned (.tuple #[a, b, .int .i64 (allErr e ⟨B, T⟩)]) ∧ IdxS w' a (atC e ⟨B, T⟩) ∧ EntsS w' b (enC e ⟨B, T⟩) ∧ Below w.heap.size w w' := by
  unfold atC enC allErr
  by_cases hok : okB e ⟨B, T⟩ = true
  · rw [if_pos hok, if_pos hok, if_pos hok]
    obtain ⟨E, BN, rfl, hBN, hc⟩ := cok_of hok
    dsimp only at hBN hc
    subst hBN
    dsimp only
    rw [Int.toNat_natCast, Int.toNat_natCast]
    exact rchtAll_yes E BN T v w hv hc hok
  · rw [if_neg hok, if_neg hok, if_neg hok]
    exact rchtAll_no e B T v w hv (by simpa using hok)
end Go.Proofs.Ythhbaccbhfngbaa
namespace Go.Proofs.Ythhbaccbhfngbaa
open Go.RowKit

def allP (E : Nat) (L : List EN) : List TB := (List.range (nParts E L.length)).map (fun k : Nat => (⟨(k : Int), partL E L k⟩ : TB))
theorem getD_outE {L : List EN} {i : Nat} (h : L.length ≤ i) : L.getD i EN.zero = EN.zero := by
  rw [List.getD, List.getElem?_eq_none h]; rfl
section
variable {E : Nat} {L : List EN}
theorem allP_half (h1 : 1 ≤ E) (h2 : E ≤ 8192) (hb : L.length ≤ 65536) (hok : ∀ i, i < L.length → EOk (L.getD i EN.zero)) : CHalf E L.length (allP E L) := by
  refine ⟨h1, h2, hb, ?_, fun t ht => ?_⟩
  · unfold allP
    rw [List.pairwise_map]
    exact List.pairwise_lt_range.imp fun {a b} h => by show (a : Int) < (b : Int); omega
  · unfold allP at ht
    obtain ⟨k, _, rfl⟩ := List.mem_map.1 ht
    refine ⟨k, rfl, partL_len _ _ _, fun i hi => ?_⟩
    show EOk ((partL E L k).getD i EN.zero) ∧ (L.length ≤ k * E + i → (partL E L k).getD i EN.zero = EN.zero)
    rw [partL_at _ _ _ hi]
    refine ⟨?_, getD_outE⟩
    by_cases h : k * E + i < L.length
    · exact hok _ h
    · rw [getD_outE (by omega)]; exact zero_ok
theorem look_all (h1 : 1 ≤ E) (h2 : E ≤ 8192) (hb : L.length ≤ 65536) (hok : ∀ i, i < L.length → EOk (L.getD i EN.zero)) {b : Nat} (h : b < L.length) : lookM E (allP E L) b = L.getD b EN.zero := by
  have hd : b / E * E + b % E = b := by rw [Nat.mul_comm]; exact Nat.div_add_mod b E
  have hm : (⟨((b / E : Nat) : Int), partL E L (b / E)⟩ : TB) ∈ allP E L := by
    unfold allP
    refine List.mem_map.2 ⟨b / E, List.mem_range.2 ((nParts_iff h1).2 ?_), rfl⟩
    have := Nat.zero_le (b % E)
    omega
  rw [look_mem (allP_half h1 h2 hb hok).rise hm rfl]
  show (partL E L (b / E)).getD (b % E) EN.zero = _
  rw [partL_at _ _ _ (Nat.mod_lt b h1), hd]
theorem flat_all (h1 : 1 ≤ E) (h2 : E ≤ 8192) (hb : L.length ≤ 65536) (hok : ∀ i, i < L.length → EOk (L.getD i EN.zero)) : flatM E L.length (allP E L) = L := by
  unfold flatM
  refine List.ext_getElem (by simp) (fun i g1 g2 => ?_)
  rw [List.getElem_map, List.getElem_range, look_all h1 h2 hb hok g2, List.getD, List.getElem?_eq_getElem g2]; rfl
/-- The map of right entries is right, and has them. -/
theorem ofM_ok (h1 : 1 ≤ E) (h2 : E ≤ 8192) (hb : L.length ≤ 65536) (hok : ∀ i, i < L.length → EOk (L.getD i EN.zero)) : COk E L.length (ofM E L) ∧ flatM E L.length (ofM E L) = L := by
  have hh := allP_half h1 h2 hb hok
  have e : pruneT (allP E L) = ofM E L := by rw [prune_of hh, flat_all h1 h2 hb hok]
  rw [← e]
  exact ⟨prune_ok hh, (flat_prune hh).trans (flat_all h1 h2 hb hok)⟩
end
theorem eok_look {E BN : Nat} {T : List TB} (h : COk E BN T) (b : Nat) : EOk (lookM E T b) := by
  by_cases hx : ∃ t ∈ T, t.at' = ((b / E : Nat) : Int)
  · obtain ⟨t, ht, ha⟩ := hx
    obtain ⟨k, _, _, _, _, h5⟩ := h.tab ht
    rw [look_mem (rises_pair h.rise) ht ha]
    exact (h5 _ (Nat.mod_lt b h.e1)).1
  · rw [look_out (fun t ht e => hx ⟨t, ht, e⟩)]
    exact zero_ok
theorem tabsB_of {e B : Int} : ∀ (T : List TB) (least : Int), (∀ t ∈ T, least ≤ t.at') → T.Pairwise (fun a b => a.at' < b.at') → (∀ t ∈ T, t.at' < parts e B ∧ tblB e t.l (B - t.at' * e) = true) → tabsB e B least T = true
  | [], _, _, _, _ => rfl
  | t :: r, least, h1, h2, h3 => by
    rw [List.pairwise_cons] at h2
    obtain ⟨g1, g2⟩ := h3 t (List.mem_cons_self ..)
    show (decide (least ≤ t.at') && decide (t.at' < parts e B) && tblB e t.l (B - t.at' * e) && tabsB e B (t.at' + 1) r) = true
    rw [decide_eq_true (h1 t (List.mem_cons_self ..)), decide_eq_true g1, g2, tabsB_of r (t.at' + 1) (fun x hx => by have := h2.1 x hx; omega) h2.2 (fun x hx => h3 x (List.mem_cons_of_mem _ hx))]; rfl
theorem okB_of {E BN : Nat} {T : List TB} (h : COk E BN T) : okB (E : Int) ⟨(BN : Int), T⟩ = true := by
  have h1 := h.e1
  have h2 := h.e2
  have hT := tabsB_of (e := (E : Int)) (B := (BN : Int)) T 0 (fun t ht => by obtain ⟨k, hk, _⟩ := h.tab ht; omega) (rises_pair h.rise) (fun t ht => by
    obtain ⟨j, hj, rfl⟩ := mem_getD ht
    obtain ⟨k, hk, hkE, htb⟩ := h.each j hj
    rw [hk]
    exact ⟨(parts_iff (by omega)).2 (by rw [← Int.natCast_mul]; exact Int.ofNat_lt.2 hkE), htb⟩)
  unfold okB
  show (decide (1 ≤ (E : Int)) && decide ((E : Int) ≤ 8192) && mayB (BN : Int) && tabsB (E : Int) (BN : Int) 0 T) = true
  rw [decide_eq_true (by omega), decide_eq_true (by omega), mayB_iff.2 ⟨by omega, by have := h.b2; omega⟩, hT]; rfl
/-- A right map, and its entries. -/
structure LS (E BN : Nat) (T : List TB) (L : List EN) : Prop where
  ok : COk E BN T
  fl : flatM E BN T = L
section
variable {E BN : Nat} {T : List TB} {L : List EN}
theorem LS.len (h : LS E BN T L) : L.length = BN := by rw [← h.fl]; exact flatM_len E BN T
theorem LS.eok (h : LS E BN T L) (i : Nat) : EOk (L.getD i EN.zero) := by
  by_cases hi : i < BN
  · rw [← h.fl, flatM_at E BN T hi]; exact eok_look h.ok i
  · rw [getD_outE (by rw [h.len]; omega)]; exact zero_ok
theorem LS.okB (h : LS E BN T L) : okB (E : Int) ⟨(BN : Int), T⟩ = true := okB_of h.ok
theorem LS.of {M : List EN} (h : LS E BN T L) (hb : M.length ≤ 65536) (hok : ∀ i, i < M.length → EOk (M.getD i EN.zero)) : LS E M.length (ofM E M) M := by
  obtain ⟨a, b⟩ := ofM_ok h.ok.e1 h.ok.e2 hb hok
  exact ⟨a, b⟩
theorem LS.new (h1 : 1 ≤ E) (h2 : E ≤ 8192) (hb : BN ≤ 65536) : LS E BN [] (List.replicate BN EN.zero) := by
  refine ⟨⟨h1, h2, hb, fun i j hij hj => absurd hj (by simp), fun j hj => absurd hj (by simp)⟩, ?_⟩
  unfold flatM
  refine List.ext_getElem (by simp) (fun i g1 g2 => ?_)
  rw [List.getElem_map, List.getElem_replicate]
  exact look_out (fun t ht => by cases ht)
theorem set_getD {x : EN} (b i : Nat) (hb : b < L.length) : (L.set b x).getD i EN.zero = if i = b then x else L.getD i EN.zero := by
  rw [List.getD, List.getElem?_set]
  by_cases h : b = i
  · subst h; rw [if_pos rfl, if_pos hb, if_pos rfl]; rfl
  · rw [if_neg h, if_neg (fun e => h e.symm)]; rfl
theorem LS.set (h : LS E BN T L) {b : Nat} (hb : b < BN) {x : EN} (hx : EOk x) : LS E BN (ofM E (L.set b x)) (L.set b x) := by
  have h2 := h.of (M := L.set b x) (by rw [List.length_set, h.len]; exact h.ok.b2) (fun i _ => by
    rw [set_getD b i (by rw [h.len]; exact hb)]
    split
    · exact hx
    · exact h.eok i)
  rw [List.length_set, h.len] at h2
  exact h2
theorem LS.res (h : LS E BN T L) {nb : Nat} (hb : nb ≤ 65536) : LS E nb (ofM E (resL nb L)) (resL nb L) := by
  have h2 := h.of (M := resL nb L) (by rw [resL_len]; exact hb) (fun i hi => by
    rw [resL_len] at hi
    rw [resL_at nb L hi]; exact h.eok i)
  rw [resL_len] at h2
  exact h2
theorem LS.swap (h : LS E BN T L) (was : EN) {is : EN} (hi : EOk is) : LS E BN (ofM E (swapL was is L)) (swapL was is L) := by
  have hl : (swapL was is L).length = BN := by unfold swapL; rw [List.length_map, h.len]
  have h2 := h.of (M := swapL was is L) (by rw [hl]; exact h.ok.b2) (fun i hi2 => by
    rw [hl] at hi2
    have e : (swapL was is L).getD i EN.zero = swap1 was is (L.getD i EN.zero) := by
      unfold swapL
      rw [List.getD, List.getElem?_map, List.getD, List.getElem?_eq_getElem (by rw [h.len]; exact hi2)]; rfl
    rw [e]
    unfold swap1
    split
    · exact hi
    · exact h.eok i)
  rw [hl] at h2
  exact h2
end
/-! ### what Set, Resize, Swap answer of a right map -/
section
variable {E BN : Nat} {T : List TB} {L : List EN}
theorem LS.setY (h : LS E BN T L) {b : Nat} (hb : b < BN) {x : EN} (hx : EOk x) : setC (E : Int) ⟨(BN : Int), T⟩ (b : Int) x = ⟨(BN : Int), ofM E (L.set b x)⟩ ∧ setRE (E : Int) ⟨(BN : Int), T⟩ (b : Int) x = 0 := by
  have h0 : 0 ≤ (b : Int) ∧ (b : Int) < (BN : Int) := by omega
  unfold setC setRE setL
  rw [if_pos h.okB, if_pos h.okB, if_pos (show setOk ⟨(BN : Int), T⟩ (b : Int) x from ⟨h0, hx⟩), if_pos h0, if_pos hx]
  refine ⟨?_, rfl⟩
  show (⟨(BN : Int), ofM (E : Int).toNat ((flatM (E : Int).toNat (BN : Int).toNat T).set (b : Int).toNat x)⟩ : CH) = _
  rw [Int.toNat_natCast, Int.toNat_natCast, Int.toNat_natCast, h.fl]
theorem LS.setN (h : LS E BN T L) {b : Int} {x : EN} (hb : ¬ ((0 ≤ b ∧ b < (BN : Int)) ∧ EOk x)) : setC (E : Int) ⟨(BN : Int), T⟩ b x = ⟨(BN : Int), T⟩ ∧ setRE (E : Int) ⟨(BN : Int), T⟩ b x ≠ 0 := by
  unfold setC setRE
  rw [if_pos h.okB, if_pos h.okB, if_neg (show ¬ setOk ⟨(BN : Int), T⟩ b x from hb)]
  refine ⟨rfl, ?_⟩
  split
  · rename_i h0
    rw [if_neg (fun hx => hb ⟨h0, hx⟩)]; decide
  · decide
theorem LS.resY (h : LS E BN T L) {nb : Nat} (hb : nb ≤ 65536) : resC (E : Int) ⟨(BN : Int), T⟩ (nb : Int) = ⟨(nb : Int), ofM E (resL nb L)⟩ ∧ resE (E : Int) ⟨(BN : Int), T⟩ (nb : Int) = 0 := by
  have hm : mayB (nb : Int) = true := mayB_iff.2 ⟨by omega, by omega⟩
  unfold resC resE
  rw [if_pos h.okB, if_pos h.okB, if_pos hm, if_pos hm]
  refine ⟨?_, rfl⟩
  show (⟨(nb : Int), ofM (E : Int).toNat (resL (nb : Int).toNat (flatM (E : Int).toNat (BN : Int).toNat T))⟩ : CH) = _
  rw [Int.toNat_natCast, Int.toNat_natCast, Int.toNat_natCast, h.fl]
theorem LS.resN (h : LS E BN T L) {nb : Int} (hb : nb < 0) : resC (E : Int) ⟨(BN : Int), T⟩ nb = ⟨(BN : Int), T⟩ ∧ resE (E : Int) ⟨(BN : Int), T⟩ nb = 1 := by
  have hm : ¬ mayB nb = true := fun e => by have := (mayB_iff.1 e).1; omega
  unfold resC resE
  rw [if_pos h.okB, if_pos h.okB, if_neg hm, if_neg hm]
  exact ⟨rfl, rfl⟩
theorem LS.swapY (h : LS E BN T L) (was : EN) {is : EN} (hi : EOk is) : swapC (E : Int) ⟨(BN : Int), T⟩ was is = ⟨(BN : Int), ofM E (swapL was is L)⟩ ∧ swapN (E : Int) ⟨(BN : Int), T⟩ was is = L.countP (swapQ was) ∧ swapE (E : Int) ⟨(BN : Int), T⟩ is = 0 := by
  have hh : Go.Proofs.Ythhbaccbhfngbaa.okB (E : Int) ⟨(BN : Int), T⟩ = true ∧ EOk is := ⟨h.okB, hi⟩
  unfold swapC swapN swapE
  rw [if_pos h.okB, if_pos hi, if_pos hh, if_pos hh]
  refine ⟨?_, ?_, rfl⟩
  · show (⟨(BN : Int), ofM (E : Int).toNat (swapL was is (flatM (E : Int).toNat (BN : Int).toNat T))⟩ : CH) = _
    rw [Int.toNat_natCast, Int.toNat_natCast, h.fl]
  · show (flatM (E : Int).toNat (BN : Int).toNat T).countP (swapQ was) = _
    rw [Int.toNat_natCast, Int.toNat_natCast, h.fl]
theorem LS.swapNo (h : LS E BN T L) (was : EN) {is : EN} (hi : ¬ EOk is) : swapC (E : Int) ⟨(BN : Int), T⟩ was is = ⟨(BN : Int), T⟩ ∧ swapN (E : Int) ⟨(BN : Int), T⟩ was is = 0 ∧ swapE (E : Int) ⟨(BN : Int), T⟩ is = 2 := by
  unfold swapC swapN swapE
  rw [if_pos h.okB, if_neg hi, if_neg (fun x => hi x.2), if_neg (fun x => hi x.2)]
  exact ⟨rfl, rfl, rfl⟩
theorem LS.getY (h : LS E BN T L) {b : Nat} (hb : b < BN) : getR (E : Int) ⟨(BN : Int), T⟩ (b : Int) = L.getD b EN.zero ∧ getRE (E : Int) ⟨(BN : Int), T⟩ (b : Int) = 0 := by
  have h0 : 0 ≤ (b : Int) ∧ (b : Int) < (BN : Int) := by omega
  unfold getR getRE
  rw [if_pos h.okB, if_pos h0, if_pos (show Go.Proofs.Ythhbaccbhfngbaa.okB (E : Int) ⟨(BN : Int), T⟩ = true ∧ 0 ≤ (b : Int) ∧ (b : Int) < (BN : Int) from ⟨h.okB, h0⟩)]
  refine ⟨?_, rfl⟩
  show getM (E : Int).toNat T (b : Int).toNat = _
  rw [Int.toNat_natCast, Int.toNat_natCast, getM_look h.ok.rise, ← h.fl, flatM_at E BN T hb]
end
end Go.Proofs.Ythhbaccbhfngbaa
