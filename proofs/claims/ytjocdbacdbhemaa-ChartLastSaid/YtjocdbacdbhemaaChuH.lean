/- Charts: the document's own All. -/
import Derived.Test.YtjocdbacdbhemaaChuG
import Derived.Test.YtjocdbacdbhemaaChvXZ
namespace Go.Proofs.Ytjocdbacdbhemaa
open Go.RowKit

/-- The first i blocks that are no holes. -/
def fbF (F : List EN) (i : Nat) : List Nat := (List.range i).filter (fun b => fullB (F.getD b EN.zero))
def atF (F : List EN) (i : Nat) : List Int := (fbF F i).map (fun b : Nat => (b : Int))
def enF (F : List EN) (i : Nat) : List EN := (fbF F i).map (fun b => F.getD b EN.zero)
theorem fbF_yes {F : List EN} {i : Nat} (h : fullB (F.getD i EN.zero) = true) : fbF F (i + 1) = fbF F i ++ [i] := by
  unfold fbF; rw [List.range_succ, List.filter_append, List.filter_cons, if_pos h]; rfl
theorem fbF_no {F : List EN} {i : Nat} (h : fullB (F.getD i EN.zero) = false) : fbF F (i + 1) = fbF F i := by
  unfold fbF; rw [List.range_succ, List.filter_append, List.filter_cons, if_neg (by rw [h]; decide)]; simp
theorem fbF_len (F : List EN) (i : Nat) : (fbF F i).length ≤ i := by
  unfold fbF; refine Nat.le_trans (List.length_filter_le _ _) ?_; rw [List.length_range]; exact Nat.le_refl _
theorem fbF_flat {E BN : Nat} {T : List TB} : fbF (flatM E BN T) BN = fullL E BN T := by
  unfold fbF fullL
  refine List.filter_congr fun b hb => ?_
  rw [flatM_at E BN T (List.mem_range.1 hb)]
theorem atF_flat {E BN : Nat} {T : List TB} : atF (flatM E BN T) BN = blocksC E BN T := by unfold atF blocksC; rw [fbF_flat]
theorem enF_flat {E BN : Nat} {T : List TB} : enF (flatM E BN T) BN = entsC E BN T := by
  unfold enF entsC
  rw [fbF_flat]
  refine List.map_congr_left fun b hb => ?_
  exact flatM_at E BN T (List.mem_range.1 (List.mem_filter.1 hb).1)
theorem atF_len (F : List EN) (i : Nat) : (atF F i).length ≤ i := by unfold atF; rw [List.length_map]; exact fbF_len F i
theorem enF_len (F : List EN) (i : Nat) : (enF F i).length ≤ i := by unfold enF; rw [List.length_map]; exact fbF_len F i
set_option maxRecDepth 100000 in
set_option maxHeartbeats 8000000 in
theorem rchtAll_no (e B : Int) (T : List TB) (v : Value) (w : World) (hv : TabsS w v T) (h1 : okB e ⟨B, T⟩ = false) :
    Calls Try.prog 30 #[.int .i64 e, .agg #[.int .i64 B, v]] w fun e' w' => ∃ a b, e' = .returned (.tuple #[a, b, .int .i64 2]) ∧ IdxS w' a [] ∧ EntsS w' b [] ∧ Below w.heap.size w w' := by
  have hC := fun W h => rchtCheck_any e B T v W h
  unfold chtE at hC
  rw [h1, if_neg (by decide)] at hC
  have HB0 := Lib.hid (below1 w (.cells #[.int .i64 B, v] 44))
  have HX0 := B2.new w (.int .i64 B) v 44
  have HV0 := Lib.hid (hv.below HB0.out)
  obtain ⟨A, cap, rfl⟩ := hv.form
  obtain ⟨_, y0, y1, _, _⟩ := HX0
  clear hv h1
  go_enter Try.func30, Try.ntmps30
  go_wp2_with (go_at_call 36; (with_reducible refine (hC _ HV0.out).mono ?_); rintro e w1 ⟨rfl, hb1⟩; have HB1 := Lib.hid (HB0.out.trans (hb1.mono (by simp))); clear hb1 y0 y1)
  refine bodyPost_ret (v := .tuple #[.slice none 0 0, .slice none 0 0, .int .i64 2]) (by simp [results, Try.results30, go_sem]) rfl ?_
  exact ⟨_, _, rfl, IdxS.none _, EntsS.none _, HB1.out⟩
set_option maxRecDepth 100000 in
set_option maxHeartbeats 8000000 in
theorem rchtAll_yes (E BN : Nat) (T : List TB) (v : Value) (w : World) (hv : TabsS w v T) (hOK : COk E BN T) (hok : okB (E : Int) ⟨(BN : Int), T⟩ = true) :
    Calls Try.prog 30 #[.int .i64 (E : Int), .agg #[.int .i64 (BN : Int), v]] w fun e' w' => ∃ a b, e' = .returned (.tuple #[a, b, .int .i64 0]) ∧ IdxS w' a (blocksC E BN T) ∧ EntsS w' b (entsC E BN T) ∧ Below w.heap.size w w' := by
  have hC := fun W h => rchtCheck_any (E : Int) (BN : Int) T v W h
  unfold chtE at hC
  rw [hok, if_pos rfl] at hC
  have hF := fun W h => rchtFlat_any E BN T v W h hOK
  have HLN : Hid ((flatM E BN T).length = BN) := Lib.hid (flatM_len E BN T)
  have HBN : Hid (BN ≤ 65536) := Lib.hid hOK.b2
  have HB0 := Lib.hid (below1 w (.cells #[.int .i64 (BN : Int), v] 44))
  have HX0 := Lib.hid (B2.new w (.int .i64 (BN : Int)) v 44)
  have HV0 := Lib.hid (hv.below HB0.out)
  rw [← atF_flat, ← enF_flat]
  clear hOK hok
  obtain ⟨A, cap, rfl⟩ := hv.form
  clear hv
  generalize flatM E BN T = F at hF HLN ⊢
  go_enter Try.func30, Try.ntmps30
  obtain ⟨_, y0, y1, _, _⟩ := HX0.out
  go_wp2_with (first
    | (go_at_call 36; (with_reducible refine (hC _ HV0.out).mono ?_); rintro e w1 ⟨rfl, hb1⟩; have HB1 := Lib.hid (HB0.out.trans (hb1.mono (by simp))); have HV1 := Lib.hid (HV0.out.below hb1); have HX1 := Lib.hid (HX0.out.below hb1); clear hb1 y0 y1; obtain ⟨_, y0, y1, _, _⟩ := HX1.out)
    | (go_at_call 49; (with_reducible refine (hF _ HV1.out).mono ?_); rintro e w3 ⟨rfl, hrow, hb3⟩; have HB3 := Lib.hid (HB1.out.trans (hb3.mono HB1.out.size)); have HROW := Lib.hid hrow; clear hb3 hrow y0 y1))
  generalize w1.heap.size + 1 = g at HROW ⊢
  have HGL : Hid (g < w3.heap.size) := Lib.hid HROW.out.1
  obtain ⟨i0, hi, hz0, hz1, hz2⟩ := info_parts infoIn
  obtain ⟨i9, hi9, hz90, hz91, hz92⟩ := entInfo'
  go_loopw [7, 8, 19] (fun ax bx ix wr => ∃ (i : Nat), i ≤ BN ∧ ix = .int .i64 (i : Int) ∧ wr.ownsRow w3.heap.size 3 1 ax (atF F i).length ((atF F i).map (Value.int .i64)) ∧ wr.ownsRow w3.heap.size 26 4 bx (enF F i).length (eCells (enF F i)) ∧ Below w3.heap.size w3 wr) (fun _ _ ix _ => BN - (intOf ix).toNat)
  case atStart => exact ⟨0, Nat.zero_le _, rfl, World.ownsRow_nil _ _ _ _, World.ownsRow_nil _ _ _ _, Below.refl _ _⟩
  case round =>
    obtain ⟨i, hiB, rfl, hra, hrb, hbr⟩ := hrel
    obtain ⟨ao, ca, rfl, _⟩ := own_form hra
    obtain ⟨bo, cb, rfl, _⟩ := own_form hrb
    have HRA := Lib.hid hra
    have HRB := Lib.hid hrb
    have HBR := Lib.hid hbr
    clear hra hrb hbr
    by_cases hlt : i < BN
    · have HE := Lib.hid ((HROW.out.2.1 i (by rw [HLN.out]; exact hlt)).below HBR.out HGL.out)
      have HYA : Hid (fullB (F.getD i EN.zero) = true → atF F (i + 1) = atF F i ++ [(i : Int)] ∧ enF F (i + 1) = enF F i ++ [F.getD i EN.zero]) := Lib.hid (fun h => by
        unfold atF enF; rw [fbF_yes h, List.map_append, List.map_append]; exact ⟨rfl, rfl⟩)
      have HNA : Hid (fullB (F.getD i EN.zero) = false → atF F (i + 1) = atF F i ∧ enF F (i + 1) = enF F i) := Lib.hid (fun h => by
        unfold atF enF; rw [fbF_no h]; exact ⟨rfl, rfl⟩)
      have HW1 := Lib.hid (wrap_succ hlt (by omega : BN ≤ BN) (by have := HBN.out; unfold maxLen; omega))
      have HI := Lib.hid hlt
      generalize F.getD i EN.zero = x at HE HYA HNA
      obtain ⟨kk, st, mb, fr'x⟩ := x
      obtain ⟨q0, q1, q2, q3⟩ := HE.out
      unfold fullB at HYA HNA
      dsimp only at q0 q1 q2 q3 HYA HNA
      have HL1 := Lib.hid (Nat.le_trans (atF_len F i) hiB)
      have HL2 := Lib.hid (Nat.le_trans (enF_len F i) hiB)
      by_cases hk : kk = 0
      · subst hk
        obtain ⟨ha, hb⟩ := HNA.out rfl
        have HA := Lib.hid ha
        have HB := Lib.hid hb
        clear HYA HNA ha hb
        have HRA2 := Lib.hid (HRA.out.alloc (.cells #[.int .u8 0, .int .i64 st, .int .i64 mb, .int .i64 fr'x] 26))
        have HRB2 := Lib.hid (HRB.out.alloc (.cells #[.int .u8 0, .int .i64 st, .int .i64 mb, .int .i64 fr'x] 26))
        have HBR2 := Lib.hid (HBR.out.alloc HBR.out.size (.cells #[.int .u8 0, .int .i64 st, .int .i64 mb, .int .i64 fr'x] 26))
        have hw1 := HW1.out
        go_wp2
        rw [hw1]
        clear hw1
        go_roundw
        case rel => exact ⟨i + 1, by have := HI.out; omega, by go_num, by rw [HA.out]; exact HRA2.out, by rw [HB.out]; exact HRB2.out, HBR2.out⟩
        case measure => have := HI.out; simp [intOf]; omega
      · have d0 : (kk == 0) = false := by rw [beq_eq_false_iff_ne]; exact hk
        have d1 : (kk != 0) = true := by rw [bne, d0]; rfl
        obtain ⟨ha, hb⟩ := HYA.out d1
        have HA := Lib.hid ha
        have HB := Lib.hid hb
        clear HYA HNA ha hb
        go_upto_region 9 with fail
        have HX := Lib.hid (EBox.new wr kk st mb fr'x 26)
        have HAL := Lib.hid (fun q h => (HRA.out.lt q h).2)
        have HBL := Lib.hid (fun q h => (HRB.out.lt q h).2)
        have HRA1 := Lib.hid (HRA.out.alloc (.cells #[.int .u8 kk, .int .i64 st, .int .i64 mb, .int .i64 fr'x] 26))
        have HRB1 := Lib.hid (HRB.out.alloc (.cells #[.int .u8 kk, .int .i64 st, .int .i64 mb, .int .i64 fr'x] 26))
        have HBR1 := Lib.hid (HBR.out.alloc HBR.out.size (.cells #[.int .u8 kk, .int .i64 st, .int .i64 mb, .int .i64 fr'x] 26))
        clear q0 q1 q2 q3 d0 d1 HRA HRB HBR HE
        generalize wr.alloc (.cells #[.int .u8 kk, .int .i64 st, .int .i64 mb, .int .i64 fr'x] 26) = W1 at HX HRA1 HRB1 HBR1 ⊢
        generalize wr.heap.size = bx at HX HAL HBL ⊢
        have HRA2 := Lib.hid (HRA1.out.alloc (.cells #[.int .i64 (i : Int)] 3))
        have hw1 := HW1.out
        go_wp2_with (first
          | (at_builtin; (with_reducible refine wpList_append_own_at _ ?g0 (.tmp 27) (.tmp 29) 49 ?g1 w3.heap.size 3 i0 (.int .i64 0) 1 8 Try.underlying49 hi hz0 hz1 hz2 ?g2 (by decide) (.slice ao (atF F i).length ca) (atF F i).length ((atF F i).map (Value.int .i64)) ?g3 HRA2.out ⟨W1.heap.size, 0, none⟩ 1 1 [.int .i64 (i : Int)] ?g4 ?g5 ?c1 ?c2 ?c3 ?c4 ?c5 ?_); (case g0 => rfl); (case g1 => rfl); (case g2 => rfl); (case g3 => rfl); (case g4 => rfl); (case g5 => rfl); (case c1 => exact one_cell W1 (i : Int) _); (case c2 => intro u hu; simp only [List.mem_cons, List.not_mem_nil, or_false] at hu; rcases hu with rfl; rfl); (case c3 => have := HL1.out; have := HBN.out; unfold maxLen; omega); (case c4 => have := HL1.out; have := HBN.out; omega); (case c5 => have := HBR1.out.size; simp; omega); (intro v1 w4 hown1 hgrow1 _ hob1); (obtain ⟨g1, c1, rfl⟩ := ownsRow_succ hown1);
             have hk4 : Ap (fun q => (Value.slice ao (atF F i).length ca).ownBlock = some q) W1 w4 := Ap.grown (Ap.alloc (Ap.refl W1) (.cells #[.int .i64 (i : Int)] 3)) hgrow1 (fun q hq => .inl hq);
             have HX4 := Lib.hid (HX.out.ap hk4 (fun h => Nat.lt_irrefl _ (HAL.out _ h)));
             have HRB4 := Lib.hid ((HRB1.out.alloc (.cells #[.int .i64 (i : Int)] 3)).kept hgrow1 (own_apart HRB1.out HRA1.out (by decide)));
             have HBR4 := Lib.hid ((HBR1.out.alloc HBR1.out.size (.cells #[.int .i64 (i : Int)] 3)).grown hgrow1 (by have := HBR1.out.size; simp; omega) (fun q hq => (HRA1.out.lt q hq).1));
             have HRA4 := Lib.hid hown1;
             have HRB5 := Lib.hid (HRB4.out.alloc (.cells #[.int .u8 kk, .int .i64 st, .int .i64 mb, .int .i64 fr'x] 26));
             clear hown1 hgrow1 hob1 hk4;
             obtain ⟨_, x0, x1, x2, x3, _⟩ := HX4.out; dsimp only at x0 x1 x2 x3)
          | (at_builtin; (with_reducible refine wpList_append_own_at _ ?g0 (.tmp 31) (.tmp 33) 36 ?g1 w3.heap.size 26 i9 (.agg #[.int .u8 0, .int .i64 0, .int .i64 0, .int .i64 0]) 4 32 Try.underlying36 hi9 hz90 hz91 hz92 ?g2 (by decide) (.slice bo (enF F i).length cb) (enF F i).length (eCells (enF F i)) ?g3 HRB5.out ⟨w4.heap.size, 0, none⟩ 1 1 [.int .u8 kk, .int .i64 st, .int .i64 mb, .int .i64 fr'x] ?g4 ?g5 ?c1 ?c2 ?c3 ?c4 ?c5 ?_); (case g0 => rfl); (case g1 => rfl); (case g2 => rfl); (case g3 => rfl); (case g4 => rfl); (case g5 => rfl); (case c1 => exact new_cells4 w4 _ _ _ _ _); (case c2 => exact ent_one ⟨kk, st, mb, fr'x⟩); (case c3 => have := HL2.out; have := HBN.out; unfold maxLen; omega); (case c4 => have := HL2.out; have := HBN.out; omega); (case c5 => have := HBR4.out.size; simp; omega); (intro v2 w5 hown2 hgrow2 _ hob2); (obtain ⟨g2, c2, rfl⟩ := ownsRow_succ hown2);
             have HRA5 := Lib.hid ((HRA4.out.alloc (.cells #[.int .u8 kk, .int .i64 st, .int .i64 mb, .int .i64 fr'x] 26)).kept hgrow2 (own_apart HRA4.out HRB4.out (by decide)));
             have HBR5 := Lib.hid ((HBR4.out.alloc HBR4.out.size (.cells #[.int .u8 kk, .int .i64 st, .int .i64 mb, .int .i64 fr'x] 26)).grown hgrow2 (by have := HBR4.out.size; simp; omega) (fun q hq => (HRB4.out.lt q hq).1));
             have HRBE := Lib.hid hown2;
             clear hown2 hgrow2 hob2))
        rw [hw1]
        clear hw1
        go_roundw
        case rel =>
          refine ⟨i + 1, by have := HI.out; omega, by go_num, ?_, ?_, HBR5.out⟩
          · rw [HA.out, List.length_append, List.map_append]; exact HRA5.out
          · rw [HB.out, List.length_append, eCells_snoc]; exact HRBE.out
        case measure => have := HI.out; simp [intOf]; omega
    · obtain rfl : i = BN := by omega
      go_wp2
      refine bodyPost_ret (v := .tuple #[.slice ao (atF F i).length ca, .slice bo (enF F i).length cb, .int .i64 0]) (by simp [results, Try.results30, go_sem]) rfl ?_
      exact ⟨_, _, rfl, idxS_of HRA.out, EntsS.of_own HRB.out, HB3.out.trans (HBR.out.mono HB3.out.size)⟩
theorem rchtAll_any (e B : Int) (T : List TB) (v : Value) (w : World) (hv : TabsS w v T) :
    Calls Try.prog 30 #[.int .i64 e, .agg #[.int .i64 B, v]] w fun e' w' => ∃ a b, e' = .returned (.tuple #[a, b, .int .i64 (allErr e ⟨B, T⟩)]) ∧ IdxS w' a (atC e ⟨B, T⟩) ∧ EntsS w' b (enC e ⟨B, T⟩) ∧ Below w.heap.size w w' := by
  unfold atC enC allErr
  by_cases hok : okB e ⟨B, T⟩ = true
  · rw [if_pos hok, if_pos hok, if_pos hok]
    obtain ⟨E, BN, rfl, hBN, hc⟩ := cok_of hok
    dsimp only at hBN hc
    subst hBN
    dsimp only
    rw [Int.toNat_natCast, Int.toNat_natCast]
    exact rchtAll_yes E BN T v w hv hc hok
  · rw [if_neg hok, if_neg hok, if_neg hok]
    exact rchtAll_no e B T v w hv (by simpa using hok)
end Go.Proofs.Ytjocdbacdbhemaa
