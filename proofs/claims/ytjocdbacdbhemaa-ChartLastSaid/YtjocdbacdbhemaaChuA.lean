/- Charts: the document's own Set. -/
import Derived.Test.YtjocdbacdbhemaaChtZ
namespace Go.Proofs.Ytjocdbacdbhemaa
open Go.RowKit

def setOk (c : CH) (b : Int) (x : EN) : Prop := (0 ≤ b ∧ b < c.blocks) ∧ EOk x
instance (c : CH) (b : Int) (x : EN) : Decidable (setOk c b x) := by unfold setOk; infer_instance
def setL (e : Int) (c : CH) (b : Int) (x : EN) : List EN := (flatM e.toNat c.blocks.toNat c.tabs).set b.toNat x
/-- The map in which x stands, or the map as it was, or none. -/
def setC (e : Int) (c : CH) (b : Int) (x : EN) : CH := if okB e c = true then (if setOk c b x then ⟨c.blocks, ofM e.toNat (setL e c b x)⟩ else c) else CH.zero
def setRE (e : Int) (c : CH) (b : Int) (x : EN) : Int := if okB e c = true then (if 0 ≤ b ∧ b < c.blocks then (if EOk x then 0 else 2) else 1) else 2
theorem TabsS.form {w : World} {v : Value} {T : List TB} (h : TabsS w v T) : ∃ A cap, v = .slice A T.length cap := by obtain ⟨A, cap, h, _⟩ := h; exact ⟨A, cap, h⟩
theorem TabsS.none (w : World) : TabsS w (.slice none 0 0) [] := ⟨Option.none, 0, rfl, Nat.le_refl _, Nat.zero_le _, .inl rfl⟩
/-- A chart's box, an entry's, and a result's place. -/
structure SB (w W : World) (B : Int) (v : Value) (x : EN) : Prop where
  bl : Below w.heap.size w W
  c : B2 W w.heap.size (.int .i64 B) v
  e : EBox W (w.heap.size + 1) x
  r : B2 W (w.heap.size + 2) (.int .i64 0) (.slice none 0 0)
theorem SB.below {w W W' : World} {B : Int} {v : Value} {x : EN} (k : SB w W B v x) (hb : Below W.heap.size W W') : SB w W' B v x := ⟨k.bl.trans (hb.mono k.bl.size), k.c.below hb, k.e.below hb, k.r.below hb⟩
theorem SB.new (w : World) (B : Int) (v : Value) (x : EN) : SB w (((w.alloc (.cells #[.int .i64 B, v] 44)).alloc (.cells #[.int .u8 x.kind, .int .i64 x.st, .int .i64 x.mb, .int .i64 x.fr] 26)).alloc (.cells #[.int .i64 0, .slice none 0 0] 44)) B v x := by
  have h1 := EBox.new (w.alloc (.cells #[.int .i64 B, v] 44)) x.kind x.st x.mb x.fr 26
  have h2 := B2.new ((w.alloc (.cells #[.int .i64 B, v] 44)).alloc (.cells #[.int .u8 x.kind, .int .i64 x.st, .int .i64 x.mb, .int .i64 x.fr] 26)) (.int .i64 0) (.slice none 0 0) 44
  rw [World.size_alloc] at h1 h2
  rw [World.size_alloc] at h2
  exact ⟨((below1 _ _).alloc (by simp) _).alloc (by simp; omega) _, ((B2.new w _ _ _).below (below1 _ _)).below (below1 _ _), h1.below (below1 _ _), h2⟩
/-- The result, stored. -/
theorem SB.ends {w W : World} {B : Int} {v : Value} {x : EN} (k : SB w W B v x) (u0 u1 : Value) : Below w.heap.size w ((W.setCell ⟨w.heap.size + 2, 0, none⟩ u0).setCell ⟨w.heap.size + 2, 1, none⟩ u1) ∧ ((W.setCell ⟨w.heap.size + 2, 0, none⟩ u0).setCell ⟨w.heap.size + 2, 1, none⟩ u1).cell? ⟨w.heap.size + 2, 0, none⟩ = some u0 ∧ ((W.setCell ⟨w.heap.size + 2, 0, none⟩ u0).setCell ⟨w.heap.size + 2, 1, none⟩ u1).cell? ⟨w.heap.size + 2, 1, none⟩ = some u1 := by
  refine ⟨(k.bl.setCell (p := ⟨_, 0, none⟩) (by show _ ≤ w.heap.size + 2; omega) _).setCell (p := ⟨_, 1, none⟩) (by show _ ≤ w.heap.size + 2; omega) _, ?_, ?_⟩
  · exact (cell_putne _ _ _ _ _ (by omega)).trans (cell_put k.r.c0 _)
  · exact cell_put ((cell_putne _ _ _ _ _ (by omega)).trans k.r.c1) _
theorem SB.tabs {w W : World} {B : Int} {v : Value} {x : EN} {T : List TB} (_ : SB w W B v x) (h : TabsS w v T) (u0 u1 : Value) (hb : Below w.heap.size w ((W.setCell ⟨w.heap.size + 2, 0, none⟩ u0).setCell ⟨w.heap.size + 2, 1, none⟩ u1)) : TabsS ((W.setCell ⟨w.heap.size + 2, 0, none⟩ u0).setCell ⟨w.heap.size + 2, 1, none⟩ u1) v T := h.below hb
set_option maxRecDepth 100000 in
set_option maxHeartbeats 8000000 in
/-- The errors. -/
theorem rchtSet_no (e B b : Int) (T : List TB) (v : Value) (x : EN) (w : World) (hv : TabsS w v T) (bo : Int) (To : List TB) (re : Int)
    (h : (okB e ⟨B, T⟩ = false ∧ bo = 0 ∧ To = [] ∧ re = 2) ∨ (okB e ⟨B, T⟩ = true ∧ bo = B ∧ To = T ∧ ((¬ (0 ≤ b ∧ b < B) ∧ re = 1) ∨ ((0 ≤ b ∧ b < B) ∧ ¬ EOk x ∧ re = 2)))) :
    Calls Try.prog 26 #[.int .i64 e, .agg #[.int .i64 B, v], .int .i64 b, x.v] w fun e' w' => ∃ tv, e' = .returned (.tuple #[.agg #[.int .i64 bo, tv], .int .i64 re]) ∧ TabsS w' tv To ∧ Below w.heap.size w w' := by
  have hC := fun W h => rchtCheck_any e B T v W h
  unfold chtE at hC
  have hX := rentCheck_any x
  have HG0 := Lib.hid (SB.new w B v x)
  have HV := Lib.hid hv
  obtain ⟨A, cap, rfl⟩ := hv.form
  clear hv
  unfold EN.v at hX ⊢
  have HXE : Hid (¬ EOk x → entE x = 2) := Lib.hid (fun h => if_neg h)
  rcases h with ⟨h1, rfl, rfl, rfl⟩ | ⟨h1, rfl, rfl, hcase⟩
  · rw [h1, if_neg (by decide)] at hC
    clear h1
    obtain ⟨k, st, mb, fr⟩ := x
    dsimp only at hX HG0 ⊢
    go_enter Try.func26, Try.ntmps26
    go_upto_region 1 with fail
    generalize ((w.alloc (.cells #[.int .i64 B, .slice A T.length cap] 44)).alloc (.cells #[.int .u8 k, .int .i64 st, .int .i64 mb, .int .i64 fr] 26)).alloc (.cells #[.int .i64 0, .slice none 0 0] 44) = w0 at HG0 ⊢
    have HV0 := Lib.hid (HV.out.below HG0.out.bl)
    obtain ⟨_, y0, y1, _, _⟩ := HG0.out.c
    go_wp2_with (go_at_call 36; (with_reducible refine (hC _ HV0.out).mono ?_); rintro e w1 ⟨rfl, hb1⟩; have HG1 := Lib.hid (HG0.out.below hb1); clear hb1 y0 y1; obtain ⟨_, z0, z1, f0, f1⟩ := HG1.out.r)
    obtain ⟨hB, y0, y1⟩ := HG1.out.ends (.int .i64 0) (.slice none 0 0)
    refine bodyPost_ret (v := .tuple #[.agg #[.int .i64 0, .slice none 0 0], .int .i64 2]) (by simp [results, Try.results26, go_sem, y0, y1]) rfl ?_
    exact ⟨_, rfl, TabsS.none _, hB⟩
  · rw [h1, if_pos rfl] at hC
    clear h1
    rcases hcase with ⟨hr, rfl⟩ | ⟨hr, hx, rfl⟩
    · have hc2 : b < 0 ∨ (0 ≤ b ∧ bo ≤ b) := by omega
      clear hr
      obtain ⟨k, st, mb, fr⟩ := x
      dsimp only at hX HG0 ⊢
      rcases hc2 with hlt | ⟨hge, hgb⟩
      · have d1 : decide (b < 0) = true := decide_eq_true hlt
        clear hlt
        go_enter Try.func26, Try.ntmps26
        go_upto_region 1 with fail
        generalize ((w.alloc (.cells #[.int .i64 bo, .slice A To.length cap] 44)).alloc (.cells #[.int .u8 k, .int .i64 st, .int .i64 mb, .int .i64 fr] 26)).alloc (.cells #[.int .i64 0, .slice none 0 0] 44) = w0 at HG0 ⊢
        have HV0 := Lib.hid (HV.out.below HG0.out.bl)
        obtain ⟨_, y0, y1, _, _⟩ := HG0.out.c
        go_wp2_with (go_at_call 36; (with_reducible refine (hC _ HV0.out).mono ?_); rintro e w1 ⟨rfl, hb1⟩; have HG1 := Lib.hid (HG0.out.below hb1); clear hb1 y0 y1; obtain ⟨_, y0, y1, _, _⟩ := HG1.out.c; obtain ⟨_, z0, z1, f0, f1⟩ := HG1.out.r)
        obtain ⟨hB, y0, y1⟩ := HG1.out.ends (.int .i64 bo) (.slice A To.length cap)
        refine bodyPost_ret (v := .tuple #[.agg #[.int .i64 bo, .slice A To.length cap], .int .i64 1]) (by simp [results, Try.results26, go_sem, y0, y1]) rfl ?_
        exact ⟨_, rfl, HV.out.below hB, hB⟩
      · have d1 : decide (b < 0) = false := decide_eq_false (by omega)
        have d2 : decide (bo ≤ b) = true := decide_eq_true hgb
        clear hge hgb
        go_enter Try.func26, Try.ntmps26
        go_upto_region 1 with fail
        generalize ((w.alloc (.cells #[.int .i64 bo, .slice A To.length cap] 44)).alloc (.cells #[.int .u8 k, .int .i64 st, .int .i64 mb, .int .i64 fr] 26)).alloc (.cells #[.int .i64 0, .slice none 0 0] 44) = w0 at HG0 ⊢
        have HV0 := Lib.hid (HV.out.below HG0.out.bl)
        obtain ⟨_, y0, y1, _, _⟩ := HG0.out.c
        go_wp2_with (go_at_call 36; (with_reducible refine (hC _ HV0.out).mono ?_); rintro e w1 ⟨rfl, hb1⟩; have HG1 := Lib.hid (HG0.out.below hb1); clear hb1 y0 y1; obtain ⟨_, y0, y1, _, _⟩ := HG1.out.c; obtain ⟨_, z0, z1, f0, f1⟩ := HG1.out.r)
        obtain ⟨hB, y0, y1⟩ := HG1.out.ends (.int .i64 bo) (.slice A To.length cap)
        refine bodyPost_ret (v := .tuple #[.agg #[.int .i64 bo, .slice A To.length cap], .int .i64 1]) (by simp [results, Try.results26, go_sem, y0, y1]) rfl ?_
        exact ⟨_, rfl, HV.out.below hB, hB⟩
    · rw [HXE.out hx] at hX
      have d1 : decide (b < 0) = false := decide_eq_false (by omega)
      have d2 : decide (bo ≤ b) = false := decide_eq_false (by omega)
      clear hr hx HXE
      obtain ⟨k, st, mb, fr⟩ := x
      dsimp only at hX HG0 ⊢
      go_enter Try.func26, Try.ntmps26
      go_upto_region 1 with fail
      generalize ((w.alloc (.cells #[.int .i64 bo, .slice A To.length cap] 44)).alloc (.cells #[.int .u8 k, .int .i64 st, .int .i64 mb, .int .i64 fr] 26)).alloc (.cells #[.int .i64 0, .slice none 0 0] 44) = w0 at HG0 ⊢
      have HV0 := Lib.hid (HV.out.below HG0.out.bl)
      obtain ⟨_, y0, y1, _, _⟩ := HG0.out.c
      go_wp2_with (first
        | (go_at_call 36; (with_reducible refine (hC _ HV0.out).mono ?_); rintro e w1 ⟨rfl, hb1⟩; have HG1 := Lib.hid (HG0.out.below hb1); clear hb1 y0 y1; obtain ⟨_, y0, y1, _, _⟩ := HG1.out.c; obtain ⟨_, x0, x1, x2, x3, _⟩ := HG1.out.e; dsimp only at x0 x1 x2 x3)
        | (go_at_call 14; (with_reducible refine (hX _).mono ?_); rintro e w2 ⟨rfl, hb2⟩; have HG2 := Lib.hid (HG1.out.below hb2); clear hb2 y0 y1 x0 x1 x2 x3; obtain ⟨_, y0, y1, _, _⟩ := HG2.out.c; obtain ⟨_, z0, z1, f0, f1⟩ := HG2.out.r))
      obtain ⟨hB, y0, y1⟩ := HG2.out.ends (.int .i64 bo) (.slice A To.length cap)
      refine bodyPost_ret (v := .tuple #[.agg #[.int .i64 bo, .slice A To.length cap], .int .i64 2]) (by simp [results, Try.results26, go_sem, y0, y1]) rfl ?_
      exact ⟨_, rfl, HV.out.below hB, hB⟩
set_option maxRecDepth 100000 in
set_option maxHeartbeats 8000000 in
theorem rchtSet_yes (E BN b : Nat) (T : List TB) (v : Value) (x : EN) (w : World) (hv : TabsS w v T) (hOK : COk E BN T) (hok : okB (E : Int) ⟨(BN : Int), T⟩ = true) (hb : b < BN) (hx : EOk x) :
    Calls Try.prog 26 #[.int .i64 (E : Int), .agg #[.int .i64 (BN : Int), v], .int .i64 (b : Int), x.v] w fun e' w' => ∃ tv, e' = .returned (.tuple #[.agg #[.int .i64 (BN : Int), tv], .int .i64 0]) ∧ TabsS w' tv (ofM E ((flatM E BN T).set b x)) ∧ Below w.heap.size w w' := by
  have hC := fun W h => rchtCheck_any (E : Int) (BN : Int) T v W h
  unfold chtE at hC
  rw [hok, if_pos rfl] at hC
  have hX := rentCheck_any x
  rw [show entE x = 0 from if_pos hx] at hX
  have hF := fun W h => rchtFlat_any E BN T v W h hOK
  have HLN : Hid ((flatM E BN T).length = BN) := Lib.hid (flatM_len E BN T)
  have HL2 : Hid (((flatM E BN T).set b x).length = BN) := Lib.hid (by rw [List.length_set]; exact flatM_len E BN T)
  have hO := fun u W h => rchtOf_any E ((flatM E BN T).set b x) u W h ⟨hOK.e1, hOK.e2⟩ (by rw [HL2.out]; exact hOK.b2)
  rw [HL2.out] at hO
  have HG0 := Lib.hid (SB.new w (BN : Int) v x)
  have HV := Lib.hid hv
  have HBB := Lib.hid hb
  have HBN : Hid (BN ≤ 65536) := Lib.hid hOK.b2
  have d1 : decide ((b : Int) < 0) = false := decide_eq_false (by omega)
  have d2 : decide ((BN : Int) ≤ (b : Int)) = false := decide_eq_false (by omega)
  have d3 : decide (BN ≤ b) = false := decide_eq_false (by omega)
  clear hv hOK hok hx
  unfold EN.v at hX ⊢
  obtain ⟨A, cap, rfl⟩ := HV.out.form
  generalize flatM E BN T = F at hF hO HLN HL2 ⊢
  obtain ⟨k, st, mb, fr⟩ := x
  dsimp only at hX HG0 hO HL2 ⊢
  go_enter Try.func26, Try.ntmps26
  go_upto_region 1 with fail
  generalize ((w.alloc (.cells #[.int .i64 (BN : Int), .slice A T.length cap] 44)).alloc (.cells #[.int .u8 k, .int .i64 st, .int .i64 mb, .int .i64 fr] 26)).alloc (.cells #[.int .i64 0, .slice none 0 0] 44) = w0 at HG0 ⊢
  have HV0 := Lib.hid (HV.out.below HG0.out.bl)
  obtain ⟨_, y0, y1, _, _⟩ := HG0.out.c
  go_upto_region 5 with (go_at_call 36; (with_reducible refine (hC _ HV0.out).mono ?_); rintro e w1 ⟨rfl, hb1⟩; have HG1 := Lib.hid (HG0.out.below hb1); have HV1 := Lib.hid (HV0.out.below hb1); clear hb1 y0 y1; obtain ⟨_, y0, y1, _, _⟩ := HG1.out.c)
  clear d1 d2 d3
  obtain ⟨_, x0, x1, x2, x3, _⟩ := HG1.out.e
  dsimp only at x0 x1 x2 x3
  go_upto_region 7 with (go_at_call 14; (with_reducible refine (hX _).mono ?_); rintro e w2 ⟨rfl, hb2⟩; have HG2 := Lib.hid (HG1.out.below hb2); have HV2 := Lib.hid (HV1.out.below hb2); clear hb2 y0 y1 x0 x1 x2 x3; obtain ⟨_, y0, y1, _, _⟩ := HG2.out.c)
  go_upto_region 8 with (go_at_call 49; (with_reducible refine (hF _ HV2.out).mono ?_); rintro e w3 ⟨rfl, hrow, hb3⟩; have HG3 := Lib.hid (HG2.out.below hb3); have HROW := Lib.hid hrow; have HGE : Hid (w.heap.size + 2 < w2.heap.size + 1) := Lib.hid (by have := HG2.out.r.lt; omega); clear hb3 hrow y0 y1)
  generalize w2.heap.size + 1 = g at HROW HGE ⊢
  obtain ⟨_, x0, x1, x2, x3, _⟩ := HG3.out.e
  dsimp only at x0 x1 x2 x3
  have hat := HROW.out.2.1 b (by rw [HLN.out]; exact HBB.out)
  have hfz := HROW.out.2.2
  rw [HLN.out] at hfz
  have f0 := hfz (b * 4) (by omega); have f1 := hfz (b * 4 + 1) (by omega); have f2 := hfz (b * 4 + 2) (by omega); have f3 := hfz (b * 4 + 3) (by omega)
  obtain ⟨r0, r1, r2, r3⟩ := hat
  have HPUT := Lib.hid (HROW.out.put b (by rw [HLN.out]; exact HBB.out) ⟨k, st, mb, fr⟩)
  have hap := ap_putN w3 g (b * 4) ⟨k, st, mb, fr⟩
  have HG4 : Hid (SB w (putN w3 g (b * 4) ⟨k, st, mb, fr⟩) (BN : Int) (.slice A T.length cap) ⟨k, st, mb, fr⟩) := Lib.hid (by
    have h := HGE.out
    exact ⟨HG3.out.bl.trans (hap.below HG3.out.bl.size (fun q e => by omega)), HG3.out.c.ap hap (by omega), Bx.ap HG3.out.e hap (by omega), HG3.out.r.ap hap (by omega)⟩)
  have hES := HPUT.out.ents BN (by rw [HL2.out]; exact Nat.le_refl _) (by have := HBN.out; unfold maxLen; omega)
  rw [HL2.out] at hES
  have HES := Lib.hid hES
  unfold putN at HG4 HES
  dsimp only at HG4 HES
  clear hfz hap hES HPUT
  have hbn := HBB.out
  go_upto_region 9 with fail
  clear x0 x1 x2 x3 r0 r1 r2 r3 f0 f1 f2 f3
  generalize (((w3.setCell ⟨g, b * 4, none⟩ (.int .u8 k)).setCell ⟨g, b * 4 + 1, none⟩ (.int .i64 st)).setCell ⟨g, b * 4 + 2, none⟩ (.int .i64 mb)).setCell ⟨g, b * 4 + 3, none⟩ (.int .i64 fr) = w4 at HG4 HES ⊢
  go_wp2_with (go_at_call 53; (with_reducible refine (hO _ _ HES.out).mono ?_); rintro e w5 ⟨tv, us5, rfl, htv, hb5⟩; have HG5 := Lib.hid (HG4.out.below hb5); obtain ⟨A5, cap5, rfl⟩ := htv.tabs.form; have HTV := Lib.hid htv; clear hb5 htv; obtain ⟨_, z0, z1, f0, f1⟩ := HG5.out.r)
  obtain ⟨hB, y0, y1⟩ := HG5.out.ends (.int .i64 (BN : Int)) (.slice A5 (ofM E (F.set b ⟨k, st, mb, fr⟩)).length cap5)
  have hap : Ap (fun q => q = w.heap.size + 2) w5 ((w5.setCell ⟨w.heap.size + 2, 0, none⟩ (.int .i64 (BN : Int))).setCell ⟨w.heap.size + 2, 1, none⟩ (.slice A5 (ofM E (F.set b ⟨k, st, mb, fr⟩)).length cap5)) := (ap_put w5 (w.heap.size + 2) 0 _).trans (ap_put _ (w.heap.size + 2) 1 _)
  refine bodyPost_ret (v := .tuple #[.agg #[.int .i64 (BN : Int), .slice A5 (ofM E (F.set b ⟨k, st, mb, fr⟩)).length cap5], .int .i64 0]) (by simp [results, Try.results26, go_sem, y0, y1]) rfl ?_
  exact ⟨_, rfl, (HTV.out.ap hap (fun q e => by have := HG4.out.r.lt; omega)).tabs, hB⟩
theorem rchtSet_any (e B b : Int) (T : List TB) (v : Value) (x : EN) (w : World) (hv : TabsS w v T) :
    Calls Try.prog 26 #[.int .i64 e, .agg #[.int .i64 B, v], .int .i64 b, x.v] w fun e' w' => ∃ tv, e' = .returned (.tuple #[.agg #[.int .i64 (setC e ⟨B, T⟩ b x).blocks, tv], .int .i64 (setRE e ⟨B, T⟩ b x)]) ∧ TabsS w' tv (setC e ⟨B, T⟩ b x).tabs ∧ Below w.heap.size w w' := by
  unfold setC setRE setL
  dsimp only
  by_cases hok : okB e ⟨B, T⟩ = true
  · rw [if_pos hok, if_pos hok]
    by_cases hb : 0 ≤ b ∧ b < B
    · rw [if_pos hb]
      by_cases hx : EOk x
      · rw [if_pos (show setOk ⟨B, T⟩ b x from ⟨hb, hx⟩), if_pos hx]
        obtain ⟨E, BN, rfl, hBN, hc⟩ := cok_of hok
        dsimp only at hBN hc
        subst hBN
        obtain ⟨b', rfl⟩ : ∃ b' : Nat, b = (b' : Int) := ⟨b.toNat, by omega⟩
        dsimp only
        rw [Int.toNat_natCast, Int.toNat_natCast, Int.toNat_natCast]
        exact rchtSet_yes E BN b' T v x w hv hc hok (by omega) hx
      · rw [if_neg (show ¬ setOk ⟨B, T⟩ b x from fun h => hx h.2), if_neg hx]
        exact rchtSet_no e B b T v x w hv B T 2 (.inr ⟨hok, rfl, rfl, .inr ⟨hb, hx, rfl⟩⟩)
    · rw [if_neg (show ¬ setOk ⟨B, T⟩ b x from fun h => hb h.1), if_neg hb]
      exact rchtSet_no e B b T v x w hv B T 1 (.inr ⟨hok, rfl, rfl, .inl ⟨hb, rfl⟩⟩)
  · rw [if_neg hok, if_neg hok]
    exact rchtSet_no e B b T v x w hv 0 [] 2 (.inl ⟨by simpa using hok, rfl, rfl, rfl⟩)
end Go.Proofs.Ytjocdbacdbhemaa
