/- Charts: All where the map is right: the walk. -/
import Derived.Test.YthhbaccbhfngbaaMb16
namespace Go.Proofs.Ythhbaccbhfngbaa
open Go.RowKit Go.Shelf
attribute [local go_sem] Oper.semAt_some

def fullL (E BN : Nat) (T : List TB) : List Nat := (List.range BN).filter (fun b => fullB (lookM E T b))
def blocksC (E BN : Nat) (T : List TB) : List Int := (fullL E BN T).map (fun b : Nat => (b : Int))
def entsC (E BN : Nat) (T : List TB) : List EN := (fullL E BN T).map (lookM E T)
theorem BL_done {E BN : Nat} {T : List TB} (h : COk E BN T) : BL E T (numF E T) = blocksC E BN T := by
  unfold BL blocksC fullL numF
  rw [List.take_of_length_le (Nat.le_refl _), ← told_list h, List.map_map]
  refine List.map_congr_left fun p hp => ?_
  have hp' : p ∈ frI true (fullQ E T) (fullQ E T).length := hp
  obtain ⟨a, _⟩ := frI_mem.1 hp'
  rw [fullQ_len] at a
  exact blkN_int h a
theorem EL_done {E BN : Nat} {T : List TB} (h : COk E BN T) : EL E T (numF E T) = entsC E BN T := by
  unfold EL entsC fullL numF
  rw [List.take_of_length_le (Nat.le_refl _), told_ents h]
theorem posF_lt {E : Nat} {T : List TB} {k : Nat} (hk : k < numF E T) : posF E T k < T.length * E := by
  have hlt : k < (fr true (fullQ E T)).length := hk
  have hm : posF E T k ∈ fr true (fullQ E T) := by
    unfold posF; rw [List.getD, List.getElem?_eq_getElem hlt]; exact List.getElem_mem _
  obtain ⟨h1, _⟩ := frI_mem.1 hm
  rw [fullQ_len] at h1
  exact h1
/-- Where the tables and the entries of a map that is only read lie. -/
structure LayAt (w : World) (E : Nat) (T : List TB) (A : Option Addr) (cap : Nat) (L : Lay) : Prop where
  hA : L.AT = A ∧ L.cap = cap
  hc : T.length ≤ L.cap ∧ L.cap ≤ maxLen
  hcc : ∀ j, j < T.length → E ≤ L.c j ∧ L.c j ≤ maxLen
  tb : T.length ≠ 0 → L.AT = some ⟨L.gt, L.ot, none⟩ ∧ L.gt < w.heap.size
  ce : ∀ j, j < T.length → w.cell? ⟨L.gt, L.ot + j * 2, none⟩ = some (.int .i64 (T.getD j TB.zero).at') ∧ w.cell? ⟨L.gt, L.ot + j * 2 + 1, none⟩ = some (.slice (some ⟨L.g j, L.o j, none⟩) E (L.c j))
  en : ∀ j, j < T.length → L.g j < w.heap.size ∧ ∀ i, i < E → EntAt w (L.g j) (L.o j + i * 4) ((T.getD j TB.zero).l.getD i EN.zero)
theorem lay_of {E BN : Nat} {T : List TB} {v : Value} {w : World} (hv : TabsS w v T) (hOK : COk E BN T) : ∃ A cap L, v = .slice A T.length cap ∧ LayAt w E T A cap L := by
  obtain ⟨A, cap, rfl, h1, h2, h3⟩ := hv
  rcases h3 with rfl | ⟨b, off, rfl, hb, hc⟩
  · exact ⟨A, cap, ⟨A, cap, 0, 0, fun _ => 0, fun _ => 0, fun _ => 0⟩, rfl, ⟨rfl, rfl⟩, ⟨h1, h2⟩, fun j hj => absurd hj (by simp), fun h => absurd rfl h, fun j hj => absurd hj (by simp), fun j hj => absurd hj (by simp)⟩
  · have hx : ∀ j, ∃ p : Nat × Nat × Nat, j < T.length → (E ≤ p.2.2 ∧ p.2.2 ≤ maxLen) ∧ w.cell? ⟨b, off + j * 2 + 1, none⟩ = some (.slice (some ⟨p.1, p.2.1, none⟩) E p.2.2) ∧ w.cell? ⟨b, off + j * 2, none⟩ = some (.int .i64 (T.getD j TB.zero).at') ∧ p.1 < w.heap.size ∧ ∀ i, i < E → EntAt w p.1 (p.2.1 + i * 4) ((T.getD j TB.zero).l.getD i EN.zero) := fun j => by
      by_cases hj : j < T.length
      · obtain ⟨u, c0, c1, A', cap', rfl, k1, k2, k3⟩ := hc j hj
        have hl := hOK.lens j hj
        have he := hOK.e1
        obtain ⟨g, o, rfl, hg, hcc⟩ := k3.resolve_left (by intro e; rw [e] at hl; simp at hl; omega)
        rw [hl] at c1 k1
        exact ⟨⟨g, o, cap'⟩, fun _ => ⟨⟨k1, k2⟩, c1, c0, hg, fun i hi => hcc i (by rw [hl]; exact hi)⟩⟩
      · exact ⟨⟨0, 0, 0⟩, fun h => absurd h hj⟩
    obtain ⟨f, hf⟩ := Classical.axiomOfChoice hx
    exact ⟨_, cap, ⟨_, cap, b, off, fun j => (f j).1, fun j => (f j).2.1, fun j => (f j).2.2⟩, rfl, ⟨rfl, rfl⟩, ⟨h1, h2⟩, fun j hj => (hf j hj).1, fun _ => ⟨rfl, hb⟩, fun j hj => ⟨(hf j hj).2.2.1, (hf j hj).2.1⟩, fun j hj => (hf j hj).2.2.2⟩
theorem LayAt.tr {w W : World} {E : Nat} {T : List TB} {A : Option Addr} {cap : Nat} {L : Lay} (h : LayAt w E T A cap L) (hb : Below w.heap.size w W) {bc be : Nat} (cb : W.cell? ⟨bc, 1, none⟩ = some (.slice A T.length cap)) (eb : W.cell? ⟨be, 0, none⟩ = some (.int .i64 (E : Int))) (k : Nat) : TR W E T bc be L k := by
  refine ⟨by rw [h.hA.1, h.hA.2]; exact cb, eb, fun hn => (h.tb hn).1, fun j hj => ?_, fun j hj i hi _ => ?_⟩
  · have hg := (h.tb (by omega)).2
    obtain ⟨c0, c1⟩ := h.ce j hj
    exact ⟨(hb.cell (p := ⟨_, _, none⟩) hg).trans c0, (hb.cell (p := ⟨_, _, none⟩) hg).trans c1⟩
  · obtain ⟨hg, he⟩ := h.en j hj
    exact (he i hi).below hb hg
theorem LayAt.at {w W : World} {E : Nat} {T : List TB} {A : Option Addr} {cap : Nat} {L : Lay} (h : LayAt w E T A cap L) (hE : 1 ≤ E) (hb : Below w.heap.size w W) {p : Nat} (hp : p < T.length * E) : L.g (p / E) < w.heap.size ∧ EntAt W (L.g (p / E)) (L.o (p / E) + (p % E) * 4) (entF E T p) := by
  obtain ⟨hg, he⟩ := h.en (p / E) ((Nat.div_lt_iff_lt_mul hE).2 hp)
  exact ⟨hg, (he _ (Nat.mod_lt p hE)).below hb hg⟩
theorem AI.start {w5 : World} {b8 b9 : Nat} (h8 : Boxed w5 b8 29 (.slice none 0 0)) (h9 : Boxed w5 b9 45 (.slice none 0 0)) (hn : b8 < b9) : AI w5 w5 b8 b9 [] [] [] :=
  ⟨Ap.refl _, hn, KX.nil _ _, ⟨_, h8, World.ownsRow_nil _ _ _ _, fun _ h => (by cases h), h8.lt⟩, ⟨_, h9, World.ownsRow_nil _ _ _ _, fun _ h => (by cases h), h9.lt⟩⟩
/-- What is read in a round beside the rows. -/
structure AR (w w5 : World) (b8 b9 bc be : Nat) (BN : Int) (E : Nat) (v : Value) : Prop where
  bl : Below w.heap.size w w5
  hb : w.heap.size ≤ b8 ∧ b8 < b9 ∧ b9 < be ∧ be < w5.heap.size ∧ b9 < bc ∧ bc < w5.heap.size
  cb : w5.cell? ⟨bc, 1, none⟩ = some v
  eb : w5.cell? ⟨be, 0, none⟩ = some (.int .i64 (E : Int))
theorem AR.low {w w5 W : World} {b8 b9 bc be : Nat} {BN : Int} {E : Nat} {v : Value} (h : AR w w5 b8 b9 bc be BN E v) (a : Ap (fun q => q = b8 ∨ q = b9) w5 W) : Below w.heap.size w W ∧ W.cell? ⟨bc, 1, none⟩ = some v ∧ W.cell? ⟨be, 0, none⟩ = some (.int .i64 (E : Int)) := by
  obtain ⟨h1, h2, h3, h4, h5, h6⟩ := h.hb
  exact ⟨h.bl.trans (a.below h.bl.size (fun q e => by omega)), (a.cell h6 (by omega) _).trans h.cb, (a.cell h4 (by omega) _).trans h.eb⟩
theorem AR.start {w w4 : World} {b8 b9 : Nat} {BN : Int} {E : Nat} {v : Value} (h : Below w.heap.size w w4) (h1 : w.heap.size ≤ b8) (h2 : b8 < b9) (h3 : b9 < w4.heap.size) : AR w ((w4.alloc (.cells #[.int .i64 (E : Int)] 3)).alloc (.cells #[.int .i64 BN, v] 44)) b8 b9 (w4.heap.size + 1) w4.heap.size BN E v := by
  have hs := h.size
  have k1 : (w4.alloc (.cells #[.int .i64 (E : Int)] 3)).cell? ⟨w4.heap.size, 0, none⟩ = some (.int .i64 (E : Int)) := (cell_of_row _ _ 0 #[.int .i64 (E : Int)] _ (0, 0) (heap_alloc_new w4 _)).trans rfl
  have k2 := (B2.new (w4.alloc (.cells #[.int .i64 (E : Int)] 3)) (.int .i64 BN) v 44).c1
  rw [World.size_alloc] at k2
  have hb := below1 (w4.alloc (.cells #[.int .i64 (E : Int)] 3)) (.cells #[.int .i64 BN, v] 44)
  have k3 := (hb.cell (p := ⟨w4.heap.size, 0, none⟩) (by show w4.heap.size < _; simp)).trans k1
  exact ⟨(h.alloc hs _).alloc (by simp; omega) _, ⟨h1, h2, h3, by simp; omega, by omega, by simp⟩, k2, k3⟩
set_option maxRecDepth 100000 in
set_option maxHeartbeats 16000000 in
theorem chtAll_yesO (E BN : Nat) (T : List TB) (v : Value) (w : World) (hv : TabsS w v T) (hOK : COk E BN T) (hok : okB (E : Int) ⟨(BN : Int), T⟩ = true) :
    Calls Try.prog 22 #[.int .i64 (E : Int), .agg #[.int .i64 (BN : Int), v]] w fun e' w' => ∃ a b, e' = .returned (.tuple #[a, b, .int .i64 0]) ∧ IdxS w' a (blocksC E BN T) ∧ w'.ownsRow w.heap.size 50 4 b (entsC E BN T).length (eCells (entsC E BN T)) ∧ Below w.heap.size w w' := by
  refine (callsIn_wide (n := 12)).1 ?_
  have hf0 : Fence.wide.fn 22 := trivial
  have hf1 : Fence.wide.fn 33 := trivial
  have hf4 : Fence.wide.fn 34 := trivial
  have hC := fun W h => chtCheck_any (E : Int) (BN : Int) T v W h
  unfold chtE at hC
  rw [hok, if_pos rfl] at hC
  have hC' := fun W h j => (callsIn_wide (n := j)).2 (hC W h)
  have HOK := Lib.hid hOK
  obtain ⟨A, cap, L, hvv, hL⟩ := lay_of hv hOK
  subst hvv
  have HL := Lib.hid hL
  have HB0 := Lib.hid (below1 w (.cells #[.int .i64 (BN : Int), .slice A T.length cap] 44))
  have HX0 := Lib.hid (B2.new w (.int .i64 (BN : Int)) (.slice A T.length cap) 44)
  have HV0 := Lib.hid (hv.below HB0.out)
  clear hv hOK hok hC hL
  refine callsIn_of_wp_marks Try.func22 rfl hf0 ?_ rfl
  simp only [Try.ntmps22, List.size_toArray, List.length_cons, List.length_nil, Nat.reduceAdd, Nat.reduceSub, Array.replicate_succ, Array.replicate_zero, List.push_toArray, List.append_toArray, List.nil_append, List.cons_append]
  gi_wp2_with (gi_at_call 33; refine (hC' _ HV0.out _).mono ?_; rintro e w1 ⟨rfl, hb1⟩; have HB1 := Lib.hid (HB0.out.trans (hb1.mono (by simp))); have HX1 := Lib.hid (HX0.out.below hb1); have HS1 : Hid (w.heap.size + 1 ≤ w1.heap.size) := Lib.hid (by have := hb1.size; simpa using this); clear hb1; have HX2 := Lib.hid ((HX1.out.below (below1 w1 (.cells #[.slice none 0 0] 29))).below (below1 _ (.cells #[.slice none 0 0] 45))); (obtain ⟨_, y0, y1, _, _⟩ := HX1.out); (obtain ⟨_, x0, x1, _, _⟩ := HX2.out))
  have hs1 := HS1.out
  have H8 := Lib.hid ((Boxed.new w1 29 (.slice none 0 0)).alloc (.cells #[.slice none 0 0] 45))
  have h9 := Boxed.new (w1.alloc (.cells #[.slice none 0 0] 29)) 45 (.slice none 0 0)
  rw [World.size_alloc] at h9
  have H9 := Lib.hid h9
  have HB4 := Lib.hid ((HB1.out.trans ((below1 w1 (.cells #[.slice none 0 0] 29)).mono HB1.out.size)).trans ((below1 _ (.cells #[.slice none 0 0] 45)).mono (by have := HB1.out.size; simp; omega)))
  have HS4 : Hid (((w1.alloc (.cells #[.slice none 0 0] 29)).alloc (.cells #[.slice none 0 0] 45)).heap.size = w1.heap.size + 2) := Lib.hid (by simp)
  clear h9 y0 y1 HX1 HX2 HX0 HV0 HB0 HB1 hs1
  generalize (w1.alloc (.cells #[.slice none 0 0] 29)).alloc (.cells #[.slice none 0 0] 45) = w4 at H8 H9 HB4 HS4 x0 x1 ⊢
  have HN8 : Hid (w.heap.size ≤ w1.heap.size ∧ w1.heap.size < w1.heap.size + 1 ∧ w1.heap.size + 1 < w4.heap.size) := Lib.hid (by have := HS1.out; have := HS4.out; omega)
  clear HS1 HS4
  generalize w1.heap.size + 1 = b9 at H9 HN8 ⊢
  generalize w1.heap.size = b8 at H8 HN8 ⊢
  refine ((callsIn_wide (n := _)).2 (told_any E (BN : Int) (.slice A T.length cap) w4 ⟨_, _, _, rfl⟩)).mono ?_
  rintro e w5 ⟨rfl, hw5⟩
  have H85 := Lib.hid ((H8.out.alloc (.cells #[.int .i64 (E : Int)] 3)).alloc (.cells #[.int .i64 (BN : Int), .slice A T.length cap] 44))
  have H95 := Lib.hid ((H9.out.alloc (.cells #[.int .i64 (E : Int)] 3)).alloc (.cells #[.int .i64 (BN : Int), .slice A T.length cap] 44))
  have HAR := Lib.hid (AR.start (E := E) (BN := (BN : Int)) (v := .slice A T.length cap) HB4.out HN8.out.1 HN8.out.2.1 HN8.out.2.2)
  rw [← hw5] at H85 H95 HAR
  have HW5 := Lib.hid hw5
  clear hw5 x0 x1
  gi_wp2
  have HTL := told_tells 11 (by omega) E BN T (w4.heap.size + 1) w4.heap.size L HOK.out HL.out.hc HL.out.hcc w5
  have HLO := Lib.hid (fun (W : World) (a : Ap (fun q => q = b8 ∨ q = b9) w5 W) => HAR.out.low a)
  refine wpIn_range_ox rfl (by omega) (gf := 45) (lb := #[.pointer (some ⟨w4.heap.size + 1, 0, none⟩), .pointer (some ⟨w4.heap.size, 0, none⟩)]) (by simp [go_sem]) trivial (enters_of Try.func45 (by kernel_rfl) rfl) (encs := encsF E T L.g L.o) (fun _ => rfl) HTL
    (fun X k W => AI w5 W b8 b9 X (BL E T k) (EL E T k))
    (fun X k W W' row hs hg hr => hs.own hg hr)
    (fun X k A' o hs ho hsz => hs.add ho)
    (fun X k A' b o hs hm => (hs.kx _ hm).2.2)
    (fun X k A' hs => by obtain ⟨h1, h2, h3⟩ := HLO.out _ hs.ap; exact HL.out.tr h1 h2 h3 k)
    (AI.start H85.out H95.out HN8.out.2.1) ?a1 ?assign ?body ?done
  case assign =>
    intro l k W K hK
    unfold encsF
    gi_wp2
    exact hK
  case body =>
    rintro l X k W hAI hk hsz
    have hg := (HL.out.at HOK.out.e1 (HLO.out _ hAI.ap).1 (posF_lt hk)).1
    have HENT : Hid (∀ W', Ap (fun q => q = b8 ∨ q = b9) w5 W' → EntAt W' (L.g (posF E T k / E)) (L.o (posF E T k / E) + posF E T k % E * 4) (entF E T (posF E T k))) := Lib.hid (fun W' a => (HL.out.at HOK.out.e1 (HLO.out _ a).1 (posF_lt hk)).2)
    have hkl := numF_le E T
    have HLE : Hid (k < 65536 * 8192) := Lib.hid (by have := HOK.out.len; have := HOK.out.e2; have : T.length * E ≤ 65536 * 8192 := Nat.mul_le_mul ‹_› ‹_›; omega)
    have HK1 := Lib.hid (BL_succ hk)
    have HK2 := Lib.hid (EL_succ hk)
    have hl1 := BL_len (E := E) (T := T) (Nat.le_of_lt hk)
    have hl2 := EL_len (E := E) (T := T) (Nat.le_of_lt hk)
    obtain ⟨K, hK⟩ : ∃ K, K = BL E T k := ⟨_, rfl⟩
    obtain ⟨M, hM⟩ : ∃ M, M = EL E T k := ⟨_, rfl⟩
    rw [← hK] at HK1 hl1 hAI
    rw [← hM] at HK2 hl2 hAI
    clear hK hM hkl hsz
    have HGL := Lib.hid (Nat.lt_of_lt_of_le hg (Nat.le_trans HN8.out.1 (Nat.le_refl _)))
    clear hg
    generalize blkF E T (posF E T k) = bb at HK1 ⊢
    generalize L.g (posF E T k / E) = g at HGL HENT ⊢
    generalize L.o (posF E T k / E) + posF E T k % E * 4 = o at HENT ⊢
    generalize entF E T (posF E T k) = en at HK2 HENT
    obtain ⟨u8, hu8⟩ := hAI.r8
    obtain ⟨ao, c8, rfl, _⟩ := own_form hu8.own
    have HU8 := Lib.hid hu8
    have HAI := Lib.hid hAI
    have hc0 := hu8.bx.cell
    have HSW : Hid (w5.heap.size ≤ W.heap.size) := Lib.hid hAI.ap.size
    obtain ⟨i0, hi, hz0, hz1, hz2⟩ := info_parts infoIn
    clear hu8 hAI
    have HL1 := Lib.hid hl1
    have HL2 := Lib.hid hl2
    clear hl1 hl2
    gi_wp2_with (gi_at_builtin; refine wpListIn_append_own_at _ rfl _ _ 29 rfl w5.heap.size 3 i0 _ 1 8 Try.underlying29 hi hz0 hz1 hz2 rfl (by decide) _ _ _ rfl (HU8.out.own.alloc _) ⟨W.heap.size, 0, none⟩ 1 1 [.int .i64 bb] rfl rfl (one_cell W bb _) (fun u hu => by simp only [List.mem_cons, List.not_mem_nil, or_false] at hu; rcases hu with rfl; rfl) (by have := HLE.out; have := HL1.out; unfold maxLen; omega) (by have := HLE.out; have := HL1.out; omega) (by have := HSW.out; simp; omega) ?_; intro v' w1' hown' hgrow _ hob; obtain ⟨g', cap', rfl⟩ := ownsRow_succ hown'; have HAP := Lib.hid (HAI.out.app8 HU8.out hown' hgrow hob); have hm := HU8.out.mid hgrow; have hc1 := hm.cell; have hf1 := hm.frozen; clear hown' hgrow hob hm)
    clear hc0 hc1 hf1 HU8 HAI i0 hi hz0 hz1 hz2
    rename_i hiff
    clear hiff
    generalize w1'.setCell ⟨b8, 0, none⟩ (.slice (some ⟨g', 0, none⟩) (K.length + 1) cap') = W2 at HAP ⊢
    have HAD := Lib.hid HAP.out.1.drew
    have HKP : Hid (KeepsFrom w5.heap.size W W2.drew) := Lib.hid (HAP.out.2.trans ((KeepsOthers.drew W2).from _))
    clear HAP
    refine wpIn_region_any (by kernel_rfl) ?_
    refine wpAnyIn_round (by rfl) _ _ _ _ ?_
    change wpAnyIn _ _ _ _ _ _ _ _ _ W2.drew
    generalize W2.drew = Wd at HAD HKP ⊢
    obtain ⟨u9, hu9⟩ := HAD.out.r9
    obtain ⟨ao9, c9, rfl, _⟩ := own_form hu9.own
    have HU9 := Lib.hid hu9
    have d0 := hu9.bx.cell
    have dl := hu9.bx.lt
    obtain ⟨q0, q1, q2, q3⟩ := HENT.out Wd HAD.out.ap
    have HSD : Hid (w5.heap.size ≤ Wd.heap.size) := Lib.hid HAD.out.ap.size
    obtain ⟨i9, hi, hz0, hz1, hz2⟩ := entInfo'
    obtain ⟨kk, st, mb, fr'x⟩ := en
    dsimp only at q0 q1 q2 q3
    have d1 := (hu9.bx.alloc (.cells #[.int .u8 kk, .int .i64 st, .int .i64 mb, .int .i64 fr'x] 50)).cell
    clear hu9
    refine wpAnyIn_take (i := 1) (v := ?_) rfl rfl (by kernel_rfl) (by kernel_rfl) (by kernel_rfl) (fun _ _ _ h => h) ⟨Or.inl ⟨by rfl, ?_⟩, fun _ => rfl⟩ ?_
    rotate_left
    · (intro w; go_simp; first | done | with_reducible rfl)
    simp only [List.getElem_toArray, List.getElem_cons_succ, List.getElem_cons_zero, Act.put, List.setIfInBounds_toArray, List.set_cons_zero, List.set_cons_succ]
    refine wpAnyIn_take (i := 2) (v := ?_) rfl rfl (by kernel_rfl) (by kernel_rfl) (by kernel_rfl) (fun _ _ _ h => h) ⟨Or.inl ⟨by rfl, ?_⟩, fun _ => rfl⟩ ?_
    rotate_left
    · (intro w; go_simp; first | done | with_reducible rfl)
    simp only [List.getElem_toArray, List.getElem_cons_succ, List.getElem_cons_zero, Act.put, List.setIfInBounds_toArray, List.set_cons_zero, List.set_cons_succ]
    refine wpAnyIn_ready (rs := [0, 3]) (by kernel_rfl) (by simp) ?_
    refine AllReadyIn.cons rfl (fun K hK => ?p1) (AllReadyIn.cons rfl (fun K hK => ?p2) AllReadyIn.nil)
    case' p1 =>
      go_simp
      refine hK _ _ ?_
      clear hK K
      refine wpAnyIn_ready (rs := [3]) (by kernel_rfl) (by simp) ?_
      refine AllReadyIn.cons rfl (fun K hK => ?_) AllReadyIn.nil
      go_simp
      refine hK _ _ ?_
      clear hK K
      refine wpAnyIn_ready (rs := [4]) (by kernel_rfl) (by simp) ?_
      refine AllReadyIn.cons rfl (fun K hK => ?_) AllReadyIn.nil
      go_simp
      refine hK _ _ ?_
      clear hK K
    case' p2 =>
      go_simp
      refine hK _ _ ?_
      clear hK K
      refine wpAnyIn_ready (rs := [0, 4]) (by kernel_rfl) (by simp) ?_
      refine AllReadyIn.cons rfl (fun K hK => ?p3) (AllReadyIn.cons rfl (fun K hK => ?p4) AllReadyIn.nil)
    case' p3 =>
      go_simp
      refine hK _ _ ?_
      clear hK K
      refine wpAnyIn_ready (rs := [4]) (by kernel_rfl) (by simp) ?_
      refine AllReadyIn.cons rfl (fun K hK => ?_) AllReadyIn.nil
      go_simp
      refine hK _ _ ?_
      clear hK K
    case' p4 =>
      go_simp
      refine hK _ _ ?_
      clear hK K
      refine wpAnyIn_ready (rs := [0]) (by kernel_rfl) (by simp) ?_
      refine AllReadyIn.cons rfl (fun K hK => ?_) AllReadyIn.nil
      go_simp
      refine hK _ _ ?_
      clear hK K
    all_goals refine wpAnyIn_ready (rs := [5]) (by kernel_rfl) (by simp) ?_
    all_goals refine AllReadyIn.cons rfl (fun K' hK' => ?_) AllReadyIn.nil
    all_goals
      refine opIn_append_own_at _ rfl (.tmp 27) (.tmp 31) 45 rfl w5.heap.size 50 i9 _ 4 32 Try.underlying45 hi hz0 hz1 hz2 rfl (by decide) _ _ _ rfl (HU9.out.own.alloc _) ⟨Wd.heap.size, 0, none⟩ 1 1 [.int .u8 kk, .int .i64 st, .int .i64 mb, .int .i64 fr'x] rfl rfl (new_cells4 Wd _ _ _ _ _) (ent_one ⟨kk, st, mb, fr'x⟩) (by have := HLE.out; have := HL2.out; unfold maxLen; omega) (by have := HLE.out; have := HL2.out; omega) (by have := HSD.out; simp; omega) ?_
      intro v2 w2 hown' hgrow hob
      refine hK' _ _ ?_
      clear hK' K'
      obtain ⟨g2, cap2, rfl⟩ := ownsRow_succ hown'
      have HAP := Lib.hid (HAD.out.app9 (x := ⟨kk, st, mb, fr'x⟩) HU9.out hown' hgrow hob)
      have hm := HU9.out.mid hgrow
      have hc1 := hm.cell
      have hf1 := hm.frozen
      clear hown' hgrow hob hm d0 d1 q0 q1 q2 q3
      simp only [List.getElem_toArray, List.getElem_cons_succ, List.getElem_cons_zero, Act.put, List.setIfInBounds_toArray, List.set_cons_zero, List.set_cons_succ]
      refine wpAnyIn_ready (rs := [6]) (by kernel_rfl) (by simp) ?_
      refine AllReadyIn.cons rfl (fun K hK => ?_) AllReadyIn.nil
      go_simp
      refine hK _ _ ?_
      clear hK K
      refine wpAnyIn_done (by kernel_rfl) ?_ _
      refine (⟨HKP.out.trans HAP.out.2, ?_⟩ : KeepsFrom _ _ _ ∧ AI _ _ _ _ _ _ _)
      rw [HK1.out, HK2.out]
      exact HAP.out.1
  case done =>
    rintro D X W hD hAI hK
    have hlo := HLO.out _ hAI.ap
    obtain ⟨u8, hu8⟩ := hAI.r8
    obtain ⟨ao8, c8, rfl, _⟩ := own_form hu8.own
    obtain ⟨u9, hu9⟩ := hAI.r9
    obtain ⟨ao9, c9, rfl, _⟩ := own_form hu9.own
    have e8 := hu8.bx.cell
    have e9 := hu9.bx.cell
    have HU8 := Lib.hid hu8
    have HU9 := Lib.hid hu9
    have HBW := Lib.hid hlo.1
    have HKD := Lib.hid hK
    have HDD : Hid (w.heap.size ≤ D) := Lib.hid (Nat.le_trans HAR.out.bl.size hD)
    have H1 := Lib.hid (BL_done HOK.out)
    have H2 := Lib.hid (EL_done HOK.out)
    clear hAI hlo hu8 hu9 hK hD
    have ne : Nonempty (Wk (fun X => X = W.drew)) := ⟨⟨_, rfl⟩⟩
    have z8 : ∀ p : Wk (fun X => X = W.drew), p.W.cell? ⟨b8, 0, none⟩ = some (.slice ao8 (BL E T (numF E T)).length c8) := fun p => by rw [p.h]; exact e8
    have z9 : ∀ p : Wk (fun X => X = W.drew), p.W.cell? ⟨b9, 0, none⟩ = some (.slice ao9 (EL E T (numF E T)).length c9) := fun p => by rw [p.h]; exact e9
    clear e8 e9
    gi_wp2_with fail
    refine wpIn_region_wk (fun X => X = W.drew) (by kernel_rfl) (by kernel_rfl) rfl ?_
    repeat (refine wpQuiet_step (fun K hK => ?_); go_simp; (refine hK _ ?_; clear hK K))
    refine wpQuiet_nil ?_
    rintro ⟨_, rfl⟩
    clear z8 z9 ne
    gi_wp2
    refine ⟨by simp, .inl ⟨_, _, rfl, run_takeDeferred HKD.out, ?_⟩⟩
    have hbW : Below w.heap.size w (W.drew.putObj D (.deferred none)) := (HBW.out.drew).grown (grownBy_putObj' _ D _) HBW.out.size (fun r e => by cases e; exact HDD.out)
    refine ⟨.tuple #[.slice ao8 (BL E T (numF E T)).length c8, .slice ao9 (EL E T (numF E T)).length c9, .int .i64 0], ?_, _, _, rfl, ?_, ?_, hbW⟩
    · simp [results, Try.f22, go_sem]
    · rw [← H1.out]
      exact idxS_of (ownsRow_putObj HU8.out.own.drew _ HKD.out rfl)
    · rw [← H2.out]
      exact own_mono (ownsRow_putObj HU9.out.own.drew _ HKD.out rfl) HAR.out.bl.size
theorem chtAll_yes (E BN : Nat) (T : List TB) (v : Value) (w : World) (hv : TabsS w v T) (hOK : COk E BN T) (hok : okB (E : Int) ⟨(BN : Int), T⟩ = true) :
    Calls Try.prog 22 #[.int .i64 (E : Int), .agg #[.int .i64 (BN : Int), v]] w fun e' w' => ∃ a b, e' = .returned (.tuple #[a, b, .int .i64 0]) ∧ IdxS w' a (blocksC E BN T) ∧ EntsS w' b (entsC E BN T) ∧ Below w.heap.size w w' :=
  (chtAll_yesO E BN T v w hv hOK hok).mono fun _ _ ⟨a, b, h1, h2, h3, h4⟩ => ⟨a, b, h1, h2, EntsS.of_own h3, h4⟩
end Go.Proofs.Ythhbaccbhfngbaa
