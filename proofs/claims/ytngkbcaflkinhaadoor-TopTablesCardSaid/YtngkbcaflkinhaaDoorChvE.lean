/- Charts: clone: a map in memory of its own, table by table. -/
import Derived.Test.YtngkbcaflkinhaaDoorChvCD
import Derived.Deep.DeepCutAuto
namespace Go.Proofs.YtngkbcaflkinhaaDoor
open Go.RowKit

/-- clone under way: the first j tables have entries of their own. -/
structure CI (w W : World) (b3 E : Nat) (b : Int) (v : Value) (T : List TB) (us : List Value) (D : List PT) (j : Nat) : Prop where
  bl : Below w.heap.size w W
  r : B2 W (w.heap.size + 1) (.int .i64 0) (.slice none 0 0)
  x : B2 W b3 (.int .i64 b) v
  dl : D.length = j
  df : D.map Prod.fst = T.take j
  own : W.ownsRow (w.heap.size + 2) 42 2 v T.length (pC (D ++ (T.zip us).drop j))
  row : ∀ p ∈ D, RowO W (w.heap.size + 2) E v.ownBlock p
  nd : D.Pairwise (fun p q => p.2.ownBlock ≠ q.2.ownBlock)
  ups : ∀ p ∈ D, ∀ g, p.2.ownBlock = some g → g < W.heap.size ∧ g ≠ b3
  hb3 : w.heap.size + 2 ≤ b3
  hbv : v.ownBlock ≠ some b3
theorem CI.below {w W W' : World} {b3 E j : Nat} {b : Int} {v : Value} {T : List TB} {us : List Value} {D : List PT} (k : CI w W b3 E b v T us D j) (h : Below W.heap.size W W') : CI w W' b3 E b v T us D j :=
  ⟨k.bl.trans (h.mono k.bl.size), k.r.below h, k.x.below h, k.dl, k.df, own_keepE k.own h, fun p hp => (k.row p hp).ap (S := fun _ => False) (Ap.of_below h) (fun _ h => h.elim), k.nd, fun p hp g hg => ⟨Nat.lt_of_lt_of_le (k.ups p hp g hg).1 h.size, (k.ups p hp g hg).2⟩, k.hb3, k.hbv⟩
/-- The next table has a clone. -/
theorem CI.next {w W : World} {b3 E j gv cap gn c : Nat} {b : Int} {T : List TB} {us : List Value} {D : List PT} (k : CI w W b3 E b (.slice (some ⟨gv, 0, none⟩) T.length cap) T us D j) (hl : us.length = T.length) (hj : j < T.length)
    (hlen : (T.getD j TB.zero).l.length = E) (h1 : RowE W gn (T.getD j TB.zero).l) (h2 : E ≤ c) (h3 : c ≤ maxLen) (h4 : w.heap.size + 2 ≤ gn) (h5 : gn ≠ gv) (h6 : gn ≠ b3) (h7 : ∀ p ∈ D, p.2.ownBlock ≠ some gn) :
    CI w (W.setCell ⟨gv, j * 2 + 1, none⟩ (.slice (some ⟨gn, 0, none⟩) E c)) b3 E b (.slice (some ⟨gv, 0, none⟩) T.length cap) T us (D ++ [(T.getD j TB.zero, .slice (some ⟨gn, 0, none⟩) E c)]) (j + 1) := by
  have hap := ap_put W gv (j * 2 + 1) (.slice (some ⟨gn, 0, none⟩) E c)
  have hgv : w.heap.size + 2 ≤ gv := (World.ownsRow.lt k.own gv rfl).1
  have hgb : gv ≠ b3 := fun e => k.hbv (by rw [e]; rfl)
  have hz : (T.zip us).length = T.length := by rw [List.length_zip, hl]; omega
  have hzj : (T.zip us).drop j = (T.getD j TB.zero, us.getD j (.slice none 0 0)) :: (T.zip us).drop (j + 1) := by
    rw [List.drop_eq_getElem_cons (by omega), List.getElem_zip, List.getD, List.getElem?_eq_getElem hj, List.getD, List.getElem?_eq_getElem (by omega)]; rfl
  refine ⟨k.bl.trans (hap.below k.bl.size (fun q e => by omega)), k.r.ap hap (by omega), k.x.ap hap (by omega), by rw [List.length_append, k.dl]; rfl, ?_, ?_, fun p hp => ?_, ?_, fun p hp g hg => ?_, k.hb3, k.hbv⟩
  · rw [List.map_append, k.df, take_snocT hj]; rfl
  · have h := (World.ownsRow.stored k.own (j * 2 + 1) (.slice (some ⟨gn, 0, none⟩) E c)).1
    have e : (pC (D ++ (T.zip us).drop j)).set (j * 2 + 1) (.slice (some ⟨gn, 0, none⟩) E c) = pC ((D ++ [(T.getD j TB.zero, .slice (some ⟨gn, 0, none⟩) E c)]) ++ (T.zip us).drop (j + 1)) := by
      have hD : (pC D).length = j * 2 := by rw [pC_len, k.dl]
      rw [hzj, pC_app, List.set_append_right _ _ (by omega), hD, List.append_assoc, pC_app]
      congr 1
      rw [show j * 2 + 1 - j * 2 = 1 by omega]
      rfl
    rw [← e]; exact h
  · rcases List.mem_append.1 hp with hp | hp
    · exact (k.row p hp).ap hap (fun q e => .inr (.inl (by rw [e]; rfl)))
    · rw [List.mem_singleton.1 hp]
      exact ⟨gn, c, rfl, h1.ap hap h5, hlen, h2, h3, h4, fun e => h5 (by injection e)⟩
  · rw [List.pairwise_append]
    refine ⟨k.nd, List.pairwise_singleton _ _, fun p hp q hq => ?_⟩
    rw [List.mem_singleton.1 hq]
    exact h7 p hp
  · rcases List.mem_append.1 hp with hp | hp
    · exact ⟨Nat.lt_of_lt_of_le (k.ups p hp g hg).1 hap.size, (k.ups p hp g hg).2⟩
    · rw [List.mem_singleton.1 hp] at hg
      have e : gn = g := by injection hg
      subst e
      exact ⟨Nat.lt_of_lt_of_le h1.1 hap.size, h6⟩
theorem CI.start {w W : World} {b3 E : Nat} {b : Int} {v : Value} {T : List TB} {us : List Value} (h1 : Below w.heap.size w W) (h2 : B2 W (w.heap.size + 1) (.int .i64 0) (.slice none 0 0)) (h3 : B2 W b3 (.int .i64 b) v) (h4 : W.ownsRow (w.heap.size + 2) 42 2 v T.length (tCells T us)) (h5 : w.heap.size + 2 ≤ b3) (h6 : v.ownBlock ≠ some b3) : CI w W b3 E b v T us [] 0 :=
  ⟨h1, h2, h3, rfl, rfl, by rw [pC_tc] at h4; exact h4, fun p hp => by (cases hp), List.Pairwise.nil, fun p hp => by (cases hp), h5, h6⟩
theorem CI.done {w W : World} {b3 E : Nat} {b : Int} {v : Value} {T : List TB} {us : List Value} {D : List PT} (k : CI w W b3 E b v T us D T.length) (hl : us.length = T.length) : PW W (w.heap.size + 2) W.heap.size E v D ∧ D.map Prod.fst = T := by
  have hz : (T.zip us).drop T.length = [] := List.drop_of_length_le (by rw [List.length_zip, hl]; omega)
  have ho := k.own
  rw [hz, List.append_nil] at ho
  refine ⟨⟨by rw [k.dl]; exact ho, k.row, k.nd, fun g hg => (World.ownsRow.lt ho g hg).2, fun p hp g hg => (k.ups p hp g hg).1⟩, ?_⟩
  rw [k.df, List.take_of_length_le (Nat.le_refl _)]
theorem CI.at {w W : World} {b3 E j gv cap : Nat} {b : Int} {T : List TB} {us : List Value} {D : List PT} (k : CI w W b3 E b (.slice (some ⟨gv, 0, none⟩) T.length cap) T us D j) (hl : us.length = T.length) (hj : j < T.length) :
    W.cell? ⟨gv, j * 2, none⟩ = some (.int .i64 (T.getD j TB.zero).at') ∧ W.cell? ⟨gv, j * 2 + 1, none⟩ = some (us.getD j (.slice none 0 0)) := by
  have hz : (T.zip us).length = T.length := by rw [List.length_zip, hl]; omega
  have hL : j < (D ++ (T.zip us).drop j).length := by rw [List.length_append, List.length_drop, k.dl]; omega
  have e : (D ++ (T.zip us).drop j).getD j PT.zero = (T.getD j TB.zero, us.getD j (.slice none 0 0)) := by
    rw [List.getD, List.getElem?_append_right (by rw [k.dl]; exact Nat.le_refl _), k.dl, Nat.sub_self, List.getElem?_drop, Nat.add_zero, List.getElem?_eq_getElem (by omega), List.getElem_zip, List.getD, List.getElem?_eq_getElem hj, List.getD, List.getElem?_eq_getElem (by omega)]; rfl
  obtain ⟨a1, a2⟩ := pC_at _ j hL
  rw [e] at a1 a2
  exact ⟨(World.ownsRow.cellAt k.own _ (by omega)).trans a1, (World.ownsRow.cellAt k.own _ (by omega)).trans a2⟩
theorem CI.more {w wr W : World} {b3 E j gv cap gn c B4 : Nat} {b : Int} {T : List TB} {us : List Value} {D : List PT} {l : List EN} (k0 : CI w wr b3 E b (.slice (some ⟨gv, 0, none⟩) T.length cap) T us D j) (k : CI w W b3 E b (.slice (some ⟨gv, 0, none⟩) T.length cap) T us D j) (hl : us.length = T.length) (hj : j < T.length)
    (hE : 1 ≤ E) (hlen : l.length = E) (hd : l = (T.getD j TB.zero).l) (ho : W.ownsRow B4 38 4 (.slice (some ⟨gn, 0, none⟩) E c) E (eCells l)) (hB : wr.heap.size ≤ B4) :
    CI w (W.setCell ⟨gv, j * 2 + 1, none⟩ (.slice (some ⟨gn, 0, none⟩) E c)) b3 E b (.slice (some ⟨gv, 0, none⟩) T.length cap) T us (D ++ [(T.getD j TB.zero, .slice (some ⟨gn, 0, none⟩) E c)]) (j + 1) := by
  subst hd
  obtain ⟨g', c', _, hv, _, _, h1, h2, _⟩ := own_split ho (by omega)
  injection hv with e1 _ e3
  injection e1 with e1
  injection e1 with e1 _ _
  subst e1 e3
  have hg := (World.ownsRow.lt ho gn rfl).1
  have hgv := (World.ownsRow.lt k0.own gv rfl).2
  have hgb := k0.x.lt
  have hrow : RowE W gn (T.getD j TB.zero).l := RowE.of_own (n := E) (c := c) (base := B4) (by rw [hlen]; exact ho) hlen.symm
  exact CI.next k hl hj hlen hrow h1 h2 (by have := k.hb3; omega) (by omega) (by omega) (fun p hp e => by have := (k0.ups p hp gn e).1; omega)
/-- The map's box is made behind the clone of its list. -/
theorem CI.late {w w1 w2 : World} {E : Nat} {b : Int} {A2 : Option Addr} {n2 cap2 : Nat} {T : List TB} {us : List Value} (HB0 : Below w.heap.size w w1) (HSZ : w1.heap.size = w.heap.size + 2) (HR1 : B2 w1 (w.heap.size + 1) (.int .i64 0) (.slice none 0 0))
    (HO2 : w2.ownsRow w1.heap.size 42 2 (.slice A2 n2 cap2) T.length (tCells T us)) (HB2 : Below w1.drew.heap.size w1.drew w2) : CI w (w2.alloc (.cells #[.int .i64 b, .slice A2 n2 cap2] 27)) w2.heap.size E b (.slice A2 n2 cap2) T us [] 0 := by
  have hd : Below w1.heap.size w1 w2 := ((Below.refl _ w1).drew).trans HB2
  have hsz := hd.size
  have hbw := below1 w2 (.cells #[.int .i64 b, .slice A2 n2 cap2] 27)
  have hbl : Below w.heap.size w w2 := HB0.trans (hd.mono HB0.size)
  exact CI.start (hbl.trans (hbw.mono hbl.size)) ((HR1.below hd).below hbw) (B2.new w2 _ _ _) (own_keepE (own_mono HO2 (Nat.le_of_eq HSZ.symm)) hbw) (by omega) (fun e => by have := (World.ownsRow.lt HO2 _ e).2; omega)
/-- The map's box is made ahead of it. -/
theorem CI.early {w w1 w2 : World} {E : Nat} {b : Int} {A2 : Option Addr} {n2 cap2 : Nat} {T : List TB} {us : List Value} (HB0 : Below w.heap.size w w1) (HSZ : w1.heap.size = w.heap.size + 2) (HR1 : B2 w1 (w.heap.size + 1) (.int .i64 0) (.slice none 0 0))
    (HX2 : B2 w2 w1.heap.size (.int .i64 0) (.slice none 0 0)) (HO2 : w2.ownsRow (w1.heap.size + 1) 42 2 (.slice A2 n2 cap2) T.length (tCells T us))
    (HB2 : Below (w1.alloc (.cells #[.int .i64 0, .slice none 0 0] 27)).drew.heap.size (w1.alloc (.cells #[.int .i64 0, .slice none 0 0] 27)).drew w2) :
    CI w ((w2.setCell ⟨w1.heap.size, 0, none⟩ (.int .i64 b)).setCell ⟨w1.heap.size, 1, none⟩ (.slice A2 n2 cap2)) w1.heap.size E b (.slice A2 n2 cap2) T us [] 0 := by
  have hap : Ap (fun q => q = w1.heap.size) w2 ((w2.setCell ⟨w1.heap.size, 0, none⟩ (.int .i64 b)).setCell ⟨w1.heap.size, 1, none⟩ (.slice A2 n2 cap2)) := (ap_put w2 w1.heap.size 0 (.int .i64 b)).trans (ap_put _ w1.heap.size 1 (.slice A2 n2 cap2))
  have h1 := below1 w1 (.cells #[.int .i64 0, .slice none 0 0] 27)
  have hd : Below w1.heap.size w1 w2 := (h1.drew).trans (HB2.mono h1.size)
  have hbl : Below w.heap.size w w2 := HB0.trans (hd.mono HB0.size)
  refine CI.start (hbl.trans (hap.below hbl.size (fun q e => by omega))) ((HR1.below hd).ap hap (by omega)) ⟨Nat.lt_of_lt_of_le HX2.lt hap.size, (cell_putne _ _ _ _ _ (by omega)).trans (cell_put HX2.c0 _), cell_put ((cell_putne _ _ _ _ _ (by omega)).trans HX2.c1) _, (World.frozen?_setCell _ _ _ _).trans ((World.frozen?_setCell _ _ _ _).trans HX2.f0), (World.frozen?_setCell _ _ _ _).trans ((World.frozen?_setCell _ _ _ _).trans HX2.f1)⟩ (own_ap (own_mono HO2 (by omega)) hap (fun g hg e => by have := (World.ownsRow.lt HO2 g hg).1; omega)) (by omega) (fun e => by have := (World.ownsRow.lt HO2 _ e).1; omega)
set_option maxRecDepth 100000 in
set_option maxHeartbeats 8000000 in
theorem clone_any (E : Nat) (b : Int) (T : List TB) (v : Value) (w : World) (hv : TabsS w v T) (hE : 1 ≤ E ∧ E ≤ 8192) (hT : T.length ≤ 65536) (hlen : ∀ j, j < T.length → (T.getD j TB.zero).l.length = E) :
    Calls Tryd.prog 17 #[.agg #[.int .i64 b, v]] w fun e w' => ∃ v' P, e = .returned (.agg #[.int .i64 b, v']) ∧ PW w' (w.heap.size + 2) w'.heap.size E v' P ∧ P.map Prod.fst = T ∧ Below w.heap.size w w' ∧ w.heap.size + 2 ≤ w'.heap.size := by
  obtain ⟨A, cap, us, rfl, hc1, hc2, hl, hn, hc, hlt, h1, hes⟩ := tabs_us hv
  have hCT : ∀ W, Below w.heap.size w W → Calls Tryd.prog 33 #[.slice A T.length cap] W fun e w' => ∃ v', e = .returned v' ∧ w'.ownsRow W.heap.size 42 2 v' T.length (tCells T us) ∧ Below W.heap.size W w' := fun W hW =>
    cloneT_any T us A cap W hT hn hl (fun j u hu ad had => by
      have h0 : T.length ≠ 0 := fun e => by
        have := (List.getElem?_eq_some_iff.1 hu).1
        rw [tCells_len _ _ hl, e] at this; omega
      have e2 : (ad.add j).block = ad.block := by unfold Addr.add; split <;> rfl
      exact (hW.cell (by rw [e2]; exact hlt ad had h0)).trans (hc j u hu ad had)) (fun ad had h0 => Nat.lt_of_lt_of_le (hlt ad had h0) hW.size) h1
  have HL := Lib.hid hl
  have HES := Lib.hid hes
  have HLEN := Lib.hid hlen
  have HE := Lib.hid hE
  have HB0 := Lib.hid ((below1 w (.cells #[.int .i64 b, .slice A T.length cap] 27)).alloc (by simp) (.cells #[.int .i64 0, .slice none 0 0] 27))
  have HG1 := Lib.hid ((B2.new w (.int .i64 b) (.slice A T.length cap) 27).below (below1 _ (.cells #[.int .i64 0, .slice none 0 0] 27)))
  have HR1 := Lib.hid (B2.new (w.alloc (.cells #[.int .i64 b, .slice A T.length cap] 27)) (.int .i64 0) (.slice none 0 0) 27)
  rw [World.size_alloc] at HR1
  have HTB := Lib.hid hT
  have HSZ : Hid (((w.alloc (.cells #[.int .i64 b, .slice A T.length cap] 27)).alloc (.cells #[.int .i64 0, .slice none 0 0] 27)).heap.size = w.heap.size + 2) := Lib.hid (by simp)
  clear hv hE hT hlen hl hn hc hlt h1 hes
  go_enter Tryd.func17, Tryd.ntmps17
  go_upto_region 1 with fail
  generalize (w.alloc (.cells #[.int .i64 b, .slice A T.length cap] 27)).alloc (.cells #[.int .i64 0, .slice none 0 0] 27) = w1 at HB0 HG1 HR1 HSZ ⊢
  obtain ⟨_, y0, y1, _, _⟩ := HG1.out
  have yd0 : w1.drew.cell? ⟨w.heap.size, 0, none⟩ = some (.int .i64 b) := y0
  have yd1 : w1.drew.cell? ⟨w.heap.size, 1, none⟩ = some (.slice A T.length cap) := y1
  have hC1 : Calls Tryd.prog 33 #[.slice A T.length cap] w1.drew fun e w' => (∃ v', e = .returned v' ∧ w'.ownsRow w1.heap.size 42 2 v' T.length (tCells T us) ∧ Below w1.drew.heap.size w1.drew w') ∧ B2 w' w.heap.size (.int .i64 b) (.slice A T.length cap) := by
    refine (hCT _ HB0.out.drew).mono ?_
    rintro e w' ⟨v', h1, h2, h3⟩
    exact ⟨⟨v', h1, h2, h3⟩, (HG1.out.below ((Below.refl _ _).drew)).below h3⟩
  have hC2 : Calls Tryd.prog 33 #[.slice A T.length cap] (w1.alloc (.cells #[.int .i64 0, .slice none 0 0] 27)).drew fun e w' => (∃ v', e = .returned v' ∧ w'.ownsRow (w1.heap.size + 1) 42 2 v' T.length (tCells T us) ∧ Below (w1.alloc (.cells #[.int .i64 0, .slice none 0 0] 27)).drew.heap.size (w1.alloc (.cells #[.int .i64 0, .slice none 0 0] 27)).drew w') ∧ B2 w' w1.heap.size (.int .i64 0) (.slice none 0 0) ∧ B2 w' w.heap.size (.int .i64 b) (.slice A T.length cap) := by
    refine (hCT _ (HB0.out.alloc HB0.out.size _).drew).mono ?_
    rintro e w' ⟨v', h1, h2, h3⟩
    have e9 : (w1.alloc (.cells #[.int .i64 0, .slice none 0 0] 27)).drew.heap.size = w1.heap.size + 1 := World.size_alloc _ _
    rw [e9] at h2
    exact ⟨⟨v', h1, h2, h3⟩, ((B2.new w1 _ _ _).below ((Below.refl _ _).drew)).below h3, ((HG1.out.below (below1 w1 _)).below ((Below.refl _ _).drew)).below h3⟩
  clear hCT
  go_cut [3] (fun s3 wx => ∃ (b3 : Nat) (v2 : Value), s3 = .pointer (some ⟨b3, 0, none⟩) ∧ CI w wx b3 E b v2 T us [] 0)
  case first =>
    go_region_with (first
      | (go_at_call 33; (with_reducible refine hC1.mono ?_); rintro e w2 ⟨⟨v2, rfl, ho2, hb2⟩, hg2⟩; (obtain ⟨A2, cap2, rfl, _⟩ := own_form ho2); have HG2 := Lib.hid hg2; (obtain ⟨_, x0, x1, _, _⟩ := hg2); have HO2 := Lib.hid ho2; have HB2 := Lib.hid hb2; clear ho2 hb2)
      | (go_at_call 33; (with_reducible refine hC2.mono ?_); rintro e w2 ⟨⟨v2, rfl, ho2, hb2⟩, hx2, hg2⟩; have HG2 := Lib.hid hg2; (obtain ⟨_, x0, x1, _, _⟩ := hg2); (obtain ⟨A2, cap2, rfl, _⟩ := own_form ho2); have HX2 := Lib.hid hx2; (obtain ⟨_, z0, z1, f0, f1⟩ := hx2); have HO2 := Lib.hid ho2; have HB2 := Lib.hid hb2; clear ho2 hb2))
    all_goals go_wp2_with fail
    all_goals go_meet
    all_goals first
      | exact ⟨w2.heap.size, _, rfl, CI.late HB0.out HSZ.out HR1.out HO2.out HB2.out⟩
      | exact ⟨w1.heap.size, _, rfl, CI.early HB0.out HSZ.out HR1.out HX2.out HO2.out HB2.out⟩
  case rest =>
    obtain ⟨b3, v2, rfl, hCI⟩ := hcut
    have HC0 := Lib.hid hCI
    obtain ⟨_, z0, z1, _, _⟩ := hCI.x
    obtain ⟨A2, cap2, rfl, hA2⟩ := own_form hCI.own
    have HA2 := Lib.hid hA2
    have HLB : Hid (T.length ≤ 65536) := HTB
    clear hCI hA2 hC1 hC2 yd0 yd1 y0 y1
    go_wp2
    clear z0 z1
    go_loopw [15] (fun ix wr => ∃ (j : Nat) (D : List PT), j ≤ T.length ∧ ix = .int .i64 (j : Int) ∧ CI w wr b3 E b (.slice A2 T.length cap2) T us D j) (fun ix _ => T.length - (intOf ix).toNat)
    case atStart => exact ⟨0, [], Nat.zero_le _, rfl, HC0.out⟩
    case round =>
      obtain ⟨j, D, hj, rfl, hCI⟩ := hrel
      have HCI := Lib.hid hCI
      clear hCI HC0
      by_cases hlt : j < T.length
      · obtain ⟨gv, rfl, hgv1, hgv2⟩ := HA2.out (by omega)
        obtain ⟨q0, q1⟩ := HCI.out.at HL.out hlt
        have HEj := Lib.hid ((HES.out j hlt).below HCI.out.bl (Nat.le_refl _))
        have HLj := Lib.hid (HLEN.out j hlt)
        have hdl : decide ((j : Int) < (T.length : Int)) = true := decide_eq_true (by omega)
        have hdl2 : decide (j < T.length) = true := decide_eq_true hlt
        have hw1 : Hid (wrap64 ((j : Int) + 1) = (j : Int) + 1) := Lib.hid (by have := HLB.out; unfold wrap64; omega)
        generalize hta : (T.getD j TB.zero).at' = ta at q0
        generalize us.getD j (.slice none 0 0) = u at q1 HEj
        clear hta
        obtain ⟨l, hl⟩ : ∃ l, l = (T.getD j TB.zero).l := ⟨_, rfl⟩
        rw [← hl] at HEj HLj
        have HLD := Lib.hid hl
        clear hl
        obtain ⟨ua, un, uc, rfl⟩ : ∃ ua un uc, u = .slice ua un uc := by obtain ⟨A', c', h, _⟩ := HEj.out; exact ⟨A', _, c', h⟩
        have HB3 := Lib.hid (below1 wr (.cells #[.int .i64 ta, .slice ua un uc] 42))
        have HX3 := Lib.hid (B2.new wr (.int .i64 ta) (.slice ua un uc) 42)
        have HWR : Hid (wr.heap.size = wr.heap.size) := Lib.hid rfl
        go_upto_region 5 with fail
        clear q0 q1
        have HC3 := Lib.hid (HCI.out.below HB3.out)
        have HE3 := Lib.hid (HEj.out.below HB3.out (Nat.le_refl _))
        generalize wr.alloc (.cells #[.int .i64 ta, .slice ua un uc] 42) = w3 at HB3 HX3 HC3 HE3 ⊢
        obtain ⟨_, y0, y1, _, _⟩ := HX3.out
        obtain ⟨_, x0, x1, _, _⟩ := HC3.out.x
        have yd1 : w3.drew.cell? ⟨wr.heap.size, 1, none⟩ = some (.slice ua un uc) := y1
        have xd1 : w3.drew.cell? ⟨b3, 1, none⟩ = some (.slice (some ⟨gv, 0, none⟩) T.length cap2) := x1
        have hCE := cloneE_any l (.slice ua un uc) w3.drew (HE3.out.below (Below.refl _ _).drew (Nat.le_refl _)) (by rw [HLj.out]; have := HE.out; omega)
        rw [HLj.out] at hCE
        go_region_with (go_at_call 34; (with_reducible refine hCE.mono ?_); rintro e w4 ⟨v4, rfl, ho4, hb4⟩; (obtain ⟨A4, cap4, rfl, hA4⟩ := own_form ho4); (obtain ⟨gn, rfl, _, _⟩ := hA4 (by have := HE.out; omega)); have HO4 := Lib.hid ho4; have HB4 := Lib.hid hb4; have HC4 := Lib.hid (HC3.out.below (((Below.refl _ w3).drew).trans hb4)); have HX4 := Lib.hid (HX3.out.below (((Below.refl _ w3).drew).trans hb4)); (obtain ⟨_, xx0, xx1, _, _⟩ := HC4.out.x); (obtain ⟨_, yy0, yy1, _, _⟩ := HX4.out); (have rr1 := (HC4.out.at HL.out hlt).2); have ff1 := World.ownsRow.frozenAt HC4.out.own (j * 2 + 1); clear ho4 hb4)
        all_goals clear y0 y1 x0 x1 yd1 xd1
        all_goals go_wp2
        all_goals have hww := hw1.out
        all_goals rw [hww]
        all_goals clear hww
        all_goals go_roundw
        all_goals first
          | (case rel => exact ⟨j + 1, _, by omega, by go_num, CI.more HCI.out HC4.out HL.out hlt HE.out.1 HLj.out HLD.out HO4.out HB3.out.size⟩)
          | (case measure => simp [intOf]; omega)
      · obtain rfl : j = T.length := by omega
        have hdl : decide ((T.length : Int) < (T.length : Int)) = false := decide_eq_false (by omega)
        have hdl2 : decide (T.length < T.length) = false := decide_eq_false (by omega)
        have HR := Lib.hid HCI.out.r
        obtain ⟨_, x0, x1, _, _⟩ := HCI.out.x
        obtain ⟨_, r0, r1, f0, f1⟩ := HCI.out.r
        obtain ⟨hpw, hmap⟩ := HCI.out.done HL.out
        have HPW := Lib.hid hpw
        clear hpw
        go_wp2
        have hap : Ap (fun q => q = w.heap.size + 1) wr ((wr.setCell ⟨w.heap.size + 1, 0, none⟩ (.int .i64 b)).setCell ⟨w.heap.size + 1, 1, none⟩ (.slice A2 T.length cap2)) := (ap_put wr (w.heap.size + 1) 0 _).trans (ap_put _ (w.heap.size + 1) 1 _)
        have z0' : ((wr.setCell ⟨w.heap.size + 1, 0, none⟩ (.int .i64 b)).setCell ⟨w.heap.size + 1, 1, none⟩ (.slice A2 T.length cap2)).cell? ⟨w.heap.size + 1, 0, none⟩ = some (.int .i64 b) := (cell_putne _ _ _ _ _ (by omega)).trans (cell_put r0 _)
        have z1' : ((wr.setCell ⟨w.heap.size + 1, 0, none⟩ (.int .i64 b)).setCell ⟨w.heap.size + 1, 1, none⟩ (.slice A2 T.length cap2)).cell? ⟨w.heap.size + 1, 1, none⟩ = some (.slice A2 T.length cap2) := cell_put ((cell_putne _ _ _ _ _ (by omega)).trans r1) _
        refine bodyPost_ret (v := .agg #[.int .i64 b, .slice A2 T.length cap2]) (by simp [results, Tryd.results17, go_sem, z0', z1']) rfl ?_
        refine ⟨_, D, rfl, ?_, hmap, HCI.out.bl.trans (hap.below HCI.out.bl.size (fun q e => by omega)), Nat.le_trans HCI.out.r.lt hap.size⟩
        exact (HPW.out.ap hap (fun q e => .inl (by omega))).upto hap.size
end Go.Proofs.YtngkbcaflkinhaaDoor

