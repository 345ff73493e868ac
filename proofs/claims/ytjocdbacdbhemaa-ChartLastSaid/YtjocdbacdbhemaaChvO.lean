/- Charts: Resize where it changes: the walk. -/
import Derived.Test.YtjocdbacdbhemaaChvSU
import Derived.Test.YtjocdbacdbhemaaChvIJ
import Derived.RangeFuncBox
import Derived.OwnWalkIn
namespace Go.Proofs.Ytjocdbacdbhemaa
open Go.RowKit Go.Shelf
attribute [local go_sem] Oper.semAt_some

/-- The boxes of Resize. -/
structure RB (w W : World) (BN : Int) (v : Value) (nb : Int) : Prop where
  bl : Below w.heap.size w W
  c : B2 W w.heap.size (.int .i64 BN) v
  i : W.cell? ⟨w.heap.size + 1, 0, none⟩ = some (.int .i64 nb)
  r : B2 W (w.heap.size + 2) (.int .i64 0) (.slice none 0 0)
theorem RB.ap {S : Nat → Prop} {w W W' : World} {BN nb : Int} {v : Value} (k : RB w W BN v nb) (a : Ap S W W') (hS : ∀ q, S q → w.heap.size + 2 < q) : RB w W' BN v nb := by
  have hr := k.r.lt
  exact ⟨k.bl.trans (a.below k.bl.size (fun q e => by have := hS q e; omega)), k.c.ap a (fun e => by have := hS _ e; omega), (a.cell (by omega) (fun e => by have := hS _ e; omega) _).trans k.i, k.r.ap a (fun e => by have := hS _ e; omega)⟩
theorem RB.below {w W W' : World} {BN nb : Int} {v : Value} (k : RB w W BN v nb) (h : Below W.heap.size W W') : RB w W' BN v nb := k.ap (S := fun _ => False) (Ap.of_below h) (fun _ h => h.elim)
theorem RB.new (w : World) (BN : Int) (v : Value) (nb : Int) : RB w (((w.alloc (.cells #[.int .i64 BN, v] 44)).alloc (.cells #[.int .i64 nb] 3)).alloc (.cells #[.int .i64 0, .slice none 0 0] 44)) BN v nb := by
  generalize ha : w.alloc (.cells #[.int .i64 BN, v] 44) = wa
  have sa : wa.heap.size = w.heap.size + 1 := by rw [← ha]; simp
  have h0 : B2 wa w.heap.size (.int .i64 BN) v := by rw [← ha]; exact B2.new w _ _ _
  have hba : Below w.heap.size w wa := by rw [← ha]; exact below1 _ _
  generalize hb : wa.alloc (.cells #[.int .i64 nb] 3) = wb
  have sb : wb.heap.size = w.heap.size + 2 := by rw [← hb]; simp [sa]
  have hbb : Below wa.heap.size wa wb := by rw [← hb]; exact below1 _ _
  have h1 : wb.cell? ⟨wa.heap.size, 0, none⟩ = some (.int .i64 nb) := by rw [← hb]; exact (cell_of_row _ _ 0 #[.int .i64 nb] _ (0, 0) (heap_alloc_new wa _)).trans rfl
  have h2 := B2.new wb (.int .i64 0) (.slice none 0 0) 44
  have hbc : Below wb.heap.size wb (wb.alloc (.cells #[.int .i64 0, .slice none 0 0] 44)) := below1 _ _
  rw [sa] at h1
  rw [sb] at h2
  exact ⟨(hba.trans (hbb.mono (by omega))).trans (hbc.mono (by omega)), (h0.below hbb).below hbc, (hbc.cell (p := ⟨w.heap.size + 1, 0, none⟩) (by show w.heap.size + 1 < _; omega)).trans h1, h2⟩
theorem RI.start {w w4 : World} {E b9 : Nat} {BN : Int} {T : List TB} {A2 : Option Addr} {cap2 Bp : Nat} {P0 : List PT} {F : TB → Nat → EN → EN} (h1 : Below w.heap.size w w4) (h2 : B2 w4 b9 (.int .i64 BN) (.slice A2 T.length cap2)) (h3 : PW w4 Bp b9 E (.slice A2 T.length cap2) P0) (hm : P0.map Prod.fst = T) (hl : ∀ j, j < T.length → (T.getD j TB.zero).l.length = E) (hw : w.heap.size ≤ Bp) :
    RI w ((w4.alloc (.cells #[.int .i64 (E : Int)] 3)).alloc (.cells #[.int .i64 BN, .slice A2 T.length cap2] 44)) (w4.heap.size + 2) E BN T b9 A2 cap2 Bp b9 (w4.heap.size + 1) w4.heap.size P0 F 0 P0 := by
  have hlt := h2.lt
  generalize ha : w4.alloc (.cells #[.int .i64 (E : Int)] 3) = wa
  have sa : wa.heap.size = w4.heap.size + 1 := by rw [← ha]; simp
  have hba : Below w4.heap.size w4 wa := by rw [← ha]; exact below1 _ _
  have h4 : wa.cell? ⟨w4.heap.size, 0, none⟩ = some (.int .i64 (E : Int)) := by rw [← ha]; exact (cell_of_row _ _ 0 #[.int .i64 (E : Int)] _ (0, 0) (heap_alloc_new w4 _)).trans rfl
  have h5 := B2.new wa (.int .i64 BN) (.slice A2 T.length cap2) 44
  have hbb := below1 wa (.cells #[.int .i64 BN, .slice A2 T.length cap2] 44)
  have sb : (wa.alloc (.cells #[.int .i64 BN, .slice A2 T.length cap2] 44)).heap.size = w4.heap.size + 2 := by simp [sa]
  rw [sa] at h5
  have hs := h1.size
  exact ⟨(h1.trans (hba.mono hs)).trans (hbb.mono (by omega)), (h2.below hba).below hbb, (h3.below hba).below hbb, Mid.start hm hl, h5, (hbb.cell (p := ⟨w4.heap.size, 0, none⟩) (by show w4.heap.size < _; omega)).trans h4, by omega, by omega, hw, by omega, by omega⟩
theorem keeps_ap {S : Nat → Prop} {B : Nat} {W W' : World} (h : Ap S W W') (hS : ∀ q, S q → q < B) : KeepsFrom B W W' :=
  ⟨h.size, fun k o hk ho _ => (h.block k (Array.getElem?_eq_some_iff.1 ho).1 (fun g => by have := hS k g; omega)).trans ho⟩
theorem KX.ap {S : Nat → Prop} {B : Nat} {X : List (Nat × Obj)} {W W' : World} (h : KX B X W) (a : Ap S W W') (hS : ∀ q, S q → q < B) : KX B X W' := fun p hp => ⟨(h p hp).1, (h p hp).2.1, (a.block _ (h.lt hp) (fun e => by have := hS _ e; have := (h p hp).2.1; omega)).trans (h p hp).2.2⟩
theorem own_cap {W : World} {B n cap s : Nat} {e : TypeId} {A : Option Addr} {xs : List Value} (h : W.ownsRow B e s (.slice A n cap) n xs) : n ≤ cap ∧ cap ≤ maxLen := by
  rcases h.2 with ⟨h, h0⟩ | ⟨g, cap', cur, h, _, _, h1, h2, _⟩
  · injection h with _ e1 e2; exact ⟨by omega, by rw [e2]; exact Nat.zero_le _⟩
  · injection h with _ e1 e2; subst e2; exact ⟨h1, h2⟩
theorem cut_hole {E BN NB : Nat} {T : List TB} (hOK : COk E BN T) : ∀ j', j' < T.length → ∀ i', i' < E → fullB ((T.getD j' TB.zero).l.getD i' EN.zero) = false → cutF E NB (T.getD j' TB.zero) i' ((T.getD j' TB.zero).l.getD i' EN.zero) = (T.getD j' TB.zero).l.getD i' EN.zero := fun j' hj' i' hi' hf => by
  obtain ⟨_, _, _, hc⟩ := hOK.half.each _ (getD_memT hj')
  have := eok_hole (hc i' hi').1 hf
  unfold cutF
  rw [this]; split <;> rfl
set_option maxRecDepth 100000 in
set_option maxHeartbeats 16000000 in
theorem chtResize_yes (E BN NB : Nat) (T : List TB) (v : Value) (w : World) (hv : TabsS w v T) (hOK : COk E BN T) (hok : okB (E : Int) ⟨(BN : Int), T⟩ = true) (hNB : NB ≤ 65536) :
    Calls Try.prog 27 #[.int .i64 (E : Int), .agg #[.int .i64 (BN : Int), v], .int .i64 (NB : Int)] w fun e' w' => ∃ tv, e' = .returned (.tuple #[.agg #[.int .i64 (NB : Int), tv], .int .i64 0]) ∧ TabsF w.heap.size w' tv (pruneT (cutT E NB T)) ∧ Below w.heap.size w w' := by
  refine (callsIn_wide (n := 12)).1 ?_
  have hf0 : Fence.wide.fn 27 := trivial
  have hf1 : Fence.wide.fn 35 := trivial
  have hf2 : Fence.wide.fn 50 := trivial
  have hf3 : Fence.wide.fn 54 := trivial
  have hf4 : Fence.wide.fn 55 := trivial
  have hf5 : Fence.wide.fn 52 := trivial
  have hC := fun W h => chtCheck_any (E : Int) (BN : Int) T v W h
  unfold chtE at hC
  rw [hok, if_pos rfl] at hC
  have hC' := fun W h j => (callsIn_wide (n := j)).2 (hC W h)
  have hCl' := fun W h j => (callsIn_wide (n := j)).2 (clone_any E (BN : Int) T v W h ⟨hOK.e1, hOK.e2⟩ hOK.len hOK.lens)
  have hM := chtMay_any (NB : Int)
  rw [show mayB (NB : Int) = true by unfold mayB; rw [decide_eq_true (by omega), decide_eq_true (by omega)]; rfl] at hM
  have hM' := fun W j => (callsIn_wide (n := j)).2 (hM W)
  have HG0 := Lib.hid (RB.new w (BN : Int) v (NB : Int))
  have HV := Lib.hid hv
  have HOK := Lib.hid hOK
  obtain ⟨A, cap, rfl⟩ := hv.form
  have HV0 := Lib.hid (HV.out.below HG0.out.bl)
  clear hv hOK hok hC hM
  refine callsIn_of_wp_marks Try.func27 rfl hf0 ?_ rfl
  simp only [Try.ntmps27, List.size_toArray, List.length_cons, List.length_nil, Nat.reduceAdd, Nat.reduceSub, Array.replicate_succ, Array.replicate_zero, List.push_toArray, List.append_toArray, List.nil_append, List.cons_append]
  gi_wp2_with (gi_at_call 35; refine (hC' _ HV0.out _).mono ?_; rintro e w1 ⟨rfl, hb1⟩; have HG1 := Lib.hid (HG0.out.below hb1); have HV1 := Lib.hid (HV0.out.below hb1); clear hb1; (obtain ⟨_, y0, y1, _, _⟩ := HG1.out.c))
  refine (hCl' _ HV1.out _).mono ?_
  rintro e w2 ⟨v2, P0, rfl, hpw, hmap, hb2, hsz⟩
  have hPL : P0.length = T.length := by rw [← hmap, List.length_map]
  obtain ⟨A2, cap2, rfl, hA2⟩ := own_form hpw.own
  rw [hPL] at hpw hA2 ⊢
  have HMAP := Lib.hid hmap
  have HA2 := Lib.hid hA2
  have HN9 : Hid (w.heap.size + 2 < w2.heap.size ∧ w.heap.size + 2 < w1.heap.size + 2) := Lib.hid (by have := HG1.out.r.lt; omega)
  have hbw := below1 w2 (.cells #[.int .i64 (BN : Int), .slice A2 T.length cap2] 44)
  have HG3 := Lib.hid ((HG1.out.below hb2).below hbw)
  have HP3 := Lib.hid (hpw.below hbw)
  have HX3 := Lib.hid (B2.new w2 (.int .i64 (BN : Int)) (.slice A2 T.length cap2) 44)
  clear hpw hmap hb2 hsz hPL hA2 hbw y0 y1
  generalize hb9 : w2.heap.size = b9 at HN9 HP3 HX3
  generalize w1.heap.size + 2 = Bp at HN9 HP3
  have i3 := HG3.out.i
  gi_wp2
  clear hb9
  generalize w2.alloc (.cells #[.int .i64 (BN : Int), .slice A2 T.length cap2] 44) = w3 at HG3 HP3 HX3 i3 ⊢
  refine (hM' _ _).mono ?_
  rintro e w4 ⟨rfl, hb4⟩
  have HG4 := Lib.hid (HG3.out.below hb4)
  have HP4 := Lib.hid (HP3.out.below hb4)
  have HX4 := Lib.hid (HX3.out.below hb4)
  clear hb4 i3
  obtain ⟨_, x0, x1, _, _⟩ := HX4.out
  gi_wp2
  refine ((callsIn_wide (n := _)).2 (told_any E (BN : Int) (.slice A2 T.length cap2) w4 ⟨_, _, _, rfl⟩)).mono ?_
  rintro e w5 ⟨rfl, hw5⟩
  have HW5 := Lib.hid hw5
  clear hw5 x0 x1
  gi_wp2
  have hlens := HOK.out.lens
  obtain ⟨gv, hgv⟩ : ∃ gv, T.length ≠ 0 → A2 = some ⟨gv, 0, none⟩ := by
    by_cases h : T.length = 0
    · exact ⟨0, fun h2 => absurd h h2⟩
    · obtain ⟨g, hg, _⟩ := HA2.out h
      exact ⟨g, fun _ => hg⟩
  have hP0 : P0.length = T.length := by rw [← HMAP.out, List.length_map]
  have hcap := own_cap (by have h := HP4.out.own; rw [hP0] at h; exact h)
  have hcc : ∀ j, j < T.length → E ≤ cOf P0 j ∧ cOf P0 j ≤ maxLen := fun j hj => (of_row (HP4.out.row _ (getD_memP (j := j) (by omega)))).2
  have HRI := Lib.hid (RI.start (F := cutF E NB) HG4.out.bl HX4.out HP4.out HMAP.out hlens (by have := HN9.out; omega))
  have hsz : w5.heap.size = w4.heap.size + 2 := by rw [HW5.out]; simp
  rw [← HW5.out] at HRI
  have HRB := Lib.hid ((HG4.out.below (below1 w4 (.cells #[.int .i64 (E : Int)] 3))).below (below1 _ (.cells #[.int .i64 (BN : Int), .slice A2 T.length cap2] 44)))
  rw [← HW5.out] at HRB
  have HSZ := Lib.hid hsz
  have HWB : Hid (w.heap.size + 2 < w5.heap.size) := Lib.hid HRB.out.r.lt
  have HGV := Lib.hid hgv
  have HLENS := Lib.hid hlens
  rw [← hsz] at HRI
  have HTL := told_tells 11 (by omega) E BN T (w4.heap.size + 1) w4.heap.size (layP P0 A2 cap2 gv) HOK.out hcap hcc w5
  clear hgv hP0 hcap hcc hsz hlens
  refine wpIn_range_ox rfl (by omega) (gf := 74) (lb := #[.pointer (some ⟨w4.heap.size + 1, 0, none⟩), .pointer (some ⟨w4.heap.size, 0, none⟩)]) (by simp [go_sem]) trivial (enters_of Try.func74 (by kernel_rfl) rfl) (encs := encsF E T (gOf P0) (fun _ => 0)) (fun _ => rfl) HTL
    (fun X k W => KX w5.heap.size X W ∧ (∃ P, RI w W w5.heap.size E (BN : Int) T b9 A2 cap2 Bp b9 (w4.heap.size + 1) w4.heap.size P0 (cutF E NB) k P) ∧ RB w W (BN : Int) (.slice A T.length cap) (NB : Int))
    (fun X k W W' row hs hg hr => by
      have hap : Ap (fun q => w5.heap.size ≤ q) W W' := Ap.grown (Ap.refl W) hg (fun q hq => .inl (hr q hq).1)
      obtain ⟨P, hP⟩ := hs.2.1
      exact ⟨hs.1.own hg hr, ⟨P, hP.ap hap (fun q h => h) (by have := HWB.out; omega)⟩, hs.2.2.ap hap (fun q h => Nat.lt_of_lt_of_le HWB.out h)⟩)
    (fun X k A' o hs ho hsz => by
      have hap : Ap (fun q => w5.heap.size ≤ q) A' (A'.alloc o) := Ap.of_below ((Below.refl _ _).alloc (Nat.le_refl _) o)
      obtain ⟨P, hP⟩ := hs.2.1
      exact ⟨hs.1.add ho hsz, ⟨P, hP.ap hap (fun q h => h) (by have := HWB.out; omega)⟩, hs.2.2.ap hap (fun q h => Nat.lt_of_lt_of_le HWB.out h)⟩)
    (fun X k A' b o hs hm => (hs.1 _ hm).2.2)
    (fun X k A' hs => by obtain ⟨P, hP⟩ := hs.2.1; exact hP.tr HGV.out)
    ⟨KX.nil _ _, ⟨P0, HRI.out⟩, HRB.out⟩ ?a1 ?assign ?body ?done
  case assign =>
    intro l k W K hK
    unfold encsF
    gi_wp2
    exact hK
  case body =>
    rintro l X k W ⟨hkx, ⟨P, hRI⟩, hRB⟩ hk hsz
    obtain ⟨j, i, hj, hi, hpos, rfl, hfull⟩ := told_at HOK.out.e1 hk
    obtain ⟨kk, hkk, hkE, _⟩ := HOK.out.each j hj
    have hE2 := HOK.out.e2
    have hq1 : posF E T (cntF E T (j * E + i)) / E = j := by rw [hpos]; exact (divmod_eq hi).1
    have hq2 : posF E T (cntF E T (j * E + i)) % E = i := by rw [hpos]; exact (divmod_eq hi).2
    obtain ⟨blk, hblk⟩ : ∃ blk : Nat, blk = kk * E + i := ⟨_, rfl⟩
    have hb : blkF E T (posF E T (cntF E T (j * E + i))) = (blk : Int) := by
      unfold blkF
      rw [hq1, hq2, hkk, hblk, Int.natCast_add, Int.natCast_mul]
    have HF : Hid (cutF E NB (T.getD j TB.zero) i ((T.getD j TB.zero).l.getD i EN.zero) = if NB ≤ blk then EN.zero else (T.getD j TB.zero).l.getD i EN.zero) := Lib.hid (by
      unfold cutF
      rw [hkk, Int.toNat_natCast, hblk])
    obtain ⟨_, _, _, l4, l5, l6⟩ := hRI.lay hj
    have hll := (hRI.mid.2 j hj).2.2.1
    have h9B := hRI.hU.2.2.2
    obtain ⟨r0, r1, r2, r3⟩ := l4.2.1 i (by rw [hll]; exact hi)
    have hfz := l4.2.2
    rw [hll] at hfz
    have f0 := hfz (i * 4) (by omega); have f1 := hfz (i * 4 + 1) (by omega); have f2 := hfz (i * 4 + 2) (by omega); have f3 := hfz (i * 4 + 3) (by omega)
    generalize (P.getD j PT.zero).1.l.getD i EN.zero = old at r0 r1 r2 r3
    have i0 := hRB.i
    have HR := Lib.hid hRI
    have HB := Lib.hid hRB
    have HKX := Lib.hid hkx
    have HJ := Lib.hid (And.intro hj (And.intro hi hfull))
    have HG := Lib.hid (And.intro l5 (Nat.lt_of_lt_of_le l6 h9B))
    clear hkx hRI hRB hk hsz hfull hkk hkE hE2 hblk l4 l5 l6 hll hfz hj hi hpos h9B
    by_cases hlt : NB ≤ blk
    · have d0 : decide ((NB : Int) ≤ (blk : Int)) = true := decide_eq_true (by omega)
      have d1 : decide (NB ≤ blk) = true := decide_eq_true hlt
      rw [if_pos hlt] at HF
      have hPUT := HR.out.put HJ.out.1 HJ.out.2.1 HJ.out.2.2 (cut_hole HOK.out) (y := EN.zero) HF.out.symm
      have HPUT := Lib.hid hPUT
      have HAP := Lib.hid (ap_putN W (gOf P0 j) (i * 4) EN.zero)
      unfold putN EN.zero at HPUT HAP
      dsimp only at HPUT HAP
      clear hPUT hlt
      simp only [hq1, hq2, hb]
      clear hq1 hq2 hb
      generalize gOf P0 j = g at r0 r1 r2 r3 f0 f1 f2 f3 HPUT HAP HG ⊢
      gi_wp2
      exact ⟨keeps_ap HAP.out (fun q e => by rw [e]; exact HG.out.2), HKX.out.ap HAP.out (fun q e => by rw [e]; exact HG.out.2), HPUT.out, HB.out.ap HAP.out (fun q e => by have h1 := HG.out.1; have h2 := HN9.out.2; omega)⟩
    · have d0 : decide ((NB : Int) ≤ (blk : Int)) = false := decide_eq_false (by omega)
      have d1 : decide (NB ≤ blk) = false := decide_eq_false hlt
      rw [if_neg hlt] at HF
      have HST := Lib.hid (HR.out.stay HJ.out.1 HJ.out.2.1 HJ.out.2.2 (cut_hole HOK.out) HF.out)
      clear hlt r0 r1 r2 r3 f0 f1 f2 f3
      simp only [hq1, hq2, hb]
      clear hq1 hq2 hb
      gi_wp2
      exact ⟨KeepsFrom.refl _ _, HKX.out, ⟨P, HST.out⟩, HB.out⟩
  case done =>
    rintro D X W hD ⟨hkx, ⟨P, hRI⟩, hRB⟩ hK
    have HMP : Hid (P.map Prod.fst = cutT E NB T) := Lib.hid (hRI.mid.done HLENS.out (cut_hole HOK.out))
    have hPL : P.length = T.length := hRI.mid.1
    have hU := hRI.hU
    have hB := hRI.hB
    have hn9 := HN9.out
    have hap := ap_put W b9 0 (.int .i64 (NB : Int))
    have HP1 := Lib.hid (hRI.pw.ap hap (fun q e => .inr (by omega)))
    have HX1 : Hid (B2 (W.setCell ⟨b9, 0, none⟩ (.int .i64 (NB : Int))) b9 (.int .i64 (NB : Int)) (.slice A2 T.length cap2)) := Lib.hid ⟨Nat.lt_of_lt_of_le hRI.nx.lt hap.size, cell_put hRI.nx.c0 _, (cell_putne _ _ _ _ _ (by omega)).trans hRI.nx.c1, (World.frozen?_setCell _ _ _ _).trans hRI.nx.f0, (World.frozen?_setCell _ _ _ _).trans hRI.nx.f1⟩
    have HB1 := Lib.hid (hRB.ap hap (fun q e => by omega))
    have HK1 : Hid ((W.setCell ⟨b9, 0, none⟩ (.int .i64 (NB : Int))).heap[D]? = some (.deferred (some []))) := Lib.hid ((hap.block D (Array.getElem?_eq_some_iff.1 hK).1 (by omega)).trans hK)
    have HSW : Hid (b9 ≤ (W.setCell ⟨b9, 0, none⟩ (.int .i64 (NB : Int))).heap.size) := Lib.hid (Nat.le_of_lt HX1.out.lt)
    have i0 := hRB.i
    obtain ⟨_, c0, c1, f0, _⟩ := hRI.nx
    have HDD : Hid (b9 < D ∧ w.heap.size + 2 < D) := Lib.hid (by omega)
    have HPLN : Hid (P.length ≤ 65537) := Lib.hid (by rw [hPL]; have := HOK.out.len; omega)
    clear hkx hRI hRB hK hPL hU hB hn9 hap hD
    gi_wp2
    clear i0 c0 c1 f0
    generalize W.setCell ⟨b9, 0, none⟩ (.int .i64 (NB : Int)) = W1 at HP1 HX1 HB1 HK1 HSW ⊢
    obtain ⟨_, c0, c1, _, _⟩ := HX1.out
    refine ((callsIn_wide (n := _)).2 (prune_any P (.slice A2 T.length cap2) Bp b9 (NB : Int) W1 HP1.out.po HSW.out HPLN.out)).mono ?_
    rintro e W2 ⟨v8, rfl, hpo, hap2⟩
    obtain ⟨A8, c8, rfl, _⟩ := own_form hpo.own
    have HB2 := Lib.hid (HB1.out.ap hap2 (fun q e => by have := HP1.out.ob q e; have := HN9.out.2; omega))
    have HK2 : Hid (W2.heap[D]? = some (.deferred (some []))) := Lib.hid ((hap2.block D (Array.getElem?_eq_some_iff.1 HK1.out).1 (fun e => by have := HP1.out.up D e.symm; have := HDD.out.1; omega)).trans HK1.out)
    have HPO := Lib.hid hpo
    clear hpo hap2 c0 c1
    obtain ⟨_, z0, z1, g0, g1⟩ := HB2.out.r
    gi_wp2
    have hap3 : Ap (fun q => q = w.heap.size + 2) W2 ((W2.setCell ⟨w.heap.size + 2, 0, none⟩ (.int .i64 (NB : Int))).setCell ⟨w.heap.size + 2, 1, none⟩ (.slice A8 (P.filter keepB).length c8)) := (ap_put W2 (w.heap.size + 2) 0 _).trans (ap_put _ (w.heap.size + 2) 1 _)
    have hk3 := (hap3.block D (Array.getElem?_eq_some_iff.1 HK2.out).1 (by have := HDD.out.2; omega)).trans HK2.out
    have y0 : ((W2.setCell ⟨w.heap.size + 2, 0, none⟩ (.int .i64 (NB : Int))).setCell ⟨w.heap.size + 2, 1, none⟩ (.slice A8 (P.filter keepB).length c8)).cell? ⟨w.heap.size + 2, 0, none⟩ = some (.int .i64 (NB : Int)) := (cell_putne _ _ _ _ _ (by omega)).trans (cell_put z0 _)
    have y1 : ((W2.setCell ⟨w.heap.size + 2, 0, none⟩ (.int .i64 (NB : Int))).setCell ⟨w.heap.size + 2, 1, none⟩ (.slice A8 (P.filter keepB).length c8)).cell? ⟨w.heap.size + 2, 1, none⟩ = some (.slice A8 (P.filter keepB).length c8) := cell_put ((cell_putne _ _ _ _ _ (by omega)).trans z1) _
    have hb3 := HB2.out.bl.trans (hap3.below HB2.out.bl.size (fun q e => by omega))
    have hpo3 := HPO.out.ap hap3 (fun q e => .inl (by have := HN9.out.2; omega))
    have hlt3 : w.heap.size + 2 < ((W2.setCell ⟨w.heap.size + 2, 0, none⟩ (.int .i64 (NB : Int))).setCell ⟨w.heap.size + 2, 1, none⟩ (.slice A8 (P.filter keepB).length c8)).heap.size := Nat.lt_of_lt_of_le HB2.out.r.lt hap3.size
    generalize (W2.setCell ⟨w.heap.size + 2, 0, none⟩ (.int .i64 (NB : Int))).setCell ⟨w.heap.size + 2, 1, none⟩ (.slice A8 (P.filter keepB).length c8) = W3 at hk3 y0 y1 hb3 hpo3 hlt3 ⊢
    refine ⟨by simp, .inl ⟨_, _, rfl, run_takeDeferred hk3, ?_⟩⟩
    have hap4 : Ap (fun q => q = D) W3 (W3.putObj D (.deferred none)) := Ap.grown (Ap.refl W3) (grownBy_putObj' _ D _) (fun q hq => .inl (by injection hq with hq; exact hq.symm))
    have y0' : (W3.putObj D (.deferred none)).cell? ⟨w.heap.size + 2, 0, none⟩ = some (.int .i64 (NB : Int)) := (hap4.cell hlt3 (by have := HDD.out.2; omega) _).trans y0
    have y1' : (W3.putObj D (.deferred none)).cell? ⟨w.heap.size + 2, 1, none⟩ = some (.slice A8 (P.filter keepB).length c8) := (hap4.cell hlt3 (by have := HDD.out.2; omega) _).trans y1
    refine ⟨.tuple #[.agg #[.int .i64 (NB : Int), .slice A8 (P.filter keepB).length c8], .int .i64 0], ?_, _, rfl, ?_, hb3.trans (hap4.below hb3.size (fun q e => by have := HDD.out.2; omega))⟩
    · simp [results, Try.f27, go_sem, y0', y1']
    · have h5 := (hpo3.ap hap4 (fun q e => .inr (by have := HDD.out.1; omega))).tabsF (B' := w.heap.size) (by have := HN9.out.2; omega)
      rw [map_filterP, HMP.out] at h5
      exact h5
end Go.Proofs.Ytjocdbacdbhemaa
