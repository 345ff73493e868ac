/- Charts: Swap where it changes: the walk. -/
import Derived.Test.YtjocdbacdbhemaaChvO
import Derived.Test.YtjocdbacdbhemaaChvSU
import Derived.Test.YtjocdbacdbhemaaRegAll
namespace Go.Proofs.Ytjocdbacdbhemaa
open Go.RowKit Go.Shelf
attribute [local go_sem] Oper.semAt_some

/-- A number's box. -/
structure N1 (W : World) (b : Nat) (z : Int) : Prop where
  lt : b < W.heap.size
  c : W.cell? ⟨b, 0, none⟩ = some (.int .i64 z)
  f : W.frozen? ⟨b, 0, none⟩ = false
theorem N1.ap {S : Nat → Prop} {W W' : World} {b : Nat} {z : Int} (k : N1 W b z) (a : Ap S W W') (hn : ¬ S b) : N1 W' b z := ⟨Nat.lt_of_lt_of_le k.lt a.size, (a.cell k.lt hn _).trans k.c, (a.frozen k.lt hn _).trans k.f⟩
theorem N1.below {W W' : World} {b : Nat} {z : Int} (k : N1 W b z) (h : Below W.heap.size W W') : N1 W' b z := k.ap (S := fun _ => False) (Ap.of_below h) id
theorem N1.new (W : World) (z : Int) (t : TypeId) : N1 (W.alloc (.cells #[.int .i64 z] t)) W.heap.size z := ⟨by simp, (cell_of_row _ _ 0 #[.int .i64 z] t (0, 0) (heap_alloc_new W _)).trans rfl, frozen_of_row _ _ _ _ t (heap_alloc_new W _)⟩
theorem N1.set {W : World} {b : Nat} {z : Int} (k : N1 W b z) (y : Int) : N1 (W.setCell ⟨b, 0, none⟩ (.int .i64 y)) b y := ⟨by rw [World.size_setCell]; exact k.lt, cell_put k.c _, (World.frozen?_setCell _ _ _ _).trans k.f⟩
/-- How many of the first k that are told are was. -/
def cntS (E : Nat) (T : List TB) (was : EN) (k : Nat) : Nat := (((fr true (fullQ E T)).take k).map (entF E T)).countP (swapQ was)
theorem cntS_le (E : Nat) (T : List TB) (was : EN) (k : Nat) : cntS E T was k ≤ k := by
  unfold cntS
  refine Nat.le_trans List.countP_le_length ?_
  rw [List.length_map, List.length_take]; exact Nat.min_le_left _ _
theorem cntS_next {E : Nat} {T : List TB} {was : EN} {k : Nat} (hk : k < numF E T) : cntS E T was (k + 1) = cntS E T was k + (if swapQ was (entF E T (posF E T k)) = true then 1 else 0) := by
  have hlt : k < (fr true (fullQ E T)).length := hk
  unfold cntS
  rw [List.take_succ_eq_append_getElem hlt, List.map_append, List.countP_append]
  have e : posF E T k = (fr true (fullQ E T))[k] := by unfold posF; rw [List.getD, List.getElem?_eq_getElem hlt]; rfl
  rw [e]
  show _ + List.countP _ [_] = _
  rw [List.countP_cons, List.countP_nil]; simp
theorem cntS_all {E BN : Nat} {T : List TB} (h : COk E BN T) (was : EN) : cntS E T was (numF E T) = (flatM E BN T).countP (swapQ was) := by
  rw [← told_count h was]
  unfold cntS numF
  rw [List.take_of_length_le (Nat.le_refl _)]
theorem swap_hole (was is : EN) {T : List TB} {E : Nat} : ∀ j', j' < T.length → ∀ i', i' < E → fullB ((T.getD j' TB.zero).l.getD i' EN.zero) = false → (fun (_ : TB) (_ : Nat) => swap1 was is) (T.getD j' TB.zero) i' ((T.getD j' TB.zero).l.getD i' EN.zero) = (T.getD j' TB.zero).l.getD i' EN.zero := fun j' _ i' _ hf => by
  show swap1 was is _ = _
  unfold swap1
  rw [if_neg (fun h => by rw [hf] at h; exact absurd h.2 (by decide))]
theorem wrD {cq : Nat} (h : cq ≤ 536870912) : wrap64 ((cq : Int) + 1) = (cq : Int) + 1 := by unfold wrap64; omega
theorem RI.one {w W : World} {B E : Nat} {BN : Int} {T : List TB} {b9 : Nat} {A2 : Option Addr} {cap2 Bp U bc be : Nat} {P0 : List PT} {F : TB → Nat → EN → EN} {k : Nat} {P : List PT} (h : RI w W B E BN T b9 A2 cap2 Bp U bc be P0 F k P) {q : Nat} (hq : U ≤ q) (h1 : q ≠ b9) (h2 : q ≠ bc) (h3 : q ≠ be) (hw : w.heap.size ≤ q) (z : Value) : RI w (W.setCell ⟨q, 0, none⟩ z) B E BN T b9 A2 cap2 Bp U bc be P0 F k P := by
  have a := ap_put W q 0 z
  exact ⟨h.bl.trans (a.below h.bl.size (fun q e => by omega)), h.nx.ap a (fun e => h1 e.symm), h.pw.ap a (fun q e => .inr (by omega)), h.mid, h.cb.ap a (fun e => h2 e.symm), (a.cell h.hbe (fun e => h3 e.symm) _).trans h.eb, Nat.lt_of_lt_of_le h.hbe a.size, Nat.le_trans h.sz a.size, h.hw, h.hU, h.hB⟩
theorem en_cases (pk ps pm pf k st mb fr : Int) : ((⟨pk, ps, pm, pf⟩ : EN) = ⟨k, st, mb, fr⟩) ∨ ((⟨pk, ps, pm, pf⟩ : EN) ≠ ⟨k, st, mb, fr⟩ ∧ ((pk == k) = false ∨ ((pk == k) = true ∧ (ps == st) = false) ∨ ((pk == k) = true ∧ (ps == st) = true ∧ (pm == mb) = false) ∨ ((pk == k) = true ∧ (ps == st) = true ∧ (pm == mb) = true ∧ (pf == fr) = false))) := by
  by_cases h : (⟨pk, ps, pm, pf⟩ : EN) = ⟨k, st, mb, fr⟩
  · exact .inl h
  · refine .inr ⟨h, ?_⟩
    cases h0 : (pk == k)
    · exact .inl rfl
    cases h1 : (ps == st)
    · exact .inr (.inl ⟨rfl, rfl⟩)
    cases h2 : (pm == mb)
    · exact .inr (.inr (.inl ⟨rfl, rfl, rfl⟩))
    cases h3 : (pf == fr)
    · exact .inr (.inr (.inr ⟨rfl, rfl, rfl, rfl⟩))
    · rw [beq_iff_eq] at h0 h1 h2 h3
      exact absurd (by rw [h0, h1, h2, h3]) h
set_option maxRecDepth 100000 in
set_option maxHeartbeats 16000000 in
theorem chtSwap_yes (E BN : Nat) (T : List TB) (v : Value) (x y : EN) (w : World) (hv : TabsS w v T) (hOK : COk E BN T) (hok : okB (E : Int) ⟨(BN : Int), T⟩ = true) (hy : EOk y) :
    Calls Try.prog 31 #[.int .i64 (E : Int), .agg #[.int .i64 (BN : Int), v], x.v, y.v] w fun e' w' => ∃ tv, e' = .returned (.tuple #[.agg #[.int .i64 (BN : Int), tv], .int .i64 ((flatM E BN T).countP (swapQ x) : Int), .int .i64 0]) ∧ TabsF w.heap.size w' tv (pruneT (swapT x y T)) ∧ Below w.heap.size w w' := by
  refine (callsIn_wide (n := 12)).1 ?_
  have hf0 : Fence.wide.fn 31 := trivial
  have hf1 : Fence.wide.fn 35 := trivial
  have hf2 : Fence.wide.fn 50 := trivial
  have hf3 : Fence.wide.fn 13 := trivial
  have hf4 : Fence.wide.fn 55 := trivial
  have hf5 : Fence.wide.fn 52 := trivial
  have hC := fun W h => chtCheck_any (E : Int) (BN : Int) T v W h
  unfold chtE at hC
  rw [hok, if_pos rfl] at hC
  have hC' := fun W h j => (callsIn_wide (n := j)).2 (hC W h)
  have hCl' := fun W h j => (callsIn_wide (n := j)).2 (clone_any E (BN : Int) T v W h ⟨hOK.e1, hOK.e2⟩ hOK.len hOK.lens)
  have hX := entCheck_any y
  rw [show entE y = 0 from if_pos hy] at hX
  have hX' := fun W j => (callsIn_wide (n := j)).2 (hX W)
  have HG0 := Lib.hid (SW.new w (BN : Int) v x y)
  have HV := Lib.hid hv
  have HOK := Lib.hid hOK
  obtain ⟨A, cap, rfl⟩ := hv.form
  have HV0 := Lib.hid (HV.out.below HG0.out.bl)
  obtain ⟨F, hF⟩ : ∃ F : TB → Nat → EN → EN, F = fun _ _ => swap1 x y := ⟨_, rfl⟩
  have HFD := Lib.hid hF
  clear hv hOK hok hC hX hy hF
  unfold EN.v at hX' ⊢
  obtain ⟨k', st', mb', fr'⟩ := y
  obtain ⟨k, st, mb, fr'x⟩ := x
  dsimp only at hX' HG0 HV0 ⊢
  refine callsIn_of_wp_marks Try.func31 rfl hf0 ?_ rfl
  simp only [Try.ntmps31, List.size_toArray, List.length_cons, List.length_nil, Nat.reduceAdd, Nat.reduceSub, Array.replicate_succ, Array.replicate_zero, List.push_toArray, List.append_toArray, List.nil_append, List.cons_append]
  gi_wp2_with (gi_at_call 35; refine (hC' _ HV0.out _).mono ?_; rintro e w1 ⟨rfl, hb1⟩; have HG1 := Lib.hid (HG0.out.below hb1); have HV1 := Lib.hid (HV0.out.below hb1); clear hb1; (obtain ⟨_, y0, y1, _, _⟩ := HG1.out.c))
  refine (hCl' _ HV1.out _).mono ?_
  rintro e w2 ⟨v2, P0, rfl, hpw, hmap, hb2, hsz⟩
  have hPL : P0.length = T.length := by rw [← hmap, List.length_map]
  obtain ⟨A2, cap2, rfl, hA2⟩ := own_form hpw.own
  rw [hPL] at hpw hA2 ⊢
  have HMAP := Lib.hid hmap
  have HA2 := Lib.hid hA2
  have HN9 : Hid (w.heap.size + 3 < w2.heap.size ∧ w.heap.size + 3 < w1.heap.size + 2) := Lib.hid (by have := HG1.out.r.lt; omega)
  have hbw := below1 w2 (.cells #[.int .i64 (BN : Int), .slice A2 T.length cap2] 44)
  have hbx := below1 (w2.alloc (.cells #[.int .i64 (BN : Int), .slice A2 T.length cap2] 44)) (.cells #[.int .i64 0] 3)
  have HG3 := Lib.hid (((HG1.out.below hb2).below hbw).below hbx)
  have HP3 := Lib.hid ((hpw.below hbw).below hbx)
  have HX3 := Lib.hid ((B2.new w2 (.int .i64 (BN : Int)) (.slice A2 T.length cap2) 44).below hbx)
  have HN3 := Lib.hid (N1.new (w2.alloc (.cells #[.int .i64 (BN : Int), .slice A2 T.length cap2] 44)) 0 3)
  rw [World.size_alloc] at HN3
  clear hpw hmap hb2 hsz hPL hA2 hbw hbx y0 y1
  generalize hb9 : w2.heap.size = b9 at HN9 HP3 HX3 HN3
  generalize w1.heap.size + 2 = Bp at HN9 HP3
  obtain ⟨_, e0, e1, e2, e3, _⟩ := HG3.out.f
  dsimp only at e0 e1 e2 e3
  gi_wp2
  clear hb9
  generalize (w2.alloc (.cells #[.int .i64 (BN : Int), .slice A2 T.length cap2] 44)).alloc (.cells #[.int .i64 0] 3) = w3 at HG3 HP3 HX3 HN3 e0 e1 e2 e3 ⊢
  refine (hX' _ _).mono ?_
  rintro e w4 ⟨rfl, hb4⟩
  have HG4 := Lib.hid (HG3.out.below hb4)
  have HP4 := Lib.hid (HP3.out.below hb4)
  have HX4 := Lib.hid (HX3.out.below hb4)
  have HN4 := Lib.hid (HN3.out.below hb4)
  clear hb4 e0 e1 e2 e3
  obtain ⟨_, x0, x1, _, _⟩ := HX4.out
  gi_wp2
  refine ((callsIn_wide (n := _)).2 (told_any E (BN : Int) (.slice A2 T.length cap2) w4 ⟨_, _, _, rfl⟩)).mono ?_
  rintro e w5 ⟨rfl, hw5⟩
  have HW5 := Lib.hid hw5
  clear hw5 x0 x1
  gi_wp2
  have hlens := HOK.out.lens
  obtain ⟨gv, hgv⟩ : ∃ gv, T.length ≠ 0 → A2 = some ⟨gv, 0, none⟩ := by
    by_cases h : T.length = 0
    · exact ⟨0, fun h2 => absurd h h2⟩
    · obtain ⟨g, hg, _⟩ := HA2.out h
      exact ⟨g, fun _ => hg⟩
  have hP0 : P0.length = T.length := by rw [← HMAP.out, List.length_map]
  have hcap := own_cap (by have h := HP4.out.own; rw [hP0] at h; exact h)
  have hcc : ∀ j, j < T.length → E ≤ cOf P0 j ∧ cOf P0 j ≤ maxLen := fun j hj => (of_row (HP4.out.row _ (getD_memP (j := j) (by omega)))).2
  have HRI := Lib.hid (RI.start (F := F) HG4.out.bl HX4.out HP4.out HMAP.out hlens (by have := HN9.out; omega))
  have hsz : w5.heap.size = w4.heap.size + 2 := by rw [HW5.out]; simp
  rw [← HW5.out] at HRI
  have hbt := below1 w4 (.cells #[.int .i64 (E : Int)] 3)
  have hbu := below1 (w4.alloc (.cells #[.int .i64 (E : Int)] 3)) (.cells #[.int .i64 (BN : Int), .slice A2 T.length cap2] 44)
  have HRB := Lib.hid ((HG4.out.below hbt).below hbu)
  have HNN := Lib.hid ((HN4.out.below hbt).below hbu)
  rw [← HW5.out] at HRB HNN
  have HSZ := Lib.hid hsz
  have HWB : Hid (w.heap.size + 3 < w5.heap.size) := Lib.hid HRB.out.r.lt
  have H13 : Hid (b9 + 1 < w4.heap.size) := Lib.hid HN4.out.lt
  have HGV := Lib.hid hgv
  have HLENS := Lib.hid hlens
  rw [← hsz] at HRI
  have HTL := told_tells 11 (by omega) E BN T (w4.heap.size + 1) w4.heap.size (layP P0 A2 cap2 gv) HOK.out hcap hcc w5
  clear hgv hP0 hcap hcc hsz hlens hbt hbu
  refine wpIn_range_ox rfl (by omega) (gf := 74) (lb := #[.pointer (some ⟨w4.heap.size + 1, 0, none⟩), .pointer (some ⟨w4.heap.size, 0, none⟩)]) (by simp [go_sem]) trivial (enters_of Try.func74 (by kernel_rfl) rfl) (encs := encsF E T (gOf P0) (fun _ => 0)) (fun _ => rfl) HTL
    (fun X n W => KX w5.heap.size X W ∧ (∃ P, RI w W w5.heap.size E (BN : Int) T b9 A2 cap2 Bp b9 (w4.heap.size + 1) w4.heap.size P0 F n P) ∧ SW w W (BN : Int) (.slice A T.length cap) ⟨k, st, mb, fr'x⟩ ⟨k', st', mb', fr'⟩ ∧ N1 W (b9 + 1) (cntS E T ⟨k, st, mb, fr'x⟩ n : Int))
    (fun X n W W' row hs hg hr => by
      have hap : Ap (fun q => w5.heap.size ≤ q) W W' := Ap.grown (Ap.refl W) hg (fun q hq => .inl (hr q hq).1)
      obtain ⟨P, hP⟩ := hs.2.1
      exact ⟨hs.1.own hg hr, ⟨P, hP.ap hap (fun q h => h) (by have := HWB.out; omega)⟩, hs.2.2.1.ap hap (fun q h => Nat.lt_of_lt_of_le HWB.out h), hs.2.2.2.ap hap (by have := HSZ.out; have := H13.out; omega)⟩)
    (fun X n A' o hs ho hsz => by
      have hap : Ap (fun q => w5.heap.size ≤ q) A' (A'.alloc o) := Ap.of_below ((Below.refl _ _).alloc (Nat.le_refl _) o)
      obtain ⟨P, hP⟩ := hs.2.1
      exact ⟨hs.1.add ho hsz, ⟨P, hP.ap hap (fun q h => h) (by have := HWB.out; omega)⟩, hs.2.2.1.ap hap (fun q h => Nat.lt_of_lt_of_le HWB.out h), hs.2.2.2.ap hap (by have := HSZ.out; have := H13.out; omega)⟩)
    (fun X n A' b o hs hm => (hs.1 _ hm).2.2)
    (fun X n A' hs => by obtain ⟨P, hP⟩ := hs.2.1; exact hP.tr HGV.out)
    ⟨KX.nil _ _, ⟨P0, HRI.out⟩, HRB.out, HNN.out⟩ ?a1 ?assign ?body ?done
  case assign =>
    intro l n W K hK
    unfold encsF
    gi_wp2
    exact hK
  case body =>
    rintro l X n W ⟨hkx, ⟨P, hRI⟩, hRB, hN1⟩ hk hsz
    have hcn := cntS_next (was := ⟨k, st, mb, fr'x⟩) hk
    have hcl := cntS_le E T ⟨k, st, mb, fr'x⟩ n
    have hnm := numF_le E T
    obtain ⟨j, i, hj, hi, hpos, rfl, hfull⟩ := told_at HOK.out.e1 hk
    have hE2 := HOK.out.e2
    have hTL := HOK.out.len
    have hmul : T.length * E ≤ 65536 * 8192 := Nat.mul_le_mul hTL hE2
    have hq1 : posF E T (cntF E T (j * E + i)) / E = j := by rw [hpos]; exact (divmod_eq hi).1
    have hq2 : posF E T (cntF E T (j * E + i)) % E = i := by rw [hpos]; exact (divmod_eq hi).2
    rw [hpos, entF_at T hi] at hcn
    obtain ⟨cq, hcq⟩ : ∃ cq, cq = cntS E T ⟨k, st, mb, fr'x⟩ (cntF E T (j * E + i)) := ⟨_, rfl⟩
    rw [← hcq] at hcn hcl hN1
    have HW1 := Lib.hid (wrD (cq := cq) (by omega))
    obtain ⟨_, _, _, l4, l5, l6⟩ := hRI.lay hj
    have hll := (hRI.mid.2 j hj).2.2.1
    have h9B := hRI.hU.2.2.2
    have hat := hRI.mid.at hj hi
    obtain ⟨r0, r1, r2, r3⟩ := l4.2.1 i (by rw [hll]; exact hi)
    have hfz := l4.2.2
    rw [hll] at hfz
    have f0 := hfz (i * 4) (by omega); have f1 := hfz (i * 4 + 1) (by omega); have f2 := hfz (i * 4 + 2) (by omega); have f3 := hfz (i * 4 + 3) (by omega)
    rw [hat] at r0 r1 r2 r3
    have HYES : Hid ((T.getD j TB.zero).l.getD i EN.zero = ⟨k, st, mb, fr'x⟩ → cntS E T ⟨k, st, mb, fr'x⟩ (cntF E T (j * E + i) + 1) = cq + 1 ∧ ∃ P', RI w (putN W (gOf P0 j) (i * 4) ⟨k', st', mb', fr'⟩) w5.heap.size E (BN : Int) T b9 A2 cap2 Bp b9 (w4.heap.size + 1) w4.heap.size P0 F (cntF E T (j * E + i) + 1) P') := Lib.hid (fun h => by
      refine ⟨?_, hRI.put hj hi hfull (by rw [HFD.out]; exact swap_hole _ _) (by rw [HFD.out]; show _ = swap1 _ _ _; unfold swap1; rw [if_pos ⟨h, hfull⟩])⟩
      rw [hcn, if_pos (by unfold swapQ; exact decide_eq_true ⟨h, hfull⟩)])
    have HNO : Hid ((T.getD j TB.zero).l.getD i EN.zero ≠ ⟨k, st, mb, fr'x⟩ → cntS E T ⟨k, st, mb, fr'x⟩ (cntF E T (j * E + i) + 1) = cq ∧ RI w W w5.heap.size E (BN : Int) T b9 A2 cap2 Bp b9 (w4.heap.size + 1) w4.heap.size P0 F (cntF E T (j * E + i) + 1) P) := Lib.hid (fun h => by
      refine ⟨?_, hRI.stay hj hi hfull (by rw [HFD.out]; exact swap_hole _ _) (by rw [HFD.out]; show swap1 _ _ _ = _; unfold swap1; rw [if_neg (fun h2 => h h2.1)])⟩
      rw [hcn, if_neg (by unfold swapQ; intro h2; exact h (of_decide_eq_true h2).1)]; rfl)
    generalize (T.getD j TB.zero).l.getD i EN.zero = old at r0 r1 r2 r3 HYES HNO
    obtain ⟨pk, ps, pm, pf⟩ := old
    dsimp only at r0 r1 r2 r3
    have HB := Lib.hid hRB
    have HKX := Lib.hid hkx
    have HNB := Lib.hid hN1
    have HG := Lib.hid (And.intro l5 (And.intro l6 (Nat.lt_of_lt_of_le l6 h9B)))
    clear hkx hRI hRB hN1 hk hsz hfull hE2 hTL hmul l4 l5 l6 hll hfz hj hi hpos h9B hcn hcl hnm hat hcq
    simp only [hq1, hq2]
    clear hq1 hq2
    generalize hg : gOf P0 j = g at r0 r1 r2 r3 f0 f1 f2 f3 HYES HG ⊢
    clear hg
    obtain ⟨_, e0, e1, e2, e3, _⟩ := HB.out.e
    dsimp only at e0 e1 e2 e3
    have z0 : ∀ p : Wk (fun W2 => W2 = W.drew), p.W.cell? ⟨g, i * 4, none⟩ = some (.int .u8 pk) := fun p => by rw [p.h]; exact r0
    have z1 : ∀ p : Wk (fun W2 => W2 = W.drew), p.W.cell? ⟨g, i * 4 + 1, none⟩ = some (.int .i64 ps) := fun p => by rw [p.h]; exact r1
    have z2 : ∀ p : Wk (fun W2 => W2 = W.drew), p.W.cell? ⟨g, i * 4 + 2, none⟩ = some (.int .i64 pm) := fun p => by rw [p.h]; exact r2
    have z3 : ∀ p : Wk (fun W2 => W2 = W.drew), p.W.cell? ⟨g, i * 4 + 3, none⟩ = some (.int .i64 pf) := fun p => by rw [p.h]; exact r3
    have y0 : ∀ p : Wk (fun W2 => W2 = W.drew), p.W.cell? ⟨w.heap.size + 1, 0, none⟩ = some (.int .u8 k) := fun p => by rw [p.h]; exact e0
    have y1 : ∀ p : Wk (fun W2 => W2 = W.drew), p.W.cell? ⟨w.heap.size + 1, 1, none⟩ = some (.int .i64 st) := fun p => by rw [p.h]; exact e1
    have y2 : ∀ p : Wk (fun W2 => W2 = W.drew), p.W.cell? ⟨w.heap.size + 1, 2, none⟩ = some (.int .i64 mb) := fun p => by rw [p.h]; exact e2
    have y3 : ∀ p : Wk (fun W2 => W2 = W.drew), p.W.cell? ⟨w.heap.size + 1, 3, none⟩ = some (.int .i64 fr'x) := fun p => by rw [p.h]; exact e3
    clear e0 e1 e2 e3
    rcases en_cases pk ps pm pf k st mb fr'x with he | ⟨hne, hcs⟩
    · obtain ⟨hc1, hPUT⟩ := HYES.out he
      injection he with q0 q1 q2 q3
      subst q0 q1 q2 q3
      clear HYES HNO
      have HC1 := Lib.hid hc1
      have HPUT := Lib.hid hPUT
      clear hc1 hPUT
      gi_wp2
      refine wpIn_region_wk_round (fun W2 => W2 = W.drew) (by kernel_rfl) (by kernel_rfl) (by kernel_rfl) rfl ?_
      have ne : Nonempty (Wk (fun W2 => W2 = W.drew)) := ⟨⟨_, rfl⟩⟩
      repeat (refine wpQuiet_step (fun K hK => ?_); go_simp; refine hK _ ?_; clear hK K)
      refine wpQuiet_nil ?_
      intro p
      rw [p.h]
      clear z0 z1 z2 z3 y0 y1 y2 y3 ne p
      have HRd : Hid (∃ P', RI w (putN W.drew g (i * 4) ⟨k', st', mb', fr'⟩) w5.heap.size E (BN : Int) T b9 A2 cap2 Bp b9 (w4.heap.size + 1) w4.heap.size P0 F (cntF E T (j * E + i) + 1) P') := Lib.hid (by
        obtain ⟨P', h⟩ := HPUT.out
        have h2 := h.ap (S := fun _ => False) (Ap.of_below (Below.refl _ _).drew) (fun _ h => h.elim) (by have := HWB.out; omega)
        exact ⟨P', h2⟩)
      have HBx := Lib.hid (HB.out.below (Below.refl _ _).drew)
      have HNx := Lib.hid (HNB.out.below (Below.refl _ _).drew)
      have HKx := Lib.hid (HKX.out.ap (S := fun _ => False) (Ap.of_below (Below.refl _ _).drew) (fun _ h => h.elim))
      have HKP0 : Hid (KeepsFrom w5.heap.size W W.drew) := Lib.hid ((KeepsOthers.drew W).from _)
      have rd0 : W.drew.cell? ⟨g, i * 4, none⟩ = some (.int .u8 pk) := r0
      have rd1 : W.drew.cell? ⟨g, i * 4 + 1, none⟩ = some (.int .i64 ps) := r1
      have rd2 : W.drew.cell? ⟨g, i * 4 + 2, none⟩ = some (.int .i64 pm) := r2
      have rd3 : W.drew.cell? ⟨g, i * 4 + 3, none⟩ = some (.int .i64 pf) := r3
      have fd0 : W.drew.frozen? ⟨g, i * 4, none⟩ = false := f0
      have fd1 : W.drew.frozen? ⟨g, i * 4 + 1, none⟩ = false := f1
      have fd2 : W.drew.frozen? ⟨g, i * 4 + 2, none⟩ = false := f2
      have fd3 : W.drew.frozen? ⟨g, i * 4 + 3, none⟩ = false := f3
      clear HPUT r0 r1 r2 r3 f0 f1 f2 f3 HB HNB HKX
      generalize W.drew = Wd at HRd HBx HNx HKx HKP0 rd0 rd1 rd2 rd3 fd0 fd1 fd2 fd3 ⊢
      have HAP := Lib.hid (ap_putN Wd g (i * 4) ⟨k', st', mb', fr'⟩)
      have HBd := Lib.hid (HBx.out.ap HAP.out (fun q e => by have h1 := HG.out.1; have h2 := HN9.out.2; omega))
      have HNd := Lib.hid (HNx.out.ap HAP.out (by have := HG.out.2.1; omega))
      have HKd := Lib.hid (HKx.out.ap HAP.out (fun q e => by rw [e]; exact HG.out.2.2))
      have HKP : Hid (KeepsFrom w5.heap.size W (putN Wd g (i * 4) ⟨k', st', mb', fr'⟩)) := Lib.hid (HKP0.out.trans (keeps_ap HAP.out (fun q e => by rw [e]; exact HG.out.2.2)))
      obtain ⟨_, e0, e1, e2, e3, _⟩ := HBx.out.f
      dsimp only at e0 e1 e2 e3
      have n0 := HNd.out.c
      have nf := HNd.out.f
      unfold putN at n0 nf HRd HBd HNd HKd HKP
      dsimp only at n0 nf HRd HBd HNd HKd HKP
      clear HAP HBx HNx HKx HKP0
      generalize blkF E T (posF E T (cntF E T (j * E + i))) = bb
      gi_wp2
      have hww := HW1.out
      rw [hww]
      clear hww e0 e1 e2 e3 rd0 rd1 rd2 rd3 fd0 fd1 fd2 fd3 n0 nf
      generalize (((Wd.setCell ⟨g, i * 4, none⟩ (.int .u8 k')).setCell ⟨g, i * 4 + 1, none⟩ (.int .i64 st')).setCell ⟨g, i * 4 + 2, none⟩ (.int .i64 mb')).setCell ⟨g, i * 4 + 3, none⟩ (.int .i64 fr') = W1 at HRd HBd HNd HKd HKP ⊢
      have hap := ap_put W1 (b9 + 1) 0 (.int .i64 ((cq : Int) + 1))
      have h13 := H13.out
      have hs5 := HSZ.out
      have hn9 := HN9.out
      obtain ⟨P', hP'⟩ := HRd.out
      exact ⟨HKP.out.trans (keeps_ap hap (fun q e => by omega)), HKd.out.ap hap (fun q e => by omega), ⟨P', hP'.one (by omega) (by omega) (by omega) (by omega) (by omega) _⟩, HBd.out.ap hap (fun q e => by omega), by rw [HC1.out, Int.natCast_add]; exact HNd.out.set _⟩
    · obtain ⟨hc1, hRI2⟩ := HNO.out hne
      have HC1 := Lib.hid hc1
      have HR2 := Lib.hid hRI2
      clear HYES HNO hc1 hRI2 hne f0 f1 f2 f3
      rcases hcs with b0 | ⟨b0, b1⟩ | ⟨b0, b1, b2⟩ | ⟨b0, b1, b2, b3⟩
      all_goals gi_wp2
      all_goals refine wpIn_region_wk_round (fun W2 => W2 = W.drew) (by kernel_rfl) (by kernel_rfl) (by kernel_rfl) rfl ?_
      all_goals have ne : Nonempty (Wk (fun W2 => W2 = W.drew)) := ⟨⟨_, rfl⟩⟩
      all_goals repeat (refine wpQuiet_step (fun K hK => ?_); go_simp; refine hK _ ?_; clear hK K)
      all_goals refine wpQuiet_nil ?_
      all_goals intro p
      all_goals rw [p.h]
      all_goals clear z0 z1 z2 z3 y0 y1 y2 y3 ne p
      all_goals gi_wp2
      all_goals exact ⟨(KeepsOthers.drew W).from _, HKX.out.ap (S := fun _ => False) (Ap.of_below (Below.refl _ _).drew) (fun _ h => h.elim), ⟨P, HR2.out.ap (S := fun _ => False) (Ap.of_below (Below.refl _ _).drew) (fun _ h => h.elim) (by have := HWB.out; omega)⟩, HB.out.below (Below.refl _ _).drew, by rw [HC1.out]; exact HNB.out.below (Below.refl _ _).drew⟩
  case done =>
    rintro D X W hD ⟨hkx, ⟨P, hRI⟩, hRB, hN1⟩ hK
    have HMP : Hid (P.map Prod.fst = swapT ⟨k, st, mb, fr'x⟩ ⟨k', st', mb', fr'⟩ T) := Lib.hid (by
      have h := hRI.mid.done HLENS.out (by rw [HFD.out]; exact swap_hole _ _)
      rw [HFD.out] at h
      exact h)
    have hPL : P.length = T.length := hRI.mid.1
    have hU := hRI.hU
    have hB := hRI.hB
    have hn9 := HN9.out
    have hs5 := HSZ.out
    have h13 := H13.out
    have HCT := Lib.hid (cntS_all HOK.out ⟨k, st, mb, fr'x⟩)
    rw [HCT.out] at hN1
    have hbd : Below W.heap.size W W.drew := (Below.refl _ _).drew
    have HP1 := Lib.hid (hRI.pw.below hbd)
    have HX1 := Lib.hid (hRI.nx.below hbd)
    have HB1 := Lib.hid (hRB.below hbd)
    have HN1 := Lib.hid (hN1.below hbd)
    have HK1 : Hid (W.drew.heap[D]? = some (.deferred (some []))) := Lib.hid hK
    have HSW : Hid (b9 ≤ W.drew.heap.size) := Lib.hid (Nat.le_of_lt HX1.out.lt)
    have HDD : Hid (b9 < D ∧ w.heap.size + 3 < D) := Lib.hid (by omega)
    have HPLN : Hid (P.length ≤ 65537) := Lib.hid (by rw [hPL]; have := HOK.out.len; omega)
    have hPr := (callsIn_wide (n := 11)).2 (prune_any P (.slice A2 T.length cap2) Bp b9 (BN : Int) W.drew HP1.out.po HSW.out HPLN.out)
    obtain ⟨_, c0, c1, _, _⟩ := hRI.nx
    have n0 := hN1.c
    have cd0 : W.drew.cell? ⟨b9, 0, none⟩ = some (.int .i64 (BN : Int)) := c0
    have cd1 : W.drew.cell? ⟨b9, 1, none⟩ = some (.slice A2 T.length cap2) := c1
    have nd0 : W.drew.cell? ⟨b9 + 1, 0, none⟩ = some (.int .i64 ((flatM E BN T).countP (swapQ ⟨k, st, mb, fr'x⟩) : Int)) := n0
    clear HCT
    generalize hcn : (flatM E BN T).countP (swapQ ⟨k, st, mb, fr'x⟩) = cn at HN1 n0 nd0 hN1
    have HCN := Lib.hid hcn
    clear hcn
    clear hkx hRI hRB hK hPL hU hB hn9 hD hN1 hs5 h13 hbd
    gi_wp2
    refine wpIn_calm ?_
    gi_region_with (gi_at_call 52; (with_reducible refine hPr.mono ?_); rintro e W2 ⟨v8, rfl, hpo, hap2⟩; (obtain ⟨A8, c8, rfl, _⟩ := own_form hpo.own); have HB2 := Lib.hid (HB1.out.ap hap2 (fun q e => by have := HP1.out.ob q e; have := HN9.out.2; omega)); have HN2 := Lib.hid (HN1.out.ap hap2 (fun e => by have := HP1.out.up _ e.symm; omega)); have HK2 : Hid (W2.heap[D]? = some (.deferred (some []))) := Lib.hid ((hap2.block D (Array.getElem?_eq_some_iff.1 HK1.out).1 (fun e => by have := HP1.out.up D e.symm; have := HDD.out.1; omega)).trans HK1.out); have HPO := Lib.hid hpo; clear hpo hap2; (obtain ⟨_, z0, z1, g0, g1⟩ := HB2.out.r); have n2 := HN2.out.c; have n3 := (HN2.out.ap ((ap_put W2 (w.heap.size + 3) 0 (.int .i64 (BN : Int))).trans (ap_put _ (w.heap.size + 3) 1 (.slice A8 (P.filter keepB).length c8))) (by have := HN9.out.1; omega)).c)
    all_goals unfold calmQ
    all_goals gi_wp2
    all_goals have hap3 : Ap (fun q => q = w.heap.size + 3) W2 ((W2.setCell ⟨w.heap.size + 3, 0, none⟩ (.int .i64 (BN : Int))).setCell ⟨w.heap.size + 3, 1, none⟩ (.slice A8 (P.filter keepB).length c8)) := (ap_put W2 (w.heap.size + 3) 0 _).trans (ap_put _ (w.heap.size + 3) 1 _)
    all_goals have hk3 := (hap3.block D (Array.getElem?_eq_some_iff.1 HK2.out).1 (by have := HDD.out.2; omega)).trans HK2.out
    all_goals have y0 : ((W2.setCell ⟨w.heap.size + 3, 0, none⟩ (.int .i64 (BN : Int))).setCell ⟨w.heap.size + 3, 1, none⟩ (.slice A8 (P.filter keepB).length c8)).cell? ⟨w.heap.size + 3, 0, none⟩ = some (.int .i64 (BN : Int)) := (cell_putne _ _ _ _ _ (by omega)).trans (cell_put z0 _)
    all_goals have y1 : ((W2.setCell ⟨w.heap.size + 3, 0, none⟩ (.int .i64 (BN : Int))).setCell ⟨w.heap.size + 3, 1, none⟩ (.slice A8 (P.filter keepB).length c8)).cell? ⟨w.heap.size + 3, 1, none⟩ = some (.slice A8 (P.filter keepB).length c8) := cell_put ((cell_putne _ _ _ _ _ (by omega)).trans z1) _
    all_goals have hb3 := HB2.out.bl.trans (hap3.below HB2.out.bl.size (fun q e => by omega))
    all_goals have hpo3 := HPO.out.ap hap3 (fun q e => .inl (by have := HN9.out.2; omega))
    all_goals have hlt3 : w.heap.size + 3 < ((W2.setCell ⟨w.heap.size + 3, 0, none⟩ (.int .i64 (BN : Int))).setCell ⟨w.heap.size + 3, 1, none⟩ (.slice A8 (P.filter keepB).length c8)).heap.size := Nat.lt_of_lt_of_le HB2.out.r.lt hap3.size
    all_goals clear n2 n3 z0 z1 g0 g1
    all_goals refine ⟨by simp, .inl ⟨_, _, rfl, run_takeDeferred hk3, ?_⟩⟩
    all_goals generalize (W2.setCell ⟨w.heap.size + 3, 0, none⟩ (.int .i64 (BN : Int))).setCell ⟨w.heap.size + 3, 1, none⟩ (.slice A8 (P.filter keepB).length c8) = W3 at hk3 y0 y1 hb3 hpo3 hlt3 hap3 ⊢
    all_goals have hap4 : Ap (fun q => q = D) W3 (W3.putObj D (.deferred none)) := Ap.grown (Ap.refl W3) (grownBy_putObj' _ D _) (fun q hq => .inl (by injection hq with hq; exact hq.symm))
    all_goals have y0' : (W3.putObj D (.deferred none)).cell? ⟨w.heap.size + 3, 0, none⟩ = some (.int .i64 (BN : Int)) := (hap4.cell hlt3 (by have := HDD.out.2; omega) _).trans y0
    all_goals have y1' : (W3.putObj D (.deferred none)).cell? ⟨w.heap.size + 3, 1, none⟩ = some (.slice A8 (P.filter keepB).length c8) := (hap4.cell hlt3 (by have := HDD.out.2; omega) _).trans y1
    all_goals refine ⟨.tuple #[.agg #[.int .i64 (BN : Int), .slice A8 (P.filter keepB).length c8], .int .i64 (cn : Int), .int .i64 0], ?_, _, by rw [HCN.out], ?_, hb3.trans (hap4.below hb3.size (fun q e => by have := HDD.out.2; omega))⟩
    all_goals first
      | (have h5 := (hpo3.ap hap4 (fun q e => .inr (by have := HDD.out.1; omega))).tabsF (B' := w.heap.size) (by have := HN9.out.2; omega)
         rw [map_filterP, HMP.out] at h5
         exact h5)
      | simp [results, Try.f31, go_sem, y0', y1']
end Go.Proofs.Ytjocdbacdbhemaa
