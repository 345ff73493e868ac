/- Charts: what stands beside a map that is changed; Set where it changes nothing. Charts: Set where it changes. -/
import Derived.Test.YtngkbcaflkinhaaDoorChvH
import Derived.Test.YtngkbcaflkinhaaDoorChvMB
namespace Go.Proofs.YtngkbcaflkinhaaDoor
open Go.RowKit

theorem PW.apn {S : Nat → Prop} {W W' : World} {B U E : Nat} {v : Value} {P : List PT} (k : PW W B U E v P) (a : Ap S W W') (hS : ∀ q, S q → some q ≠ v.ownBlock ∧ ∀ p ∈ P, some q ≠ p.2.ownBlock) : PW W' B U E v P :=
  ⟨own_ap k.own a (fun g hg h => (hS g h).1 hg.symm), fun p hp => (k.row p hp).ap a (fun q h => .inr (.inr ((hS q h).2 p hp))), k.nd, k.up, k.ups⟩
theorem COk.lens {E BN : Nat} {T : List TB} (h : COk E BN T) : ∀ j, j < T.length → (T.getD j TB.zero).l.length = E := fun j hj => by
  obtain ⟨k, _, _, hk⟩ := h.each j hj
  have := tblB_len hk
  omega
/-- The boxes, the map under way, and where it lies. -/
structure ST (w W : World) (BN : Int) (v : Value) (x : EN) (b11 : Nat) (v11 : Value) (Bp U E : Nat) (P : List PT) : Prop where
  sb : SB w W BN v x
  nx : B2 W b11 (.int .i64 BN) v11
  pw : PW W Bp U E v11 P
  hb : w.heap.size + 2 < Bp
  hbb : w.heap.size + 2 < b11
  hBb : Bp ≤ W.heap.size
  hU : U ≤ W.heap.size
  n1 : v11.ownBlock ≠ some b11
  n2 : ∀ p ∈ P, p.2.ownBlock ≠ some b11
theorem ST.below {w W W' : World} {BN : Int} {v : Value} {x : EN} {b11 : Nat} {v11 : Value} {Bp U E : Nat} {P : List PT} (k : ST w W BN v x b11 v11 Bp U E P) (h : Below W.heap.size W W') : ST w W' BN v x b11 v11 Bp U E P :=
  ⟨k.sb.below h, k.nx.below h, k.pw.below h, k.hb, k.hbb, Nat.le_trans k.hBb h.size, Nat.le_trans k.hU h.size, k.n1, k.n2⟩
/-- Behind clone. -/
theorem ST.start {w W W2 : World} {BN : Int} {v v11 : Value} {x : EN} {E : Nat} {P : List PT} (h1 : SB w W BN v x) (h2 : PW W2 (W.heap.size + 2) W2.heap.size E v11 P) (h3 : Below W.heap.size W W2) (h4 : W.heap.size + 2 ≤ W2.heap.size) :
    ST w (W2.alloc (.cells #[.int .i64 BN, v11] 27)) BN v x W2.heap.size v11 (W.heap.size + 2) W2.heap.size E P := by
  have hbw := below1 W2 (.cells #[.int .i64 BN, v11] 27)
  have hr := h1.r.lt
  have hs := h3.size
  exact ⟨(h1.below h3).below hbw, B2.new W2 _ _ _, h2.below hbw, by omega, by omega, by rw [World.size_alloc]; omega, by simp, fun e => by have := h2.up _ e; omega, fun p hp e => by have := h2.ups p hp _ e; omega⟩
theorem SB.tabs2 {w W : World} {BN : Int} {v : Value} {x : EN} {b11 : Nat} {v11 : Value} {Bp U E : Nat} {P : List PT} (k : ST w W BN v x b11 v11 Bp U E P) (u0 u1 : Value) : TabsF w.heap.size ((W.setCell ⟨w.heap.size + 2, 0, none⟩ u0).setCell ⟨w.heap.size + 2, 1, none⟩ u1) v11 (P.map Prod.fst) := by
  have hap : Ap (fun q => q = w.heap.size + 2) W ((W.setCell ⟨w.heap.size + 2, 0, none⟩ u0).setCell ⟨w.heap.size + 2, 1, none⟩ u1) := (ap_put W (w.heap.size + 2) 0 _).trans (ap_put _ (w.heap.size + 2) 1 _)
  have h := k.pw.ap hap (fun q e => .inl (by have := k.hb; omega))
  exact h.po.tabsF (by have := k.hb; omega)
set_option maxRecDepth 100000 in
set_option maxHeartbeats 8000000 in
/-- The map is not right. -/
theorem chtSet_no0 (e B b : Int) (T : List TB) (v : Value) (x : EN) (w : World) (hv : TabsS w v T) (h1 : okB e ⟨B, T⟩ = false) :
    Calls Tryd.prog 7 #[.int .i64 e, .agg #[.int .i64 B, v], .int .i64 b, x.v] w fun e' w' => ∃ tv, e' = .returned (.tuple #[.agg #[.int .i64 0, tv], .int .i64 2]) ∧ TabsF w.heap.size w' tv [] ∧ Below w.heap.size w w' := by
  have hC := fun W h => chtCheck_any e B T v W h
  unfold chtE at hC
  have HG0 := Lib.hid (SB.new w B v x)
  have HV := Lib.hid hv
  obtain ⟨A, cap, rfl⟩ := hv.form
  clear hv
  unfold EN.v
  rw [h1, if_neg (by decide)] at hC
  clear h1
  obtain ⟨k, st, mb, fr⟩ := x
  dsimp only at HG0 ⊢
  go_enter Tryd.func7, Tryd.ntmps7
  go_upto_region 1 with fail
  generalize ((w.alloc (.cells #[.int .i64 B, .slice A T.length cap] 27)).alloc (.cells #[.int .u8 k, .int .i64 st, .int .i64 mb, .int .i64 fr] 38)).alloc (.cells #[.int .i64 0, .slice none 0 0] 27) = w0 at HG0 ⊢
  have HV0 := Lib.hid (HV.out.below HG0.out.bl)
  obtain ⟨_, y0, y1, _, _⟩ := HG0.out.c
  go_wp2_with (go_at_call 6; (with_reducible refine (hC _ HV0.out).mono ?_); rintro e w1 ⟨rfl, hb1⟩; have HG1 := Lib.hid (HG0.out.below hb1); clear hb1 y0 y1; obtain ⟨_, z0, z1, f0, f1⟩ := HG1.out.r)
  obtain ⟨hB, y0, y1⟩ := HG1.out.ends (.int .i64 0) (.slice none 0 0)
  refine bodyPost_ret (v := .tuple #[.agg #[.int .i64 0, .slice none 0 0], .int .i64 2]) (by simp [results, Tryd.results7, go_sem, y0, y1]) rfl ?_
  exact ⟨_, rfl, TabsF.none _ _, hB⟩
set_option maxRecDepth 100000 in
set_option maxHeartbeats 8000000 in
/-- There is no such block, or the entry is not right. -/
theorem chtSet_no1 (E BN : Nat) (b : Int) (T : List TB) (v : Value) (x : EN) (w : World) (hv : TabsS w v T) (hOK : COk E BN T) (hok : okB (E : Int) ⟨(BN : Int), T⟩ = true) (re : Int) (hcase : (¬ (0 ≤ b ∧ b < (BN : Int)) ∧ re = 1) ∨ ((0 ≤ b ∧ b < (BN : Int)) ∧ ¬ EOk x ∧ re = 2)) :
    Calls Tryd.prog 7 #[.int .i64 (E : Int), .agg #[.int .i64 (BN : Int), v], .int .i64 b, x.v] w fun e' w' => ∃ tv, e' = .returned (.tuple #[.agg #[.int .i64 (BN : Int), tv], .int .i64 re]) ∧ TabsF w.heap.size w' tv T ∧ Below w.heap.size w w' := by
  have hC := fun W h => chtCheck_any (E : Int) (BN : Int) T v W h
  unfold chtE at hC
  have hCl := fun W h => clone_any E (BN : Int) T v W h ⟨hOK.e1, hOK.e2⟩ hOK.len hOK.lens
  have hX := entCheck_any x
  have HG0 := Lib.hid (SB.new w (BN : Int) v x)
  have HV := Lib.hid hv
  obtain ⟨A, cap, rfl⟩ := hv.form
  clear hv hOK
  unfold EN.v at hX ⊢
  have HXE : Hid (¬ EOk x → entE x = 2) := Lib.hid (fun h => if_neg h)
  rw [hok, if_pos rfl] at hC
  clear hok
  have hc3 : (b < 0 ∧ re = 1) ∨ (0 ≤ b ∧ (BN : Int) ≤ b ∧ re = 1) ∨ ((0 ≤ b ∧ b < (BN : Int)) ∧ ¬ EOk x ∧ re = 2) := by
    rcases hcase with ⟨h, hr⟩ | h
    · by_cases h0 : b < 0
      · exact .inl ⟨h0, hr⟩
      · exact .inr (.inl ⟨by omega, by omega, hr⟩)
    · exact .inr (.inr h)
  clear hcase
  rcases hc3 with ⟨hlt, rfl⟩ | ⟨hge, hgb, rfl⟩ | ⟨hr, hx, rfl⟩
  · have d1 : decide (b < 0) = true := decide_eq_true hlt
    clear hlt
    obtain ⟨k, st, mb, fr⟩ := x
    dsimp only at hX HG0 ⊢
    go_enter Tryd.func7, Tryd.ntmps7
    go_upto_region 1 with fail
    generalize ((w.alloc (.cells #[.int .i64 (BN : Int), .slice A T.length cap] 27)).alloc (.cells #[.int .u8 k, .int .i64 st, .int .i64 mb, .int .i64 fr] 38)).alloc (.cells #[.int .i64 0, .slice none 0 0] 27) = w0 at HG0 ⊢
    have HV0 := Lib.hid (HV.out.below HG0.out.bl)
    obtain ⟨_, y0, y1, _, _⟩ := HG0.out.c
    go_upto_region 4 with (go_at_call 6; (with_reducible refine (hC _ HV0.out).mono ?_); rintro e w1 ⟨rfl, hb1⟩; have HG1 := Lib.hid (HG0.out.below hb1); have HV1 := Lib.hid (HV0.out.below hb1); clear hb1 y0 y1; obtain ⟨_, y0, y1, _, _⟩ := HG1.out.c)
    go_upto_region 5 with (go_at_call 17; (with_reducible refine (hCl _ HV1.out).mono ?_); rintro e w2 ⟨v2, P, rfl, hpw, hmap, hb2, hsz⟩; (obtain ⟨A2, cap2, rfl, _⟩ := own_form hpw.own); have HST := Lib.hid (ST.start HG1.out hpw hb2 hsz); have HMAP := Lib.hid hmap; clear hpw hmap hb2 hsz y0 y1)
    generalize w2.heap.size = b11 at HST ⊢
    generalize w2.alloc (.cells #[.int .i64 (BN : Int), .slice A2 P.length cap2] 27) = w3 at HST ⊢
    obtain ⟨_, y0, y1, _, _⟩ := HST.out.nx
    obtain ⟨_, z0, z1, f0, f1⟩ := HST.out.sb.r
    go_wp2
    obtain ⟨hB, y0, y1⟩ := HST.out.sb.ends (.int .i64 (BN : Int)) (.slice A2 P.length cap2)
    refine bodyPost_ret (v := .tuple #[.agg #[.int .i64 (BN : Int), .slice A2 P.length cap2], .int .i64 1]) (by simp [results, Tryd.results7, go_sem, y0, y1]) rfl ?_
    exact ⟨_, rfl, by rw [← HMAP.out]; exact SB.tabs2 HST.out _ _, hB⟩
  · have d1 : decide (b < 0) = false := decide_eq_false (by omega)
    have d2 : decide ((BN : Int) ≤ b) = true := decide_eq_true hgb
    clear hge hgb
    obtain ⟨k, st, mb, fr⟩ := x
    dsimp only at hX HG0 ⊢
    go_enter Tryd.func7, Tryd.ntmps7
    go_upto_region 1 with fail
    generalize ((w.alloc (.cells #[.int .i64 (BN : Int), .slice A T.length cap] 27)).alloc (.cells #[.int .u8 k, .int .i64 st, .int .i64 mb, .int .i64 fr] 38)).alloc (.cells #[.int .i64 0, .slice none 0 0] 27) = w0 at HG0 ⊢
    have HV0 := Lib.hid (HV.out.below HG0.out.bl)
    obtain ⟨_, y0, y1, _, _⟩ := HG0.out.c
    go_upto_region 4 with (go_at_call 6; (with_reducible refine (hC _ HV0.out).mono ?_); rintro e w1 ⟨rfl, hb1⟩; have HG1 := Lib.hid (HG0.out.below hb1); have HV1 := Lib.hid (HV0.out.below hb1); clear hb1 y0 y1; obtain ⟨_, y0, y1, _, _⟩ := HG1.out.c)
    go_upto_region 5 with (go_at_call 17; (with_reducible refine (hCl _ HV1.out).mono ?_); rintro e w2 ⟨v2, P, rfl, hpw, hmap, hb2, hsz⟩; (obtain ⟨A2, cap2, rfl, _⟩ := own_form hpw.own); have HST := Lib.hid (ST.start HG1.out hpw hb2 hsz); have HMAP := Lib.hid hmap; clear hpw hmap hb2 hsz y0 y1)
    generalize w2.heap.size = b11 at HST ⊢
    generalize w2.alloc (.cells #[.int .i64 (BN : Int), .slice A2 P.length cap2] 27) = w3 at HST ⊢
    obtain ⟨_, x0, x1, _, _⟩ := HST.out.sb.c
    obtain ⟨_, y0, y1, _, _⟩ := HST.out.nx
    obtain ⟨_, z0, z1, f0, f1⟩ := HST.out.sb.r
    go_wp2
    obtain ⟨hB, y0, y1⟩ := HST.out.sb.ends (.int .i64 (BN : Int)) (.slice A2 P.length cap2)
    refine bodyPost_ret (v := .tuple #[.agg #[.int .i64 (BN : Int), .slice A2 P.length cap2], .int .i64 1]) (by simp [results, Tryd.results7, go_sem, y0, y1]) rfl ?_
    exact ⟨_, rfl, by rw [← HMAP.out]; exact SB.tabs2 HST.out _ _, hB⟩
  · rw [HXE.out hx] at hX
    have d1 : decide (b < 0) = false := decide_eq_false (by omega)
    have d2 : decide ((BN : Int) ≤ b) = false := decide_eq_false (by omega)
    clear hr hx HXE
    obtain ⟨k, st, mb, fr⟩ := x
    dsimp only at hX HG0 ⊢
    go_enter Tryd.func7, Tryd.ntmps7
    go_upto_region 1 with fail
    generalize ((w.alloc (.cells #[.int .i64 (BN : Int), .slice A T.length cap] 27)).alloc (.cells #[.int .u8 k, .int .i64 st, .int .i64 mb, .int .i64 fr] 38)).alloc (.cells #[.int .i64 0, .slice none 0 0] 27) = w0 at HG0 ⊢
    have HV0 := Lib.hid (HV.out.below HG0.out.bl)
    obtain ⟨_, y0, y1, _, _⟩ := HG0.out.c
    go_upto_region 4 with (go_at_call 6; (with_reducible refine (hC _ HV0.out).mono ?_); rintro e w1 ⟨rfl, hb1⟩; have HG1 := Lib.hid (HG0.out.below hb1); have HV1 := Lib.hid (HV0.out.below hb1); clear hb1 y0 y1; obtain ⟨_, y0, y1, _, _⟩ := HG1.out.c)
    go_upto_region 5 with (go_at_call 17; (with_reducible refine (hCl _ HV1.out).mono ?_); rintro e w2 ⟨v2, P, rfl, hpw, hmap, hb2, hsz⟩; (obtain ⟨A2, cap2, rfl, _⟩ := own_form hpw.own); have HST := Lib.hid (ST.start HG1.out hpw hb2 hsz); have HMAP := Lib.hid hmap; clear hpw hmap hb2 hsz y0 y1)
    generalize w2.heap.size = b11 at HST ⊢
    generalize w2.alloc (.cells #[.int .i64 (BN : Int), .slice A2 P.length cap2] 27) = w3 at HST ⊢
    obtain ⟨_, x0, x1, _, _⟩ := HST.out.sb.c
    obtain ⟨_, e0, e1, e2, e3, _⟩ := HST.out.sb.e
    dsimp only at e0 e1 e2 e3
    go_wp2_with (go_at_call 18; (with_reducible refine (hX _).mono ?_); rintro e w4 ⟨rfl, hb4⟩; have HS4 := Lib.hid (HST.out.below hb4); clear hb4 x0 x1 e0 e1 e2 e3; (obtain ⟨_, y0, y1, _, _⟩ := HS4.out.nx); (obtain ⟨_, z0, z1, f0, f1⟩ := HS4.out.sb.r))
    obtain ⟨hB, y0, y1⟩ := HS4.out.sb.ends (.int .i64 (BN : Int)) (.slice A2 P.length cap2)
    refine bodyPost_ret (v := .tuple #[.agg #[.int .i64 (BN : Int), .slice A2 P.length cap2], .int .i64 2]) (by simp [results, Tryd.results7, go_sem, y0, y1]) rfl ?_
    exact ⟨_, rfl, by rw [← HMAP.out]; exact SB.tabs2 HS4.out _ _, hB⟩
end Go.Proofs.YtngkbcaflkinhaaDoor
namespace Go.Proofs.YtngkbcaflkinhaaDoor
open Go.RowKit

theorem SB.ap {S : Nat → Prop} {w W W' : World} {B : Int} {v : Value} {x : EN} (k : SB w W B v x) (a : Ap S W W') (hS : ∀ q, S q → w.heap.size + 2 < q) : SB w W' B v x :=
  ⟨k.bl.trans (a.below k.bl.size (fun q e => by have := hS q e; omega)), k.c.ap a (fun e => by have := hS _ e; omega), Bx.ap k.e a (fun e => by have := hS _ e; omega), k.r.ap a (fun e => by have := hS _ e; omega)⟩
theorem PO.apn {S : Nat → Prop} {W W' : World} {B U : Nat} {v : Value} {P : List PT} (k : PO W B U v P) (a : Ap S W W') (hS : ∀ q, S q → some q ≠ v.ownBlock ∧ ∀ p ∈ P, some q ≠ p.2.ownBlock) : PO W' B U v P :=
  ⟨own_ap k.own a (fun g hg h => (hS g h).1 hg.symm), fun p hp => (k.each p hp).ap a (fun q h => .inr (.inr ((hS q h).2 p hp))), k.up, k.ups⟩
theorem PW.ob {W : World} {B U E : Nat} {v : Value} {P : List PT} (k : PW W B U E v P) : ∀ q, some q = v.ownBlock → B ≤ q := fun q h => (World.ownsRow.lt k.own q h.symm).1
theorem map_filterP (P : List PT) : (P.filter keepB).map Prod.fst = pruneT (P.map Prod.fst) := by
  unfold pruneT keepB
  rw [List.filter_map]; rfl
theorem map_ins (P : List PT) (i : Nat) (k : Int) (gn E : Nat) : (P.take i ++ newP k gn E :: P.drop i).map Prod.fst = (P.map Prod.fst).take i ++ ⟨k, List.replicate E EN.zero⟩ :: (P.map Prod.fst).drop i := by
  rw [List.map_append, List.map_cons, List.map_take, List.map_drop]; rfl
/-- A new table of holes, made and put between. -/
theorem ST.ins {w W : World} {BN : Int} {v v2 : Value} {x : EN} {b11 Bp U E i : Nat} {P : List PT} {k : Int} (h : ST w W BN v x b11 v2 Bp U E P) (hi : i ≤ P.length) (hl : P.length ≤ 65536) (hE : E ≤ 8192) :
    Calls Tryd.prog 20 #[v2, .int .i64 (i : Int), .slice (some ⟨W.heap.size + 1, 0, none⟩) 1 1] (((W.alloc (.cells (madeCells zeroC (E * 4)) 38)).alloc (.cells #[.int .i64 k, .slice (some ⟨W.heap.size, 0, none⟩) E E] 42))).drew fun e w5 =>
      ∃ v3, e = .returned v3 ∧ (∃ A3 n3 c3, v3 = .slice A3 n3 c3) ∧ B2 w5 b11 (.int .i64 BN) v2 ∧ ST w (w5.setCell ⟨b11, 1, none⟩ v3) BN v x b11 v3 Bp w5.heap.size E (P.take i ++ newP k W.heap.size E :: P.drop i) := by
  obtain ⟨WA, hWA⟩ : ∃ WA, WA = W.alloc (.cells (madeCells zeroC (E * 4)) 38) := ⟨_, rfl⟩
  have hbA : Below W.heap.size W WA := by rw [hWA]; exact below1 _ _
  have hrA : RowE WA W.heap.size (List.replicate E EN.zero) := by rw [hWA]; exact RowE.made W E _
  have hsA : WA.heap.size = W.heap.size + 1 := by rw [hWA]; simp
  rw [← hWA]
  obtain ⟨WB, hWB⟩ : ∃ WB, WB = WA.alloc (.cells #[.int .i64 k, .slice (some ⟨W.heap.size, 0, none⟩) E E] 42) := ⟨_, rfl⟩
  have hbB : Below WA.heap.size WA WB := by rw [hWB]; exact below1 _ _
  have hvb : WB.heap[W.heap.size + 1]? = some (.cells #[.int .i64 k, .slice (some ⟨W.heap.size, 0, none⟩) E E] 42 (0, 0)) := by rw [hWB, ← hsA]; exact heap_alloc_new WA _
  have hsB : WB.heap.size = W.heap.size + 2 := by rw [hWB]; simp [hsA]
  rw [← hWB]
  have hrB : RowE WB W.heap.size (List.replicate E EN.zero) := hrA.below hbB
  have hST : ST w WB BN v x b11 v2 Bp U E P := (h.below hbA).below hbB
  have hST' : ST w WB.drew BN v x b11 v2 Bp U E P := hST.below (Below.refl _ _).drew
  have hsD : WB.drew.heap.size = W.heap.size + 2 := hsB
  have hI := insP_any P v2 Bp U E i (W.heap.size + 1) W.heap.size k WB.drew hST'.pw hi hl (by have := h.hU; omega) (by have := h.hBb; omega) hE hvb (by have := h.hU; omega) (hrB.below (Below.refl _ _).drew) h.hU h.hBb
  refine hI.mono ?_
  rintro e w5 ⟨v3, rfl, hp, ha, hob⟩
  have hb2 := hST'.nx.ap ha (fun e => hST'.n1 e.symm)
  have hsz := ha.size
  have hb11 : b11 < W.heap.size := h.nx.lt
  have hap := ap_put w5 b11 1 v3
  have hv3 : v3.ownBlock ≠ some b11 := fun e => by
    rcases hob with h1 | ⟨q, h1, h2⟩
    · exact hST'.n1 (h1.symm.trans e)
    · rw [h1] at e; injection e with e; omega
  have hap2 : ∀ q, q = b11 → some q ≠ v3.ownBlock ∧ ∀ p ∈ (P.take i ++ newP k W.heap.size E :: P.drop i), some q ≠ p.2.ownBlock := fun q e => by
    subst e
    refine ⟨fun h => hv3 h.symm, fun p hp' e => ?_⟩
    rcases List.mem_append.1 hp' with hp' | hp'
    · exact h.n2 p ((List.take_sublist ..).subset hp') e.symm
    · rcases List.mem_cons.1 hp' with rfl | hp'
      · have : W.heap.size = q := by injection e.symm
        omega
      · exact h.n2 p ((List.drop_sublist ..).subset hp') e.symm
  obtain ⟨A3, c3, hv3f, _⟩ := own_form hp.own
  refine ⟨v3, rfl, ⟨A3, _, c3, hv3f⟩, hb2, ?_, hb2.put1 v3, hp.apn hap hap2, h.hb, h.hbb, ?_, ?_, fun e => (hap2 b11 rfl).1 e.symm, fun p hp' e => (hap2 b11 rfl).2 p hp' e.symm⟩
  · exact (hST'.sb.ap ha (fun q e => by have := hST'.pw.ob q e; have := h.hb; omega)).ap hap (fun q e => by have := h.hbb; omega)
  · have := h.hBb; have := hap.size; omega
  · exact hap.size
/-- An entry of the map under way is set. -/
theorem ST.put {w W : World} {BN : Int} {v v3 : Value} {x : EN} {b11 Bp U E i r g c : Nat} {P : List PT} (h : ST w W BN v x b11 v3 Bp U E P) (hi : i < P.length) (hr : r < E) (hg : (P.getD i PT.zero).2 = .slice (some ⟨g, 0, none⟩) E c) (s : EN) :
    ST w (putN W g (r * 4) s) BN v x b11 v3 Bp U E (P.set i (⟨(P.getD i PT.zero).1.at', (P.getD i PT.zero).1.l.set r s⟩, (P.getD i PT.zero).2)) := by
  have hap := ap_putN W g (r * 4) s
  have hm := getD_memP hi
  have hn := h.n2 _ hm
  have hn0 := h.n2 _ hm
  obtain ⟨g', c', e1, _, _, _, _, e6, _⟩ := h.pw.row _ hm
  rw [hg] at e1 hn
  injection e1 with e1 _ _
  injection e1 with e1
  injection e1 with e1 _ _
  subst e1
  have hgb : g ≠ b11 := fun e => hn (by rw [e]; rfl)
  refine ⟨h.sb.ap hap (fun q e => by have := h.hb; omega), h.nx.ap hap (fun e => hgb e.symm), h.pw.put hi hr s hg, h.hb, h.hbb, Nat.le_trans h.hBb hap.size, Nat.le_trans h.hU hap.size, h.n1, fun p hp => ?_⟩
  rcases List.mem_or_eq_of_mem_set hp with hp | rfl
  · exact h.n2 p hp
  · exact hn0
theorem map_put {P : List PT} {i r : Nat} {s : EN} (hi : i < P.length) : (P.set i (⟨(P.getD i PT.zero).1.at', (P.getD i PT.zero).1.l.set r s⟩, (P.getD i PT.zero).2)).map Prod.fst = putT (P.map Prod.fst) i r s := by
  unfold putT
  rw [List.map_set, getD_fst hi]
theorem there_lt {T : List TB} {q : Nat} (hR : Rises T) (h : isThere T (q : Int) = true) : before T (q : Int) < T.length ∧ (T.getD (before T (q : Int)) TB.zero).at' = (q : Int) := by
  obtain ⟨i, hi, ha⟩ := there_iff.1 h
  rw [before_at hi ha hR]
  exact ⟨hi, ha⟩
/-- The result, stored. -/
theorem ST.ends {w W W' : World} {BN : Int} {v v3 v4 : Value} {x : EN} {b11 Bp U E : Nat} {P : List PT} (h : ST w W BN v x b11 v3 Bp U E P) (ha : Ap (fun q => some q = v3.ownBlock) W W') (hp : PO W' Bp U v4 (P.filter keepB)) : SB w W' BN v x ∧
    TabsF w.heap.size ((W'.setCell ⟨w.heap.size + 2, 0, none⟩ (.int .i64 BN)).setCell ⟨w.heap.size + 2, 1, none⟩ v4) v4 (pruneT (P.map Prod.fst)) := by
  have h1 := h.sb.ap ha (fun q e => by have := h.pw.ob q e; have := h.hb; omega)
  have hap : Ap (fun q => q = w.heap.size + 2) W' ((W'.setCell ⟨w.heap.size + 2, 0, none⟩ (.int .i64 BN)).setCell ⟨w.heap.size + 2, 1, none⟩ v4) := (ap_put W' (w.heap.size + 2) 0 _).trans (ap_put _ (w.heap.size + 2) 1 _)
  have h2 := hp.ap hap (fun q e => .inl (by have := h.hb; omega))
  refine ⟨h1, ?_⟩
  rw [← map_filterP]
  exact h2.tabsF (by have := h.hb; omega)
end Go.Proofs.YtngkbcaflkinhaaDoor
