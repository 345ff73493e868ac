/- Charts: the walk of ChartTells. -/
import Derived.Test.YtjocdbacdbhemaaChwL
import Derived.Test.YtjocdbacdbhemaaChuE
import Derived.BigQuiet
namespace Go.Proofs.Ytjocdbacdbhemaa
open Go.RowKit

/-- The law's boxes. -/
structure CT (w W : World) (B : Int) (tv : Value) (T : List TB) (x y : EN) : Prop where
  bl : Below w.heap.size w W
  c : B2 W w.heap.size (.int .i64 B) tv
  x : EBox W (w.heap.size + 1) x
  y : EBox W (w.heap.size + 2) y
  t : TabsS W tv T
theorem CT.below {w W W' : World} {B : Int} {tv : Value} {T : List TB} {x y : EN} (k : CT w W B tv T x y) (h : Below W.heap.size W W') : CT w W' B tv T x y := ⟨k.bl.trans (h.mono k.bl.size), k.c.below h, k.x.below h, k.y.below h, k.t.below h⟩
theorem CT.new (w : World) (B : Int) (tv : Value) (T : List TB) (x y : EN) (h : TabsS w tv T) : CT w (((w.alloc (.cells #[.int .i64 B, tv] 44)).alloc (.cells #[.int .u8 x.kind, .int .i64 x.st, .int .i64 x.mb, .int .i64 x.fr] 26)).alloc (.cells #[.int .u8 y.kind, .int .i64 y.st, .int .i64 y.mb, .int .i64 y.fr] 26)) B tv T x y := by
  generalize ha : w.alloc (.cells #[.int .i64 B, tv] 44) = wa
  have sa : wa.heap.size = w.heap.size + 1 := by rw [← ha]; simp
  have h0 : B2 wa w.heap.size (.int .i64 B) tv := by rw [← ha]; exact B2.new w _ _ _
  have hba : Below w.heap.size w wa := by rw [← ha]; exact below1 _ _
  generalize hb : wa.alloc (.cells #[.int .u8 x.kind, .int .i64 x.st, .int .i64 x.mb, .int .i64 x.fr] 26) = wb
  have sb : wb.heap.size = w.heap.size + 2 := by rw [← hb]; simp [sa]
  have hbb : Below wa.heap.size wa wb := by rw [← hb]; exact below1 _ _
  have h1 : EBox wb wa.heap.size x := by rw [← hb]; exact EBox.new wa _ _ _ _ _
  have hbc := below1 wb (.cells #[.int .u8 y.kind, .int .i64 y.st, .int .i64 y.mb, .int .i64 y.fr] 26)
  have h2 := EBox.new wb y.kind y.st y.mb y.fr 26
  rw [sa] at h1
  rw [sb] at h2
  have hw := (hba.trans (hbb.mono (by omega))).trans (hbc.mono (by omega))
  exact ⟨hw, (h0.below hbb).below hbc, h1.below hbc, h2, h.below hw⟩
/-- A map in a box. -/
structure CB (W : World) (b : Nat) (B : Int) (tv : Value) (T : List TB) : Prop where
  c : B2 W b (.int .i64 B) tv
  t : TabsS W tv T
theorem CB.below {W W' : World} {b : Nat} {B : Int} {tv : Value} {T : List TB} (k : CB W b B tv T) (h : Below W.heap.size W W') : CB W' b B tv T := ⟨k.c.below h, k.t.below h⟩
theorem CB.new (W : World) (B : Int) (tv : Value) (T : List TB) (h : TabsS W tv T) : CB (W.alloc (.cells #[.int .i64 B, tv] 44)) W.heap.size B tv T := ⟨B2.new W _ _ _, h.below (below1 _ _)⟩
set_option maxRecDepth 100000 in
set_option maxHeartbeats 16000000 in
theorem chartTells_walk (e B b nb : Int) (T : List TB) (tv : Value) (x y : EN) (w : World) (hv : TabsS w tv T) :
    Calls Try.prog 6 #[.int .i64 e, .agg #[.int .i64 B, tv], .int .i64 b, x.v, y.v, .int .i64 nb] w fun e' w' => e' = .returned (.bool true) ∧ Below w.heap.size w w' := by
  have hL := cht14Lives_any
  have hG := fun W h => chtGet_any e B b T tv W h
  have hg := fun W h => rchtGet_any e B b T tv W h
  have hS := fun W h => chtSet_any e B b T tv x W h
  have hs := fun W h => rchtSet_any e B b T tv x W h
  have hR := fun W h => chtResize_any e B nb T tv W h
  have hr := fun W h => rchtResize_any e B nb T tv W h
  have hA := fun W h => chtAll_any e B T tv W h
  have ha := fun W h => rchtAll_any e B T tv W h
  have hW := fun W h => chtSwap_any e B T tv y x W h
  have hw := fun W h => rchtSwap_any e B T tv y x W h
  have hN := chtNew_any nb
  have hn := rchtNew_any nb
  have hC := fun W h => chtCheck_any e B T tv W h
  have hc := fun W h => rchtCheck_any e B T tv W h
  have HI : Hid (∀ (a b' : Value) (W : World), IdxS W a (atC e ⟨B, T⟩) → IdxS W b' (atC e ⟨B, T⟩) → Calls Try.prog 38 #[a, b'] W fun e w' => e = .returned (.bool true) ∧ Below W.heap.size W w') := Lib.hid (fun a b' W h1 h2 => (idxSame_any h1 h2).mono fun _ _ h => ⟨h.1.trans (by rw [decide_eq_true rfl]), h.2⟩)
  have HE : Hid (∀ (a b' : Value) (W : World), EntsS W a (enC e ⟨B, T⟩) → EntsS W b' (enC e ⟨B, T⟩) → Calls Try.prog 21 #[a, b'] W fun e w' => e = .returned (.bool true) ∧ Below W.heap.size W w') := Lib.hid (fun a b' W h1 h2 => (rentSame_any _ _ a b' W h1 h2).mono fun _ _ h => ⟨h.1.trans (by rw [decide_eq_true rfl]), h.2⟩)
  have HT0 := Lib.hid (CT.new w B tv T x y hv)
  obtain ⟨A, cap, hvv⟩ := hv.form
  clear hv
  generalize getR e ⟨B, T⟩ b = p at hG hg
  generalize getRE e ⟨B, T⟩ b = pe at hG hg
  generalize setC e ⟨B, T⟩ b x = f at hS hs
  generalize setRE e ⟨B, T⟩ b x = fe at hS hs
  generalize resC e ⟨B, T⟩ nb = q at hR hr
  generalize resE e ⟨B, T⟩ nb = qe at hR hr
  generalize allErr e ⟨B, T⟩ = ae at hA ha
  generalize atC e ⟨B, T⟩ = la at hA ha HI
  generalize enC e ⟨B, T⟩ = le at hA ha HE
  generalize swapC e ⟨B, T⟩ y x = s at hW hw
  generalize swapN e ⟨B, T⟩ y x = sn at hW hw
  generalize swapE e ⟨B, T⟩ x = se at hW hw
  generalize newE nb = ne at hN hn
  generalize newC nb = nc at hN hn
  generalize chtE e ⟨B, T⟩ = ce at hC hc
  subst hvv
  obtain ⟨xk, xs, xm, xf⟩ := x
  obtain ⟨yk, ys, ym, yf⟩ := y
  obtain ⟨pk, ps, pm, pf⟩ := p
  unfold EN.v at *
  dsimp only at *
  go_enter Try.func6, Try.ntmps6
  go_upto_region 1 with fail
  generalize ((w.alloc (.cells #[.int .i64 B, .slice A T.length cap] 44)).alloc (.cells #[.int .u8 xk, .int .i64 xs, .int .i64 xm, .int .i64 xf] 26)).alloc (.cells #[.int .u8 yk, .int .i64 ys, .int .i64 ym, .int .i64 yf] 26) = w0 at HT0 ⊢
  obtain ⟨z, hz⟩ : ∃ z : Bool, z = ((decide (2000 < B) && decide (B ≤ 65536)) || (decide (2000 < nb) && decide (nb ≤ 65536))) := ⟨_, rfl⟩
  have HZ := Lib.hid hz
  clear hz
  go_cut [56] (fun s wx => s = .bool z ∧ CT w wx B (.slice A T.length cap) T ⟨xk, xs, xm, xf⟩ ⟨yk, ys, ym, yf⟩)
  case first =>
    obtain ⟨_, c0, c1, _, _⟩ := HT0.out.c
    have hz := HZ.out
    cases h1 : decide (2000 < B) <;> cases h2 : decide (B ≤ 65536) <;> cases h3 : decide (2000 < nb) <;> cases h4 : decide (nb ≤ 65536)
    all_goals rw [h1, h2, h3, h4] at hz
    all_goals go_wp2_with fail
    all_goals go_meet
    all_goals exact ⟨by rw [hz]; rfl, HT0.out⟩
  case rest =>
  obtain ⟨rfl, hct⟩ := hcut
  have HT0 := Lib.hid hct
  clear hct
  cases z with
  | true =>
    go_wp2_with (go_at_call 22; (with_reducible refine (hL _).mono ?_); rintro e w1 ⟨rfl, hb1⟩; have HB1 := Lib.hid (HT0.out.bl.trans (hb1.mono HT0.out.bl.size)); clear hb1)
    go_ret
    exact ⟨rfl, HB1.out⟩
  | false =>
    obtain ⟨_, c0, c1, _, _⟩ := HT0.out.c
    go_upto_region 4 with (go_at_call 23; (with_reducible refine (hG _ HT0.out.t).mono ?_); rintro e w1 ⟨rfl, hb⟩; have HTv1 := Lib.hid ((HT0.out.below hb).below (below1 w1 (.cells #[.int .u8 pk, .int .i64 ps, .int .i64 pm, .int .i64 pf] 26))); have Pv1 := Lib.hid (EBox.new w1 pk ps pm pf 26); clear hb c0 c1)
    generalize w1.alloc (.cells #[.int .u8 pk, .int .i64 ps, .int .i64 pm, .int .i64 pf] 26) = W1 at HTv1 Pv1 ⊢
    generalize w1.heap.size = bP at Pv1 ⊢
    have HT1 := HTv1
    have P1 := Pv1
    clear HTv1 Pv1
    clear HT0
    obtain ⟨_, c0, c1, _, _⟩ := HT1.out.c
    go_upto_region 5 with (go_at_call 24; (with_reducible refine (hg _ HT1.out.t).mono ?_); rintro e w2 ⟨rfl, hb⟩; have HTv2 := Lib.hid ((HT1.out.below hb).below (below1 w2 (.cells #[.int .u8 pk, .int .i64 ps, .int .i64 pm, .int .i64 pf] 26))); have Pv2 := Lib.hid ((P1.out.below hb).below (below1 w2 (.cells #[.int .u8 pk, .int .i64 ps, .int .i64 pm, .int .i64 pf] 26))); have Qv2 := Lib.hid (EBox.new w2 pk ps pm pf 26); clear hb c0 c1)
    generalize w2.alloc (.cells #[.int .u8 pk, .int .i64 ps, .int .i64 pm, .int .i64 pf] 26) = W2 at HTv2 Pv2 Qv2 ⊢
    generalize w2.heap.size = bQ at Qv2 ⊢
    have HT2 := HTv2
    have P2 := Pv2
    have Q2 := Qv2
    clear HTv2 Pv2 Qv2
    clear HT1 P1
    obtain ⟨_, c0, c1, _, _⟩ := HT2.out.c
    obtain ⟨_, x0, x1, x2, x3, _⟩ := HT2.out.x
    dsimp only at x0 x1 x2 x3
    go_upto_region 6 with (go_at_call 25; (with_reducible refine (hS _ HT2.out.t).mono ?_); rintro e w3 ⟨tF, rfl, ht, hb⟩; obtain ⟨AF, CF, rfl⟩ := ht.tabs.form; have HTv3 := Lib.hid ((HT2.out.below hb).below (below1 w3 (.cells #[.int .i64 f.blocks, .slice AF f.tabs.length CF] 44))); have Pv3 := Lib.hid ((P2.out.below hb).below (below1 w3 (.cells #[.int .i64 f.blocks, .slice AF f.tabs.length CF] 44))); have Qv3 := Lib.hid ((Q2.out.below hb).below (below1 w3 (.cells #[.int .i64 f.blocks, .slice AF f.tabs.length CF] 44))); have Fv3 := Lib.hid (CB.new w3 f.blocks (.slice AF f.tabs.length CF) f.tabs ht.tabs); clear hb c0 c1 x0 x1 x2 x3 ht)
    generalize w3.alloc (.cells #[.int .i64 f.blocks, .slice AF f.tabs.length CF] 44) = W3 at HTv3 Pv3 Qv3 Fv3 ⊢
    generalize w3.heap.size = bF at Fv3 ⊢
    have HT3 := HTv3
    have P3 := Pv3
    have Q3 := Qv3
    have F3 := Fv3
    clear HTv3 Pv3 Qv3 Fv3
    clear HT2 P2 Q2
    obtain ⟨_, c0, c1, _, _⟩ := HT3.out.c
    obtain ⟨_, x0, x1, x2, x3, _⟩ := HT3.out.x
    dsimp only at x0 x1 x2 x3
    go_upto_region 7 with (go_at_call 26; (with_reducible refine (hs _ HT3.out.t).mono ?_); rintro e w4 ⟨tG, rfl, ht, hb⟩; obtain ⟨AG, CG, rfl⟩ := ht.form; have HTv4 := Lib.hid ((HT3.out.below hb).below (below1 w4 (.cells #[.int .i64 f.blocks, .slice AG f.tabs.length CG] 44))); have Pv4 := Lib.hid ((P3.out.below hb).below (below1 w4 (.cells #[.int .i64 f.blocks, .slice AG f.tabs.length CG] 44))); have Qv4 := Lib.hid ((Q3.out.below hb).below (below1 w4 (.cells #[.int .i64 f.blocks, .slice AG f.tabs.length CG] 44))); have Fv4 := Lib.hid ((F3.out.below hb).below (below1 w4 (.cells #[.int .i64 f.blocks, .slice AG f.tabs.length CG] 44))); have Gv4 := Lib.hid (CB.new w4 f.blocks (.slice AG f.tabs.length CG) f.tabs ht); clear hb c0 c1 x0 x1 x2 x3 ht)
    generalize w4.alloc (.cells #[.int .i64 f.blocks, .slice AG f.tabs.length CG] 44) = W4 at HTv4 Pv4 Qv4 Fv4 Gv4 ⊢
    generalize w4.heap.size = bG at Gv4 ⊢
    have HT4 := HTv4
    have P4 := Pv4
    have Q4 := Qv4
    have F4 := Fv4
    have G4 := Gv4
    clear HTv4 Pv4 Qv4 Fv4 Gv4
    clear HT3 P3 Q3 F3
    obtain ⟨_, c0, c1, _, _⟩ := HT4.out.c
    go_upto_region 8 with (go_at_call 27; (with_reducible refine (hR _ HT4.out.t).mono ?_); rintro e w5 ⟨tR, rfl, ht, hb⟩; obtain ⟨AR, CR, rfl⟩ := ht.tabs.form; have HTv5 := Lib.hid ((HT4.out.below hb).below (below1 w5 (.cells #[.int .i64 q.blocks, .slice AR q.tabs.length CR] 44))); have Pv5 := Lib.hid ((P4.out.below hb).below (below1 w5 (.cells #[.int .i64 q.blocks, .slice AR q.tabs.length CR] 44))); have Qv5 := Lib.hid ((Q4.out.below hb).below (below1 w5 (.cells #[.int .i64 q.blocks, .slice AR q.tabs.length CR] 44))); have Fv5 := Lib.hid ((F4.out.below hb).below (below1 w5 (.cells #[.int .i64 q.blocks, .slice AR q.tabs.length CR] 44))); have Gv5 := Lib.hid ((G4.out.below hb).below (below1 w5 (.cells #[.int .i64 q.blocks, .slice AR q.tabs.length CR] 44))); have Rv5 := Lib.hid (CB.new w5 q.blocks (.slice AR q.tabs.length CR) q.tabs ht.tabs); clear hb c0 c1 ht)
    generalize w5.alloc (.cells #[.int .i64 q.blocks, .slice AR q.tabs.length CR] 44) = W5 at HTv5 Pv5 Qv5 Fv5 Gv5 Rv5 ⊢
    generalize w5.heap.size = bR at Rv5 ⊢
    have HT5 := HTv5
    have P5 := Pv5
    have Q5 := Qv5
    have F5 := Fv5
    have G5 := Gv5
    have R5 := Rv5
    clear HTv5 Pv5 Qv5 Fv5 Gv5 Rv5
    clear HT4 P4 Q4 F4 G4
    obtain ⟨_, c0, c1, _, _⟩ := HT5.out.c
    go_upto_region 9 with (go_at_call 28; (with_reducible refine (hr _ HT5.out.t).mono ?_); rintro e w6 ⟨tS, rfl, ht, hb⟩; obtain ⟨AS, CS, rfl⟩ := ht.form; have HTv6 := Lib.hid ((HT5.out.below hb).below (below1 w6 (.cells #[.int .i64 q.blocks, .slice AS q.tabs.length CS] 44))); have Pv6 := Lib.hid ((P5.out.below hb).below (below1 w6 (.cells #[.int .i64 q.blocks, .slice AS q.tabs.length CS] 44))); have Qv6 := Lib.hid ((Q5.out.below hb).below (below1 w6 (.cells #[.int .i64 q.blocks, .slice AS q.tabs.length CS] 44))); have Fv6 := Lib.hid ((F5.out.below hb).below (below1 w6 (.cells #[.int .i64 q.blocks, .slice AS q.tabs.length CS] 44))); have Gv6 := Lib.hid ((G5.out.below hb).below (below1 w6 (.cells #[.int .i64 q.blocks, .slice AS q.tabs.length CS] 44))); have Rv6 := Lib.hid ((R5.out.below hb).below (below1 w6 (.cells #[.int .i64 q.blocks, .slice AS q.tabs.length CS] 44))); have Sv6 := Lib.hid (CB.new w6 q.blocks (.slice AS q.tabs.length CS) q.tabs ht); clear hb c0 c1 ht)
    generalize w6.alloc (.cells #[.int .i64 q.blocks, .slice AS q.tabs.length CS] 44) = W6 at HTv6 Pv6 Qv6 Fv6 Gv6 Rv6 Sv6 ⊢
    generalize w6.heap.size = bS at Sv6 ⊢
    have HT6 := HTv6
    have P6 := Pv6
    have Q6 := Qv6
    have F6 := Fv6
    have G6 := Gv6
    have R6 := Rv6
    have S6 := Sv6
    clear HTv6 Pv6 Qv6 Fv6 Gv6 Rv6 Sv6
    clear HT5 P5 Q5 F5 G5 R5
    obtain ⟨_, c0, c1, _, _⟩ := HT6.out.c
    go_upto_region 10 with (go_at_call 29; (with_reducible refine (hA _ HT6.out.t).mono ?_); rintro e w7 ⟨ia, ea, rfl, hi, he, hb⟩; have HT7 := Lib.hid (HT6.out.below hb); have P7 := Lib.hid (P6.out.below hb); have Q7 := Lib.hid (Q6.out.below hb); have F7 := Lib.hid (F6.out.below hb); have G7 := Lib.hid (G6.out.below hb); have R7 := Lib.hid (R6.out.below hb); have S7 := Lib.hid (S6.out.below hb); have Iia7 := Lib.hid hi; have Eea7 := Lib.hid he; clear hb hi he c0 c1)
    clear HT6 P6 Q6 F6 G6 R6 S6
    obtain ⟨_, c0, c1, _, _⟩ := HT7.out.c
    go_upto_region 11 with (go_at_call 30; (with_reducible refine (ha _ HT7.out.t).mono ?_); rintro e w8 ⟨ib, eb, rfl, hi, he, hb⟩; have HT8 := Lib.hid (HT7.out.below hb); have P8 := Lib.hid (P7.out.below hb); have Q8 := Lib.hid (Q7.out.below hb); have F8 := Lib.hid (F7.out.below hb); have G8 := Lib.hid (G7.out.below hb); have R8 := Lib.hid (R7.out.below hb); have S8 := Lib.hid (S7.out.below hb); have Iia8 := Lib.hid (Iia7.out.below hb (Nat.le_refl _)); have Eea8 := Lib.hid (Eea7.out.below hb (Nat.le_refl _)); have Iib8 := Lib.hid hi; have Eeb8 := Lib.hid he; clear hb hi he c0 c1)
    clear HT7 P7 Q7 F7 G7 R7 S7 Iia7 Eea7
    obtain ⟨_, c0, c1, _, _⟩ := HT8.out.c
    obtain ⟨_, x0, x1, x2, x3, _⟩ := HT8.out.x
    dsimp only at x0 x1 x2 x3
    obtain ⟨_, y0, y1, y2, y3, _⟩ := HT8.out.y
    dsimp only at y0 y1 y2 y3
    go_upto_region 12 with (go_at_call 31; (with_reducible refine (hW _ HT8.out.t).mono ?_); rintro e w9 ⟨tU, rfl, ht, hb⟩; obtain ⟨AU, CU, rfl⟩ := ht.tabs.form; have HTv9 := Lib.hid ((HT8.out.below hb).below (below1 w9 (.cells #[.int .i64 s.blocks, .slice AU s.tabs.length CU] 44))); have Pv9 := Lib.hid ((P8.out.below hb).below (below1 w9 (.cells #[.int .i64 s.blocks, .slice AU s.tabs.length CU] 44))); have Qv9 := Lib.hid ((Q8.out.below hb).below (below1 w9 (.cells #[.int .i64 s.blocks, .slice AU s.tabs.length CU] 44))); have Fv9 := Lib.hid ((F8.out.below hb).below (below1 w9 (.cells #[.int .i64 s.blocks, .slice AU s.tabs.length CU] 44))); have Gv9 := Lib.hid ((G8.out.below hb).below (below1 w9 (.cells #[.int .i64 s.blocks, .slice AU s.tabs.length CU] 44))); have Rv9 := Lib.hid ((R8.out.below hb).below (below1 w9 (.cells #[.int .i64 s.blocks, .slice AU s.tabs.length CU] 44))); have Sv9 := Lib.hid ((S8.out.below hb).below (below1 w9 (.cells #[.int .i64 s.blocks, .slice AU s.tabs.length CU] 44))); have Iia9 := Lib.hid ((Iia8.out.below hb (Nat.le_refl _)).below (below1 w9 (.cells #[.int .i64 s.blocks, .slice AU s.tabs.length CU] 44)) (Nat.le_refl _)); have Eea9 := Lib.hid ((Eea8.out.below hb (Nat.le_refl _)).below (below1 w9 (.cells #[.int .i64 s.blocks, .slice AU s.tabs.length CU] 44)) (Nat.le_refl _)); have Iib9 := Lib.hid ((Iib8.out.below hb (Nat.le_refl _)).below (below1 w9 (.cells #[.int .i64 s.blocks, .slice AU s.tabs.length CU] 44)) (Nat.le_refl _)); have Eeb9 := Lib.hid ((Eeb8.out.below hb (Nat.le_refl _)).below (below1 w9 (.cells #[.int .i64 s.blocks, .slice AU s.tabs.length CU] 44)) (Nat.le_refl _)); have Uv9 := Lib.hid (CB.new w9 s.blocks (.slice AU s.tabs.length CU) s.tabs ht.tabs); clear hb c0 c1 x0 x1 x2 x3 y0 y1 y2 y3 ht)
    generalize w9.alloc (.cells #[.int .i64 s.blocks, .slice AU s.tabs.length CU] 44) = W9 at Iia9 Eea9 Iib9 Eeb9 HTv9 Pv9 Qv9 Fv9 Gv9 Rv9 Sv9 Uv9 ⊢
    generalize w9.heap.size = bU at Uv9 ⊢
    have HT9 := HTv9
    have P9 := Pv9
    have Q9 := Qv9
    have F9 := Fv9
    have G9 := Gv9
    have R9 := Rv9
    have S9 := Sv9
    have U9 := Uv9
    clear HTv9 Pv9 Qv9 Fv9 Gv9 Rv9 Sv9 Uv9
    clear HT8 P8 Q8 F8 G8 R8 S8
    clear Iia8 Eea8 Iib8 Eeb8
    obtain ⟨_, c0, c1, _, _⟩ := HT9.out.c
    obtain ⟨_, x0, x1, x2, x3, _⟩ := HT9.out.x
    dsimp only at x0 x1 x2 x3
    obtain ⟨_, y0, y1, y2, y3, _⟩ := HT9.out.y
    dsimp only at y0 y1 y2 y3
    go_upto_region 13 with (go_at_call 32; (with_reducible refine (hw _ HT9.out.t).mono ?_); rintro e w10 ⟨tV, rfl, ht, hb⟩; obtain ⟨AV, CV, rfl⟩ := ht.form; have HTv10 := Lib.hid ((HT9.out.below hb).below (below1 w10 (.cells #[.int .i64 s.blocks, .slice AV s.tabs.length CV] 44))); have Pv10 := Lib.hid ((P9.out.below hb).below (below1 w10 (.cells #[.int .i64 s.blocks, .slice AV s.tabs.length CV] 44))); have Qv10 := Lib.hid ((Q9.out.below hb).below (below1 w10 (.cells #[.int .i64 s.blocks, .slice AV s.tabs.length CV] 44))); have Fv10 := Lib.hid ((F9.out.below hb).below (below1 w10 (.cells #[.int .i64 s.blocks, .slice AV s.tabs.length CV] 44))); have Gv10 := Lib.hid ((G9.out.below hb).below (below1 w10 (.cells #[.int .i64 s.blocks, .slice AV s.tabs.length CV] 44))); have Rv10 := Lib.hid ((R9.out.below hb).below (below1 w10 (.cells #[.int .i64 s.blocks, .slice AV s.tabs.length CV] 44))); have Sv10 := Lib.hid ((S9.out.below hb).below (below1 w10 (.cells #[.int .i64 s.blocks, .slice AV s.tabs.length CV] 44))); have Uv10 := Lib.hid ((U9.out.below hb).below (below1 w10 (.cells #[.int .i64 s.blocks, .slice AV s.tabs.length CV] 44))); have Iia10 := Lib.hid ((Iia9.out.below hb (Nat.le_refl _)).below (below1 w10 (.cells #[.int .i64 s.blocks, .slice AV s.tabs.length CV] 44)) (Nat.le_refl _)); have Eea10 := Lib.hid ((Eea9.out.below hb (Nat.le_refl _)).below (below1 w10 (.cells #[.int .i64 s.blocks, .slice AV s.tabs.length CV] 44)) (Nat.le_refl _)); have Iib10 := Lib.hid ((Iib9.out.below hb (Nat.le_refl _)).below (below1 w10 (.cells #[.int .i64 s.blocks, .slice AV s.tabs.length CV] 44)) (Nat.le_refl _)); have Eeb10 := Lib.hid ((Eeb9.out.below hb (Nat.le_refl _)).below (below1 w10 (.cells #[.int .i64 s.blocks, .slice AV s.tabs.length CV] 44)) (Nat.le_refl _)); have Vv10 := Lib.hid (CB.new w10 s.blocks (.slice AV s.tabs.length CV) s.tabs ht); clear hb c0 c1 x0 x1 x2 x3 y0 y1 y2 y3 ht)
    generalize w10.alloc (.cells #[.int .i64 s.blocks, .slice AV s.tabs.length CV] 44) = W10 at Iia10 Eea10 Iib10 Eeb10 HTv10 Pv10 Qv10 Fv10 Gv10 Rv10 Sv10 Uv10 Vv10 ⊢
    generalize w10.heap.size = bV at Vv10 ⊢
    have HT10 := HTv10
    have P10 := Pv10
    have Q10 := Qv10
    have F10 := Fv10
    have G10 := Gv10
    have R10 := Rv10
    have S10 := Sv10
    have U10 := Uv10
    have V10 := Vv10
    clear HTv10 Pv10 Qv10 Fv10 Gv10 Rv10 Sv10 Uv10 Vv10
    clear HT9 P9 Q9 F9 G9 R9 S9 U9
    clear Iia9 Eea9 Iib9 Eeb9
    obtain ⟨_, c0, c1, _, _⟩ := HT10.out.c
    go_upto_region 14 with (go_at_call 33; (with_reducible refine (hN _).mono ?_); rintro e w11 ⟨rfl, _, hb⟩; have HTv11 := Lib.hid ((HT10.out.below hb).below (below1 w11 (.cells #[.int .i64 nc.blocks, .slice none 0 0] 44))); have Pv11 := Lib.hid ((P10.out.below hb).below (below1 w11 (.cells #[.int .i64 nc.blocks, .slice none 0 0] 44))); have Qv11 := Lib.hid ((Q10.out.below hb).below (below1 w11 (.cells #[.int .i64 nc.blocks, .slice none 0 0] 44))); have Fv11 := Lib.hid ((F10.out.below hb).below (below1 w11 (.cells #[.int .i64 nc.blocks, .slice none 0 0] 44))); have Gv11 := Lib.hid ((G10.out.below hb).below (below1 w11 (.cells #[.int .i64 nc.blocks, .slice none 0 0] 44))); have Rv11 := Lib.hid ((R10.out.below hb).below (below1 w11 (.cells #[.int .i64 nc.blocks, .slice none 0 0] 44))); have Sv11 := Lib.hid ((S10.out.below hb).below (below1 w11 (.cells #[.int .i64 nc.blocks, .slice none 0 0] 44))); have Uv11 := Lib.hid ((U10.out.below hb).below (below1 w11 (.cells #[.int .i64 nc.blocks, .slice none 0 0] 44))); have Vv11 := Lib.hid ((V10.out.below hb).below (below1 w11 (.cells #[.int .i64 nc.blocks, .slice none 0 0] 44))); have Iia11 := Lib.hid ((Iia10.out.below hb (Nat.le_refl _)).below (below1 w11 (.cells #[.int .i64 nc.blocks, .slice none 0 0] 44)) (Nat.le_refl _)); have Eea11 := Lib.hid ((Eea10.out.below hb (Nat.le_refl _)).below (below1 w11 (.cells #[.int .i64 nc.blocks, .slice none 0 0] 44)) (Nat.le_refl _)); have Iib11 := Lib.hid ((Iib10.out.below hb (Nat.le_refl _)).below (below1 w11 (.cells #[.int .i64 nc.blocks, .slice none 0 0] 44)) (Nat.le_refl _)); have Eeb11 := Lib.hid ((Eeb10.out.below hb (Nat.le_refl _)).below (below1 w11 (.cells #[.int .i64 nc.blocks, .slice none 0 0] 44)) (Nat.le_refl _)); have Mv11 := Lib.hid (B2.new w11 (.int .i64 nc.blocks) (.slice none 0 0) 44); clear hb c0 c1)
    generalize w11.alloc (.cells #[.int .i64 nc.blocks, .slice none 0 0] 44) = W11 at Iia11 Eea11 Iib11 Eeb11 HTv11 Pv11 Qv11 Fv11 Gv11 Rv11 Sv11 Uv11 Vv11 Mv11 ⊢
    generalize w11.heap.size = bM at Mv11 ⊢
    have HT11 := HTv11
    have P11 := Pv11
    have Q11 := Qv11
    have F11 := Fv11
    have G11 := Gv11
    have R11 := Rv11
    have S11 := Sv11
    have U11 := Uv11
    have V11 := Vv11
    have M11 := Mv11
    clear HTv11 Pv11 Qv11 Fv11 Gv11 Rv11 Sv11 Uv11 Vv11 Mv11
    clear HT10 P10 Q10 F10 G10 R10 S10 U10 V10
    clear Iia10 Eea10 Iib10 Eeb10
    go_cut [0, 7, 13, 14, 15, 16, 17, 18, 19, 20, 21, 22, 23, 24, 25, 26, 27, 28, 29, 30, 31, 32, 33, 34, 35, 36, 37, 38, 39, 40] (fun s0 s7 s13 s14 s15 s16 s17 s18 s19 s20 s21 s22 s23 s24 s25 s26 s27 s28 s29 s30 s31 s32 s33 s34 s35 s36 s37 s38 s39 s40 wx => (s0 = .int .i64 e ∧ s7 = .pointer (some ⟨w.heap.size, 0, none⟩) ∧ s13 = .pointer (some ⟨bP, 0, none⟩) ∧ s14 = .int .i64 pe ∧ s15 = .pointer (some ⟨bQ, 0, none⟩) ∧ s16 = .int .i64 pe ∧ s17 = .pointer (some ⟨bF, 0, none⟩) ∧ s18 = .int .i64 fe ∧ s19 = .pointer (some ⟨bG, 0, none⟩) ∧ s20 = .int .i64 fe ∧ s21 = .pointer (some ⟨bR, 0, none⟩) ∧ s22 = .int .i64 qe ∧ s23 = .pointer (some ⟨bS, 0, none⟩) ∧ s24 = .int .i64 qe ∧ s25 = ia ∧ s26 = ea ∧ s27 = .int .i64 ae ∧ s28 = ib ∧ s29 = eb ∧ s30 = .int .i64 ae ∧ s31 = .pointer (some ⟨bU, 0, none⟩) ∧ s32 = .int .i64 (sn : Int) ∧ s33 = .int .i64 se ∧ s34 = .pointer (some ⟨bV, 0, none⟩) ∧ s35 = .int .i64 (sn : Int) ∧ s36 = .int .i64 se ∧ s37 = .pointer (some ⟨bM, 0, none⟩) ∧ s38 = .int .i64 ne ∧ s40 = .int .i64 ne) ∧ ∃ bN : Nat, s39 = .pointer (some ⟨bN, 0, none⟩) ∧ B2 wx bN (.int .i64 nc.blocks) (.slice none 0 0) ∧ CT w wx B (.slice A T.length cap) T ⟨xk, xs, xm, xf⟩ ⟨yk, ys, ym, yf⟩ ∧ EBox wx bP ⟨pk, ps, pm, pf⟩ ∧ EBox wx bQ ⟨pk, ps, pm, pf⟩ ∧ CB wx bF f.blocks (.slice AF f.tabs.length CF) f.tabs ∧ CB wx bG f.blocks (.slice AG f.tabs.length CG) f.tabs ∧ CB wx bR q.blocks (.slice AR q.tabs.length CR) q.tabs ∧ CB wx bS q.blocks (.slice AS q.tabs.length CS) q.tabs ∧ CB wx bU s.blocks (.slice AU s.tabs.length CU) s.tabs ∧ CB wx bV s.blocks (.slice AV s.tabs.length CV) s.tabs ∧ B2 wx bM (.int .i64 nc.blocks) (.slice none 0 0) ∧ IdxS wx ia la ∧ EntsS wx ea le ∧ IdxS wx ib la ∧ EntsS wx eb le)
    case first =>
      go_wp2_with (go_at_call 34; (with_reducible refine (hn _).mono ?_); rintro e w12 ⟨rfl, hb⟩; have HT12 := Lib.hid ((HT11.out.below hb).below (below1 w12 (.cells #[.int .i64 nc.blocks, .slice none 0 0] 44))); have P12 := Lib.hid ((P11.out.below hb).below (below1 w12 (.cells #[.int .i64 nc.blocks, .slice none 0 0] 44))); have Q12 := Lib.hid ((Q11.out.below hb).below (below1 w12 (.cells #[.int .i64 nc.blocks, .slice none 0 0] 44))); have F12 := Lib.hid ((F11.out.below hb).below (below1 w12 (.cells #[.int .i64 nc.blocks, .slice none 0 0] 44))); have G12 := Lib.hid ((G11.out.below hb).below (below1 w12 (.cells #[.int .i64 nc.blocks, .slice none 0 0] 44))); have R12 := Lib.hid ((R11.out.below hb).below (below1 w12 (.cells #[.int .i64 nc.blocks, .slice none 0 0] 44))); have S12 := Lib.hid ((S11.out.below hb).below (below1 w12 (.cells #[.int .i64 nc.blocks, .slice none 0 0] 44))); have U12 := Lib.hid ((U11.out.below hb).below (below1 w12 (.cells #[.int .i64 nc.blocks, .slice none 0 0] 44))); have V12 := Lib.hid ((V11.out.below hb).below (below1 w12 (.cells #[.int .i64 nc.blocks, .slice none 0 0] 44))); have M12 := Lib.hid ((M11.out.below hb).below (below1 w12 (.cells #[.int .i64 nc.blocks, .slice none 0 0] 44))); have Iia12 := Lib.hid ((Iia11.out.below hb (Nat.le_refl _)).below (below1 w12 (.cells #[.int .i64 nc.blocks, .slice none 0 0] 44)) (Nat.le_refl _)); have Eea12 := Lib.hid ((Eea11.out.below hb (Nat.le_refl _)).below (below1 w12 (.cells #[.int .i64 nc.blocks, .slice none 0 0] 44)) (Nat.le_refl _)); have Iib12 := Lib.hid ((Iib11.out.below hb (Nat.le_refl _)).below (below1 w12 (.cells #[.int .i64 nc.blocks, .slice none 0 0] 44)) (Nat.le_refl _)); have Eeb12 := Lib.hid ((Eeb11.out.below hb (Nat.le_refl _)).below (below1 w12 (.cells #[.int .i64 nc.blocks, .slice none 0 0] 44)) (Nat.le_refl _)); have N12 := Lib.hid (B2.new w12 (.int .i64 nc.blocks) (.slice none 0 0) 44); clear hb)
      go_meet
      exact ⟨⟨rfl, rfl, rfl, rfl, rfl, rfl, rfl, rfl, rfl, rfl, rfl, rfl, rfl, rfl, rfl, rfl, rfl, rfl, rfl, rfl, rfl, rfl, rfl, rfl, rfl, rfl, rfl, rfl, rfl⟩, _, rfl, N12.out, HT12.out, P12.out, Q12.out, F12.out, G12.out, R12.out, S12.out, U12.out, V12.out, M12.out, Iia12.out, Eea12.out, Iib12.out, Eeb12.out⟩
    case rest =>
    obtain ⟨⟨rfl, rfl, rfl, rfl, rfl, rfl, rfl, rfl, rfl, rfl, rfl, rfl, rfl, rfl, rfl, rfl, rfl, rfl, rfl, rfl, rfl, rfl, rfl, rfl, rfl, rfl, rfl, rfl, rfl⟩, bN, rfl, hN, hHT, hP, hQ, hF, hG, hR, hS, hU, hV, hM, hIia, hEea, hIib, hEeb⟩ := hcut
    have HT12 := Lib.hid hHT
    have P12 := Lib.hid hP
    have Q12 := Lib.hid hQ
    have F12 := Lib.hid hF
    have G12 := Lib.hid hG
    have R12 := Lib.hid hR
    have S12 := Lib.hid hS
    have U12 := Lib.hid hU
    have V12 := Lib.hid hV
    have M12 := Lib.hid hM
    have Iia12 := Lib.hid hIia
    have Eea12 := Lib.hid hEea
    have Iib12 := Lib.hid hIib
    have Eeb12 := Lib.hid hEeb
    have N12 := Lib.hid hN
    clear hN hHT hP hQ hF hG hR hS hU hV hM hIia hEea hIib hEeb
    clear HT11 P11 Q11 F11 G11 R11 S11 U11 V11 M11 Iia11 Eea11 Iib11 Eeb11
    go_upto_region 15 with fail
    simp only [List.append]
    obtain ⟨Cx, hCx⟩ : ∃ Cx : World → Prop, Cx = fun W => Below wc.heap.size wc W := ⟨_, rfl⟩
    have toC : ∀ W, Cx W → Below wc.heap.size wc W := fun W h => by rw [hCx] at h; exact h
    have below : ∀ W W', Cx W → Below W.heap.size W W' → Cx W' := fun W W' h hb => by
      rw [hCx] at h ⊢; exact h.trans (hb.mono h.size)
    have gd2 : Cx wc.drew := by rw [hCx]; exact (Below.refl _ _).drew
    have HTC := Lib.hid toC
    have HBC := Lib.hid below
    as_aux_lemma =>
      refine wp_region_wk Cx (by kernel_rfl) (by kernel_rfl) gd2 ?_
      have ne : Nonempty (Wk Cx) := ⟨⟨_, gd2⟩⟩
      clear gd2 hCx toC below hG hg hS hs hR hr hA ha hW hw hn
      have c0 : ∀ kq : Wk Cx, kq.W.cell? ⟨w.heap.size, 0, none⟩ = some (.int .i64 B) := fun kq => (HT12.out.below (HTC.out _ kq.h)).c.c0
      have c1 : ∀ kq : Wk Cx, kq.W.cell? ⟨w.heap.size, 1, none⟩ = some (.slice A T.length cap) := fun kq => (HT12.out.below (HTC.out _ kq.h)).c.c1
      iterate 8 (first
        | go_big_quiet_skip
        | (go_big_quiet_want
           go_big_quiet_op
           first
             | go_big_quiet_on
             | (apply Exists.intro
                refine ⟨fun kq => ?_, ?_⟩
                · (first
                     | (go_at_call 22; exact (hL _).mono fun _ _ h => ⟨h.1, ⟨_, HBC.out _ _ kq.h h.2⟩, rfl⟩)
                     | (go_at_call 35; exact (hC _ (HT12.out.below (HTC.out _ kq.h)).t).mono fun _ _ h => ⟨h.1, ⟨_, HBC.out _ _ kq.h h.2⟩, rfl⟩)
                     | (go_at_call 36; exact (hc _ (HT12.out.below (HTC.out _ kq.h)).t).mono fun _ _ h => ⟨h.1, ⟨_, HBC.out _ _ kq.h h.2⟩, rfl⟩))
                go_big_quiet_on)))
      clear c0 c1 hC hc hL
      iterate 3 (first | go_big_quiet_skip | (go_big_quiet_want; go_big_quiet_op; go_big_quiet_on))
      as_aux_lemma =>
        have pp0 : ∀ kq : Wk Cx, kq.W.cell? ⟨bP, 0, none⟩ = some (.int .u8 pk) := fun kq => by obtain ⟨_, h0, h1, h2, h3, _⟩ := (P12.out.below (HTC.out _ kq.h)); exact h0
        have pp1 : ∀ kq : Wk Cx, kq.W.cell? ⟨bP, 1, none⟩ = some (.int .i64 ps) := fun kq => by obtain ⟨_, h0, h1, h2, h3, _⟩ := (P12.out.below (HTC.out _ kq.h)); exact h1
        have pp2 : ∀ kq : Wk Cx, kq.W.cell? ⟨bP, 2, none⟩ = some (.int .i64 pm) := fun kq => by obtain ⟨_, h0, h1, h2, h3, _⟩ := (P12.out.below (HTC.out _ kq.h)); exact h2
        have pp3 : ∀ kq : Wk Cx, kq.W.cell? ⟨bP, 3, none⟩ = some (.int .i64 pf) := fun kq => by obtain ⟨_, h0, h1, h2, h3, _⟩ := (P12.out.below (HTC.out _ kq.h)); exact h3
        have qp0 : ∀ kq : Wk Cx, kq.W.cell? ⟨bQ, 0, none⟩ = some (.int .u8 pk) := fun kq => by obtain ⟨_, h0, h1, h2, h3, _⟩ := (Q12.out.below (HTC.out _ kq.h)); exact h0
        have qp1 : ∀ kq : Wk Cx, kq.W.cell? ⟨bQ, 1, none⟩ = some (.int .i64 ps) := fun kq => by obtain ⟨_, h0, h1, h2, h3, _⟩ := (Q12.out.below (HTC.out _ kq.h)); exact h1
        have qp2 : ∀ kq : Wk Cx, kq.W.cell? ⟨bQ, 2, none⟩ = some (.int .i64 pm) := fun kq => by obtain ⟨_, h0, h1, h2, h3, _⟩ := (Q12.out.below (HTC.out _ kq.h)); exact h2
        have qp3 : ∀ kq : Wk Cx, kq.W.cell? ⟨bQ, 3, none⟩ = some (.int .i64 pf) := fun kq => by obtain ⟨_, h0, h1, h2, h3, _⟩ := (Q12.out.below (HTC.out _ kq.h)); exact h3
        iterate 3 (first | go_big_quiet_skip | (go_big_quiet_want; go_big_quiet_op; go_big_quiet_on))
        clear pp0 pp1 pp2 pp3 qp0 qp1 qp2 qp3 
        iterate 7 (first | go_big_quiet_skip | (go_big_quiet_want; go_big_quiet_op; go_big_quiet_on))
        have fc0 : ∀ kq : Wk Cx, kq.W.cell? ⟨bF, 0, none⟩ = some (.int .i64 f.blocks) := fun kq => (F12.out.below (HTC.out _ kq.h)).c.c0
        have fc1 : ∀ kq : Wk Cx, kq.W.cell? ⟨bF, 1, none⟩ = some (.slice AF f.tabs.length CF) := fun kq => (F12.out.below (HTC.out _ kq.h)).c.c1
        have gc0 : ∀ kq : Wk Cx, kq.W.cell? ⟨bG, 0, none⟩ = some (.int .i64 f.blocks) := fun kq => (G12.out.below (HTC.out _ kq.h)).c.c0
        have gc1 : ∀ kq : Wk Cx, kq.W.cell? ⟨bG, 1, none⟩ = some (.slice AG f.tabs.length CG) := fun kq => (G12.out.below (HTC.out _ kq.h)).c.c1
        iterate 3 (first
          | go_big_quiet_skip
          | (go_big_quiet_want
             go_big_quiet_op
             first
               | go_big_quiet_on
               | (apply Exists.intro
                  refine ⟨fun kq => ?_, ?_⟩
                  · (first
                       | (go_at_call 37; exact (rchtSame_eq f.blocks f.tabs _ _ _ (F12.out.below (HTC.out _ kq.h)).t (G12.out.below (HTC.out _ kq.h)).t).mono fun _ _ h => ⟨h.1, ⟨_, HBC.out _ _ kq.h h.2⟩, rfl⟩))
                  go_big_quiet_on)))
        clear fc0 fc1 gc0 gc1 
        iterate 7 (first | go_big_quiet_skip | (go_big_quiet_want; go_big_quiet_op; go_big_quiet_on))
        as_aux_lemma =>
          have rc0 : ∀ kq : Wk Cx, kq.W.cell? ⟨bR, 0, none⟩ = some (.int .i64 q.blocks) := fun kq => (R12.out.below (HTC.out _ kq.h)).c.c0
          have rc1 : ∀ kq : Wk Cx, kq.W.cell? ⟨bR, 1, none⟩ = some (.slice AR q.tabs.length CR) := fun kq => (R12.out.below (HTC.out _ kq.h)).c.c1
          have sc0 : ∀ kq : Wk Cx, kq.W.cell? ⟨bS, 0, none⟩ = some (.int .i64 q.blocks) := fun kq => (S12.out.below (HTC.out _ kq.h)).c.c0
          have sc1 : ∀ kq : Wk Cx, kq.W.cell? ⟨bS, 1, none⟩ = some (.slice AS q.tabs.length CS) := fun kq => (S12.out.below (HTC.out _ kq.h)).c.c1
          iterate 3 (first
            | go_big_quiet_skip
            | (go_big_quiet_want
               go_big_quiet_op
               first
                 | go_big_quiet_on
                 | (apply Exists.intro
                    refine ⟨fun kq => ?_, ?_⟩
                    · (first
                         | (go_at_call 37; exact (rchtSame_eq q.blocks q.tabs _ _ _ (R12.out.below (HTC.out _ kq.h)).t (S12.out.below (HTC.out _ kq.h)).t).mono fun _ _ h => ⟨h.1, ⟨_, HBC.out _ _ kq.h h.2⟩, rfl⟩))
                    go_big_quiet_on)))
          clear rc0 rc1 sc0 sc1 
          iterate 9 (first | go_big_quiet_skip | (go_big_quiet_want; go_big_quiet_op; go_big_quiet_on))
          as_aux_lemma =>
            iterate 1 (first
              | go_big_quiet_skip
              | (go_big_quiet_want
                 go_big_quiet_op
                 first
                   | go_big_quiet_on
                   | (apply Exists.intro
                      refine ⟨fun kq => ?_, ?_⟩
                      · (first
                           | (go_at_call 38; exact (HI.out _ _ _ (Iia12.out.below (HTC.out _ kq.h) (Nat.le_refl _)) (Iib12.out.below (HTC.out _ kq.h) (Nat.le_refl _))).mono fun _ _ h => ⟨h.1, ⟨_, HBC.out _ _ kq.h h.2⟩, rfl⟩))
                      go_big_quiet_on)))
            iterate 4 (first | go_big_quiet_skip | (go_big_quiet_want; go_big_quiet_op; go_big_quiet_on))
            iterate 1 (first
              | go_big_quiet_skip
              | (go_big_quiet_want
                 go_big_quiet_op
                 first
                   | go_big_quiet_on
                   | (apply Exists.intro
                      refine ⟨fun kq => ?_, ?_⟩
                      · (first
                           | (go_at_call 21; exact (HE.out _ _ _ (Eea12.out.below (HTC.out _ kq.h) (Nat.le_refl _)) (Eeb12.out.below (HTC.out _ kq.h) (Nat.le_refl _))).mono fun _ _ h => ⟨h.1, ⟨_, HBC.out _ _ kq.h h.2⟩, rfl⟩))
                      go_big_quiet_on)))
            iterate 7 (first | go_big_quiet_skip | (go_big_quiet_want; go_big_quiet_op; go_big_quiet_on))
            as_aux_lemma =>
              have uc0 : ∀ kq : Wk Cx, kq.W.cell? ⟨bU, 0, none⟩ = some (.int .i64 s.blocks) := fun kq => (U12.out.below (HTC.out _ kq.h)).c.c0
              have uc1 : ∀ kq : Wk Cx, kq.W.cell? ⟨bU, 1, none⟩ = some (.slice AU s.tabs.length CU) := fun kq => (U12.out.below (HTC.out _ kq.h)).c.c1
              have vc0 : ∀ kq : Wk Cx, kq.W.cell? ⟨bV, 0, none⟩ = some (.int .i64 s.blocks) := fun kq => (V12.out.below (HTC.out _ kq.h)).c.c0
              have vc1 : ∀ kq : Wk Cx, kq.W.cell? ⟨bV, 1, none⟩ = some (.slice AV s.tabs.length CV) := fun kq => (V12.out.below (HTC.out _ kq.h)).c.c1
              iterate 3 (first
                | go_big_quiet_skip
                | (go_big_quiet_want
                   go_big_quiet_op
                   first
                     | go_big_quiet_on
                     | (apply Exists.intro
                        refine ⟨fun kq => ?_, ?_⟩
                        · (first
                             | (go_at_call 37; exact (rchtSame_eq s.blocks s.tabs _ _ _ (U12.out.below (HTC.out _ kq.h)).t (V12.out.below (HTC.out _ kq.h)).t).mono fun _ _ h => ⟨h.1, ⟨_, HBC.out _ _ kq.h h.2⟩, rfl⟩))
                        go_big_quiet_on)))
              clear uc0 uc1 vc0 vc1 
              iterate 12 (first | go_big_quiet_skip | (go_big_quiet_want; go_big_quiet_op; go_big_quiet_on))
              as_aux_lemma =>
                have mc0 : ∀ kq : Wk Cx, kq.W.cell? ⟨bM, 0, none⟩ = some (.int .i64 nc.blocks) := fun kq => (M12.out.below (HTC.out _ kq.h)).c0
                have mc1 : ∀ kq : Wk Cx, kq.W.cell? ⟨bM, 1, none⟩ = some (.slice none 0 0) := fun kq => (M12.out.below (HTC.out _ kq.h)).c1
                have nc0 : ∀ kq : Wk Cx, kq.W.cell? ⟨bN, 0, none⟩ = some (.int .i64 nc.blocks) := fun kq => (N12.out.below (HTC.out _ kq.h)).c0
                have nc1 : ∀ kq : Wk Cx, kq.W.cell? ⟨bN, 1, none⟩ = some (.slice none 0 0) := fun kq => (N12.out.below (HTC.out _ kq.h)).c1
                iterate 3 (first
                  | go_big_quiet_skip
                  | (go_big_quiet_want
                     go_big_quiet_op
                     first
                       | go_big_quiet_on
                       | (apply Exists.intro
                          refine ⟨fun kq => ?_, ?_⟩
                          · (first
                               | (go_at_call 37; exact (rchtSame_eq nc.blocks [] _ _ _ (TabsS.none _) (TabsS.none _)).mono fun _ _ h => ⟨h.1, ⟨_, HBC.out _ _ kq.h h.2⟩, rfl⟩))
                          go_big_quiet_on)))
                clear mc0 mc1 nc0 nc1 
                iterate 7 (first | go_big_quiet_skip | (go_big_quiet_want; go_big_quiet_op; go_big_quiet_on))
                refine wpQuiet_nil ?_
                intro kq
                have hq := HTC.out _ kq.h
                generalize kq.W = w8 at hq ⊢
                clear ne kq
                go_wp2
                go_ret
                exact ⟨rfl, HT12.out.bl.trans (hq.mono HT12.out.bl.size)⟩
end Go.Proofs.Ytjocdbacdbhemaa
