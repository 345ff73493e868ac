/- Charts: Set where it changes: the walk. -/
import Derived.Test.YtngkbcaflkinhaaDoorChvIJ
import Derived.Deep.DeepCutAuto
namespace Go.Proofs.YtngkbcaflkinhaaDoor
open Go.RowKit

set_option maxRecDepth 100000 in
set_option maxHeartbeats 16000000 in
theorem chtSet_yes (E BN b : Nat) (T : List TB) (v : Value) (x : EN) (w : World) (hv : TabsS w v T) (hOK : COk E BN T) (hok : okB (E : Int) ⟨(BN : Int), T⟩ = true) (hb : b < BN) (hx : EOk x) :
    Calls Tryd.prog 7 #[.int .i64 (E : Int), .agg #[.int .i64 (BN : Int), v], .int .i64 (b : Int), x.v] w fun e' w' => ∃ tv, e' = .returned (.tuple #[.agg #[.int .i64 (BN : Int), tv], .int .i64 0]) ∧ TabsF w.heap.size w' tv (setP E T b x) ∧ Below w.heap.size w w' := by
  have hC := fun W h => chtCheck_any (E : Int) (BN : Int) T v W h
  unfold chtE at hC
  rw [hok, if_pos rfl] at hC
  have hCl := fun W h => clone_any E (BN : Int) T v W h ⟨hOK.e1, hOK.e2⟩ hOK.len hOK.lens
  have hX := entCheck_any x
  rw [show entE x = 0 from if_pos hx] at hX
  have HG0 := Lib.hid (SB.new w (BN : Int) v x)
  have HV := Lib.hid hv
  obtain ⟨A, cap, rfl⟩ := hv.form
  obtain ⟨q, hq⟩ : ∃ q : Nat, q = b / E := ⟨_, rfl⟩
  obtain ⟨r, hr⟩ : ∃ r : Nat, r = b % E := ⟨_, rfl⟩
  have hS := fun vv W h => seek_any T (q : Int) (BN : Int) vv W h hOK.rise (by have := hOK.len; omega)
  have hE1 := hOK.e1
  have hE2 := hOK.e2
  have hrE : r < E := by rw [hr]; exact Nat.mod_lt _ hE1
  have hbb : b ≤ 65536 := by have := hOK.b2; omega
  have hqb : q ≤ b := by rw [hq]; exact Nat.div_le_self _ _
  have HRES : Hid (∀ T1, T1 = (if isThere T (q : Int) = true then T else insT E T q) → setP E T b x = pruneT (putT T1 (before T (q : Int)) r x)) := Lib.hid (fun T1 h => by unfold setP; rw [← hq, ← hr, h])
  have HTLT : Hid (isThere T (q : Int) = true → before T (q : Int) < T.length) := Lib.hid (fun h => (there_lt hOK.rise h).1)
  have HCUT : Hid (before T (q : Int) ≤ T.length) := Lib.hid (cut_before T (q : Int) hOK.half.rise).2.2
  have HTL : Hid (T.length ≤ 65536) := Lib.hid hOK.len
  have HLENS := Lib.hid hOK.lens
  have s1 : (b : Int).tdiv (E : Int) = (q : Int) := by rw [hq]; rfl
  have s2 : (b : Int) / (E : Int) = (q : Int) := by rw [hq]; rfl
  have s3 : (b : Int).tmod (E : Int) = (r : Int) := by rw [hr]; rfl
  have s4 : (b : Int) % (E : Int) = (r : Int) := by rw [hr]; rfl
  have s5 : IntKind.i64.wrap (q : Int) = (q : Int) := by rw [IntKind.wrap_i64]; omega
  have s6 : IntKind.i64.wrap (r : Int) = (r : Int) := by rw [IntKind.wrap_i64]; omega
  have s7 : ((E : Int) == 0) = false := by rw [beq_eq_false_iff_ne]; omega
  have s8 : ¬ (E : Int) = 0 := by omega
  have d1 : decide ((b : Int) < 0) = false := decide_eq_false (by omega)
  have d2 : decide ((BN : Int) ≤ (b : Int)) = false := decide_eq_false (by omega)
  have d3 : decide (BN ≤ b) = false := decide_eq_false (by omega)
  have HEE := Lib.hid (And.intro hE1 (And.intro hE2 hrE))
  have hmk := makeEnts E (by omega)
  have HINS : Hid (insT E T q = T.take (before T (q : Int)) ++ ⟨(q : Int), List.replicate E EN.zero⟩ :: T.drop (before T (q : Int))) := Lib.hid rfl
  have hTR := hOK.rise
  clear hv hOK hok hb hx hq hr hE1 hE2 hbb hqb hrE
  clear hTR
  generalize isThere T (q : Int) = th at hS HRES HTLT
  generalize before T (q : Int) = i at hS HRES HTLT HCUT HINS
  unfold EN.v at hX ⊢
  obtain ⟨k, st, mb, fr⟩ := x
  dsimp only at hX HG0 HRES ⊢
  go_enter Tryd.func7, Tryd.ntmps7
  go_upto_region 1 with fail
  generalize ((w.alloc (.cells #[.int .i64 (BN : Int), .slice A T.length cap] 27)).alloc (.cells #[.int .u8 k, .int .i64 st, .int .i64 mb, .int .i64 fr] 38)).alloc (.cells #[.int .i64 0, .slice none 0 0] 27) = w0 at HG0 ⊢
  have HV0 := Lib.hid (HV.out.below HG0.out.bl)
  obtain ⟨_, y0, y1, _, _⟩ := HG0.out.c
  go_upto_region 4 with (go_at_call 6; (with_reducible refine (hC _ HV0.out).mono ?_); rintro e w1 ⟨rfl, hb1⟩; have HG1 := Lib.hid (HG0.out.below hb1); have HV1 := Lib.hid (HV0.out.below hb1); clear hb1 y0 y1; obtain ⟨_, y0, y1, _, _⟩ := HG1.out.c)
  go_upto_region 5 with (go_at_call 17; (with_reducible refine (hCl _ HV1.out).mono ?_); rintro e w2 ⟨v2, P, rfl, hpw, hmap, hb2, hsz⟩; (obtain ⟨A2, cap2, rfl, _⟩ := own_form hpw.own); have HST := Lib.hid (ST.start HG1.out hpw hb2 hsz); have HMAP := Lib.hid hmap; clear hpw hmap hb2 hsz y0 y1)
  have HPL : Hid (P.length = T.length) := Lib.hid (by rw [← HMAP.out, List.length_map])
  generalize w2.heap.size = U at HST ⊢
  generalize hb11 : U = b11 at HST ⊢
  have HST1 : Hid (ST w (w2.alloc (.cells #[.int .i64 (BN : Int), .slice A2 P.length cap2] 27)) (BN : Int) (.slice A T.length cap) ⟨k, st, mb, fr⟩ b11 (.slice A2 P.length cap2) (w1.heap.size + 2) b11 E P) := Lib.hid HST.out
  clear HST hb11
  generalize w1.heap.size + 2 = Bp at HST1
  generalize w2.alloc (.cells #[.int .i64 (BN : Int), .slice A2 P.length cap2] 27) = w3 at HST1 ⊢
  obtain ⟨_, x0, x1, _, _⟩ := HST1.out.sb.c
  obtain ⟨_, e0, e1, e2, e3, _⟩ := HST1.out.sb.e
  dsimp only at e0 e1 e2 e3
  go_upto_region 9 with (go_at_call 18; (with_reducible refine (hX _).mono ?_); rintro e w4 ⟨rfl, hb4⟩; have HS4 := Lib.hid (HST1.out.below hb4); clear hb4 x0 x1 e0 e1 e2 e3)
  clear d1 d2 d3
  obtain ⟨_, y0, y1, _, _⟩ := HS4.out.nx
  have yd0 : w4.drew.cell? ⟨b11, 0, none⟩ = some (.int .i64 (BN : Int)) := y0
  have yd1 : w4.drew.cell? ⟨b11, 1, none⟩ = some (.slice A2 P.length cap2) := y1
  have HTB : Hid (TabsS w4.drew (.slice A2 P.length cap2) T) := Lib.hid (by
    have h := (HS4.out.below (Below.refl _ _).drew).pw.po.tabs
    rwa [HMAP.out] at h)
  have hSk := hS _ _ HTB.out
  clear hS
  go_cut [12, 13] (fun s12 s13 wx => s12 = .int .i64 (i : Int) ∧ s13 = .bool th ∧ ST w wx (BN : Int) (.slice A T.length cap) ⟨k, st, mb, fr⟩ b11 (.slice A2 P.length cap2) Bp b11 E P)
  case first =>
    go_region_with (go_at_call 19; (with_reducible refine hSk.mono ?_); rintro e w5 ⟨rfl, hb5⟩; have HS5 := Lib.hid ((HS4.out.below (Below.refl _ _).drew).below hb5); clear hb5)
    all_goals go_wp2_with fail
    all_goals go_meet
    all_goals exact ⟨rfl, rfl, HS5.out⟩
  case rest =>
  obtain ⟨rfl, rfl, hS5⟩ := hcut
  have HS5 := Lib.hid hS5
  clear hS5 y0 y1 yd0 yd1 hSk
  go_upto_if 45 with fail
  go_cut [] (fun wx => ∃ (v3 : Value) (U3 : Nat) (P3 : List PT), ST w wx (BN : Int) (.slice A T.length cap) ⟨k, st, mb, fr⟩ b11 v3 Bp U3 E P3 ∧ P3.map Prod.fst = (if th = true then T else insT E T q))
  case first =>
    cases th with
    | true =>
      go_wp2_with fail
      go_meet
      exact ⟨_, _, P, HS5.out, HMAP.out⟩
    | false =>
      have hIn := ST.ins (i := i) (k := (q : Int)) HS5.out (by rw [HPL.out]; exact HCUT.out) (by rw [HPL.out]; exact HTL.out) HEE.out.2.1
      have hA1 := HS5.out.nx.below (below1 wc (.cells (madeCells zeroC (E * 4)) 38))
      have hA2 := hA1.below (below1 _ (.cells #[.int .i64 (q : Int), .slice (some ⟨wc.heap.size, 0, none⟩) E E] 42))
      obtain ⟨_, y0, y1, _, _⟩ := HS5.out.nx
      obtain ⟨_, a0, a1, _, _⟩ := hA1
      obtain ⟨_, b0, b1, _, _⟩ := hA2
      have yd1 : wc.drew.cell? ⟨b11, 1, none⟩ = some (.slice A2 P.length cap2) := y1
      have ad1 : (wc.alloc (.cells (madeCells zeroC (E * 4)) 38)).drew.cell? ⟨b11, 1, none⟩ = some (.slice A2 P.length cap2) := a1
      have bd1 : ((wc.alloc (.cells (madeCells zeroC (E * 4)) 38)).alloc (.cells #[.int .i64 (q : Int), .slice (some ⟨wc.heap.size, 0, none⟩) E E] 42)).drew.cell? ⟨b11, 1, none⟩ = some (.slice A2 P.length cap2) := b1
      have HEND : Hid (∀ (w5 : World) (v3 : Value), ST w (w5.setCell ⟨b11, 1, none⟩ v3) (BN : Int) (.slice A T.length cap) ⟨k, st, mb, fr⟩ b11 v3 Bp w5.heap.size E (P.take i ++ newP (q : Int) wc.heap.size E :: P.drop i) → ∃ (v3' : Value) (U3 : Nat) (P3 : List PT), ST w (w5.setCell ⟨b11, 1, none⟩ v3) (BN : Int) (.slice A T.length cap) ⟨k, st, mb, fr⟩ b11 v3' Bp U3 E P3 ∧ P3.map Prod.fst = (if false = true then T else insT E T q)) := Lib.hid (fun w5 v3 h => ⟨v3, _, _, h, by rw [map_ins, HMAP.out, if_neg (by decide), HINS.out]⟩)
      go_upto_region 11 with fail
      go_region_with (go_at_call 20; (with_reducible refine hIn.mono ?_); rintro e w5 ⟨v3, rfl, ⟨A3, n3, c3, rfl⟩, hb5, hst5⟩; have HS6 := Lib.hid hst5; (obtain ⟨_, c0, c1, f0, f1⟩ := hb5); clear hst5)
      all_goals go_wp2_with fail
      all_goals go_meet
      all_goals exact HEND.out _ _ HS6.out
  case rest =>
  obtain ⟨v3, U3, P3, hS6, hM6⟩ := hcut
  have hlt : i < P3.length ∧ P3.length ≤ 65537 := by
    have hl : P3.length = (if th = true then T else insT E T q).length := by rw [← hM6, List.length_map]
    have h1 := HCUT.out
    have h2 := HTL.out
    cases th with
    | true =>
      rw [if_pos rfl] at hl
      have := HTLT.out rfl
      omega
    | false =>
      rw [if_neg (by decide), HINS.out, List.length_append, List.length_cons, List.length_take, List.length_drop] at hl
      omega
  have HLT := Lib.hid hlt
  have HM6 : Hid (setP E T b ⟨k, st, mb, fr⟩ = pruneT (putT (P3.map Prod.fst) i r ⟨k, st, mb, fr⟩)) := Lib.hid (HRES.out _ hM6)
  have hi3 := hlt.1
  obtain ⟨A3, c3, rfl, hA3⟩ := own_form hS6.pw.own
  obtain ⟨gv, rfl, _, _⟩ := hA3 (by omega)
  obtain ⟨t0, t1⟩ := hS6.pw.po.cell hi3
  obtain ⟨g, c, hu, hrow, hle, _, _, _, _⟩ := hS6.pw.row _ (getD_memP hi3)
  have hr3 := HEE.out.2.2
  have HPUT := Lib.hid (hS6.put hi3 hr3 hu ⟨k, st, mb, fr⟩)
  have HMP : Hid (_ = _) := Lib.hid (map_put (r := r) (s := ⟨k, st, mb, fr⟩) hi3)
  have hP4 : (P3.set i (⟨(P3.getD i PT.zero).1.at', (P3.getD i PT.zero).1.l.set r ⟨k, st, mb, fr⟩⟩, (P3.getD i PT.zero).2)).length = P3.length := List.length_set
  obtain ⟨P4, hP4d⟩ : ∃ P4, P4 = P3.set i (⟨(P3.getD i PT.zero).1.at', (P3.getD i PT.zero).1.l.set r ⟨k, st, mb, fr⟩⟩, (P3.getD i PT.zero).2) := ⟨_, rfl⟩
  rw [← hP4d] at HPUT HMP hP4
  have HP4 := Lib.hid hP4
  rw [hu] at t1
  obtain ⟨r0, r1, r2, r3⟩ := hrow.2.1 r (by rw [hle]; exact hr3)
  have hfz := hrow.2.2
  rw [hle] at hfz
  have f0 := hfz (r * 4) (by omega); have f1 := hfz (r * 4 + 1) (by omega); have f2 := hfz (r * 4 + 2) (by omega); have f3 := hfz (r * 4 + 3) (by omega)
  generalize (P3.getD i PT.zero).1.l.getD r EN.zero = old at r0 r1 r2 r3
  generalize (P3.getD i PT.zero).1.at' = ta at t0
  obtain ⟨_, y0, y1, _, _⟩ := hS6.nx
  obtain ⟨_, e0, e1, e2, e3, _⟩ := hS6.sb.e
  dsimp only at e0 e1 e2 e3
  clear hlt hfz hrow hle hA3 hS6 hM6 hP4 hP4d hu t0 hmk
  have yd1 : wc.drew.cell? ⟨b11, 1, none⟩ = some (.slice (some ⟨gv, 0, none⟩) P3.length c3) := y1
  have td1 : wc.drew.cell? ⟨gv, i * 2 + 1, none⟩ = some (.slice (some ⟨g, 0, none⟩) E c) := t1
  have ed0 : wc.drew.cell? ⟨w.heap.size + 1, 0, none⟩ = some (.int .u8 k) := e0
  have ed1 : wc.drew.cell? ⟨w.heap.size + 1, 1, none⟩ = some (.int .i64 st) := e1
  have ed2 : wc.drew.cell? ⟨w.heap.size + 1, 2, none⟩ = some (.int .i64 mb) := e2
  have ed3 : wc.drew.cell? ⟨w.heap.size + 1, 3, none⟩ = some (.int .i64 fr) := e3
  have rd0 : wc.drew.cell? ⟨g, r * 4, none⟩ = some (.int .u8 old.kind) := r0
  have rd1 : wc.drew.cell? ⟨g, r * 4 + 1, none⟩ = some (.int .i64 old.st) := r1
  have rd2 : wc.drew.cell? ⟨g, r * 4 + 2, none⟩ = some (.int .i64 old.mb) := r2
  have rd3 : wc.drew.cell? ⟨g, r * 4 + 3, none⟩ = some (.int .i64 old.fr) := r3
  have fd0 : wc.drew.frozen? ⟨g, r * 4, none⟩ = false := f0
  have fd1 : wc.drew.frozen? ⟨g, r * 4 + 1, none⟩ = false := f1
  have fd2 : wc.drew.frozen? ⟨g, r * 4 + 2, none⟩ = false := f2
  have fd3 : wc.drew.frozen? ⟨g, r * 4 + 3, none⟩ = false := f3
  unfold putN at HPUT
  dsimp only at HPUT
  go_upto_region 12 with fail
  have HS7 := Lib.hid (HPUT.out.below (Below.refl _ _).drew)
  clear HPUT
  go_cut [] (fun wx => ST w wx (BN : Int) (.slice A T.length cap) ⟨k, st, mb, fr⟩ b11 (.slice (some ⟨gv, 0, none⟩) P3.length c3) Bp U3 E P4)
  case first =>
    go_region_with fail
    all_goals go_wp2_with fail
    all_goals go_meet
    all_goals exact HS7.out
  case rest =>
  have HS7 := Lib.hid hcut
  clear hcut
  clear yd1 td1 ed0 ed1 ed2 ed3 rd0 rd1 rd2 rd3 fd0 fd1 fd2 fd3 y0 y1 t1 e0 e1 e2 e3 r0 r1 r2 r3 f0 f1 f2 f3
  have hPr := prune_any P4 (.slice (some ⟨gv, 0, none⟩) P3.length c3) Bp U3 (BN : Int) wc HS7.out.pw.po HS7.out.hU (by rw [HP4.out]; exact HLT.out.2)
  obtain ⟨_, y0, y1, _, _⟩ := HS7.out.nx
  clear s1 s2 s3 s4 s5 s6 s7 s8 hi3 hr3
  go_wp2_with (go_at_call 21; (with_reducible refine hPr.mono ?_); rintro e w8 ⟨v8, rfl, hpo, hap⟩; (obtain ⟨A8, c8, rfl, _⟩ := own_form hpo.own); have HE8 := Lib.hid (HS7.out.ends hap hpo); clear hpo hap y0 y1; (obtain ⟨_, z0, z1, f0, f1⟩ := HE8.out.1.r))
  obtain ⟨hB, y0, y1⟩ := HE8.out.1.ends (.int .i64 (BN : Int)) (.slice A8 (P4.filter keepB).length c8)
  refine bodyPost_ret (v := .tuple #[.agg #[.int .i64 (BN : Int), .slice A8 (P4.filter keepB).length c8], .int .i64 0]) (by simp [results, Tryd.results7, go_sem, y0, y1]) rfl ?_
  refine ⟨_, rfl, ?_, hB⟩
  rw [HM6.out, ← HMP.out]
  exact HE8.out.2
end Go.Proofs.YtngkbcaflkinhaaDoor

