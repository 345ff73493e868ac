/- Scripts: the program's Put. -/
import Derived.Test.YtfmpbohiahjafaaDoorScrO
namespace Go.Proofs.YtfmpbohiahjafaaDoor
open Go.RowKit Go.Lib Go.Shelf Go.Sort
attribute [local go_sem] Oper.semAt_some

theorem three_boxes (w : World) (o : Obj) (t1 t2 : TypeId) (u1 u2 : Value) : Boxed (((w.alloc o).alloc (.cells #[u1] t1)).alloc (.cells #[u2] t2)) (w.heap.size + 1) t1 u1 ∧ Boxed (((w.alloc o).alloc (.cells #[u1] t1)).alloc (.cells #[u2] t2)) (w.heap.size + 1 + 1) t2 u2 ∧ Below w.heap.size w (((w.alloc o).alloc (.cells #[u1] t1)).alloc (.cells #[u2] t2)) ∧ (((w.alloc o).alloc (.cells #[u1] t1)).alloc (.cells #[u2] t2)).heap.size = w.heap.size + 1 + 1 + 1 := by
  have h1 := (Boxed.new (w.alloc o) t1 u1).alloc (.cells #[u2] t2)
  have h2 := Boxed.new ((w.alloc o).alloc (.cells #[u1] t1)) t2 u2
  rw [World.size_alloc] at h1
  rw [World.size_alloc, World.size_alloc] at h2
  exact ⟨h1, h2, (((Below.refl _ _).alloc (Nat.le_refl _) _).alloc (by simp) _).alloc (by simp; omega) _, by simp⟩
theorem boxed_set {W : World} {B : Nat} {t : TypeId} {v : Value} (h : Boxed W B t v) (u : Value) : Boxed (W.setCell ⟨B, 0, none⟩ u) B t u := by
  show (W.heap.modify B _)[B]? = _
  rw [Array.getElem?_modify, if_pos rfl, h]
  rfl
theorem boxed_set_other {W : World} {B b k : Nat} {t : TypeId} {v u : Value} (h : Boxed W B t v) (hne : B ≠ b) : Boxed (W.setCell ⟨b, k, none⟩ u) B t v := by
  show (W.heap.modify b _)[B]? = _
  rw [Array.getElem?_modify, if_neg (Ne.symm hne)]; exact h
theorem heap_set {W : World} {b i k : Nat} {v : Value} (h : i ≠ b) : (W.setCell ⟨b, k, none⟩ v).heap[i]? = W.heap[i]? := by
  show (W.heap.modify b _)[i]? = _
  rw [Array.getElem?_modify, if_neg (Ne.symm h)]
theorem bld_lt {B b : Nat} {l : List UInt8} {w : World} (h : IsBld B b l w) : b < w.heap.size := h.elim (fun x => x.lt) (fun x => x.lt)
theorem two_put1 (W : World) (b4 b5 : Nat) (u v : Value) {x : Value} (h : W.cell? ⟨b4, 0, none⟩ = some x) (hne : b4 ≠ b5) : ((W.setCell ⟨b4, 0, none⟩ u).setCell ⟨b5, 0, none⟩ v).cell? ⟨b4, 0, none⟩ = some u :=
  (World.cell?_setCell_other _ _ _ _ (by intro e; injection e with e; omega)).trans (put_same h u)
theorem two_put2 (W : World) (b4 b5 : Nat) (u v : Value) {x : Value} (h : W.cell? ⟨b5, 0, none⟩ = some x) (hne : b4 ≠ b5) : ((W.setCell ⟨b4, 0, none⟩ u).setCell ⟨b5, 0, none⟩ v).cell? ⟨b5, 0, none⟩ = some v :=
  put_same ((World.cell?_setCell_other _ _ _ _ (by intro e; injection e with e; omega)).trans h) v
set_option maxHeartbeats 16000000 in
set_option maxRecDepth 100000 in
theorem put_any {c : SU} (hc : SUok c) {L : List DD} (hL : ∀ d ∈ L, DDok d) {v : Value} {w : World} (hv : DdS w v L) (hD : ScW w) :
    Calls Tryd.prog 11 #[.agg c.enc.toArray, v] w fun e w' => e = .returned (.tuple #[Bs (putS c L).1, .int .i64 (putS c L).2]) ∧ Below w.heap.size w w' := by
  have HC := Lib.hid hc
  have HLK := Lib.hid hL
  have HV := Lib.hid hv
  have HD := Lib.hid hD
  obtain ⟨A, cap, rfl⟩ := hv.form
  obtain ⟨C, hCC⟩ : ∃ C : SU, C = c := ⟨_, rfl⟩
  have HCC := Lib.hid hCC
  change Calls _ _ #[.agg #[.int .i64 c.s, .int .i64 c.k, .int .i64 c.m, .int .i64 c.c, .int .i64 c.l], _] _ _
  by_cases hlong : 4096 < L.length
  · have d0 : decide ((4096 : Int) < (L.length : Int)) = true := decide_eq_true (by omega)
    have HP : Hid (putS c L = ([], 7)) := Lib.hid (by unfold putS; rw [if_pos hlong])
    clear hc hL hv hD hCC
    go_enter Tryd.func11, Tryd.ntmps11
    go_upto_region 1 with fail
    obtain ⟨w3, hw3⟩ : ∃ w3, w3 = ((w.alloc (.cells #[.int .i64 c.s, .int .i64 c.k, .int .i64 c.m, .int .i64 c.c, .int .i64 c.l] 35)).alloc (.cells #[.string ⟨#[]⟩] 9)).alloc (.cells #[.int .i64 0] 26) := ⟨_, rfl⟩
    have h3 := three_boxes w (.cells #[.int .i64 c.s, .int .i64 c.k, .int .i64 c.m, .int .i64 c.c, .int .i64 c.l] 35) 9 26 (.string ⟨#[]⟩) (.int .i64 0)
    rw [← hw3] at h3 ⊢
    obtain ⟨r4, r5, hb3, hsz⟩ := h3
    have HB3 := Lib.hid hb3
    have c4 := r4.cell
    have c5 := r5.cell
    have f4 := r4.frozen
    have f5 := r5.frozen
    clear hw3 hb3 hsz
    go_wp2
    have z4 := two_put1 w3 (w.heap.size + 1) (w.heap.size + 1 + 1) (.string ⟨#[]⟩) (.int .i64 7) c4 (by omega)
    have z5 := two_put2 w3 (w.heap.size + 1) (w.heap.size + 1 + 1) (.string ⟨#[]⟩) (.int .i64 7) c5 (by omega)
    refine bodyPost_ret (v := .tuple #[.string ⟨#[]⟩, .int .i64 7]) (by simp [results, Tryd.results11, go_sem, z4, z5]) rfl ?_
    exact ⟨by rw [HP.out], below_set (below_set HB3.out (by omega)) (by omega)⟩
  have d0 : decide ((4096 : Int) < (L.length : Int)) = false := decide_eq_false (by omega)
  have HLN : Hid (L.length ≤ 4096) := Lib.hid (by omega)
  have hN : ¬ 4096 < L.length := hlong
  have HRD0 := Lib.hid (And.intro hv hD)
  have hSt := fun (W : World) j => (callsIn_wide (n := j)).2 (toldP_any c.s c.k c.m c.c c.l A L.length cap W)
  clear hc hL hv hD hCC hlong
  refine (callsIn_wide (n := 8)).1 ?_
  have hf0 : Fence.wide.fn 11 := trivial
  have hf1 : Fence.wide.fn 26 := trivial
  have hf2 : Fence.wide.fn 27 := trivial
  have hf3 : Fence.wide.fn 28 := trivial
  refine callsIn_of_wp_marks Tryd.func11 rfl hf0 ?_ rfl
  simp only [Tryd.ntmps11, List.size_toArray, List.length_cons, List.length_nil, Nat.reduceAdd, Nat.reduceSub, Array.replicate_succ, Array.replicate_zero, List.push_toArray, List.append_toArray, List.nil_append, List.cons_append]
  gi_upto_region 1 with fail
  obtain ⟨w3, hw3⟩ : ∃ w3, w3 = ((w.alloc (.cells #[.int .i64 c.s, .int .i64 c.k, .int .i64 c.m, .int .i64 c.c, .int .i64 c.l] 35)).alloc (.cells #[.string ⟨#[]⟩] 9)).alloc (.cells #[.int .i64 0] 26) := ⟨_, rfl⟩
  have h3 := three_boxes w (.cells #[.int .i64 c.s, .int .i64 c.k, .int .i64 c.m, .int .i64 c.c, .int .i64 c.l] 35) 9 26 (.string ⟨#[]⟩) (.int .i64 0)
  have hs3 : w3.heap[w.heap.size]? = some (.cells #[.int .i64 c.s, .int .i64 c.k, .int .i64 c.m, .int .i64 c.c, .int .i64 c.l] 35 (0, 0)) := by
    rw [hw3]
    exact (Below.heap_alloc _ _ _ (by simp; omega)).trans ((Below.heap_alloc _ _ _ (by simp)).trans (heap_alloc_new w _))
  rw [← hw3] at h3 ⊢
  obtain ⟨r4, r5, hb3, hsz⟩ := h3
  have HB3 := Lib.hid hb3
  have HR45 := Lib.hid (And.intro r4 r5)
  have HSZ3 := Lib.hid hsz
  have HS3 := Lib.hid hs3
  clear hw3 hb3 hsz hs3 r4 r5
  gi_upto_region 4 with fail
  have HBL := Lib.hid (bldFresh w3 w3.heap.size (Nat.le_refl _))
  have hb4 := below_new w3 (.cells #[.pointer none, .slice none 0 0] 64)
  have HR4 : Hid (Boxed (w3.alloc (.cells #[.pointer none, .slice none 0 0] 64)) (w.heap.size + 1) 9 (.string ⟨#[]⟩) ∧ Boxed (w3.alloc (.cells #[.pointer none, .slice none 0 0] 64)) (w.heap.size + 1 + 1) 26 (.int .i64 0)) := Lib.hid ⟨HR45.out.1.alloc _, HR45.out.2.alloc _⟩
  have HS4 : Hid ((w3.alloc (.cells #[.pointer none, .slice none 0 0] 64)).heap.size = w3.heap.size + 1) := Lib.hid (by simp)
  have hq : (w3.alloc (.cells #[.pointer none, .slice none 0 0] 64)).heap[w.heap.size]? = some (.cells #[.int .i64 c.s, .int .i64 c.k, .int .i64 c.m, .int .i64 c.c, .int .i64 c.l] 35 (0, 0)) := (hb4.block _ (Array.getElem?_eq_some_iff.1 HS3.out).1).trans HS3.out
  have y0 : (w3.alloc (.cells #[.pointer none, .slice none 0 0] 64)).cell? ⟨w.heap.size, 0, none⟩ = some (.int .i64 c.s) := by simp [World.cell?, hq]
  have y1 : (w3.alloc (.cells #[.pointer none, .slice none 0 0] 64)).cell? ⟨w.heap.size, 1, none⟩ = some (.int .i64 c.k) := by simp [World.cell?, hq]
  have y2 : (w3.alloc (.cells #[.pointer none, .slice none 0 0] 64)).cell? ⟨w.heap.size, 2, none⟩ = some (.int .i64 c.m) := by simp [World.cell?, hq]
  have y3 : (w3.alloc (.cells #[.pointer none, .slice none 0 0] 64)).cell? ⟨w.heap.size, 3, none⟩ = some (.int .i64 c.c) := by simp [World.cell?, hq]
  have y4 : (w3.alloc (.cells #[.pointer none, .slice none 0 0] 64)).cell? ⟨w.heap.size, 4, none⟩ = some (.int .i64 c.l) := by simp [World.cell?, hq]
  have HB4 : Hid (Below w.heap.size w (w3.alloc (.cells #[.pointer none, .slice none 0 0] 64))) := Lib.hid (HB3.out.trans (hb4.mono HB3.out.size))
  generalize w3.alloc (.cells #[.pointer none, .slice none 0 0] 64) = w4 at *
  clear hq hb4 HR45 HS3 HB3
  gi_wp2_with (gi_at_call 26; refine (hSt _ _).mono ?_; rintro e W5 ⟨rfl, hW5⟩; have HW5 := Lib.hid hW5; clear hW5)
  have hPW : PW w W5 (w.heap.size + 1) (w.heap.size + 1 + 1) w3.heap.size w4.heap.size (w4.heap.size + 1) c (.slice A L.length cap) [] ∧ W5.heap.size = w4.heap.size + 1 + 1 := by
    have hb5 : Below w4.heap.size w4 W5 := by rw [HW5.out]; exact ((Below.refl _ _).alloc (Nat.le_refl _) _).alloc (by simp) _
    have hd := Boxed.new (w4.alloc (.cells #[.int .i64 c.s, .int .i64 c.k, .int .i64 c.m, .int .i64 c.c, .int .i64 c.l] 35)) 36 (.slice A L.length cap)
    rw [World.size_alloc] at hd
    have hz := HSZ3.out
    have hz4 := HS4.out
    have hsS : W5.heap[w4.heap.size]? = some (.cells #[.int .i64 c.s, .int .i64 c.k, .int .i64 c.m, .int .i64 c.c, .int .i64 c.l] 35 (0, 0)) := by
      rw [HW5.out]; exact (Below.heap_alloc _ _ _ (by simp)).trans (heap_alloc_new w4 _)
    refine ⟨⟨HBL.out.below hb5, (hb5.block _ HR4.out.1.lt).trans HR4.out.1, (hb5.block _ HR4.out.2.lt).trans HR4.out.2, hsS, ?_, HB4.out.trans (hb5.mono HB4.out.size), ⟨by omega, by omega⟩, ⟨by omega, by omega, by omega⟩, by omega, by omega⟩, by rw [HW5.out]; simp⟩
    rw [HW5.out]; exact hd
  have HPW := Lib.hid hPW.1
  have HS5 : Hid (w.heap.size ≤ W5.heap.size ∧ w3.heap.size < W5.heap.size) := Lib.hid (by have := HSZ3.out; have := HS4.out; have := hPW.2; omega)
  have HNE : Hid (w.heap.size ≤ w.heap.size + 1 ∧ w.heap.size ≤ w.heap.size + 1 + 1 ∧ w.heap.size + 1 ≠ w.heap.size + 1 + 1) := Lib.hid (by omega)
  generalize w.heap.size + 1 + 1 = b5 at *
  generalize w.heap.size + 1 = b4 at *
  generalize w3.heap.size = bB at *
  generalize w4.heap.size + 1 = bD at *
  generalize w4.heap.size = bS at *
  clear hPW HW5 HR4 HBL HS4 HSZ3 HB4 y0 y1 y2 y3 y4 hSt
  refine wpIn_range_ix rfl (by omega) (gf := 45) (lb := #[.pointer (some ⟨bS, 0, none⟩), .pointer (some ⟨bD, 0, none⟩)]) rfl trivial (enters_of Tryd.func45 (by kernel_rfl) rfl) (encs := encsP c L) (fun _ => rfl)
    (toldP_tells _ (by omega) HC.out HLK.out bS bD (.slice A L.length cap) W5)
    (fun k A' => PW w A' b4 b5 bB bS bD c (.slice A L.length cap) (pT c L k) ∧ pOk c L k)
    (fun k A' => (Boxed A' b4 9 (.string ⟨#[]⟩) ∧ Boxed A' b5 26 (.int .i64 2)) ∧ Below w.heap.size w A' ∧ lnK c L k = none)
    (fun k A' C' row hs hg hr => ⟨hs.1.own HS5.out.1 hg hr, hs.2⟩)
    (fun k A' C' row hs hg hr => ⟨⟨own_blk hg hr hs.1.1 rfl, own_blk hg hr hs.1.2 rfl⟩, hs.2.1.grown hg hs.2.1.size (fun g e => Nat.le_trans HS5.out.1 (hr g e).1), hs.2.2⟩)
    (fun k A' hs => hs.1.rdp HRD0.out.1 HRD0.out.2 k)
    ⟨HPW.out, fun i hi => absurd hi (by omega)⟩ ?a1 ?assign ?body ?done ?stop
  case assign =>
    intro l k W K hK
    unfold encsP
    gi_wp2
    exact hK
  case body =>
    rintro l k W ⟨hp, hok⟩ hk
    have HP := Lib.hid hp
    have HOK := Lib.hid hok
    have hlen := lnK_len HC.out HLK.out k hk
    have hpl := pT_len HC.out HLK.out k (by omega) hok
    cases hln : lnK c L k with
    | none =>
      have HLN2 := Lib.hid hln
      have f4 := hp.r4.frozen
      have f5 := hp.r5.frozen
      have c4 := hp.r4.cell
      have c5 := hp.r5.cell
      have c5' : (W.setCell ⟨b4, 0, none⟩ (.string ⟨#[]⟩)).cell? ⟨b5, 0, none⟩ = some (.int .i64 0) := (World.cell?_setCell_other _ _ _ _ (by intro e; injection e with e; exact hp.o5.2.2 e)).trans c5
      have f5' : (W.setCell ⟨b4, 0, none⟩ (.string ⟨#[]⟩)).frozen? ⟨b5, 0, none⟩ = false := by rw [World.frozen?_setCell]; exact f5
      clear hp hok hlen hpl hln
      rw [show eN (none : Option (List UInt8)) = 2 from rfl, show (none : Option (List UInt8)).getD [] = [] from rfl]
      gi_wp2
      refine ⟨((KeepsOthers.setCell _ _ _).from _).trans ((KeepsOthers.setCell _ _ _).from _), ⟨?_, ?_⟩, below_set (below_set HP.out.bel HP.out.o4.1) HP.out.o5.1, HLN2.out⟩
      · exact boxed_set_other (boxed_set HP.out.r4 _) HP.out.o5.2.2
      · exact boxed_set (boxed_set_other HP.out.r5 (Ne.symm HP.out.o5.2.2)) _
    | some l0 =>
      rw [hln] at hlen
      have HLN2 := Lib.hid hln
      have HSUC : Hid (pT c L (k + 1) = pT c L k ++ (l0 ++ [10])) := Lib.hid (by rw [pT_succ hk (by rw [hln]; rfl), hln]; rfl)
      have hlen : l0.length ≤ 100000 := hlen
      have HSP : Hid ((⟨l0.toArray⟩ : ByteArray) ++ (⟨#[10]⟩ : ByteArray) = ⟨(l0 ++ [10]).toArray⟩) := Lib.hid (sapp l0 [10])
      have hbW := hp.bel.size
      have hkN : k * 100001 ≤ 4097 * 100001 := Nat.mul_le_mul (by have := HLN.out; omega) (Nat.le_refl _)
      have hWS := fun j => CallsIn.inRound l ((callsIn_wide (n := j)).2 (bldWriteString_any hp.bld (Nat.le_of_lt (bld_lt hp.bld)) ⟨(l0 ++ [10]).toArray⟩ (by rw [bsz, List.length_append, List.length_singleton]; omega)))
      have z1 : ¬ 9223372036854775807 < l0.length + 1 := by omega
      have HKK : Hid (∀ i, i < k + 1 → (lnK c L i).isSome = true) := Lib.hid (fun i hi => by
        by_cases e : i = k
        · rw [e, hln]; rfl
        · exact hok i (by omega))
      clear hp hok hlen hpl hln hbW hkN
      rw [show eN (some l0) = 0 from rfl, show (some l0).getD [] = l0 from rfl]
      gi_wp2_with (rw [HSP.out]; gi_at_call 27; refine (hWS _).mono ?_; rintro e W4 ⟨rfl, h1, h2, h3, h4⟩; have HB4 := Lib.hid h1; have HBE := Lib.hid h2; have HKO := Lib.hid h3; have HOK4 := Lib.hid h4; clear h1 h2 h3 h4)
      refine ⟨HKO.out.from _, ?_, HKK.out⟩
      rw [HSUC.out]
      exact HP.out.write HB4.out HBE.out HOK4.out
  case done =>
    rintro D W hDs ⟨hp, hok⟩ hK
    have HP := Lib.hid hp
    have HPS := Lib.hid (pOk_all hok HLN.out)
    have hS := fun j => (callsIn_wide (n := j)).2 (bldString_any hp.bld (Nat.le_of_lt (bld_lt hp.bld)))
    have HK := Lib.hid hK
    have HDL := Lib.hid (Nat.lt_of_lt_of_le HS5.out.2 hDs)
    clear hp hok hK hDs
    gi_wp2_with (gi_at_call 28; refine (hS _).mono ?_; rintro e W4 ⟨rfl, hb4, hk4⟩; have h4 := (hb4.block _ HP.out.o4.2).trans HP.out.r4; have h5 := (hb4.block _ HP.out.o5.2.1).trans HP.out.r5; have HB4 := Lib.hid hb4; have HR4 := Lib.hid (And.intro h4 h5); have HKD := Lib.hid (hk4 _ _ HK.out (by intro e; injection e with e; have := HDL.out; omega) (by intro c fz e; cases e)); have c4 := Boxed.cell h4; have f4 := Boxed.frozen h4; have c5 := Boxed.cell (boxed_set_other (b := b4) (k := 0) (u := .string ⟨(pT c L (L.length + 1)).toArray⟩) h5 (Ne.symm HP.out.o5.2.2)); have f5 := Boxed.frozen (boxed_set_other (b := b4) (k := 0) (u := .string ⟨(pT c L (L.length + 1)).toArray⟩) h5 (Ne.symm HP.out.o5.2.2)); clear hb4 hk4 h4 h5)
    have hR4 := boxed_set_other (b := b5) (k := 0) (u := .int .i64 0) (boxed_set HR4.out.1 (.string ⟨(pT c L (L.length + 1)).toArray⟩)) HP.out.o5.2.2
    have hR5 := boxed_set (boxed_set_other (b := b4) (k := 0) (u := .string ⟨(pT c L (L.length + 1)).toArray⟩) HR4.out.2 (Ne.symm HP.out.o5.2.2)) (.int .i64 0)
    have hDD := (heap_set (b := b5) (k := 0) (v := .int .i64 0) (by have h1 := HP.out.o5; have h2 := HDL.out; omega)).trans ((heap_set (b := b4) (k := 0) (v := .string ⟨(pT c L (L.length + 1)).toArray⟩) (by have h1 := HP.out.o4; have h2 := HDL.out; omega)).trans HKD.out)
    have hbe : Below w.heap.size w ((W4.setCell ⟨b4, 0, none⟩ (.string ⟨(pT c L (L.length + 1)).toArray⟩)).setCell ⟨b5, 0, none⟩ (.int .i64 0)) := below_set (below_set (HP.out.bel.trans (HB4.out.mono (Nat.le_trans HP.out.o4.1 (Nat.le_of_lt HP.out.o4.2)))) HP.out.o4.1) HP.out.o5.1
    generalize (W4.setCell ⟨b4, 0, none⟩ (.string ⟨(pT c L (L.length + 1)).toArray⟩)).setCell ⟨b5, 0, none⟩ (.int .i64 0) = W6 at hR4 hR5 hDD hbe ⊢
    have hg := grownBy_putObj' W6 D (.deferred none)
    have hr : ∀ r, some D = some r → w.heap.size ≤ r ∧ ∃ o : Obj, W6.heap[r]? = some o ∧ o.isCells = false := fun r e => by injection e with e; subst e; exact ⟨by have h1 := HP.out.o4; have h2 := HDL.out; omega, _, hDD, rfl⟩
    have z4 := Boxed.cell (own_blk hg hr hR4 rfl)
    have z5 := Boxed.cell (own_blk hg hr hR5 rfl)
    refine ⟨by simp, .inl ⟨_, _, rfl, run_takeDeferred hDD, ?_⟩⟩
    refine ⟨.tuple #[.string ⟨(pT c L (L.length + 1)).toArray⟩, .int .i64 0], ?_, by rw [HPS.out], hbe.grown hg hbe.size (fun g e => (hr g e).1)⟩
    simp [results, Tryd.f11, go_sem, z4, z5]
  case stop =>
    rintro D k W hDs hk ⟨⟨h4, h5⟩, hb, hn⟩ hK
    have HPS := Lib.hid (pOk_not hk hn HLN.out)
    have hg := grownBy_putObj' W D (.deferred none)
    have hr : ∀ r, some D = some r → w.heap.size ≤ r ∧ ∃ o : Obj, W.heap[r]? = some o ∧ o.isCells = false := fun r e => by injection e with e; subst e; exact ⟨Nat.le_trans HS5.out.1 hDs, _, hK, rfl⟩
    have z4 := Boxed.cell (own_blk hg hr h4 rfl)
    have z5 := Boxed.cell (own_blk hg hr h5 rfl)
    have HKD := Lib.hid hK
    have HBE := Lib.hid (hb.grown hg hb.size (fun g e => (hr g e).1))
    clear h4 h5 hb hn hK hg hr hDs
    gi_wp2
    refine ⟨by simp, .inl ⟨_, _, rfl, run_takeDeferred HKD.out, ?_⟩⟩
    refine ⟨.tuple #[.string ⟨#[]⟩, .int .i64 2], ?_, by rw [HPS.out], HBE.out⟩
    simp [results, Tryd.f11, go_sem, z4, z5]
end Go.Proofs.YtfmpbohiahjafaaDoor
