/- Clusters: the contract of Raw. -/
import Derived.Test.YtjhpheepimbbdaaGreatDoorCluX
import Derived.Test.YtjhpheepimbbdaaGreatDoorBld
namespace Go.Proofs.YtjhpheepimbbdaaGreatDoor
open Go.RowKit Go.Shelf
attribute [local go_sem] Oper.semAt_some

/-- What has been read when these rounds are over. -/
def rdF (M : DM) (A : Nat) {T : Nat} (pre : List (Fin T)) : List UInt8 × Int := (pre.map (fun x => x.1)).foldl (rdStep M A) ([], 0)
theorem rdF_range {M : DM} {A T k : Nat} {pre : List (Fin T)} (h : pre.map (fun x => x.1) = List.range k) : rdF M A pre = rdS M A k := by unfold rdF rdS; rw [h]
theorem rdF_snoc (M : DM) (A : Nat) {T : Nat} (pre : List (Fin T)) (x : Fin T) : rdF M A (pre ++ [x]) = rdStep M A (rdF M A pre) x.1 := by
  unfold rdF; rw [List.map_append, List.foldl_append]; rfl
theorem readV_len {w : World} {h : DH} {M : DM} (d : DevAt w h M) (a : Int) : (readV M a).length ≤ 512 := by
  unfold readV
  split
  · rename_i h0
    have hin : a.toNat < M.n := by
      unfold readE at h0
      split at h0
      · omega
      · split at h0
        · omega
        · rename_i _ g
          unfold hasB at g
          simp at g
          omega
    split
    · rename_i l hl; rw [d.flen _ l hin hl]; exact Nat.le_refl _
    · rw [d.lens _ hin]; exact Nat.le_refl _
  · simp
theorem rdF_len {w : World} {h : DH} {M : DM} (d : DevAt w h M) (A : Nat) {T : Nat} (pre : List (Fin T)) : (rdF M A pre).1.length ≤ 512 * pre.length := by
  have h := rdFold_len M A (fun a => readV_len d a) (pre.map (fun x => x.1)) ([], 0)
  rw [List.length_map] at h
  simpa [rdF] using h
/-- A call of Raw between two rounds. -/
structure RB (w W : World) (h : DH) (M : DM) (s k m c : Int) (b : Nat) (l : List UInt8) : Prop where
  c : CB w W h M s k m c ⟨#[]⟩ 0
  b : IsBld (w.heap.size + 4) b l W
  e : Below w.heap.size w W
theorem isBld_lt {B b : Nat} {l : List UInt8} {w : World} (h : IsBld B b l w) : b < w.heap.size := by
  rcases h with ⟨_, v, hb, _⟩ | ⟨_, v, hb, _⟩ <;> exact (Array.getElem?_eq_some_iff.1 hb).1
theorem isBld_own {B b : Nat} {l : List UInt8} {W W' : World} (h : IsBld B b l W) {row : Option Nat} (hg : W.grownBy W' row) (hr : ∀ r, row = some r → ∃ o : Obj, W.heap[r]? = some o ∧ o.isCells = false) : IsBld B b l W' := by
  have hk : ∀ (q : Nat) (o : Obj), W.heap[q]? = some o → o.isCells = true → W'.heap[q]? = some o := fun q o hq ho =>
    (hg.block q (Array.getElem?_eq_some_iff.1 hq).1 (fun e => by
      obtain ⟨o', h1, h2⟩ := hr q e.symm
      rw [hq] at h1; injection h1 with h1; subst h1; rw [ho] at h2; cases h2)).trans hq
  have h1 : ∀ p, Lib.BuilderAt 75 5 B b p (U8s l) W → Lib.BuilderAt 75 5 B b p (U8s l) W' := by
    rintro p ⟨hB, v, hbk, hown, hne⟩
    refine ⟨hB, v, hk b _ hbk rfl, ⟨hown.1, ?_⟩, hne⟩
    rcases hown.2 with hn | ⟨g, cap, cur, hv, hg', hh, r⟩
    · exact .inl hn
    · exact .inr ⟨g, cap, cur, hv, hg', hk g _ hh rfl, r⟩
  exact h.imp (h1 _) (h1 _)
section
variable {w W W' : World} {h : DH} {M : DM} {s k m c : Int} {b : Nat} {l l' : List UInt8}
theorem CB.belowB {t : ByteArray} {e : Int} (z : CB w W h M s k m c t e) (hb : Below (w.heap.size + 4) W W') : CB w W' h M s k m c t e := by
  have a : Ap (fun q => w.heap.size + 4 ≤ q) W W' := ⟨hb.os, hb.tape, hb.output, hb.size, fun q _ hn => hb.block q (by omega)⟩
  exact z.move (z.d.ap a (fun q hq hB' => by have := z.lt q hq; omega)) a (fun q hq _ hB' => by omega)
theorem RB.below (z : RB w W h M s k m c b l) (hb : Below W.heap.size W W') : RB w W' h M s k m c b l := ⟨z.c.below hb, z.b.below hb, z.e.trans (hb.mono z.e.size)⟩
theorem RB.own (z : RB w W h M s k m c b l) {B : Nat} (hB : w.heap.size + 4 ≤ B) {row : Option Nat} (hg : W.grownBy W' row) (hr : ∀ r, row = some r → B ≤ r ∧ ∃ o : Obj, W.heap[r]? = some o ∧ o.isCells = false) : RB w W' h M s k m c b l :=
  ⟨z.c.own hB hg (fun r e => (hr r e).1), isBld_own z.b hg (fun r e => (hr r e).2), z.e.grown hg z.e.size (fun r e => by have := (hr r e).1; omega)⟩
theorem RB.wrote (z : RB w W h M s k m c b l) (hb : Below (w.heap.size + 4) W W') (hd : BldAt (w.heap.size + 4) b l' W') : RB w W' h M s k m c b l' := ⟨z.c.belowB hb, .inr hd, z.e.trans (hb.mono (by omega))⟩
theorem kpO_others {B0 A : Nat} (ho : Lib.OthersKept 5 (some b) W W') (hne : B0 ≠ b) : kpO B0 A W W' := fun hx =>
  ho B0 _ hx (fun e => hne (by injection e)) (fun cs fz e => by unfold boxO at e; injection e with _ e2 _; exact absurd e2 (by decide))
theorem keepsFrom_below {B : Nat} (hb : Below W.heap.size W W') : KeepsFrom B W W' := ⟨hb.size, fun k _ _ hk _ => (hb.block k (Array.getElem?_eq_some_iff.1 hk).1).trans hk⟩
end
set_option maxRecDepth 100000 in
set_option maxHeartbeats 2000000 in
theorem cluRaw_ok {w : World} {h : DH} {M : DM} (d : DevAt w h M) (s k m c a : Int) (A T : Nat) (z : Int) (hFi : ∀ W, Calls Tryz.prog 39 #[.agg #[.int .i64 s, .int .i64 k, .int .i64 m, .int .i64 c], .int .i64 a] W fun e w' => e = .returned (.tuple #[.int .i64 (A : Int), .int .i64 0]) ∧ Below W.heap.size W w')
    (hSz : ∀ W, Calls Tryz.prog 37 #[.agg #[.int .i64 s, .int .i64 k, .int .i64 m, .int .i64 c]] W fun e w' => e = .returned (.int .i64 z) ∧ Below W.heap.size W w')
    (hz : z = (T : Int) * 512) (hT : T ≤ 128) (hA : A ≤ 1000000) :
    Calls Tryz.prog 16 #[.pointer (some ⟨h.b, 0, none⟩), .agg #[.int .i64 s, .int .i64 k, .int .i64 m, .int .i64 c], .int .i64 a] w fun e w' => e = .returned (.tuple #[.string ⟨(rdS M A T).1.toArray⟩, .int .i64 (rdS M A T).2]) ∧ Below w.heap.size w w' := by
  have HC0 := Lib.hid (CB.start d s k m c ⟨#[]⟩ 26 23 9 27)
  have HE0 : Hid (Below w.heap.size w ((((w.alloc (.cells #[.pointer (some ⟨h.b, 0, none⟩)] 26)).alloc (.cells #[.int .i64 s, .int .i64 k, .int .i64 m, .int .i64 c] 23)).alloc (.cells #[.string ⟨#[]⟩] 9)).alloc (.cells #[.int .i64 0] 27))) :=
    Lib.hid ((((Below.refl _ _).alloc (Nat.le_refl _) _).alloc (by simp) _).alloc (by simp; omega) _ |>.alloc (by simp; omega) _)
  obtain ⟨g, hg⟩ : ∃ g : Nat, z = (g : Int) := ⟨T * 512, by omega⟩
  have hgT : g = T * 512 := by omega
  subst hg
  have HGT := Lib.hid hgT
  have HDL := Lib.hid d
  clear d hz hgT
  refine (callsIn_wide (n := 8)).1 ?_
  have hf0 : Fence.wide.fn 16 := trivial
  have hf1 : Fence.wide.fn 39 := trivial
  have hf2 : Fence.wide.fn 37 := trivial
  have hf3 : Fence.wide.fn 40 := trivial
  have hf4 : Fence.wide.fn 31 := trivial
  have hf5 : Fence.wide.fn 35 := trivial
  have hf6 : Fence.wide.fn 46 := trivial
  have hf7 : Fence.wide.fn 45 := trivial
  have hFi' := fun W j => (callsIn_wide (n := j)).2 (hFi W)
  have hSz' := fun W j => (callsIn_wide (n := j)).2 (hSz W)
  have hSec' := fun x y W j => (callsIn_wide (n := j)).2 (secMaker_any x y W)
  clear hFi hSz
  refine callsIn_of_wp_marks Tryz.func16 rfl hf0 ?_ rfl
  simp only [Tryz.ntmps16, List.size_toArray, List.length_cons, List.length_nil, Nat.reduceAdd, Nat.reduceSub, Array.replicate_succ, Array.replicate_zero, List.push_toArray, List.append_toArray, List.nil_append, List.cons_append]
  gi_wp2_with (first
    | (gi_at_call 39; refine (hFi' _ _).mono ?_; rintro e W1 ⟨rfl, hb1⟩; have HC1 := Lib.hid (HC0.out.below hb1); have HE1 := Lib.hid (HE0.out.trans (hb1.mono HE0.out.size)); obtain ⟨_, _, b0, g0, g1, g2, g3, b2, b3, f2, f3, _, _⟩ := HC1.out; clear hb1)
    | (gi_at_call 37; refine (hSz' _ _).mono ?_; rintro e W2 ⟨rfl, hb2⟩; have HC2 := Lib.hid (HC1.out.below hb2); have HE2 := Lib.hid (HE1.out.trans (hb2.mono HE1.out.size)); clear hb2
       have hGr := bldGrow_any (B := w.heap.size + 4) (n := g) W2.heap.size HC2.out.sz (heap_alloc_new W2 (.cells #[.pointer none, .slice none 0 0] 75)) (by have := HC2.out.sz; simp; omega) (by rw [HGT.out]; omega)
       have HGR := Lib.hid (fun j => (callsIn_wide (n := j)).2 hGr); clear hGr)
    | (gi_at_call 31; with_reducible refine (HGR.out _).mono ?_; rintro e W3 ⟨rfl, hbd, hb3⟩
       have HR3 : Hid (RB w W3 h M s k m c W2.heap.size []) := Lib.hid ⟨(HC2.out.below (below1 _ _)).belowB hb3, .inr hbd, (HE2.out.alloc HE2.out.size _).trans (hb3.mono (by omega))⟩; clear hbd hb3)
    | (gi_at_call 40; refine (hSec' _ _ _ _).mono ?_; rintro e W4 ⟨rfl, hW4⟩; have HW4 := Lib.hid hW4; clear hW4))
  have HR4 : Hid (RB w W4 h M s k m c W2.heap.size []) := Lib.hid (by rw [HW4.out]; exact (HR3.out.below (below1 _ _)).below (below1 _ _))
  have hc0 : W4.heap[W3.heap.size]? = some (boxO A) := by rw [HW4.out]; exact boxO_new _ _ _
  have hc1 : W4.cell? ⟨W3.heap.size + 1, 0, none⟩ = some (.int .i64 (g : Int)) := by rw [HW4.out]; simp [go_sem]
  have hB4 : W4.heap.size = W3.heap.size + 1 + 1 := by rw [HW4.out]; simp
  have hlb := isBld_lt HR3.out.b
  have hsz3 := HR3.out.c.sz
  have HM := Lib.hid (fun X => readV_len HDL.out X)
  have HRL : Hid (∀ pre : List (Fin T), (rdF M A pre).1.length ≤ 512 * pre.length) := Lib.hid (fun pre => rdF_len HDL.out A pre)
  clear HW4 HC0 HE0 HC1 HE1 HC2 HE2 HGR HR3
  refine wpIn_rangeFunc_ownG (α := Fin T) (Kp := kpO W3.heap.size A) rfl (by omega) (gf := 67) (lb := #[.pointer (some ⟨W3.heap.size + 1, 0, none⟩), .pointer (some ⟨W3.heap.size, 0, none⟩)]) rfl trivial (enters_of Tryz.func67 (by kernel_rfl) rfl)
    (sec_stops Fence.wide _ trivial rfl (by omega) W3.heap.size (W3.heap.size + 1) A T (g : Int) (by rw [HGT.out]; omega) (by omega) (by rw [HGT.out]; omega) hA hT W4 (by omega) (by omega) hc0 hc1)
    kpO_t kpO_b (Below.refl _ _) (fun _ => rfl)
    (fun pre W => RB w W h M s k m c W2.heap.size (rdF M A pre).1 ∧ (rdF M A pre).2 = 0)
    (fun c' pre W => c' = .ret ∧ CB w W h M s k m c ⟨#[]⟩ (rdF M A pre).2 ∧ Below w.heap.size w W ∧ (rdF M A pre).2 ≠ 0 ∧ (rdF M A pre).1 = [])
    (fun s A B row hs hg hr => ⟨hs.1.own (by omega) hg hr, hs.2⟩)
    (fun c' s A B row hs hg hr => ⟨hs.1, hs.2.1.own (by omega) hg (fun r e => (hr r e).1), hs.2.2.1.grown hg hs.2.2.1.size (fun r e => by have := (hr r e).1; omega), hs.2.2.2⟩)
    ⟨HR4.out, rfl⟩ ?a1 ?assign ?body ?done ?stop
  case assign =>
    intro l x W K hK
    gi_wp2
    exact hK
  case body =>
    rintro l pre x W ⟨hrb, he⟩ hlen
    have hsn := rdF_snoc M A pre x
    have hst : rdStep M A (rdF M A pre) x.1 = (if readE M ((A + x.1 : Nat) : Int) = 0 then ((rdF M A pre).1 ++ readV M ((A + x.1 : Nat) : Int), 0) else ([], readE M ((A + x.1 : Nat) : Int))) := if_pos he
    rw [hst] at hsn
    have hx := x.2
    have hRD := devRead_any hrb.c.d ((A + x.1 : Nat) : Int)
    have hvl := HM.out ((A + x.1 : Nat) : Int)
    have hll := HRL.out pre
    clear hst he
    obtain ⟨l0, hl0⟩ : ∃ l0, l0 = (rdF M A pre).1 := ⟨_, rfl⟩
    rw [← hl0] at hsn hrb hll
    obtain ⟨v, hv⟩ : ∃ v, v = readV M ((A + x.1 : Nat) : Int) := ⟨_, rfl⟩
    obtain ⟨e', he'⟩ : ∃ e', e' = readE M ((A + x.1 : Nat) : Int) := ⟨_, rfl⟩
    rw [← hv, ← he'] at hRD hsn
    rw [← hv] at hvl
    rw [show ((A + x.1 : Nat) : Int) = (A : Int) + ((x.1 : Nat) : Int) by omega] at hRD
    have HRD := Lib.hid (fun j => CallsIn.inRound l ((callsIn_wide (n := j)).2 hRD))
    have HRB := Lib.hid hrb
    obtain ⟨_, _, b0, g0, g1, g2, g3, b2, b3, f2, f3, _, _⟩ := HRB.out.c
    obtain ⟨sv, hsv⟩ : ∃ sv : ByteArray, sv = ⟨v.toArray⟩ := ⟨_, rfl⟩
    have hsvl : sv.data.toList = v := by rw [hsv]
    have hsvs : sv.size = v.length := by rw [hsv]; simp [ByteArray.size]
    rw [← hsv] at HRD
    clear hRD hrb HR4 hl0 hv he' hsv
    by_cases h0 : e' = 0
    · rw [if_pos h0] at hsn
      have HSN := Lib.hid hsn
      have d0 : (e' == 0) = true := by simpa using h0
      have d1 : (e' != 0) = false := by simpa using h0
      clear hsn
      subst h0
      gi_wp2_with (first
        | (gi_at_call 45; with_reducible refine (HRD.out _).mono ?_; rintro e W5 ⟨rfl, hb5⟩; have HR5 := Lib.hid (HRB.out.below hb5); have HK5 : Hid (KeepsFrom W4.heap.size W W5) := Lib.hid (keepsFrom_below hb5); have HP5 : Hid (kpO W3.heap.size A W W5) := Lib.hid (kpO_below hb5); clear hb5
           have hWS := bldWriteString_any HR5.out.b HR5.out.c.sz sv (by omega); have HWS := Lib.hid (fun j => CallsIn.inRound l ((callsIn_wide (n := j)).2 hWS)); clear hWS)
        | (gi_at_call 46; with_reducible refine (HWS.out _).mono ?_; rintro e W6 ⟨rfl, hd6, hb6, hk6, ho6⟩))
      rw [hsvl] at hd6
      exact ⟨HK5.out.trans (hk6.from _), kpO_t HP5.out (kpO_others ho6 (by omega)), by dsimp only; rw [HSN.out]; exact ⟨HR5.out.wrote hb6 hd6, rfl⟩⟩
    · rw [if_neg h0] at hsn
      have HSN := Lib.hid hsn
      have d0 : (e' == 0) = false := by simpa using h0
      have d1 : (e' != 0) = true := by simpa using h0
      have HH0 := Lib.hid h0
      clear hsn h0
      gi_wp2_with (gi_at_call 45; with_reducible refine (HRD.out _).mono ?_; rintro e W5 ⟨rfl, hb5⟩; have HR5 := Lib.hid (HRB.out.below hb5); have HK5 : Hid (KeepsFrom W4.heap.size W W5) := Lib.hid (keepsFrom_below hb5); clear hb5; obtain ⟨_, _, b0, g0, g1, g2, g3, b2, b3, f2, f3, _, _⟩ := HR5.out.c)
      exact ⟨HK5.out.trans (((KeepsOthers.setCell _ _ _).trans (KeepsOthers.setCell _ _ _)).from _), by dsimp only; rw [HSN.out]; exact ⟨rfl, (HR5.out.c.set2 _).set3 e', (HR5.out.e.setCell (p := ⟨w.heap.size + 1 + 1, 0, none⟩) (show w.heap.size ≤ w.heap.size + 1 + 1 by omega) _).setCell (p := ⟨w.heap.size + 1 + 1 + 1, 0, none⟩) (show w.heap.size ≤ w.heap.size + 1 + 1 + 1 by omega) _, HH0.out, rfl⟩⟩
  case done =>
    rintro D xs W hD hxs ⟨hrb, he⟩ hK
    have e1 := rdF_range (M := M) (A := A) hxs
    rw [e1] at hrb he
    have HE := Lib.hid he
    have HRB := Lib.hid hrb
    have hStr := bldString_any hrb.b hrb.c.sz
    have HST := Lib.hid (fun j => (callsIn_wide (n := j)).2 hStr)
    have HKD := Lib.hid hK
    have HNB : Hid (D ≠ W2.heap.size) := Lib.hid (by rintro rfl; obtain ⟨_, v, hb, _⟩ | ⟨_, v, hb, _⟩ := hrb.b <;> (rw [hb] at hK; cases hK))
    clear he hK HR4 e1 hrb hStr
    gi_wp2
    gi_at_call 35
    refine (HST.out _).mono ?_
    rintro e W5 ⟨rfl, hb5, ho5⟩
    have HC5 := Lib.hid (HRB.out.c.belowB hb5)
    have HE5 := Lib.hid (HRB.out.e.trans (hb5.mono (by omega)))
    have HKD5 := Lib.hid (ho5 D _ HKD.out (fun e => HNB.out (by injection e)) (fun cs fz e => by cases e))
    clear hb5 ho5
    obtain ⟨_, _, b0, g0, g1, g2, g3, b2, b3, f2, f3, _, _⟩ := HC5.out
    gi_wp2
    have HC6 := Lib.hid ((HC5.out.set2 ⟨(rdS M A T).1.toArray⟩).set3 0)
    have HKO := (KeepsOthers.setCell W5 ⟨w.heap.size + 1 + 1, 0, none⟩ (.string ⟨(rdS M A T).1.toArray⟩)).trans (KeepsOthers.setCell _ ⟨w.heap.size + 1 + 1 + 1, 0, none⟩ (.int .i64 0))
    have hK' := HKO.same D _ HKD5.out rfl
    have HE6 := (HE5.out.setCell (p := ⟨w.heap.size + 1 + 1, 0, none⟩) (show w.heap.size ≤ w.heap.size + 1 + 1 by omega) (.string ⟨(rdS M A T).1.toArray⟩)).setCell (p := ⟨w.heap.size + 1 + 1 + 1, 0, none⟩) (show w.heap.size ≤ w.heap.size + 1 + 1 + 1 by omega) (.int .i64 0)
    have hc5 := cell_kept HC6.out.b3 (grownBy_putObj' _ D (.deferred none)) (fun r e => by cases e; exact ⟨_, hK', rfl⟩)
    have hc6 := cell_kept HC6.out.b2 (grownBy_putObj' _ D (.deferred none)) (fun r e => by cases e; exact ⟨_, hK', rfl⟩)
    refine ⟨by simp, .inl ⟨_, _, rfl, run_takeDeferred hK', ?_⟩⟩
    refine ⟨.tuple #[.string ⟨(rdS M A T).1.toArray⟩, .int .i64 0], ?_, by rw [HE.out], HE6.grown (grownBy_putObj' _ D (.deferred none)) HE6.size (fun r e => by cases e; omega)⟩
    simp [results, Tryz.f16, go_sem, hc5, hc6]
  case stop =>
    rintro D c' pre W hD ⟨k', hk', hpre⟩ ⟨rfl, hcb, hbe, he, hl⟩ hK
    have e1 := rdF_range (M := M) (A := A) hpre
    rw [e1] at hcb he hl
    have HS := Lib.hid (rdS_stop M A he hk')
    have HL := Lib.hid hl
    have HC5 := Lib.hid hcb
    have HE5 := Lib.hid hbe
    have HKD := Lib.hid hK
    clear hcb he hK hbe hl HR4 e1
    gi_wp2
    have hc5 := cell_kept HC5.out.b3 (grownBy_putObj' _ D (.deferred none)) (fun r e => by cases e; exact ⟨_, HKD.out, rfl⟩)
    have hc6 := cell_kept HC5.out.b2 (grownBy_putObj' _ D (.deferred none)) (fun r e => by cases e; exact ⟨_, HKD.out, rfl⟩)
    refine ⟨by simp, .inl ⟨_, _, rfl, run_takeDeferred HKD.out, ?_⟩⟩
    refine ⟨.tuple #[.string ⟨#[]⟩, .int .i64 (rdS M A k').2], ?_, by rw [HS.out, HL.out], HE5.out.grown (grownBy_putObj' _ D (.deferred none)) HE5.out.size (fun r e => by cases e; omega)⟩
    simp [results, Tryz.f16, go_sem, hc5, hc6]
set_option maxRecDepth 100000 in
set_option maxHeartbeats 2000000 in
theorem cluRaw_no {w : World} {h : DH} {M : DM} (d : DevAt w h M) (s k m c a f e : Int) (he : e ≠ 0) (hFi : ∀ W, Calls Tryz.prog 39 #[.agg #[.int .i64 s, .int .i64 k, .int .i64 m, .int .i64 c], .int .i64 a] W fun e' w' => e' = .returned (.tuple #[.int .i64 f, .int .i64 e]) ∧ Below W.heap.size W w') :
    Calls Tryz.prog 16 #[.pointer (some ⟨h.b, 0, none⟩), .agg #[.int .i64 s, .int .i64 k, .int .i64 m, .int .i64 c], .int .i64 a] w fun e' w' => e' = .returned (.tuple #[.string ⟨#[]⟩, .int .i64 e]) ∧ Below w.heap.size w w' := by
  have HC0 := Lib.hid (CB.start d s k m c ⟨#[]⟩ 26 23 9 27)
  have HE0 : Hid (Below w.heap.size w ((((w.alloc (.cells #[.pointer (some ⟨h.b, 0, none⟩)] 26)).alloc (.cells #[.int .i64 s, .int .i64 k, .int .i64 m, .int .i64 c] 23)).alloc (.cells #[.string ⟨#[]⟩] 9)).alloc (.cells #[.int .i64 0] 27))) :=
    Lib.hid ((((Below.refl _ _).alloc (Nat.le_refl _) _).alloc (by simp) _).alloc (by simp; omega) _ |>.alloc (by simp; omega) _)
  have d0 : (e == 0) = false := by simpa using he
  have d1 : (e != 0) = true := by simpa using he
  clear d he
  refine (callsIn_wide (n := 8)).1 ?_
  have hf0 : Fence.wide.fn 16 := trivial
  have hf1 : Fence.wide.fn 39 := trivial
  have hFi' := fun W j => (callsIn_wide (n := j)).2 (hFi W)
  clear hFi
  refine callsIn_of_wp_marks Tryz.func16 rfl hf0 ?_ rfl
  simp only [Tryz.ntmps16, List.size_toArray, List.length_cons, List.length_nil, Nat.reduceAdd, Nat.reduceSub, Array.replicate_succ, Array.replicate_zero, List.push_toArray, List.append_toArray, List.nil_append, List.cons_append]
  gi_wp2_with (gi_at_call 39; refine (hFi' _ _).mono ?_; rintro e W1 ⟨rfl, hb1⟩; have HC1 := Lib.hid (HC0.out.below hb1); have HE1 := Lib.hid (HE0.out.trans (hb1.mono HE0.out.size)); obtain ⟨_, _, b0, g0, g1, g2, g3, b2, b3, f2, f3, _, _⟩ := HC1.out; clear hb1)
  have HC5 := (HC1.out.set2 ⟨#[]⟩).set3 e
  have hc5 := HC5.b3
  have hc6 := HC5.b2
  have HE6 := (HE1.out.setCell (p := ⟨w.heap.size + 1 + 1, 0, none⟩) (show w.heap.size ≤ w.heap.size + 1 + 1 by omega) (.string ⟨#[]⟩)).setCell (p := ⟨w.heap.size + 1 + 1 + 1, 0, none⟩) (show w.heap.size ≤ w.heap.size + 1 + 1 + 1 by omega) (.int .i64 e)
  refine ⟨.tuple #[.string ⟨#[]⟩, .int .i64 e], ?_, rfl, HE6⟩
  simp [results, Tryz.f16, go_sem, hc5, hc6]
def crR (M : DM) (s k m c a : Int) : List UInt8 × Int := if geoFe s k m c a = 0 then rdS M (cluF s k m c a) (cluT s k m c) else ([], geoFe s k m c a)
theorem cluRaw_any {w : World} {h : DH} {M : DM} (d : DevAt w h M) (s k m c a : Int) (hk : W64 k) (hm : W64 m) (hc : W64 c) :
    Calls Tryz.prog 16 #[.pointer (some ⟨h.b, 0, none⟩), .agg #[.int .i64 s, .int .i64 k, .int .i64 m, .int .i64 c], .int .i64 a] w fun e w' => e = .returned (.tuple #[.string ⟨(crR M s k m c a).1.toArray⟩, .int .i64 (crR M s k m c a).2]) ∧ Below w.heap.size w w' := by
  have hF := geoFirst_any s k m c a hk hm hc
  have hS := geoSize_any s k m c hk hm hc
  unfold geoV at hF hS
  unfold crR
  by_cases h0 : geoFe s k m c a = 0
  · obtain ⟨n1, n2, n3, n4, n5, n6, _⟩ := clu_nums h0
    rw [if_pos h0]
    rw [h0, n1] at hF
    exact cluRaw_ok d s k m c a (cluF s k m c a) (cluT s k m c) _ hF hS n2 n4 (by omega)
  · rw [if_neg h0]
    exact cluRaw_no d s k m c a _ _ h0 hF
end Go.Proofs.YtjhpheepimbbdaaGreatDoor
