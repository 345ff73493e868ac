/- Clusters: the contract of Write. -/
import Derived.Test.YtjhpheepimbbdaaGreatDoorZCluM
import Derived.Test.YtjhpheepimbbdaaGreatDoorRound
import Derived.Test.YtjhpheepimbbdaaGreatDoorReg
namespace Go.Proofs.YtjhpheepimbbdaaGreatDoor
open Go.RowKit Go.Shelf
attribute [local go_sem] Oper.semAt_some

/-- What has been written when these rounds are over. -/
def wrF (M : DM) (A : Nat) (t : ByteArray) {T : Nat} (pre : List (Fin T)) : DM × Int := (pre.map (fun x => x.1)).foldl (wrStep A t) (M, 0)
theorem wrF_range {M : DM} {A : Nat} {t : ByteArray} {T k : Nat} {pre : List (Fin T)} (h : pre.map (fun x => x.1) = List.range k) : wrF M A t pre = wrS M A t k := by unfold wrF wrS; rw [h]
theorem wrF_snoc (M : DM) (A : Nat) (t : ByteArray) {T : Nat} (pre : List (Fin T)) (x : Fin T) : wrF M A t (pre ++ [x]) = wrStep A t (wrF M A t pre) x.1 := by
  unfold wrF; rw [List.map_append, List.foldl_append]; rfl
theorem wrF_b (M : DM) (A : Nat) (t : ByteArray) {T : Nat} (pre : List (Fin T)) : (wrF M A t pre).1.writes ≤ M.writes + pre.length := by
  have h := (wrFold_b A t (pre.map (fun x => x.1)) (M, 0)).2
  rw [List.length_map] at h
  exact h
set_option maxRecDepth 100000 in
set_option maxHeartbeats 2000000 in
theorem cluWrite_ok {w : World} {h : DH} {M : DM} (d : DevAt w h M) (s k m c a : Int) (A T : Nat) (z : Int) (t : ByteArray) (hFi : ∀ W, Calls Tryz.prog 39 #[.agg #[.int .i64 s, .int .i64 k, .int .i64 m, .int .i64 c], .int .i64 a] W fun e w' => e = .returned (.tuple #[.int .i64 (A : Int), .int .i64 0]) ∧ Below W.heap.size W w')
    (hSz : ∀ W, Calls Tryz.prog 37 #[.agg #[.int .i64 s, .int .i64 k, .int .i64 m, .int .i64 c]] W fun e w' => e = .returned (.int .i64 z) ∧ Below W.heap.size W w')
    (ht : (t.size : Int) = z) (hz : z = (T : Int) * 512) (hT : T ≤ 128) (hA : A ≤ 1000000) (hwr : M.writes < 1000000000) :
    Calls Tryz.prog 13 #[.pointer (some ⟨h.b, 0, none⟩), .agg #[.int .i64 s, .int .i64 k, .int .i64 m, .int .i64 c], .int .i64 a, .string t] w fun e w' => e = .returned (.int .i64 (wrS M A t T).2) ∧ DevAt w' h (wrS M A t T).1 ∧ Ap h.S w w' := by
  have HC0 := Lib.hid (CB.start d s k m c t 26 23 9 27)
  have q1 : ((t.size : Int) == z) = true := by rw [ht]; simp
  have q2 : ((t.size : Int) != z) = false := by rw [ht]; simp
  have HT : Hid (t.size = T * 512) := Lib.hid (by omega)
  clear d ht hz
  refine (callsIn_wide (n := 8)).1 ?_
  have hf0 : Fence.wide.fn 13 := trivial
  have hf1 : Fence.wide.fn 39 := trivial
  have hf2 : Fence.wide.fn 37 := trivial
  have hf3 : Fence.wide.fn 40 := trivial
  have hFi' := fun W j => (callsIn_wide (n := j)).2 (hFi W)
  have hSec' := fun x y W j => (callsIn_wide (n := j)).2 (secMaker_any x y W)
  clear hFi
  refine callsIn_of_wp_marks Tryz.func13 rfl hf0 ?_ rfl
  simp only [Tryz.ntmps13, List.size_toArray, List.length_cons, List.length_nil, Nat.reduceAdd, Nat.reduceSub, Array.replicate_succ, Array.replicate_zero, List.push_toArray, List.append_toArray, List.nil_append, List.cons_append]
  gi_wp2_with (gi_at_call 39; refine (hFi' _ _).mono ?_; rintro e W1 ⟨rfl, hb1⟩; have HC1 := Lib.hid (HC0.out.below hb1); obtain ⟨_, _, b0, g0, g1, g2, g3, b2, b3, f2, f3, _, _⟩ := HC1.out; clear hb1)
  refine wpIn_wide.2 ?_
  have gd := HC1.out.drew
  have z0 : ∀ p : Wk (fun W => CB w W h M s k m c t 0), p.W.cell? ⟨w.heap.size, 0, none⟩ = some (.pointer (some ⟨h.b, 0, none⟩)) := fun p => p.h.b0
  have z1 : ∀ p : Wk (fun W => CB w W h M s k m c t 0), p.W.cell? ⟨w.heap.size + 1, 0, none⟩ = some (.int .i64 s) := fun p => p.h.g0
  have z2 : ∀ p : Wk (fun W => CB w W h M s k m c t 0), p.W.cell? ⟨w.heap.size + 1, 1, none⟩ = some (.int .i64 k) := fun p => p.h.g1
  have z3 : ∀ p : Wk (fun W => CB w W h M s k m c t 0), p.W.cell? ⟨w.heap.size + 1, 2, none⟩ = some (.int .i64 m) := fun p => p.h.g2
  have z4 : ∀ p : Wk (fun W => CB w W h M s k m c t 0), p.W.cell? ⟨w.heap.size + 1, 3, none⟩ = some (.int .i64 c) := fun p => p.h.g3
  have z5 : ∀ p : Wk (fun W => CB w W h M s k m c t 0), p.W.cell? ⟨w.heap.size + 1 + 1, 0, none⟩ = some (.string t) := fun p => p.h.b2
  refine wp_region_wk (fun W => CB w W h M s k m c t 0) (by kernel_rfl) (by kernel_rfl) gd ?_
  have ne : Nonempty (Wk (fun W => CB w W h M s k m c t 0)) := ⟨⟨_, gd⟩⟩
  clear gd
  repeat (refine wpQuiet_step (fun K hK => ?_); go_simp; first
    | (refine hK _ ?_; clear hK K)
    | (apply Exists.intro
       refine ⟨fun p => ?_, hK _ ?_⟩
       (go_at_call 37; exact (hSz _).mono fun _ _ h => ⟨h.1, ⟨_, CB.below p.h h.2⟩, rfl⟩)
       clear hK K))
  refine wpQuiet_nil ?_
  intro p
  have HC2 : Hid (CB w p.W h M s k m c t 0) := Lib.hid p.h
  generalize p.W = W2 at HC2 ⊢
  obtain ⟨_, _, b0, g0, g1, g2, g3, b2, b3, f2, f3, _, _⟩ := HC2.out
  clear z0 z1 z2 z3 z4 z5 ne p
  gi_wp2_with (gi_at_call 40; refine (hSec' _ _ _ _).mono ?_; rintro e W3 ⟨rfl, hW3⟩; have HW3 := Lib.hid hW3; clear hW3)
  have HC3 : Hid (CB w W3 h M s k m c t 0) := Lib.hid (by rw [HW3.out]; exact (HC2.out.below (below1 _ _)).below (below1 _ _))
  have hc0 : W3.heap[W2.heap.size]? = some (boxO A) := by rw [HW3.out]; exact boxO_new _ _ _
  have hc1 : W3.cell? ⟨W2.heap.size + 1, 0, none⟩ = some (.int .i64 (t.size : Int)) := by rw [HW3.out]; simp [go_sem]
  have hB3 : W3.heap.size = W2.heap.size + 1 + 1 := by rw [HW3.out]; simp
  have hS2 : ∀ q, h.S q → q < W2.heap.size := fun q hq => Nat.lt_of_lt_of_le (HC2.out.lt q hq) (Nat.le_trans (by omega) HC2.out.sz)
  have hsz2 := HC2.out.sz
  clear HW3
  refine wpIn_rangeFunc_ownG (α := Fin T) (Kp := kpO W2.heap.size A) rfl (by omega) (gf := 67) (lb := #[.pointer (some ⟨W2.heap.size + 1, 0, none⟩), .pointer (some ⟨W2.heap.size, 0, none⟩)]) rfl trivial (enters_of Tryz.func67 (by kernel_rfl) rfl)
    (sec_stops Fence.wide _ trivial rfl (by omega) W2.heap.size (W2.heap.size + 1) A T (t.size : Int) (by rw [HT.out]; omega) (by omega) (by rw [HT.out]; omega) hA hT W3 (by omega) (by omega) hc0 hc1)
    kpO_t kpO_b (Below.refl _ _) (fun _ => rfl)
    (fun pre W => CB w W h (wrF M A t pre).1 s k m c t 0 ∧ (wrF M A t pre).2 = 0)
    (fun c' pre W => c' = .ret ∧ CB w W h (wrF M A t pre).1 s k m c t (wrF M A t pre).2 ∧ (wrF M A t pre).2 ≠ 0)
    (fun s A B row hs hg hr => ⟨hs.1.own (by omega) hg (fun r e => (hr r e).1), hs.2⟩)
    (fun c' s A B row hs hg hr => ⟨hs.1, hs.2.1.own (by omega) hg (fun r e => (hr r e).1), hs.2.2⟩)
    ⟨HC3.out, rfl⟩ ?a1 ?assign ?body ?done ?stop
  case assign =>
    intro l x W K hK
    gi_wp2
    exact hK
  case body =>
    rintro l pre x W ⟨hcb, he⟩ hlen
    have hsn := wrF_snoc M A t pre x
    have hwb := wrF_b M A t pre
    have hst : wrStep A t (wrF M A t pre) x.1 = (writeM (wrF M A t pre).1 ((A + x.1 : Nat) : Int) (partS t x.1), writeE (wrF M A t pre).1 ((A + x.1 : Nat) : Int) (partS t x.1)) := if_pos he
    rw [hst] at hsn
    have hx := x.2
    have hDW := devWrite_any (hcb.drew.d) ((A + x.1 : Nat) : Int) (partS t x.1) (by omega)
    clear hst hwb he
    obtain ⟨N, hN⟩ : ∃ N, N = (wrF M A t pre).1 := ⟨_, rfl⟩
    rw [← hN] at hsn hDW hcb
    obtain ⟨N', hN'⟩ : ∃ N', N' = writeM N ((A + x.1 : Nat) : Int) (partS t x.1) := ⟨_, rfl⟩
    obtain ⟨e', he'⟩ : ∃ e', e' = writeE N ((A + x.1 : Nat) : Int) (partS t x.1) := ⟨_, rfl⟩
    rw [← hN', ← he'] at hDW hsn
    have HSN := Lib.hid hsn
    clear hN hN' he' hsn
    rw [show ((A + x.1 : Nat) : Int) = (A : Int) + ((x.1 : Nat) : Int) by omega] at hDW
    have HDW := Lib.hid (fun j => (callsIn_wide (n := j)).2 hDW)
    have hfW : Fence.wide.fn 41 := trivial
    have HCB := Lib.hid hcb
    obtain ⟨_, _, b0, g0, g1, g2, g3, b2, b3, f2, f3, _, _⟩ := HCB.out
    clear hDW hcb HC3
    have hSl := slice_part t x.1 (by have := HT.out; omega)
    have hw1 : IntKind.i64.wrap (((x.1 : Nat) : Int) * 512 + 512) = ((x.1 : Nat) : Int) * 512 + 512 := by rw [IntKind.wrap_i64]; have := HT.out; omega
    gi_wp2
    refine wpIn_calm ?_
    refine wpIn_region_any (by kernel_rfl) ?_
    refine wpAnyIn_round (F := Fence.wide) (by kernel_rfl) _ _ _ _ ?_
    change wpAnyIn _ _ _ _ _ _ _ _ _ W.drew
    refine wpAnyIn_take (i := 1) (v := ?_) rfl rfl (by kernel_rfl) (by kernel_rfl) (by kernel_rfl) (fun _ _ _ h => h) ⟨Or.inl ⟨by rfl, ?_⟩, fun _ => rfl⟩ ?_
    rotate_left
    · (intro w; go_simp; first | done | with_reducible rfl)
    refine wpAnyIn_take (i := 3) (v := ?_) rfl rfl (by kernel_rfl) (by kernel_rfl) (by kernel_rfl) (fun _ _ _ h => h) ⟨Or.inl ⟨by rfl, ?_⟩, fun _ => rfl⟩ ?_
    rotate_left
    · (intro w; go_simp; first | done | with_reducible rfl)
    refine wpAnyIn_take (i := 4) (v := ?_) rfl rfl (by kernel_rfl) (by kernel_rfl) (by kernel_rfl) (fun _ _ _ h => h) ⟨Or.inl ⟨by rfl, ?_⟩, fun _ => rfl⟩ ?_
    rotate_left
    · (intro w; go_simp; first | done | with_reducible rfl)
    refine wpAnyIn_take (i := 5) (v := ?_) rfl rfl (by kernel_rfl) (by kernel_rfl) (by kernel_rfl) (fun _ _ _ h => h) ⟨Or.inl ⟨by rfl, ?_⟩, fun _ => rfl⟩ ?_
    rotate_left
    · (intro w; go_simp; first | done | with_reducible rfl)
    refine wpAnyIn_ready (rs := [0, 2]) (by kernel_rfl) (by simp) ?_
    refine AllReadyIn.cons rfl (fun K hK => ?_) ?_
    · go_simp
      refine hK _ _ ?_
      clear hK K
      refine wpAnyIn_ready (rs := [2]) (by kernel_rfl) (by simp) ?_
      refine AllReadyIn.cons rfl (fun K hK => ?_) ?_
      · go_simp
        refine hK _ _ ?_
        clear hK K
        refine wpAnyIn_take (i := 6) (v := ?_) rfl rfl (by kernel_rfl) (by kernel_rfl) (by kernel_rfl) (fun _ _ _ h => h) ⟨Or.inl ⟨by rfl, ?_⟩, fun _ => rfl⟩ ?_
        rotate_left
        · (intro w; go_simp; first | done | with_reducible rfl)
        refine wpAnyIn_ready (rs := [7]) (by kernel_rfl) (by simp) ?_
        refine AllReadyIn.cons rfl (fun K hK => ?_) ?_
        · go_simp
          gi_wp2_with (gi_at_call 41; with_reducible refine (HDW.out _).mono ?_; rintro e W4 ⟨rfl, hd4, ha4⟩; have HD4 := Lib.hid hd4; have HA4 := Lib.hid ha4; clear hd4 ha4)
          try (refine hK _ _ ?_)
          try (clear hK K)
          refine wpAnyIn_take (i := 8) (v := ?_) rfl rfl (by kernel_rfl) (by kernel_rfl) (by kernel_rfl) (fun _ _ _ h => h) ⟨Or.inl ⟨by rfl, ?_⟩, fun _ => rfl⟩ ?_
          rotate_left
          · (intro w; go_simp; first | done | with_reducible rfl)
          refine wpAnyIn_done (by kernel_rfl) ?_ _
          have HC4 := Lib.hid (HCB.out.drew.dev HD4.out HA4.out)
          have HK4 : Hid (KeepsFrom W3.heap.size W W4) := Lib.hid (((KeepsOthers.drew W).from _).trans (apK_from HA4.out (fun q hq => by have := hS2 q hq; omega)))
          have HP4 : Hid (kpO W2.heap.size A W W4) := Lib.hid (kpO_t (kpO_below ((Below.refl _ _).drew)) (kpO_ap HA4.out (fun q => by have := hS2 _ q; omega)))
          obtain ⟨_, _, b0, g0, g1, g2, g3, b2, b3, f2, f3, _, _⟩ := HC4.out
          show calmQ _ .normal _ _
          unfold calmQ
          by_cases h0 : e' = 0
          · subst h0
            gi_wp2
            exact ⟨HK4.out, HP4.out, by dsimp only; rw [HSN.out]; exact ⟨HC4.out, rfl⟩⟩
          · have d0 : (e' == 0) = false := by simpa using h0
            have d1 : (e' != 0) = true := by simpa using h0
            have HC5 := Lib.hid (HC4.out.set3 e')
            have HH0 := Lib.hid h0
            gi_wp2
            exact ⟨HK4.out.trans ((KeepsOthers.setCell _ _ _).from _), by dsimp only; rw [HSN.out]; exact ⟨rfl, HC5.out, HH0.out⟩⟩
        exact AllReadyIn.nil
      exact AllReadyIn.nil
    refine AllReadyIn.cons rfl (fun K hK => ?_) ?_
    · go_simp
      refine hK _ _ ?_
      clear hK K
      refine wpAnyIn_take (i := 6) (v := ?_) rfl rfl (by kernel_rfl) (by kernel_rfl) (by kernel_rfl) (fun _ _ _ h => h) ⟨Or.inl ⟨by rfl, ?_⟩, fun _ => rfl⟩ ?_
      rotate_left
      · (intro w; go_simp; first | done | with_reducible rfl)
      refine wpAnyIn_ready (rs := [0]) (by kernel_rfl) (by simp) ?_
      refine AllReadyIn.cons rfl (fun K hK => ?_) ?_
      · go_simp
        refine hK _ _ ?_
        clear hK K
        refine wpAnyIn_ready (rs := [7]) (by kernel_rfl) (by simp) ?_
        refine AllReadyIn.cons rfl (fun K hK => ?_) ?_
        · go_simp
          gi_wp2_with (gi_at_call 41; with_reducible refine (HDW.out _).mono ?_; rintro e W4 ⟨rfl, hd4, ha4⟩; have HD4 := Lib.hid hd4; have HA4 := Lib.hid ha4; clear hd4 ha4)
          try (refine hK _ _ ?_)
          try (clear hK K)
          refine wpAnyIn_take (i := 8) (v := ?_) rfl rfl (by kernel_rfl) (by kernel_rfl) (by kernel_rfl) (fun _ _ _ h => h) ⟨Or.inl ⟨by rfl, ?_⟩, fun _ => rfl⟩ ?_
          rotate_left
          · (intro w; go_simp; first | done | with_reducible rfl)
          refine wpAnyIn_done (by kernel_rfl) ?_ _
          have HC4 := Lib.hid (HCB.out.drew.dev HD4.out HA4.out)
          have HK4 : Hid (KeepsFrom W3.heap.size W W4) := Lib.hid (((KeepsOthers.drew W).from _).trans (apK_from HA4.out (fun q hq => by have := hS2 q hq; omega)))
          have HP4 : Hid (kpO W2.heap.size A W W4) := Lib.hid (kpO_t (kpO_below ((Below.refl _ _).drew)) (kpO_ap HA4.out (fun q => by have := hS2 _ q; omega)))
          obtain ⟨_, _, b0, g0, g1, g2, g3, b2, b3, f2, f3, _, _⟩ := HC4.out
          show calmQ _ .normal _ _
          unfold calmQ
          by_cases h0 : e' = 0
          · subst h0
            gi_wp2
            exact ⟨HK4.out, HP4.out, by dsimp only; rw [HSN.out]; exact ⟨HC4.out, rfl⟩⟩
          · have d0 : (e' == 0) = false := by simpa using h0
            have d1 : (e' != 0) = true := by simpa using h0
            have HC5 := Lib.hid (HC4.out.set3 e')
            have HH0 := Lib.hid h0
            gi_wp2
            exact ⟨HK4.out.trans ((KeepsOthers.setCell _ _ _).from _), by dsimp only; rw [HSN.out]; exact ⟨rfl, HC5.out, HH0.out⟩⟩
        exact AllReadyIn.nil
      exact AllReadyIn.nil
    exact AllReadyIn.nil
  case done =>
    rintro D xs W hD hxs ⟨hcb, he⟩ hK
    have e1 := wrF_range (M := M) (A := A) (t := t) hxs
    rw [e1] at hcb he
    have HE := Lib.hid he
    have HC5 := Lib.hid (hcb.set3 0)
    obtain ⟨_, _, b0, g0, g1, g2, g3, b2, b3, f2, f3, _, _⟩ := hcb
    have HKD := Lib.hid hK
    clear he hK HC3 e1
    gi_wp2
    have hK' := (KeepsOthers.setCell W ⟨w.heap.size + 1 + 1 + 1, 0, none⟩ (.int .i64 0)).same D _ HKD.out rfl
    have hc5 := cell_kept HC5.out.b3 (grownBy_putObj' _ D (.deferred none)) (fun r e => by cases e; exact ⟨_, hK', rfl⟩)
    have HC6 := HC5.out.own (B := W3.heap.size) (by omega) (grownBy_putObj' _ D (.deferred none)) (fun r e => by cases e; exact hD)
    refine ⟨by simp, .inl ⟨_, _, rfl, run_takeDeferred hK', ?_⟩⟩
    refine ⟨.int .i64 0, ?_, by rw [HE.out], HC6.d, HC6.ap⟩
    simp [results, Tryz.f13, go_sem, hc5]
  case stop =>
    rintro D c' pre W hD ⟨k', hk', hpre⟩ ⟨rfl, hcb, he⟩ hK
    have e1 := wrF_range (M := M) (A := A) (t := t) hpre
    rw [e1] at hcb he
    have HS := Lib.hid (wrS_stop M A t he hk')
    have HC5 := Lib.hid hcb
    have HKD := Lib.hid hK
    clear hcb he hK HC3 e1
    gi_wp2
    have hc5 := cell_kept HC5.out.b3 (grownBy_putObj' _ D (.deferred none)) (fun r e => by cases e; exact ⟨_, HKD.out, rfl⟩)
    have HC6 := HC5.out.own (B := W3.heap.size) (by omega) (grownBy_putObj' _ D (.deferred none)) (fun r e => by cases e; exact hD)
    refine ⟨by simp, .inl ⟨_, _, rfl, run_takeDeferred HKD.out, ?_⟩⟩
    refine ⟨.int .i64 (wrS M A t k').2, ?_, by rw [HS.out], by rw [HS.out]; exact HC6.d, HC6.ap⟩
    simp [results, Tryz.f13, go_sem, hc5]
end Go.Proofs.YtjhpheepimbbdaaGreatDoor
