/- Clusters: Write, whatever is handed in. -/
import Derived.Test.YtjhpheepimbbdaaGreatDoorCluW
namespace Go.Proofs.YtjhpheepimbbdaaGreatDoor
open Go.RowKit Go.Shelf
attribute [local go_sem] Oper.semAt_some

set_option maxRecDepth 100000 in
set_option maxHeartbeats 2000000 in
theorem cluWrite_no1 {w : World} {h : DH} {M : DM} (d : DevAt w h M) (s k m c a f e : Int) (t : ByteArray) (he : e ≠ 0) (hFi : ∀ W, Calls Tryz.prog 39 #[.agg #[.int .i64 s, .int .i64 k, .int .i64 m, .int .i64 c], .int .i64 a] W fun e' w' => e' = .returned (.tuple #[.int .i64 f, .int .i64 e]) ∧ Below W.heap.size W w') :
    Calls Tryz.prog 13 #[.pointer (some ⟨h.b, 0, none⟩), .agg #[.int .i64 s, .int .i64 k, .int .i64 m, .int .i64 c], .int .i64 a, .string t] w fun e' w' => e' = .returned (.int .i64 e) ∧ DevAt w' h M ∧ Ap h.S w w' := by
  have HC0 := Lib.hid (CB.start d s k m c t 26 23 9 27)
  have d0 : (e == 0) = false := by simpa using he
  have d1 : (e != 0) = true := by simpa using he
  clear d he
  refine (callsIn_wide (n := 8)).1 ?_
  have hf0 : Fence.wide.fn 13 := trivial
  have hf1 : Fence.wide.fn 39 := trivial
  have hFi' := fun W j => (callsIn_wide (n := j)).2 (hFi W)
  clear hFi
  refine callsIn_of_wp_marks Tryz.func13 rfl hf0 ?_ rfl
  simp only [Tryz.ntmps13, List.size_toArray, List.length_cons, List.length_nil, Nat.reduceAdd, Nat.reduceSub, Array.replicate_succ, Array.replicate_zero, List.push_toArray, List.append_toArray, List.nil_append, List.cons_append]
  gi_wp2_with (gi_at_call 39; refine (hFi' _ _).mono ?_; rintro e W1 ⟨rfl, hb1⟩; have HC1 := Lib.hid (HC0.out.below hb1); obtain ⟨_, _, b0, g0, g1, g2, g3, b2, b3, f2, f3, _, _⟩ := HC1.out; clear hb1)
  have HC5 := HC1.out.set3 e
  have hc5 := HC5.b3
  refine ⟨.int .i64 e, ?_, rfl, HC5.d, HC5.ap⟩
  simp [results, Tryz.f13, go_sem, hc5]
set_option maxRecDepth 100000 in
set_option maxHeartbeats 2000000 in
theorem cluWrite_no2 {w : World} {h : DH} {M : DM} (d : DevAt w h M) (s k m c a f z : Int) (t : ByteArray) (ht : (t.size : Int) ≠ z) (hFi : ∀ W, Calls Tryz.prog 39 #[.agg #[.int .i64 s, .int .i64 k, .int .i64 m, .int .i64 c], .int .i64 a] W fun e' w' => e' = .returned (.tuple #[.int .i64 f, .int .i64 0]) ∧ Below W.heap.size W w')
    (hSz : ∀ W, Calls Tryz.prog 37 #[.agg #[.int .i64 s, .int .i64 k, .int .i64 m, .int .i64 c]] W fun e w' => e = .returned (.int .i64 z) ∧ Below W.heap.size W w') :
    Calls Tryz.prog 13 #[.pointer (some ⟨h.b, 0, none⟩), .agg #[.int .i64 s, .int .i64 k, .int .i64 m, .int .i64 c], .int .i64 a, .string t] w fun e' w' => e' = .returned (.int .i64 2) ∧ DevAt w' h M ∧ Ap h.S w w' := by
  have HC0 := Lib.hid (CB.start d s k m c t 26 23 9 27)
  have q1 : ((t.size : Int) == z) = false := by simpa using ht
  have q2 : ((t.size : Int) != z) = true := by simpa using ht
  clear d ht
  refine (callsIn_wide (n := 8)).1 ?_
  have hf0 : Fence.wide.fn 13 := trivial
  have hf1 : Fence.wide.fn 39 := trivial
  have hFi' := fun W j => (callsIn_wide (n := j)).2 (hFi W)
  clear hFi
  refine callsIn_of_wp_marks Tryz.func13 rfl hf0 ?_ rfl
  simp only [Tryz.ntmps13, List.size_toArray, List.length_cons, List.length_nil, Nat.reduceAdd, Nat.reduceSub, Array.replicate_succ, Array.replicate_zero, List.push_toArray, List.append_toArray, List.nil_append, List.cons_append]
  gi_wp2_with (gi_at_call 39; refine (hFi' _ _).mono ?_; rintro e W1 ⟨rfl, hb1⟩; have HC1 := Lib.hid (HC0.out.below hb1); obtain ⟨_, _, b0, g0, g1, g2, g3, b2, b3, f2, f3, _, _⟩ := HC1.out; clear hb1)
  refine wpIn_wide.2 ?_
  have gd := HC1.out.drew
  have z0 : ∀ p : Wk (fun W => CB w W h M s k m c t 0), p.W.cell? ⟨w.heap.size, 0, none⟩ = some (.pointer (some ⟨h.b, 0, none⟩)) := fun p => p.h.b0
  have z1 : ∀ p : Wk (fun W => CB w W h M s k m c t 0), p.W.cell? ⟨w.heap.size + 1, 0, none⟩ = some (.int .i64 s) := fun p => p.h.g0
  have z2 : ∀ p : Wk (fun W => CB w W h M s k m c t 0), p.W.cell? ⟨w.heap.size + 1, 1, none⟩ = some (.int .i64 k) := fun p => p.h.g1
  have z3 : ∀ p : Wk (fun W => CB w W h M s k m c t 0), p.W.cell? ⟨w.heap.size + 1, 2, none⟩ = some (.int .i64 m) := fun p => p.h.g2
  have z4 : ∀ p : Wk (fun W => CB w W h M s k m c t 0), p.W.cell? ⟨w.heap.size + 1, 3, none⟩ = some (.int .i64 c) := fun p => p.h.g3
  have z5 : ∀ p : Wk (fun W => CB w W h M s k m c t 0), p.W.cell? ⟨w.heap.size + 1 + 1, 0, none⟩ = some (.string t) := fun p => p.h.b2
  refine wp_region_wk (fun W => CB w W h M s k m c t 0) (by kernel_rfl) (by kernel_rfl) gd ?_
  have ne : Nonempty (Wk (fun W => CB w W h M s k m c t 0)) := ⟨⟨_, gd⟩⟩
  clear gd
  repeat (refine wpQuiet_step (fun K hK => ?_); go_simp; first
    | (refine hK _ ?_; clear hK K)
    | (apply Exists.intro
       refine ⟨fun p => ?_, hK _ ?_⟩
       (go_at_call 37; exact (hSz _).mono fun _ _ h => ⟨h.1, ⟨_, CB.below p.h h.2⟩, rfl⟩)
       clear hK K))
  refine wpQuiet_nil ?_
  intro p
  have HC2 : Hid (CB w p.W h M s k m c t 0) := Lib.hid p.h
  generalize p.W = W2 at HC2 ⊢
  obtain ⟨_, _, b0, g0, g1, g2, g3, b2, b3, f2, f3, _, _⟩ := HC2.out
  clear z0 z1 z2 z3 z4 z5 ne p
  gi_wp2
  have HC5 := HC2.out.set3 2
  have hc5 := HC5.b3
  refine ⟨.int .i64 2, ?_, rfl, HC5.d, HC5.ap⟩
  simp [results, Tryz.f13, go_sem, hc5]
/-- How many sectors a cluster has, and which one is the first of this one. -/
def cluT (s k m c : Int) : Nat := (geoSz s k m c / 512).toNat
def cluF (s k m c a : Int) : Nat := (geoFv s k m c a).toNat
def cwR (M : DM) (s k m c a : Int) (t : ByteArray) : DM × Int :=
  if geoFe s k m c a = 0 then (if (t.size : Int) = geoSz s k m c then wrS M (cluF s k m c a) t (cluT s k m c) else (M, 2)) else (M, geoFe s k m c a)
theorem clu_ok {s k m c a : Int} (h : geoFe s k m c a = 0) : GeoOk s k m c ∧ 0 ≤ a ∧ a < c := by
  unfold geoFe at h
  split at h
  · rename_i g
    split at h
    · rename_i g2; exact ⟨g, g2⟩
    · omega
  · omega
theorem clu_nums {s k m c a : Int} (h : geoFe s k m c a = 0) : geoFv s k m c a = (cluF s k m c a : Int) ∧ geoSz s k m c = (cluT s k m c : Int) * 512 ∧ 1 ≤ cluT s k m c ∧ cluT s k m c ≤ 128 ∧ (cluF s k m c a + cluT s k m c : Int) ≤ geoSec s k m c ∧ geoSec s k m c ≤ 32768 ∧ (cluT s k m c : Int) = tw s ∧ (cluF s k m c a : Int) = a * tw s := by
  obtain ⟨g, g0, g1⟩ := clu_ok h
  obtain ⟨h0, h7, h4, hc2, p1, p2, hM, hM0⟩ := geoOk_b g
  have e1 : geoSz s k m c = 512 * tw s := if_pos g
  have e2 : geoFv s k m c a = a * tw s := if_pos ⟨g, g0, g1⟩
  have e3 : geoSec s k m c = c * tw s := if_pos g
  have e4 : (cluT s k m c : Int) = tw s := by unfold cluT; rw [e1]; omega
  have e5 : 0 ≤ a * tw s := Int.mul_nonneg (by omega) (by omega)
  have e6 : (cluF s k m c a : Int) = a * tw s := by unfold cluF; rw [e2]; omega
  have e7 : (a + 1) * tw s ≤ c * tw s := Int.mul_le_mul_of_nonneg_right (by omega) (by omega)
  rw [Int.add_mul, Int.one_mul] at e7
  exact ⟨by omega, by omega, by omega, by omega, by omega, by omega, e4, e6⟩
theorem cluWrite_any {w : World} {h : DH} {M : DM} (d : DevAt w h M) (s k m c a : Int) (hk : W64 k) (hm : W64 m) (hc : W64 c) (t : ByteArray) (hwr : M.writes < 1000000000) :
    Calls Tryz.prog 13 #[.pointer (some ⟨h.b, 0, none⟩), .agg #[.int .i64 s, .int .i64 k, .int .i64 m, .int .i64 c], .int .i64 a, .string t] w fun e w' => e = .returned (.int .i64 (cwR M s k m c a t).2) ∧ DevAt w' h (cwR M s k m c a t).1 ∧ Ap h.S w w' := by
  have hF := geoFirst_any s k m c a hk hm hc
  have hS := geoSize_any s k m c hk hm hc
  unfold geoV at hF hS
  unfold cwR
  by_cases h0 : geoFe s k m c a = 0
  · obtain ⟨n1, n2, n3, n4, n5, n6, _⟩ := clu_nums h0
    rw [if_pos h0]
    rw [h0] at hF
    by_cases h1 : (t.size : Int) = geoSz s k m c
    · rw [if_pos h1]
      rw [n1] at hF
      exact cluWrite_ok d s k m c a (cluF s k m c a) (cluT s k m c) _ t hF hS h1 n2 n4 (by omega) hwr
    · rw [if_neg h1]
      exact cluWrite_no2 d s k m c a _ _ t h1 hF hS
  · rw [if_neg h0]
    exact cluWrite_no1 d s k m c a _ _ t h0 hF
end Go.Proofs.YtjhpheepimbbdaaGreatDoor
