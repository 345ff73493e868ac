/- References: the plain model, and N and Live of the program and of the document. -/
import Derived.Test.YthhbaccbhfngbaaMc00
import Derived.Test.YthhbaccbhfngbaaMb15
namespace Go.Proofs.Ythhbaccbhfngbaa
open Go.RowKit

/-- A reference: the place, and how often. -/
structure RF where
  s : Int
  m : Int
  n : Int
def RF.enc (r : RF) : List Value := [.int .i64 r.s, .int .i64 r.m, .int .i64 r.n]
def RF.zero : RF := ⟨0, 0, 0⟩
theorem RF.enc_len (r : RF) : r.enc.length = 3 := rfl
theorem RF.enc_one (r : RF) : ∀ u ∈ r.enc, u.oneCell' = true := by
  intro u hu
  simp only [RF.enc, List.mem_cons, List.not_mem_nil, or_false] at hu
  rcases hu with rfl | rfl | rfl <;> rfl
abbrev RefS (w : World) (v : Value) (L : List RF) : Prop := StS 3 RF.enc RF.zero w v L
/-- How often a place is told, as the sum is reckoned. -/
def nOf (s m : Int) (L : List RF) : Int := L.foldl (fun a r => if r.s = s ∧ r.m = m then wrap64 (a + r.n) else a) 0
def liveOf (s : Int) (L : List RF) : Nat := (L.filter (fun r => r.s = s)).length
theorem nOf_nil (s m : Int) : nOf s m [] = 0 := rfl
theorem nOf_y {L : List RF} {j : Nat} {s m : Int} (h : j < L.length) (hy : (L.getD j RF.zero).s = s ∧ (L.getD j RF.zero).m = m) : nOf s m (L.take (j + 1)) = wrap64 (nOf s m (L.take j) + (L.getD j RF.zero).n) := by
  rw [getD_snoc RF.zero h]; unfold nOf; rw [List.foldl_append]; simp only [List.foldl_cons, List.foldl_nil]; rw [if_pos hy]
theorem nOf_n {L : List RF} {j : Nat} {s m : Int} (h : j < L.length) (hy : ¬ ((L.getD j RF.zero).s = s ∧ (L.getD j RF.zero).m = m)) : nOf s m (L.take (j + 1)) = nOf s m (L.take j) := by
  rw [getD_snoc RF.zero h]; unfold nOf; rw [List.foldl_append]; simp only [List.foldl_cons, List.foldl_nil]; rw [if_neg hy]
theorem liveOf_y {L : List RF} {j : Nat} {s : Int} (h : j < L.length) (hy : (L.getD j RF.zero).s = s) : liveOf s (L.take (j + 1)) = liveOf s (L.take j) + 1 := by
  rw [getD_snoc RF.zero h]; unfold liveOf; rw [List.filter_append, List.filter_cons_of_pos (by simpa using hy)]; simp
theorem liveOf_n {L : List RF} {j : Nat} {s : Int} (h : j < L.length) (hy : (L.getD j RF.zero).s ≠ s) : liveOf s (L.take (j + 1)) = liveOf s (L.take j) := by
  rw [getD_snoc RF.zero h]; unfold liveOf; rw [List.filter_append, List.filter_cons_of_neg (by simpa using hy)]; simp
theorem liveOf_le (s : Int) (L : List RF) : liveOf s L ≤ L.length := List.length_filter_le _ _
theorem wrap_eq (x : Int) : IntKind.i64.wrap x = wrap64 x := by rw [IntKind.wrap_i64]; unfold wrap64; omega
theorem nextR {j n : Nat} (h : j < n) (h1 : n ≤ maxLen) : wrap64 ((j : Int) + 1) = (j : Int) + 1 ∧ IntKind.i64.wrap ((j : Int) + 1) = (j : Int) + 1 := by
  have h1 : wrap64 ((j : Int) + 1) = (j : Int) + 1 := wrap_nx h (Nat.le_refl _) h1
  exact ⟨h1, by rw [wrap_eq]; exact h1⟩
set_option maxHeartbeats 4000000 in
set_option maxRecDepth 100000 in
theorem refN_any {w : World} {v : Value} {L : List RF} (hv : RefS w v L) (s m : Int) :
    Calls Try.prog 14 #[v, .agg #[.int .i64 s, .int .i64 m]] w fun e w' => e = .returned (.int .i64 (nOf s m L)) ∧ Below w.heap.size w w' := by
  obtain ⟨A, c1, rfl, k1, k2, k3⟩ := hv
  obtain ⟨N, hN⟩ : ∃ N, N = L.length := ⟨_, rfl⟩
  have HN := Lib.hid hN
  rw [← hN] at k1 ⊢
  have hmx : N ≤ maxLen := Nat.le_trans k1 k2
  have HMX := Lib.hid hmx
  have HK := Lib.hid k3
  obtain ⟨W, hW⟩ : ∃ W, W = w.alloc (.cells #[.int .i64 s, .int .i64 m] 36) := ⟨_, rfl⟩
  have hb0 : Below w.heap.size w W := by rw [hW]; exact (Below.refl _ w).alloc (Nat.le_refl _) _
  have hh := heap_alloc_new w (.cells #[.int .i64 s, .int .i64 m] 36)
  rw [← hW] at hh
  have hsz : W.heap.size = w.heap.size + 1 := by rw [hW]; simp
  have HP : Hid (∀ W2, Below W.heap.size W W2 → W2.cell? ⟨w.heap.size, 0, none⟩ = some (.int .i64 s) ∧ W2.cell? ⟨w.heap.size, 1, none⟩ = some (.int .i64 m)) := Lib.hid (fun W2 hb => by
    have h2 := (hb.block w.heap.size (by omega)).trans hh
    exact ⟨by rw [cell_of_row _ _ _ _ _ (0, 0) h2]; rfl, by rw [cell_of_row _ _ _ _ _ (0, 0) h2]; rfl⟩)
  have HB0 := Lib.hid hb0
  have HW := Lib.hid hW
  clear hN k3 hmx hb0 hh hsz
  go_enter Try.func14, Try.ntmps14
  go_wp2
  rw [← hW]
  clear hW
  go_loopw [5, 10] (fun vx ix wr => ∃ j : Nat, j ≤ N ∧ ix = .int .i64 (j : Int) ∧ vx = .int .i64 (nOf s m (L.take j)) ∧ Below W.heap.size W wr) (fun _ ix _ => N - idxOf ix)
  case atStart => exact ⟨0, Nat.zero_le _, rfl, rfl, Below.refl _ _⟩
  case round =>
    obtain ⟨j, hj, rfl, rfl, hb⟩ := hrel
    have HB := Lib.hid hb
    clear hb
    by_cases hlt : j < N
    · obtain ⟨g, o, rfl, hglt, hk⟩ := HK.out.resolve_left (by intro e; have := HN.out; rw [e] at this; simp at this; omega)
      have hjL : j < L.length := by rw [← HN.out]; exact hlt
      have hbw : Below w.heap.size w wr := HB0.out.trans (HB.out.mono HB0.out.size)
      have hc : ∀ q u, (L.getD j RF.zero).enc[q]? = some u → wr.cell? ⟨g, o + j * 3 + q, none⟩ = some u := fun q u hu => (hbw.cell (p := ⟨g, o + j * 3 + q, none⟩) hglt).trans (hk j hjL q u hu)
      have HY := Lib.hid (nOf_y (s := s) (m := m) hjL)
      have HZ := Lib.hid (nOf_n (s := s) (m := m) hjL)
      generalize L.getD j RF.zero = p at hc HY HZ
      obtain ⟨ps, pm, pn⟩ := p
      have q0 : wr.cell? ⟨g, o + j * 3, none⟩ = some (.int .i64 ps) := hc 0 _ rfl
      have q1 : wr.cell? ⟨g, o + j * 3 + 1, none⟩ = some (.int .i64 pm) := hc 1 _ rfl
      have q2 : wr.cell? ⟨g, o + j * 3 + 2, none⟩ = some (.int .i64 pn) := hc 2 _ rfl
      have hi0 : (0 : Int) ≤ (j : Int) := by omega
      have hi1 : (j : Int) < (N : Int) := by omega
      have hj1 : j + 1 ≤ N := hlt
      have hms : N - (j + 1) < N - j := by omega
      have HJ : Hid (j + 1 ≤ N ∧ N - (j + 1) < N - j) := Lib.hid ⟨hj1, hms⟩
      have hbx := (Below.refl wr.heap.size wr).alloc (Nat.le_refl _) (.cells #[.int .i64 ps, .int .i64 pm, .int .i64 pn] 52)
      have HBX := Lib.hid (HB.out.trans (hbx.mono HB.out.size))
      obtain ⟨x0, x1⟩ := HP.out _ HBX.out
      obtain ⟨hw1, hw2⟩ := nextR hlt HMX.out
      have hws := wrap_eq (nOf s m (L.take j) + pn)
      generalize nOf s m (L.take j) = acc at HY HZ hws ⊢
      generalize hnew : wrap64 (acc + pn) = new at HY hws
      have HNW := Lib.hid hnew
      clear hk hc hjL hj1 hms hbw hbx
      by_cases hy : ps = s ∧ pm = m
      · have HE := Lib.hid (HY.out hy)
        obtain ⟨rfl, rfl⟩ := hy
        clear HY HZ
        go_wp2
        go_roundw
        case rel => exact ⟨j + 1, HJ.out.1, by go_num, by rw [HE.out], HBX.out⟩
        case measure => have h := HJ.out.2; clear hw1 hw2 hws hnew; simp only [idxOf]; omega
      · have HE := Lib.hid (HZ.out hy)
        have hbq : (ps == s && pm == m) = false := by rw [Bool.eq_false_iff]; simpa using hy
        clear HY HZ hy
        by_cases hps : ps = s
        · subst hps
          have hpm : (pm == m) = false := by simpa using hbq
          clear hbq
          go_wp2
          go_roundw
          case rel => exact ⟨j + 1, HJ.out.1, by go_num, by rw [HE.out], HBX.out⟩
          case measure => have h := HJ.out.2; clear hw1 hw2 hws hnew; simp only [idxOf]; omega
        · have hpm : (ps == s) = false := by simpa using hps
          clear hbq hps
          go_wp2
          go_roundw
          case rel => exact ⟨j + 1, HJ.out.1, by go_num, by rw [HE.out], HBX.out⟩
          case measure => have h := HJ.out.2; clear hw1 hw2 hws hnew; simp only [idxOf]; omega
    · obtain rfl : j = N := by omega
      have hno : ¬ ((j : Int) < (j : Int)) := by omega
      have e : L.take j = L := by rw [HN.out, List.take_length]
      rw [e]
      clear e
      go_wp2
      go_ret
      exact ⟨rfl, HB0.out.trans (HB.out.mono HB0.out.size)⟩
set_option maxHeartbeats 4000000 in
set_option maxRecDepth 100000 in
theorem docN_any {w : World} {v : Value} {L : List RF} (hv : RefS w v L) (s m : Int) :
    Calls Try.prog 15 #[v, .agg #[.int .i64 s, .int .i64 m]] w fun e w' => e = .returned (.int .i64 (nOf s m L)) ∧ Below w.heap.size w w' := by
  obtain ⟨A, c1, rfl, k1, k2, k3⟩ := hv
  obtain ⟨N, hN⟩ : ∃ N, N = L.length := ⟨_, rfl⟩
  have HN := Lib.hid hN
  rw [← hN] at k1 ⊢
  have hmx : N ≤ maxLen := Nat.le_trans k1 k2
  have HMX := Lib.hid hmx
  have HK := Lib.hid k3
  obtain ⟨W, hW⟩ : ∃ W, W = w.alloc (.cells #[.int .i64 s, .int .i64 m] 36) := ⟨_, rfl⟩
  have hb0 : Below w.heap.size w W := by rw [hW]; exact (Below.refl _ w).alloc (Nat.le_refl _) _
  have hh := heap_alloc_new w (.cells #[.int .i64 s, .int .i64 m] 36)
  rw [← hW] at hh
  have hsz : W.heap.size = w.heap.size + 1 := by rw [hW]; simp
  have HP : Hid (∀ W2, Below W.heap.size W W2 → W2.cell? ⟨w.heap.size, 0, none⟩ = some (.int .i64 s) ∧ W2.cell? ⟨w.heap.size, 1, none⟩ = some (.int .i64 m)) := Lib.hid (fun W2 hb => by
    have h2 := (hb.block w.heap.size (by omega)).trans hh
    exact ⟨by rw [cell_of_row _ _ _ _ _ (0, 0) h2]; rfl, by rw [cell_of_row _ _ _ _ _ (0, 0) h2]; rfl⟩)
  have HB0 := Lib.hid hb0
  have HW := Lib.hid hW
  clear hN k3 hmx hb0 hh hsz
  go_enter Try.func15, Try.ntmps15
  go_wp2
  rw [← hW]
  clear hW
  go_loopw [5, 10] (fun vx ix wr => ∃ j : Nat, j ≤ N ∧ ix = .int .i64 (j : Int) ∧ vx = .int .i64 (nOf s m (L.take j)) ∧ Below W.heap.size W wr) (fun _ ix _ => N - idxOf ix)
  case atStart => exact ⟨0, Nat.zero_le _, rfl, rfl, Below.refl _ _⟩
  case round =>
    obtain ⟨j, hj, rfl, rfl, hb⟩ := hrel
    have HB := Lib.hid hb
    clear hb
    by_cases hlt : j < N
    · obtain ⟨g, o, rfl, hglt, hk⟩ := HK.out.resolve_left (by intro e; have := HN.out; rw [e] at this; simp at this; omega)
      have hjL : j < L.length := by rw [← HN.out]; exact hlt
      have hbw : Below w.heap.size w wr := HB0.out.trans (HB.out.mono HB0.out.size)
      have hc : ∀ q u, (L.getD j RF.zero).enc[q]? = some u → wr.cell? ⟨g, o + j * 3 + q, none⟩ = some u := fun q u hu => (hbw.cell (p := ⟨g, o + j * 3 + q, none⟩) hglt).trans (hk j hjL q u hu)
      have HY := Lib.hid (nOf_y (s := s) (m := m) hjL)
      have HZ := Lib.hid (nOf_n (s := s) (m := m) hjL)
      generalize L.getD j RF.zero = p at hc HY HZ
      obtain ⟨ps, pm, pn⟩ := p
      have q0 : wr.cell? ⟨g, o + j * 3, none⟩ = some (.int .i64 ps) := hc 0 _ rfl
      have q1 : wr.cell? ⟨g, o + j * 3 + 1, none⟩ = some (.int .i64 pm) := hc 1 _ rfl
      have q2 : wr.cell? ⟨g, o + j * 3 + 2, none⟩ = some (.int .i64 pn) := hc 2 _ rfl
      have hi0 : (0 : Int) ≤ (j : Int) := by omega
      have hi1 : (j : Int) < (N : Int) := by omega
      have hj1 : j + 1 ≤ N := hlt
      have hms : N - (j + 1) < N - j := by omega
      have HJ : Hid (j + 1 ≤ N ∧ N - (j + 1) < N - j) := Lib.hid ⟨hj1, hms⟩
      have hbx := (Below.refl wr.heap.size wr).alloc (Nat.le_refl _) (.cells #[.int .i64 ps, .int .i64 pm, .int .i64 pn] 52)
      have HBX := Lib.hid (HB.out.trans (hbx.mono HB.out.size))
      obtain ⟨x0, x1⟩ := HP.out _ HBX.out
      obtain ⟨hw1, hw2⟩ := nextR hlt HMX.out
      have hws := wrap_eq (nOf s m (L.take j) + pn)
      generalize nOf s m (L.take j) = acc at HY HZ hws ⊢
      generalize hnew : wrap64 (acc + pn) = new at HY hws
      have HNW := Lib.hid hnew
      clear hk hc hjL hj1 hms hbw hbx
      by_cases hy : ps = s ∧ pm = m
      · have HE := Lib.hid (HY.out hy)
        obtain ⟨rfl, rfl⟩ := hy
        clear HY HZ
        go_wp2
        go_roundw
        case rel => exact ⟨j + 1, HJ.out.1, by go_num, by rw [HE.out], HBX.out⟩
        case measure => have h := HJ.out.2; clear hw1 hw2 hws hnew; simp only [idxOf]; omega
      · have HE := Lib.hid (HZ.out hy)
        have hbq : (ps == s && pm == m) = false := by rw [Bool.eq_false_iff]; simpa using hy
        clear HY HZ hy
        by_cases hps : ps = s
        · subst hps
          have hpm : (pm == m) = false := by simpa using hbq
          clear hbq
          go_wp2
          go_roundw
          case rel => exact ⟨j + 1, HJ.out.1, by go_num, by rw [HE.out], HBX.out⟩
          case measure => have h := HJ.out.2; clear hw1 hw2 hws hnew; simp only [idxOf]; omega
        · have hpm : (ps == s) = false := by simpa using hps
          clear hbq hps
          go_wp2
          go_roundw
          case rel => exact ⟨j + 1, HJ.out.1, by go_num, by rw [HE.out], HBX.out⟩
          case measure => have h := HJ.out.2; clear hw1 hw2 hws hnew; simp only [idxOf]; omega
    · obtain rfl : j = N := by omega
      have hno : ¬ ((j : Int) < (j : Int)) := by omega
      have e : L.take j = L := by rw [HN.out, List.take_length]
      rw [e]
      clear e
      go_wp2
      go_ret
      exact ⟨rfl, HB0.out.trans (HB.out.mono HB0.out.size)⟩
set_option maxHeartbeats 4000000 in
set_option maxRecDepth 100000 in
theorem refLive_any {w : World} {v : Value} {L : List RF} (hv : RefS w v L) (s : Int) :
    Calls Try.prog 16 #[v, .int .i64 s] w fun e w' => e = .returned (.int .i64 (liveOf s L : Nat)) ∧ Below w.heap.size w w' := by
  obtain ⟨A, c1, rfl, k1, k2, k3⟩ := hv
  obtain ⟨N, hN⟩ : ∃ N, N = L.length := ⟨_, rfl⟩
  have HN := Lib.hid hN
  rw [← hN] at k1 ⊢
  have hmx : N ≤ maxLen := Nat.le_trans k1 k2
  have HMX := Lib.hid hmx
  have HK := Lib.hid k3
  clear hN k3 hmx
  go_enter Try.func16, Try.ntmps16
  go_wp2
  go_loopw [5, 10] (fun vx ix wr => ∃ j c : Nat, j ≤ N ∧ c = liveOf s (L.take j) ∧ ix = .int .i64 (j : Int) ∧ vx = .int .i64 (c : Int) ∧ Below w.heap.size w wr) (fun _ ix _ => N - idxOf ix)
  case atStart => exact ⟨0, 0, Nat.zero_le _, rfl, rfl, rfl, Below.refl _ _⟩
  case round =>
    obtain ⟨j, c, hj, hcc, rfl, rfl, hb⟩ := hrel
    have HB := Lib.hid hb
    clear hb
    by_cases hlt : j < N
    · obtain ⟨g, o, rfl, hglt, hk⟩ := HK.out.resolve_left (by intro e; have := HN.out; rw [e] at this; simp at this; omega)
      have hjL : j < L.length := by rw [← HN.out]; exact hlt
      have hc : ∀ q u, (L.getD j RF.zero).enc[q]? = some u → wr.cell? ⟨g, o + j * 3 + q, none⟩ = some u := fun q u hu => (HB.out.cell (p := ⟨g, o + j * 3 + q, none⟩) hglt).trans (hk j hjL q u hu)
      have HY := Lib.hid (liveOf_y (s := s) hjL)
      have HZ := Lib.hid (liveOf_n (s := s) hjL)
      have hcj : c ≤ j := by rw [hcc]; exact Nat.le_trans (liveOf_le _ _) (List.length_take_le ..)
      have HCC := Lib.hid hcc
      generalize L.getD j RF.zero = p at hc HY HZ
      obtain ⟨ps, pm, pn⟩ := p
      have q0 : wr.cell? ⟨g, o + j * 3, none⟩ = some (.int .i64 ps) := hc 0 _ rfl
      have q1 : wr.cell? ⟨g, o + j * 3 + 1, none⟩ = some (.int .i64 pm) := hc 1 _ rfl
      have q2 : wr.cell? ⟨g, o + j * 3 + 2, none⟩ = some (.int .i64 pn) := hc 2 _ rfl
      have hi0 : (0 : Int) ≤ (j : Int) := by omega
      have hi1 : (j : Int) < (N : Int) := by omega
      have hj1 : j + 1 ≤ N := hlt
      have hms : N - (j + 1) < N - j := by omega
      have HJ : Hid (j + 1 ≤ N ∧ N - (j + 1) < N - j) := Lib.hid ⟨hj1, hms⟩
      have hbx := (Below.refl wr.heap.size wr).alloc (Nat.le_refl _) (.cells #[.int .i64 ps, .int .i64 pm, .int .i64 pn] 52)
      have HBX := Lib.hid (HB.out.trans (hbx.mono HB.out.size))
      obtain ⟨hw1, hw2⟩ := nextR hlt HMX.out
      obtain ⟨hw3, hw4⟩ := nextR (Nat.lt_of_le_of_lt hcj hlt) HMX.out
      clear hk hc hjL hj1 hms hbx hcj hcc
      by_cases hy : ps = s
      · have HE := Lib.hid (HY.out hy)
        subst hy
        clear HY HZ
        go_wp2
        go_roundw
        case rel => exact ⟨j + 1, c + 1, HJ.out.1, by rw [HE.out, HCC.out], by go_num, by go_num, HBX.out⟩
        case measure => have h := HJ.out.2; clear hw1 hw2 hw3 hw4; simp only [idxOf]; omega
      · have HE := Lib.hid (HZ.out hy)
        have hpm : (ps == s) = false := by simpa using hy
        clear HY HZ hy
        go_wp2
        go_roundw
        case rel => exact ⟨j + 1, c, HJ.out.1, by rw [HE.out, HCC.out], by go_num, rfl, HBX.out⟩
        case measure => have h := HJ.out.2; clear hw1 hw2 hw3 hw4; simp only [idxOf]; omega
    · obtain rfl : j = N := by omega
      have hno : ¬ ((j : Int) < (j : Int)) := by omega
      have e : L.take j = L := by rw [HN.out, List.take_length]
      rw [e] at hcc
      have HCC := Lib.hid hcc
      clear e hcc
      go_wp2
      go_ret
      exact ⟨by rw [← HCC.out]; rfl, HB.out⟩
set_option maxHeartbeats 4000000 in
set_option maxRecDepth 100000 in
theorem docLive_any {w : World} {v : Value} {L : List RF} (hv : RefS w v L) (s : Int) :
    Calls Try.prog 17 #[v, .int .i64 s] w fun e w' => e = .returned (.int .i64 (liveOf s L : Nat)) ∧ Below w.heap.size w w' := by
  obtain ⟨A, c1, rfl, k1, k2, k3⟩ := hv
  obtain ⟨N, hN⟩ : ∃ N, N = L.length := ⟨_, rfl⟩
  have HN := Lib.hid hN
  rw [← hN] at k1 ⊢
  have hmx : N ≤ maxLen := Nat.le_trans k1 k2
  have HMX := Lib.hid hmx
  have HK := Lib.hid k3
  clear hN k3 hmx
  go_enter Try.func17, Try.ntmps17
  go_wp2
  go_loopw [5, 10] (fun vx ix wr => ∃ j c : Nat, j ≤ N ∧ c = liveOf s (L.take j) ∧ ix = .int .i64 (j : Int) ∧ vx = .int .i64 (c : Int) ∧ Below w.heap.size w wr) (fun _ ix _ => N - idxOf ix)
  case atStart => exact ⟨0, 0, Nat.zero_le _, rfl, rfl, rfl, Below.refl _ _⟩
  case round =>
    obtain ⟨j, c, hj, hcc, rfl, rfl, hb⟩ := hrel
    have HB := Lib.hid hb
    clear hb
    by_cases hlt : j < N
    · obtain ⟨g, o, rfl, hglt, hk⟩ := HK.out.resolve_left (by intro e; have := HN.out; rw [e] at this; simp at this; omega)
      have hjL : j < L.length := by rw [← HN.out]; exact hlt
      have hc : ∀ q u, (L.getD j RF.zero).enc[q]? = some u → wr.cell? ⟨g, o + j * 3 + q, none⟩ = some u := fun q u hu => (HB.out.cell (p := ⟨g, o + j * 3 + q, none⟩) hglt).trans (hk j hjL q u hu)
      have HY := Lib.hid (liveOf_y (s := s) hjL)
      have HZ := Lib.hid (liveOf_n (s := s) hjL)
      have hcj : c ≤ j := by rw [hcc]; exact Nat.le_trans (liveOf_le _ _) (List.length_take_le ..)
      have HCC := Lib.hid hcc
      generalize L.getD j RF.zero = p at hc HY HZ
      obtain ⟨ps, pm, pn⟩ := p
      have q0 : wr.cell? ⟨g, o + j * 3, none⟩ = some (.int .i64 ps) := hc 0 _ rfl
      have q1 : wr.cell? ⟨g, o + j * 3 + 1, none⟩ = some (.int .i64 pm) := hc 1 _ rfl
      have q2 : wr.cell? ⟨g, o + j * 3 + 2, none⟩ = some (.int .i64 pn) := hc 2 _ rfl
      have hi0 : (0 : Int) ≤ (j : Int) := by omega
      have hi1 : (j : Int) < (N : Int) := by omega
      have hj1 : j + 1 ≤ N := hlt
      have hms : N - (j + 1) < N - j := by omega
      have HJ : Hid (j + 1 ≤ N ∧ N - (j + 1) < N - j) := Lib.hid ⟨hj1, hms⟩
      have hbx := (Below.refl wr.heap.size wr).alloc (Nat.le_refl _) (.cells #[.int .i64 ps, .int .i64 pm, .int .i64 pn] 52)
      have HBX := Lib.hid (HB.out.trans (hbx.mono HB.out.size))
      obtain ⟨hw1, hw2⟩ := nextR hlt HMX.out
      obtain ⟨hw3, hw4⟩ := nextR (Nat.lt_of_le_of_lt hcj hlt) HMX.out
      clear hk hc hjL hj1 hms hbx hcj hcc
      by_cases hy : ps = s
      · have HE := Lib.hid (HY.out hy)
        subst hy
        clear HY HZ
        go_wp2
        go_roundw
        case rel => exact ⟨j + 1, c + 1, HJ.out.1, by rw [HE.out, HCC.out], by go_num, by go_num, HBX.out⟩
        case measure => have h := HJ.out.2; clear hw1 hw2 hw3 hw4; simp only [idxOf]; omega
      · have HE := Lib.hid (HZ.out hy)
        have hpm : (ps == s) = false := by simpa using hy
        clear HY HZ hy
        go_wp2
        go_roundw
        case rel => exact ⟨j + 1, c, HJ.out.1, by rw [HE.out, HCC.out], by go_num, rfl, HBX.out⟩
        case measure => have h := HJ.out.2; clear hw1 hw2 hw3 hw4; simp only [idxOf]; omega
    · obtain rfl : j = N := by omega
      have hno : ¬ ((j : Int) < (j : Int)) := by omega
      have e : L.take j = L := by rw [HN.out, List.take_length]
      rw [e] at hcc
      have HCC := Lib.hid hcc
      clear e hcc
      go_wp2
      go_ret
      exact ⟨by rw [← HCC.out]; rfl, HB.out⟩
end Go.Proofs.Ythhbaccbhfngbaa
