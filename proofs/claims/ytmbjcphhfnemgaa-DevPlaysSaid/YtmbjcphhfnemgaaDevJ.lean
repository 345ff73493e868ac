/- The contract of a device's Clone. -/
import Derived.Test.YtmbjcphhfnemgaaDevI
namespace Go.Proofs.Ytmbjcphhfnemgaa
open Go.RowKit Go.Maps Go.Shelf

/-- All sectors' cells, one behind the other. -/
def allC (f : Nat → List UInt8) (n : Nat) : List Value := (List.range n).flatMap (fun i => U8s (f i))
theorem allC_len {f : Nat → List UInt8} : ∀ {n : Nat}, (∀ i, i < n → (f i).length = 512) → (allC f n).length = n * 512
  | 0, _ => rfl
  | n + 1, h => by
    have ih := allC_len (f := f) (n := n) (fun i hi => h i (by omega))
    unfold allC at ih ⊢
    rw [List.range_succ, List.flatMap_append, List.length_append, ih]
    simp only [List.flatMap_cons, List.flatMap_nil, List.append_nil]
    rw [u8s_len, h n (by omega)]; omega
theorem allC_at {f : Nat → List UInt8} : ∀ {n : Nat}, (∀ i, i < n → (f i).length = 512) → ∀ i j, i < n → j < 512 → (allC f n)[i * 512 + j]? = some (.int .u8 (((f i).getD j 0).toNat : Int))
  | 0, _, i, j, hi, _ => by omega
  | n + 1, h, i, j, hi, hj => by
    have hl := allC_len (f := f) (n := n) (fun i hi => h i (by omega))
    have e : allC f (n + 1) = allC f n ++ U8s (f n) := by
      unfold allC
      rw [List.range_succ, List.flatMap_append]; simp
    rw [e]
    by_cases g : i < n
    · have : i * 512 + j < n * 512 := by
        have := Nat.mul_le_mul_right 512 (show i + 1 ≤ n from g)
        omega
      rw [List.getElem?_append_left (by rw [hl]; exact this)]
      exact allC_at (fun i hi => h i (by omega)) i j g hj
    · obtain rfl : i = n := by omega
      rw [List.getElem?_append_right (by rw [hl]; omega), hl, show i * 512 + j - i * 512 = j by omega]
      exact u8s_at (f i) j (by rw [h i hi]; exact hj)
theorem allC_one (f : Nat → List UInt8) (n : Nat) : ∀ u ∈ allC f n, u.oneCell' = true := by
  intro u hu
  unfold allC at hu
  obtain ⟨i, _, hu⟩ := List.mem_flatMap.1 hu
  exact u8s_one _ u hu
theorem idx_split {n q : Nat} (h : q < n * 512) : ∃ i j, q = i * 512 + j ∧ i < n ∧ j < 512 := ⟨q / 512, q % 512, by omega, by omega, by omega⟩
/-- slices.Clone of the sectors. -/
theorem cloneS_any {w : World} {h : DH} {M : DM} (d : DevAt w h M) :
    Calls Try.prog 58 #[.slice (some ⟨h.bs, 0, none⟩) M.n h.cap] w fun e w' => ∃ g cap, e = .returned (.slice (some ⟨g, 0, none⟩) M.n cap) ∧ w.heap.size ≤ g ∧ M.n ≤ cap ∧ cap ≤ 9223372036854775807 ∧
      (∀ i, i < M.n → Row8 w' g (i * 512) (M.sure i)) ∧ Below w.heap.size w w' := by
  obtain ⟨i0, hi, hz0, hz1, hz2⟩ := secZero
  have hl := allC_len d.lens
  have h2 := d.n2
  have hb : M.n * 512 ≤ 140737488355328 := by omega
  have hN : M.n ≤ maxLen := by unfold maxLen; omega
  refine (AnyE.slices_Clone Try.cloneS i0 _ 512 512 hi hz0 hz1 hz2 (by simp only [Value.cells]; exact Array.size_replicate ..) (by omega) (Try.sizeOf85) h.bs 0 M.n h.cap (allC M.sure M.n) w hl hN hb (fun q u hq => ?_) (allC_one _ _)).mono ?_
  · have hlt : q < M.n * 512 := by rw [← hl]; exact (List.getElem?_eq_some_iff.1 hq).1
    obtain ⟨i, j, rfl, hin, hj⟩ := idx_split hlt
    rw [allC_at d.lens i j hin hj] at hq
    rw [Nat.zero_add, ((d.rows i hin).2 j (by rw [d.lens i hin]; exact hj)).1, hq]
  · rintro e w' ⟨v', rfl, hrow, hne, hbe⟩
    rcases hrow.2 with ⟨e0, _⟩ | ⟨g, cap, cur, e0, hg, hh, hn, hm, hs, ht⟩
    · exact absurd e0 hne
    · subst e0
      refine ⟨g, cap, rfl, hg, hn, by unfold maxLen at hm; omega, fun i hin => ⟨(Array.getElem?_eq_some_iff.1 hh).1, fun j hj => ⟨?_, frozen_of_row w' g _ cur 85 hh⟩⟩, hbe⟩
      rw [d.lens i hin] at hj
      rw [cell_of_row w' g _ cur 85 (0, 0) hh]
      have hlt : i * 512 + j < M.n * 512 := by
        have := Nat.mul_le_mul_right 512 (show i + 1 ≤ M.n from hin)
        omega
      have h3 : (cur.toList.take (M.n * 512))[i * 512 + j]? = (allC M.sure M.n)[i * 512 + j]? := by rw [ht]
      rw [List.getElem?_take, if_pos hlt, allC_at d.lens i j hin hj, Array.getElem?_toList] at h3
      exact h3
theorem cloneW_any {w : World} {b n : Nat} {f : Nat → Option (List UInt8)} (hw : WaitMap w b n f) :
    Calls Try.prog 59 #[.map (some b)] w fun e w' => e = .returned (.map (some w.heap.size)) ∧ WaitMap w' w.heap.size n f ∧ Below w.heap.size w w' := by
  obtain ⟨D, ho, r⟩ := hw
  refine (AnyW.maps_Clone_owns Try.cloneW 3 secElem b (Maps.size D) D w ho).mono ?_
  rintro e w' ⟨he, ho1, _, hb⟩
  exact ⟨he, ⟨D, ho1, r⟩, hb⟩
theorem cloneB_any {w : World} {b n : Nat} {f : Nat → Bool} (hw : BadMap w b n f) :
    Calls Try.prog 60 #[.map (some b)] w fun e w' => e = .returned (.map (some w.heap.size)) ∧ BadMap w' w.heap.size n f ∧ Below w.heap.size w w' := by
  obtain ⟨D, ho, r⟩ := hw
  refine (AnyW.maps_Clone_owns Try.cloneB 3 unitElem b (Maps.size D) D w ho).mono ?_
  rintro e w' ⟨he, ho1, _, hb⟩
  exact ⟨he, ⟨D, ho1, r⟩, hb⟩
/-- A device's own variable, seven cells. -/
structure SevenAt (W : World) (B : Nat) (v0 v1 v2 v3 v4 v5 v6 : Value) : Prop where
  lt : B < W.heap.size
  c0 : W.cell? ⟨B, 0, none⟩ = some v0
  c1 : W.cell? ⟨B, 1, none⟩ = some v1
  c2 : W.cell? ⟨B, 2, none⟩ = some v2
  c3 : W.cell? ⟨B, 3, none⟩ = some v3
  c4 : W.cell? ⟨B, 4, none⟩ = some v4
  c5 : W.cell? ⟨B, 5, none⟩ = some v5
  c6 : W.cell? ⟨B, 6, none⟩ = some v6
  fz : ∀ o, W.frozen? ⟨B, o, none⟩ = false
theorem SevenAt.new (w : World) (v0 v1 v2 v3 v4 v5 v6 : Value) (t : Nat) : SevenAt (w.alloc (.cells #[v0, v1, v2, v3, v4, v5, v6] t)) w.heap.size v0 v1 v2 v3 v4 v5 v6 :=
  ⟨by simp, by simp [go_sem], by simp [go_sem], by simp [go_sem], by simp [go_sem], by simp [go_sem], by simp [go_sem], by simp [go_sem], fun o => frozen_of_row _ _ o _ t (heap_alloc_new w _)⟩
theorem SevenAt.below {W W' : World} {B : Nat} {v0 v1 v2 v3 v4 v5 v6 : Value} (s : SevenAt W B v0 v1 v2 v3 v4 v5 v6) (b : Below W.heap.size W W') : SevenAt W' B v0 v1 v2 v3 v4 v5 v6 := by
  have a : Ap (fun _ => False) W W' := Ap.of_below b
  exact ⟨Nat.lt_of_lt_of_le s.lt a.size, (a.cell s.lt id _).trans s.c0, (a.cell s.lt id _).trans s.c1, (a.cell s.lt id _).trans s.c2, (a.cell s.lt id _).trans s.c3, (a.cell s.lt id _).trans s.c4, (a.cell s.lt id _).trans s.c5, (a.cell s.lt id _).trans s.c6, fun o => (a.frozen s.lt id _).trans (s.fz o)⟩
theorem SevenAt.set0 {W : World} {B : Nat} {v0 v1 v2 v3 v4 v5 v6 : Value} (s : SevenAt W B v0 v1 v2 v3 v4 v5 v6) (u : Value) : SevenAt (W.setCell ⟨B, 0, none⟩ u) B u v1 v2 v3 v4 v5 v6 :=
  ⟨by rw [World.size_setCell]; exact s.lt, cell_put s.c0 _, (cell_putne _ _ _ _ _ (by omega)).trans s.c1, (cell_putne _ _ _ _ _ (by omega)).trans s.c2, (cell_putne _ _ _ _ _ (by omega)).trans s.c3, (cell_putne _ _ _ _ _ (by omega)).trans s.c4, (cell_putne _ _ _ _ _ (by omega)).trans s.c5, (cell_putne _ _ _ _ _ (by omega)).trans s.c6, fun o => by rw [World.frozen?_setCell]; exact s.fz o⟩
theorem SevenAt.set1 {W : World} {B : Nat} {v0 v1 v2 v3 v4 v5 v6 : Value} (s : SevenAt W B v0 v1 v2 v3 v4 v5 v6) (u : Value) : SevenAt (W.setCell ⟨B, 1, none⟩ u) B v0 u v2 v3 v4 v5 v6 :=
  ⟨by rw [World.size_setCell]; exact s.lt, (cell_putne _ _ _ _ _ (by omega)).trans s.c0, cell_put s.c1 _, (cell_putne _ _ _ _ _ (by omega)).trans s.c2, (cell_putne _ _ _ _ _ (by omega)).trans s.c3, (cell_putne _ _ _ _ _ (by omega)).trans s.c4, (cell_putne _ _ _ _ _ (by omega)).trans s.c5, (cell_putne _ _ _ _ _ (by omega)).trans s.c6, fun o => by rw [World.frozen?_setCell]; exact s.fz o⟩
theorem SevenAt.set2 {W : World} {B : Nat} {v0 v1 v2 v3 v4 v5 v6 : Value} (s : SevenAt W B v0 v1 v2 v3 v4 v5 v6) (u : Value) : SevenAt (W.setCell ⟨B, 2, none⟩ u) B v0 v1 u v3 v4 v5 v6 :=
  ⟨by rw [World.size_setCell]; exact s.lt, (cell_putne _ _ _ _ _ (by omega)).trans s.c0, (cell_putne _ _ _ _ _ (by omega)).trans s.c1, cell_put s.c2 _, (cell_putne _ _ _ _ _ (by omega)).trans s.c3, (cell_putne _ _ _ _ _ (by omega)).trans s.c4, (cell_putne _ _ _ _ _ (by omega)).trans s.c5, (cell_putne _ _ _ _ _ (by omega)).trans s.c6, fun o => by rw [World.frozen?_setCell]; exact s.fz o⟩
theorem ap_one (w : World) (B i : Nat) (u : Value) : Ap (fun k => k = B) w (w.setCell ⟨B, i, none⟩ u) := ap_put w B i u
set_option maxHeartbeats 2000000 in
theorem devClone_any {w : World} {h : DH} {M : DM} (d : DevAt w h M) :
    Calls Try.prog 19 #[.pointer (some ⟨h.b, 0, none⟩)] w fun e w' => ∃ h' : DH, e = .returned (.pointer (some ⟨h'.b, 0, none⟩)) ∧ DevAt w' h' M ∧ h'.above w.heap.size ∧ Below w.heap.size w w' := by
  have c0 := d.c0
  have c1 := d.c1
  have c2 := d.c2
  have c3 := d.c3
  have c4 := d.c4
  have c5 := d.c5
  obtain ⟨f, c6, f0⟩ := d.c6
  have hlt := d.ltb
  have HD := Lib.hid d
  have HF := Lib.hid f0
  have hS : ∀ k, h.S k → k < w.heap.size := by
    have h1 := d.ltb; have h2 := d.ltbs; have h3 := d.wait.lt; have h4 := d.badm.lt
    rintro k (e | e | e | e) <;> omega
  have HS := Lib.hid hS
  have hcl := cloneS_any (d.alloc (.cells #[.slice (some ⟨h.bs, 0, none⟩) M.n h.cap, .map (some h.bw), .map (some h.bb), .int .i64 (M.writes : Int), .bool M.down, .bool (decide (0 ≤ M.left)), .int .i64 f] 72))
  have HSV := Lib.hid (SevenAt.new w (.slice (some ⟨h.bs, 0, none⟩) M.n h.cap) (.map (some h.bw)) (.map (some h.bb)) (.int .i64 (M.writes : Int)) (.bool M.down) (.bool (decide (0 ≤ M.left))) (.int .i64 f) 72)
  have HB1 := Lib.hid (below1 w (.cells #[.slice (some ⟨h.bs, 0, none⟩) M.n h.cap, .map (some h.bw), .map (some h.bb), .int .i64 (M.writes : Int), .bool M.down, .bool (decide (0 ≤ M.left)), .int .i64 f] 72))
  clear d f0 hS
  go_enter Try.func19, Try.ntmps19
  go_wp2_with (first
    | (go_at_call 58; refine hcl.mono ?_; rintro e w2 ⟨g, cap, rfl, hg, hc1, hc2, hrows, hb2⟩; have s2 := HSV.out.below hb2; have z0 := s2.c0; have fz2 := s2.fz; have HD2 := Lib.hid ((HD.out.alloc _).below hb2); have H2 : Hid (∀ u, DevAt (w2.setCell ⟨w.heap.size, 0, none⟩ u) h M) := Lib.hid (fun u => HD2.out.ap (ap_one _ _ _ u) (fun k hk e => by have := HS.out k hk; omega)); have k1 : ∀ u, (w2.setCell ⟨w.heap.size, 0, none⟩ u).cell? ⟨h.b, 1, none⟩ = some (.map (some h.bw)) := fun u => (H2.out u).c1; have HR := Lib.hid hrows; have HB2 := Lib.hid hb2; have S2 := Lib.hid s2; have HG := Lib.hid hg; clear hrows hb2 s2 hg)
    | (go_at_call 59; refine (cloneW_any (H2.out _).wait).mono ?_; rintro e w3 ⟨rfl, hw3, hb3⟩; have s3 := (S2.out.set0 _).below hb3; have z1 := s3.c1; have fz3 := s3.fz; have HD3 := Lib.hid ((H2.out _).below hb3); have H3 : Hid (∀ u, DevAt (w3.setCell ⟨w.heap.size, 1, none⟩ u) h M) := Lib.hid (fun u => HD3.out.ap (ap_one _ _ _ u) (fun k hk e => by have := HS.out k hk; omega)); have k2 : ∀ u, (w3.setCell ⟨w.heap.size, 1, none⟩ u).cell? ⟨h.b, 2, none⟩ = some (.map (some h.bb)) := fun u => (H3.out u).c2; have HW3 := Lib.hid hw3; have HB3 := Lib.hid hb3; have S3 := Lib.hid s3; clear hw3 hb3 s3)
    | (go_at_call 60; refine (cloneB_any (H3.out _).badm).mono ?_; rintro e w4 ⟨rfl, hw4, hb4⟩; have s4 := (S3.out.set1 _).below hb4; have z2 := s4.c2; have fz4 := s4.fz; have HW4 := Lib.hid hw4; have HB4 := Lib.hid hb4; have S4 := Lib.hid s4; clear hw4 hb4 s4))
  go_ret
  have b1 := HB1.out.size
  have b2 := HB2.out.size
  have b3 := HB3.out.size
  have b4 := HB4.out.size
  have hgg := HG.out
  have hg2 := (HR.out 0 HD.out.n1).1
  simp only [World.size_setCell, World.size_alloc] at b1 b2 b3 b4 hgg
  have s5 := S4.out.set2 (.map (some w3.heap.size))
  have hw3 := HW3.out
  have hw4 := HW4.out
  have B3 := HB3.out
  have B4 := HB4.out
  simp only [World.size_setCell] at s5 hw3 hw4 B3 B4
  have l3 := hw3.lt
  have l4 := hw4.lt
  have q2 : Ap (fun k => k = w.heap.size) w2 (w2.setCell ⟨w.heap.size, 0, none⟩ (.slice (some ⟨g, 0, none⟩) M.n cap)) := ap_one _ _ _ _
  have q3 : Ap (fun k => k = w.heap.size) w2 w3 := q2.trans (Ap.of_below (by rw [World.size_setCell]; exact B3))
  have q4 : Ap (fun k => k = w.heap.size) w3 w4 := (ap_one w3 w.heap.size 1 _).trans (Ap.of_below (by rw [World.size_setCell]; exact B4))
  have q5 : Ap (fun k => k = w.heap.size) w4 (w4.setCell ⟨w.heap.size, 2, none⟩ (.map (some w3.heap.size))) := ap_one _ _ _ _
  have q35 := q4.trans q5
  have q25 := q3.trans q35
  refine ⟨⟨w.heap.size, g, w2.heap.size, w3.heap.size, cap⟩, rfl, ?_, ?_, ?_⟩
  · have dd := HD.out
    exact ⟨s5.lt, s5.c0, s5.c1, s5.c2, s5.c3, s5.c4, s5.c5, ⟨f, s5.c6, HF.out⟩, fun o _ => s5.fz o, fun i hi => q25.row (HR.out i hi) (show ¬ (g = w.heap.size) by omega), dd.lens, dd.flen, hw3.ap q35 (show ¬ (w2.heap.size = w.heap.size) by omega), hw4.ap q5 (show ¬ (w3.heap.size = w.heap.size) by omega), dd.n1, dd.n2, hc1, hc2,
      ⟨(show w.heap.size ≠ g by omega), (show w.heap.size ≠ w2.heap.size by omega), (show w.heap.size ≠ w3.heap.size by omega), (show g ≠ w2.heap.size by omega), (show g ≠ w3.heap.size by omega), (show w2.heap.size ≠ w3.heap.size by omega)⟩⟩
  · exact ⟨Nat.le_refl _, (show w.heap.size ≤ g by omega), (show w.heap.size ≤ w2.heap.size by omega), (show w.heap.size ≤ w3.heap.size by omega)⟩
  · have p0 : Ap (fun k => k = w.heap.size) w w2 := (Ap.of_below HB1.out).trans (Ap.of_below HB2.out)
    exact (p0.trans q25).below (Nat.le_refl _) (fun k hk => by omega)
end Go.Proofs.Ytmbjcphhfnemgaa
