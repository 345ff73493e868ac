/- Charts: slices.Insert of one table between others: with room, and without. -/
import Derived.Test.YtngkbcaflkinhaaDoorChvF
namespace Go.Proofs.YtngkbcaflkinhaaDoor
open Go.RowKit

theorem wrA {i : Nat} (h : i ≤ 65536) : IntKind.i64.wrap ((i : Int) + 1) = (i : Int) + 1 := by rw [IntKind.wrap_i64]; omega
theorem wrB {i : Nat} (h : i ≤ 65536) : wrap64 ((i : Int) + 1) = (i : Int) + 1 := by unfold wrap64; omega
theorem wrC {n i : Nat} (h : n ≤ 65536) (hi : i ≤ n) : wrap64 ((n : Int) + 1 - (i : Int)) = (n : Int) + 1 - (i : Int) := by unfold wrap64; omega
set_option maxRecDepth 100000 in
set_option maxHeartbeats 4000000 in
/-- There is room. -/
theorem ins_room (B n i cap g vb : Nat) (xs : List Value) (a u : Value) (w : World) (hv : w.ownsRow B 42 2 (.slice (some ⟨g, 0, none⟩) n cap) n xs) (hn : n ≤ 65536) (hi : i < n) (hroom : n + 1 ≤ cap)
    (hvb : w.heap[vb]? = some (.cells #[a, u] 42 (0, 0))) (hne : vb ≠ g) (h1 : ∀ x ∈ ([a, u] : List Value), x.oneCell' = true) (h1x : ∀ x ∈ xs, x.oneCell' = true) :
    Calls Tryd.prog 20 #[.slice (some ⟨g, 0, none⟩) n cap, .int .i64 (i : Int), .slice (some ⟨vb, 0, none⟩) 1 1] w (InsQ w B (.slice (some ⟨g, 0, none⟩) n cap) n i xs a u) := by
  obtain ⟨g', cap', cur, hv', hB, hh, _, hcm, hcs⟩ := own_split hv (by omega)
  injection hv' with e1 _ e3
  injection e1 with e1
  injection e1 with e1 _ _
  subst e1 e3
  have hx := hv.1
  have hcell : ∀ q, q < n * 2 → w.cell? ⟨g, q, none⟩ = xs[q]? := fun q hq => World.ownsRow.cellAt hv q hq
  have hsome : ∀ q, q < (n + 1) * 2 → (w.cell? ⟨g, q, none⟩).isSome = true := fun q hq => by
    rw [cell_of_row w g q cur _ (0, 0) hh, Array.getElem?_eq_getElem (by omega)]; rfl
  have hfz : ∀ q, w.frozen? ⟨g, q, none⟩ = false := fun q => World.ownsRow.frozenAt hv q
  have hvc : ∀ j x, ([a, u] : List Value)[j]? = some x → w.cell? ⟨vb, 0 + j, none⟩ = some x := fun j x hj => by
    rw [Nat.zero_add, cell_of_row w vb j #[a, u] _ (0, 0) hvb, ← hj]; simp
  have hdl : (xs.drop (i * 2)).length = (n - i) * 2 := by rw [List.length_drop]; omega
  have hov : ∀ lb cb, (callFunc 39 #[.slice (some ⟨vb, 0, none⟩) 1 1, .slice (some ⟨g, (i + 1) * 2, none⟩) lb cb]).run Tryd.prog w = .ok (.value (.bool false)) w := fun lb cb => by
    rw [run_callFunc_extern Tryd.func39 (by kernel_rfl) (by kernel_rfl) (by kernel_rfl) (e := Extern.SlicesOverlaps.overlaps #[25, 25] #[4]) (by kernel_rfl),
      Lib.run_overlaps_apart w 25 4 42 Tryd.underlying25 2 Tryd.sizeOf42 ⟨vb, 0, none⟩ ⟨g, (i + 1) * 2, none⟩ 1 1 lb cb hne 42 42 2 (cap * 2) (by simp [World.shape?, hvb]) (by simp [World.shape?, hh, hcs]) (by omega) (by simp [World.frozen?, hvb]) (by simp [World.frozen?, hvb])]
    rfl
  have hcp1 : ∀ ty dc sc, (Builtin.copy_ #[25, 25] ty #[.slice (some ⟨g, (i + 1) * 2, none⟩) (n - i) dc, .slice (some ⟨g, i * 2, none⟩) (n + 1 - i) sc]).run Tryd.prog w.drew = .ok (goInt (Nat.min (n + 1 - i) (n - i))) (w.drew.setCells g ((i + 1) * 2) (xs.drop (i * 2))) := fun ty dc sc =>
    run_copy_sz w.drew _ _ ty 42 2 g ((i + 1) * 2) _ dc ⟨g, i * 2, none⟩ _ sc (xs.drop (i * 2)) Tryd.underlying25 tabSize2 (by rw [hdl]; show (n - i) * 2 = min (n + 1 - i) (n - i) * 2; rw [Nat.min_eq_right (by omega)])
      (fun j v hj => by
        have e : ((⟨g, i * 2, none⟩ : Addr).add j) = ⟨g, i * 2 + j, none⟩ := by unfold Addr.add; split <;> simp_all
        rw [e]
        have hj2 := (List.getElem?_eq_some_iff.1 hj).1
        rw [List.getElem?_drop] at hj
        exact (hcell _ (by omega)).trans hj)
      (fun j hj => hsome _ (by omega)) (fun j hj => hfz _) (fun v hv => h1x v (List.mem_of_mem_drop hv))
  obtain ⟨W1, hW1⟩ : ∃ W1, W1 = w.drew.setCells g ((i + 1) * 2) (xs.drop (i * 2)) := ⟨_, rfl⟩
  have hs1 : ∀ q, q < (n + 1) * 2 → (W1.cell? ⟨g, q, none⟩).isSome = true := fun q hq => by
    rw [hW1]; exact isSome_setCells g (xs.drop (i * 2)) ((i + 1) * 2) w.drew (fun j hj => hsome _ (by rw [hdl] at hj; omega)) q (hsome q hq)
  have hcp2 : ∀ ty dc, (Builtin.copy_ #[25, 25] ty #[.slice (some ⟨g, i * 2, none⟩) (n + 1 - i) dc, .slice (some ⟨vb, 0, none⟩) 1 1]).run Tryd.prog W1 = .ok (goInt (Nat.min 1 (n + 1 - i))) (W1.setCells g (i * 2) [a, u]) := fun ty dc =>
    run_copy_sz W1 _ _ ty 42 2 g (i * 2) _ dc ⟨vb, 0, none⟩ _ 1 [a, u] Tryd.underlying25 tabSize2 (by show 2 = min 1 (n + 1 - i) * 2; rw [Nat.min_eq_left (by omega)])
      (fun j v hj => by
        have e : ((⟨vb, 0, none⟩ : Addr).add j) = ⟨vb, 0 + j, none⟩ := by unfold Addr.add; split <;> simp_all
        rw [e, hW1, World.cell?_setCells_out _ _ _ _ _ (fun h _ => absurd h hne)]
        exact hvc j v hj)
      (fun j hj => hs1 _ (by simp at hj; omega)) (fun j hj => by rw [hW1, World.frozen?_setCells]; exact hfz _) h1
  have hread := (ins_read (W := w.drew) (a := a) (u := u) hx (by omega : i ≤ n) (fun q hq => hcell q (by omega)) hsome).1
  obtain ⟨cur1, hk1, hk1'⟩ := cells_kind g (xs.drop (i * 2)) ((i + 1) * 2) w.drew cur hh
  obtain ⟨cur2, hk2, hk2'⟩ := cells_kind g [a, u] (i * 2) _ cur1 hk1
  have hO2 := own_build hB hk2 (hk2'.trans (hk1'.trans hcs)) hroom hcm (insC_len hx (Nat.le_of_lt hi) a u) hread
  have hA2 : Ap (fun q => some q = (Value.slice (some ⟨g, 0, none⟩) n cap).ownBlock) w ((w.drew.setCells g ((i + 1) * 2) (xs.drop (i * 2))).setCells g (i * 2) [a, u]) :=
    Ap.setCells (S := fun q => some q = (Value.slice (some ⟨g, 0, none⟩) n cap).ownBlock) (.inl rfl) _ _ _ (Ap.setCells (S := fun q => some q = (Value.slice (some ⟨g, 0, none⟩) n cap).ownBlock) (.inl rfl) _ _ _ (Ap.refl w).drew)
  rw [← hW1] at hO2 hA2
  have HEND : Hid (InsQ w B (.slice (some ⟨g, 0, none⟩) n cap) n i xs a u (.returned (.slice (some ⟨g, 0, none⟩) (n + 1) cap)) (W1.setCells g (i * 2) [a, u])) := Lib.hid ⟨_, rfl, hO2, hA2, .inl rfl⟩
  clear hO2 hA2
  rw [← hW1] at hcp1
  have z1 : ((i : Int) == (n : Int)) = false := beq_eq_false_iff_ne.2 (by omega)
  have z2 : decide ((cap : Int) < (n : Int) + 1) = false := decide_eq_false (by omega)
  have hb1 : (0 : Int) ≤ (i : Int) + 1 := by omega
  have hb0 : (0 : Int) ≤ (n : Int) + 1 := by omega
  have hb5 : (n : Int) + 1 ≤ (cap : Int) := by omega
  have hin : i ≤ n := by omega
  have htn : ((i : Int) + 1).toNat = i + 1 := by omega
  have htn2 : ((n : Int) + 1).toNat = n + 1 := by omega
  have hb2 : ¬ (cap = i + 1) := by omega
  have hb3 : (i : Int) ≤ (n : Int) + 1 := by omega
  have hb6 : (i : Int) + 1 ≤ (n : Int) + 1 := by omega
  have hb4 : ¬ (cap = i) := by omega
  have hnc : n ≤ cap := by omega
  have hi6 : i ≤ 65536 := by omega
  have hw1 := wrA hi6
  have hw2 := wrB hi6
  have hw3 := wrB hn
  have HW := Lib.hid hW1
  have mixed : Tryd.prog.follows .mixedOrders = true := by kernel_rfl
  clear hv hn hcell hsome hfz hvc hdl hs1 hread hk1 hk1' hk2 hk2' h1 h1x hvb hh hcs hx hW1 hB hcm hroom
  go_enter Tryd.func20, Tryd.ntmps20
  go_wp2_with (simp only [hov])
  go_region_law_o (fail)
  go_wp2_with (at_builtin; refine wpList_copy_runI _ rfl _ _ 25 25 rfl _ _ rfl rfl (hcp2 _ _) ?_)
  go_ret
  exact HEND.out
set_option maxRecDepth 100000 in
set_option maxHeartbeats 4000000 in
/-- There is no room: a new row. -/
theorem ins_grow (B n i g vb : Nat) (xs : List Value) (a u : Value) (w : World) (hv : w.ownsRow B 42 2 (.slice (some ⟨g, 0, none⟩) n n) n xs) (hn : n ≤ 65536) (hi : i < n) (hB : B ≤ w.heap.size)
    (hvb : w.heap[vb]? = some (.cells #[a, u] 42 (0, 0))) (h1 : ∀ x ∈ ([a, u] : List Value), x.oneCell' = true) (h1x : ∀ x ∈ xs, x.oneCell' = true) :
    Calls Tryd.prog 20 #[.slice (some ⟨g, 0, none⟩) n n, .int .i64 (i : Int), .slice (some ⟨vb, 0, none⟩) 1 1] w (InsQ w B (.slice (some ⟨g, 0, none⟩) n n) n i xs a u) := by
  obtain ⟨g', cap', cur, hv', _, hh, _, _, hcs⟩ := own_split hv (by omega)
  injection hv' with e1 _ e3
  injection e1 with e1
  injection e1 with e1 _ _
  subst e1 e3
  have hx := hv.1
  have hgw : g < w.heap.size := (World.ownsRow.lt hv g rfl).2
  have hvw : vb < w.heap.size := (Array.getElem?_eq_some_iff.1 hvb).1
  have hcell : ∀ q, q < n * 2 → w.cell? ⟨g, q, none⟩ = xs[q]? := fun q hq => World.ownsRow.cellAt hv q hq
  have hvc : ∀ j x, ([a, u] : List Value)[j]? = some x → w.cell? ⟨vb, 0 + j, none⟩ = some x := fun j x hj => by
    rw [Nat.zero_add, cell_of_row w vb j #[a, u] _ (0, 0) hvb, ← hj]; simp
  have hdl : (xs.drop (i * 2)).length = (n - i) * 2 := by rw [List.length_drop]; omega
  have htl : (xs.take (i * 2)).length = i * 2 := by rw [List.length_take]; omega
  obtain ⟨iT, tI, tz0, tz1, tz2⟩ := tabInfo'
  have hold : (Builtin.firstCells iT.size i (.slice (some ⟨g, 0, none⟩) i n)).run Tryd.prog w.drew = .ok (xs.take (i * 2)).toArray w.drew := by
    rw [tz1]
    exact run_firstCells_some w.drew 2 i ⟨g, 0, none⟩ i n (xs.take (i * 2)) htl (fun j v hj => by
      have e : ((⟨g, 0, none⟩ : Addr).add j) = ⟨g, j, none⟩ := by unfold Addr.add; split <;> simp_all
      rw [e]
      have hj2 := (List.getElem?_eq_some_iff.1 hj).1
      rw [List.getElem?_take, if_pos (by omega)] at hj
      exact (hcell j (by omega)).trans hj)
  obtain ⟨G, hG⟩ : ∃ G, G = grownCap w (n + 1) n 42 := ⟨_, rfl⟩
  obtain ⟨ROW, hROW⟩ : ∃ ROW : Array Value, ROW = (xs.take (i * 2)).toArray ++ Builtin.zeroCells (Value.agg #[.int .i64 0, .slice none 0 0]).cells (n + 1 - i) ++ Builtin.zeroCells (Value.agg #[.int .i64 0, .slice none 0 0]).cells (G - (n + 1)) := ⟨_, rfl⟩
  have hGn : n + 1 ≤ G := by rw [hG]; exact grownCap_ge w _ _ _
  have hG63 : G ≤ maxLen := by rw [hG]; exact grownCap_le_maxLen w (n + 1) n 42 (by unfold maxLen; omega)
  have hRS : ROW.size = G * 2 := by
    rw [hROW]
    simp only [Array.size_append, List.size_toArray, htl, Builtin.zeroCells, Array.size_map, Array.size_range]
    show i * 2 + (n + 1 - i) * 2 + (G - (n + 1)) * 2 = G * 2
    omega
  have hRA : ∀ q, q < i * 2 → ROW[q]? = xs[q]? := fun q hq => by
    rw [hROW, Array.getElem?_append_left (by rw [Array.size_append, List.size_toArray, htl]; omega), Array.getElem?_append_left (by rw [List.size_toArray, htl]; exact hq)]
    rw [List.getElem?_toArray, List.getElem?_take, if_pos hq]
  have hrz : ∀ ty, (Builtin.append_ #[25, 3] ty #[.slice (some ⟨g, 0, none⟩) i n, .int .i64 ((n : Int) + 1 - (i : Int))]).run Tryd.prog w = .ok (.slice (some ⟨w.heap.size, 0, none⟩) (n + 1) G) (w.drew.alloc (.cells ROW 42)) := fun ty => by
    have h := Lib.run_append_grow_zeros w 25 3 ty 42 iT _ .i64 .i64 Tryd.underlying25 Tryd.underlying3 tI tz0 (some ⟨g, 0, none⟩) i n (xs.take (i * 2)) hold (n + 1 - i) (by omega) (by rw [tz1]; omega) (by omega) (by omega) (by rw [tz2]; omega) (by rw [tz2, show i + (n + 1 - i) = n + 1 by omega]; exact growslice_fits (by omega) (by omega))
    rw [show i + (n + 1 - i) = n + 1 by omega, ← hG, ← hROW] at h
    rw [show (n : Int) + 1 - (i : Int) = ((n + 1 - i : Nat) : Int) by omega]
    exact h
  obtain ⟨W1, hW1⟩ : ∃ W1, W1 = w.drew.alloc (.cells ROW 42) := ⟨_, rfl⟩
  have hh1 : W1.heap[w.heap.size]? = some (.cells ROW 42 (0, 0)) := by rw [hW1]; exact heap_alloc_new w.drew _
  have hN : ∀ q, q < (n + 1) * 2 → (W1.cell? ⟨w.heap.size, q, none⟩).isSome = true := fun q hq => by
    rw [cell_of_row W1 w.heap.size q ROW _ (0, 0) hh1, Array.getElem?_eq_getElem (by omega)]; rfl
  have hNf : ∀ q, W1.frozen? ⟨w.heap.size, q, none⟩ = false := fun q => frozen_of_row W1 w.heap.size q ROW _ hh1
  have hO1 : ∀ b q, b < w.heap.size → W1.cell? ⟨b, q, none⟩ = w.cell? ⟨b, q, none⟩ := fun b q hb => by
    rw [hW1]; exact (((Below.refl w.heap.size w).drew).alloc (Nat.le_refl _) (.cells ROW 42)).cell (p := ⟨b, q, none⟩) hb
  have hcpA : ∀ (W : World), (∀ x, W.cell? x = W1.cell? x) → (∀ x, W.frozen? x = W1.frozen? x) → ∀ ty dc, (Builtin.copy_ #[25, 25] ty #[.slice (some ⟨w.heap.size, i * 2, none⟩) (n + 1 - i) dc, .slice (some ⟨vb, 0, none⟩) 1 1]).run Tryd.prog W = .ok (goInt (Nat.min 1 (n + 1 - i))) (W.setCells w.heap.size (i * 2) [a, u]) := fun W hWc hWf ty dc =>
    run_copy_sz W _ _ ty 42 2 w.heap.size (i * 2) _ dc ⟨vb, 0, none⟩ _ 1 [a, u] Tryd.underlying25 tabSize2 (by show 2 = min 1 (n + 1 - i) * 2; rw [Nat.min_eq_left (by omega)])
      (fun j v hj => by
        have e : ((⟨vb, 0, none⟩ : Addr).add j) = ⟨vb, 0 + j, none⟩ := by unfold Addr.add; split <;> simp_all
        rw [e, hWc, hO1 _ _ hvw]
        exact hvc j v hj)
      (fun j hj => by rw [hWc]; exact hN _ (by have hj2 : j < 2 := hj; omega)) (fun j hj => by rw [hWf]; exact hNf _) h1
  have hs2 : ∀ q, q < (n + 1) * 2 → ((W1.setCells w.heap.size (i * 2) [a, u]).cell? ⟨w.heap.size, q, none⟩).isSome = true := fun q hq => isSome_setCells w.heap.size [a, u] (i * 2) W1 (fun j hj => hN _ (by have hj2 : j < 2 := hj; omega)) q (hN q hq)
  have hcpB : ∀ (W : World), (∀ x, W.cell? x = (W1.setCells w.heap.size (i * 2) [a, u]).cell? x) → (∀ x, W.frozen? x = (W1.setCells w.heap.size (i * 2) [a, u]).frozen? x) → ∀ ty dc sc, (Builtin.copy_ #[25, 25] ty #[.slice (some ⟨w.heap.size, (i + 1) * 2, none⟩) (n - i) dc, .slice (some ⟨g, i * 2, none⟩) (n - i) sc]).run Tryd.prog W = .ok (goInt (Nat.min (n - i) (n - i))) (W.setCells w.heap.size ((i + 1) * 2) (xs.drop (i * 2))) := fun W hWc hWf ty dc sc =>
    run_copy_sz W _ _ ty 42 2 w.heap.size ((i + 1) * 2) _ dc ⟨g, i * 2, none⟩ _ sc (xs.drop (i * 2)) Tryd.underlying25 tabSize2 (by rw [hdl]; show (n - i) * 2 = min (n - i) (n - i) * 2; rw [Nat.min_self])
      (fun j v hj => by
        have e : ((⟨g, i * 2, none⟩ : Addr).add j) = ⟨g, i * 2 + j, none⟩ := by unfold Addr.add; split <;> simp_all
        rw [e, hWc, World.cell?_setCells_out _ _ _ _ _ (fun h _ => absurd (show g = w.heap.size from h) (by omega)), hO1 _ _ hgw]
        have hj2 := (List.getElem?_eq_some_iff.1 hj).1
        rw [List.getElem?_drop] at hj
        exact (hcell _ (by omega)).trans hj)
      (fun j hj => by rw [hWc]; exact hs2 _ (by omega)) (fun j hj => by rw [hWf, World.frozen?_setCells]; exact hNf _) (fun v hv => h1x v (List.mem_of_mem_drop hv))
  have hread := (ins_read (W := W1) (g := w.heap.size) (a := a) (u := u) hx (by omega : i ≤ n) (fun q hq => by rw [cell_of_row W1 w.heap.size q ROW _ (0, 0) hh1]; exact hRA q hq) hN).2
  obtain ⟨cur1, hk1, hk1'⟩ := cells_kind w.heap.size [a, u] (i * 2) W1 ROW hh1
  obtain ⟨cur2, hk2, hk2'⟩ := cells_kind w.heap.size (xs.drop (i * 2)) ((i + 1) * 2) _ cur1 hk1
  have hO2 := own_build (base := B) hB hk2 (hk2'.trans (hk1'.trans hRS)) hGn hG63 (insC_len hx (Nat.le_of_lt hi) a u) hread
  have hA2 : Ap (fun q => some q = (Value.slice (some ⟨g, 0, none⟩) n n).ownBlock) w ((W1.setCells w.heap.size (i * 2) [a, u]).setCells w.heap.size ((i + 1) * 2) (xs.drop (i * 2))) :=
    Ap.setCells (S := fun q => some q = (Value.slice (some ⟨g, 0, none⟩) n n).ownBlock) (.inr (Nat.le_refl _)) _ _ _ (Ap.setCells (S := fun q => some q = (Value.slice (some ⟨g, 0, none⟩) n n).ownBlock) (.inr (Nat.le_refl _)) _ _ _ (by rw [hW1]; exact ((Ap.refl w).drew).alloc _))
  have HEND : Hid (InsQ w B (.slice (some ⟨g, 0, none⟩) n n) n i xs a u (.returned (.slice (some ⟨w.heap.size, 0, none⟩) (n + 1) G)) ((W1.setCells w.heap.size (i * 2) [a, u]).setCells w.heap.size ((i + 1) * 2) (xs.drop (i * 2))).drew) := Lib.hid ⟨_, rfl, World.ownsRow.drew hO2, hA2.drew, .inr ⟨_, rfl, Nat.le_refl _⟩⟩
  subst hW1
  have hE1 : ∀ x, ((w.alloc (.cells ROW 42)).drew).cell? x = (w.drew.alloc (.cells ROW 42)).cell? x := fun x => rfl
  have hE2 : ∀ x, ((w.alloc (.cells ROW 42)).drew).frozen? x = (w.drew.alloc (.cells ROW 42)).frozen? x := fun x => rfl
  have hF1 : ∀ x, (((w.alloc (.cells ROW 42)).drew.setCells w.heap.size (i * 2) [a, u]).drew).cell? x = ((w.drew.alloc (.cells ROW 42)).setCells w.heap.size (i * 2) [a, u]).cell? x := fun x => rfl
  have hF2 : ∀ x, (((w.alloc (.cells ROW 42)).drew.setCells w.heap.size (i * 2) [a, u]).drew).frozen? x = ((w.drew.alloc (.cells ROW 42)).setCells w.heap.size (i * 2) [a, u]).frozen? x := fun x => rfl
  have z1 : ((i : Int) == (n : Int)) = false := beq_eq_false_iff_ne.2 (by omega)
  have z2 : decide ((n : Int) < (n : Int) + 1) = true := decide_eq_true (by omega)
  have hb1 : (0 : Int) ≤ (i : Int) + 1 := by omega
  have hb0 : (0 : Int) ≤ (n : Int) + 1 := by omega
  have hin : i ≤ n := by omega
  have hin2 : (i : Int) ≤ (n : Int) + 1 := by omega
  have hb6 : (i : Int) + 1 ≤ (n : Int) + 1 := by omega
  have htn : ((i : Int) + 1).toNat = i + 1 := by omega
  have hb2 : ¬ (G = i + 1) := by omega
  have hb4 : ¬ (G = i) := by omega
  have hb7 : ¬ (n = i) := by omega
  have hGi : (n : Int) + 1 ≤ (G : Int) := by omega
  have HGB := Lib.hid hG63
  have mixed : Tryd.prog.follows .mixedOrders = true := by kernel_rfl
  have hi6 : i ≤ 65536 := by omega
  have hw1 := wrA hi6
  have hw2 := wrB hi6
  have hw3 := wrB hn
  have hw4 := wrC hn (Nat.le_of_lt hi)
  clear hv hn hcell hvc hdl htl hold hG hROW hRS hRA hh1 hN hNf hO1 hs2 hread hk1 hk1' hk2 hk2' hO2 hA2 h1 h1x hvb hh hcs hx hB hGn hG63 hgw hvw tI tz0 tz1 tz2
  go_enter Tryd.func20, Tryd.ntmps20
  go_wp2_with (first
    | (at_builtin; rw [hw4]; refine Lib.wpList_append_run _ rfl _ _ _ _ rfl _ _ rfl rfl _ _ (hrz _) ?_)
    | (at_builtin; refine wpList_copy_runI _ rfl _ _ 25 25 rfl _ _ rfl rfl (hcpA _ hE1 hE2 _ _) ?_))
  go_region_law_o (refine step_copy_runI rfl _ _ 25 25 rfl (.slice (some ⟨w.heap.size, (i + 1) * 2, none⟩) (n - i) (G - (i + 1))) (.slice (some ⟨g, i * 2, none⟩) (n - i) (n - i)) (by simp [Act.eval, Act.put]) (by simp [Act.eval, Act.put]) (hcpB _ hF1 hF2 3 (G - (i + 1)) (n - i)) ?_)
  go_wp2
  go_ret
  rw [← drew_setCells]
  exact HEND.out
end Go.Proofs.YtngkbcaflkinhaaDoor

