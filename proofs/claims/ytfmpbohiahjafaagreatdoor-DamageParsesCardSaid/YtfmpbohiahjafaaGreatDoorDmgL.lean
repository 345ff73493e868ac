/- Reports of damage: the program's numbers of words, and the kind and the map that a word names. -/
import Derived.Test.YtfmpbohiahjafaaGreatDoorDmgJ
import Derived.Test.YtfmpbohiahjafaaGreatDoorDmgI
import Derived.Laws.MakeOwn
import Derived.Deep.OwnRows
namespace Go.Proofs.YtfmpbohiahjafaaGreatDoor
open Go.RowKit Go.Lib Go.Shelf Go.Sort

/-- Numbers from the start of a block on, that may be written. -/
def RowI (W : World) (b : Nat) (V : List Int) : Prop := b < W.heap.size ∧ ∀ j, j < V.length → W.cell? ⟨b, j, none⟩ = some (.int .i64 (V.getD j 0)) ∧ W.frozen? ⟨b, j, none⟩ = false
theorem RowI.below {W W' : World} {b : Nat} {V : List Int} (h : RowI W b V) (hb : Below W.heap.size W W') : RowI W' b V :=
  ⟨Nat.lt_of_lt_of_le h.1 hb.size, fun j hj => ⟨(hb.cell (p := ⟨b, j, none⟩) h.1).trans (h.2 j hj).1, (hb.frozen (p := ⟨b, j, none⟩) h.1).trans (h.2 j hj).2⟩⟩
theorem RowI.set {W : World} {b : Nat} {V : List Int} (h : RowI W b V) (k : Nat) (hk : k < V.length) (x : Int) : RowI (W.setCell ⟨b, k, none⟩ (.int .i64 x)) b (V.set k x) := by
  refine ⟨by rw [World.size_setCell]; exact h.1, fun j hj => ⟨?_, ?_⟩⟩
  · rw [List.length_set] at hj
    by_cases e : j = k
    · subst e
      rw [World.cell?_setCell_same' _ _ _ (by rw [(h.2 j hj).1]; rfl)]
      simp [List.getD, hj]
    · rw [World.cell?_setCell_other _ _ _ _ (by intro e'; injection e' with _ e2; omega), (h.2 j hj).1]
      simp [List.getD, List.getElem?_set_ne (Ne.symm e)]
  · rw [List.length_set] at hj
    rw [World.frozen?_setCell]; exact (h.2 j hj).2
theorem below_set {B : Nat} {w W : World} {b k : Nat} {v : Value} (h : Below B w W) (hB : B ≤ b) : Below B w (W.setCell ⟨b, k, none⟩ v) :=
  h.setCell (p := ⟨b, k, none⟩) hB v
theorem intInfD : (Tryz.prog.info? 3).map (fun i => (i.zero, i.size, i.bytes)) = some (some (.int .i64 0), 1, 8) := by kernel_rfl
def zeroI : Array Value := #[.int .i64 0]
theorem makeInts (n : Nat) (h : n ≤ 1000) (W : World) : (Instr.makeSlice 99 (.int .i64 (n : Int)) (.int .i64 (n : Int))).run Tryz.prog W = .ok (.slice (some ⟨W.heap.size, 0, none⟩) n n) (W.alloc (.cells (madeCells zeroI n) 3)) := by
  obtain ⟨i, hi, hz⟩ := Option.map_eq_some_iff.1 intInfD
  simp only [Prod.mk.injEq] at hz
  obtain ⟨hz, hs, hb⟩ := hz
  have hr := run_make (P := Tryz.prog) W 99 3 i _ Tryz.underlying99 hi hz .i64 .i64 n n (by omega) (Int.le_refl _) (by rw [hb]; omega) (by omega)
  simp only [Int.toNat_natCast, hs, Nat.mul_one] at hr
  exact hr
theorem RowI.made (W : World) (n : Nat) (t : TypeId) : RowI (W.alloc (.cells (madeCells zeroI n) t)) W.heap.size (List.replicate n 0) := by
  refine ⟨by simp, fun j hj => ⟨?_, frozen_of_row _ _ _ _ t (heap_alloc_new W _)⟩⟩
  rw [List.length_replicate] at hj
  rw [cell_of_row _ _ _ _ t (0, 0) (heap_alloc_new W _)]
  unfold madeCells
  rw [Array.getElem?_map, Array.getElem?_range, if_pos (by omega), List.getD, List.getElem?_replicate, if_pos hj]
  show some (zeroI[j % 1]!) = _
  rw [Nat.mod_one]; rfl
/-- What a text is as a number. -/
theorem bytesW_below (w : World) (e : TypeId) (s : ByteArray) : Below w.heap.size w (Lib.bytesWorld w e s) := Lib.bytesWorld_below _ _ _
theorem atoiOk_any {l : List UInt8} (hl : l.length ≤ 1000000) {v : Int} (h : Lib.atoiAll l = .ok v) (w : World) : Calls Tryz.prog 93 #[.string ⟨l.toArray⟩] w fun e w' => e = .returned (.tuple #[.int .i64 v, .nilIface]) ∧ Below w.heap.size w w' := by
  have hsz := bsz l
  have hA := Any.strconv_Atoi_ok Tryz.lays172 ⟨l.toArray⟩ (by omega) v h w
  change Calls Tryz.prog 93 _ _ _ at hA
  refine hA.mono ?_
  intro e w' hh
  obtain ⟨he, hw⟩ := hh
  refine ⟨he, ?_⟩
  rcases hw with rfl | ⟨t, rfl⟩
  · exact Below.refl _ _
  · exact bytesW_below _ _ _
theorem atoiNo_any {l : List UInt8} (hl : l.length ≤ 1000000) (h : ∀ u, Lib.atoiAll l ≠ .ok u) {w : World} (hD : DmW w) : Calls Tryz.prog 93 #[.string ⟨l.toArray⟩] w fun e w' => ∃ v t p, e = .returned (.tuple #[.int .i64 v, .iface t (.pointer p)]) ∧ Below w.heap.size w w' := by
  have hsz := bsz l
  rcases hr : Lib.atoiAll l with v | _ | _
  · exact absurd hr (h v)
  · obtain ⟨ev, hv, hev⟩ := hD.syn
    have hA := Any.strconv_Atoi_syntax Tryz.lays172 ⟨l.toArray⟩ (by omega) hr ev w hv hev
    change Calls Tryz.prog 93 _ _ _ at hA
    refine hA.mono ?_
    intro e w' hh
    obtain ⟨N, he, _, _, hb⟩ := hh
    exact ⟨0, _, _, he, hb⟩
  · obtain ⟨ev, hv, hev⟩ := hD.rng
    have hA := Any.strconv_Atoi_range Tryz.lays172 ⟨l.toArray⟩ (by omega) hr ev w hv hev
    change Calls Tryz.prog 93 _ _ _ at hA
    refine hA.mono ?_
    intro e w' hh
    obtain ⟨N, he, _, _, hb⟩ := hh
    exact ⟨_, _, _, he, hb⟩
theorem atoi_in {l : List UInt8} {v : Int} (h : Lib.atoiAll l = .ok v) : -9223372036854775808 ≤ v ∧ v ≤ 9223372036854775807 := by
  unfold Lib.atoiAll at h
  split at h
  · cases h
  · dsimp only at h
    split at h
    · cases h
    · cases h
    · rename_i u hu
      have := Lib.parseMag_lt hu
      split at h
      · cases h
      · split at h
        · cases h
        · injection h with h
          split at h <;> omega
theorem itoaI_any {n : Int} (h : -9223372036854775808 ≤ n ∧ n ≤ 9223372036854775807) {w : World} (hD : DmW w) : Calls Tryz.prog 45 #[.int .i64 n] w fun e w' => e = .returned (Bs (itoa n)) ∧ Below w.heap.size w w' := by
  have hI := Any.strconv_Itoa Tryz.lays171 n h.1 h.2 w hD.tab
  change Calls Tryz.prog 45 _ _ _ at hI
  refine hI.mono ?_
  intro e w' hh
  obtain ⟨he, k, os, hw⟩ := hh
  rw [hw]
  exact ⟨he, grow_below⟩
theorem num1_ok {l : List UInt8} {v : Int} (h : Lib.atoiAll l = .ok v) : num1 l = if itoa v = l then some v else none := by unfold num1; rw [h]
theorem num1_no {l : List UInt8} (h : ∀ u, Lib.atoiAll l ≠ .ok u) : num1 l = none := by
  unfold num1
  split
  · rename_i u hu; exact absurd hu (h u)
  · rfl
set_option maxHeartbeats 8000000 in
set_option maxRecDepth 100000 in
theorem numbers_any {L : List (List UInt8)} {w : World} {v : Value} (hv : WsS w v L) (hD : DmW w) (hn : L.length ≤ 1000) (hl : ∀ x ∈ L, x.length ≤ 1000000) :
    Calls Tryz.prog 73 #[v] w fun e w' => Below w.heap.size w w' ∧ ((∃ V : List Int, V.length = L.length ∧ (∀ j, j < L.length → num1 (L.getD j []) = some (V.getD j 0)) ∧ ∃ b, e = .returned (.tuple #[.slice (some ⟨b, 0, none⟩) L.length L.length, .bool true]) ∧ RowI w' b V) ∨ (∃ j, j < L.length ∧ num1 (L.getD j []) = none) ∧ e = .returned (.tuple #[.slice none 0 0, .bool false])) := by
  obtain ⟨A, c, rfl, ha1, ha2, ha3⟩ := hv
  obtain ⟨n, hnn⟩ : ∃ n, n = L.length := ⟨_, rfl⟩
  have HN := Lib.hid hnn
  have HA := Lib.hid ha3
  have HL := Lib.hid hl
  rw [← hnn] at hn ⊢
  have HNX : Hid (n ≤ maxLen) := Lib.hid (by unfold maxLen; omega)
  have hmk := makeInts n hn w
  have HR0 := Lib.hid (RowI.made w n 3)
  have HB0 := Lib.hid (below_new w (.cells (madeCells zeroI n) 3))
  have HDM := Lib.hid hD
  clear hnn ha1 ha2 ha3 hl hD hn
  go_enter Tryz.func73, Tryz.ntmps73
  go_wp2
  generalize w.alloc (.cells (madeCells zeroI n) 3) = w1 at HR0 HB0 ⊢
  clear hmk
  go_loopw [14] (fun ix wr => ∃ (j : Nat) (V : List Int), j ≤ n ∧ ix = .int .i64 (j : Int) ∧ V.length = n ∧ (∀ k, k < j → num1 (L.getD k []) = some (V.getD k 0)) ∧ RowI wr w.heap.size V ∧ Below w.heap.size w wr) (fun ix _ => n - (RowKit.intOf ix).toNat)
  case atStart => exact ⟨0, List.replicate n 0, Nat.zero_le _, rfl, List.length_replicate .., (fun k hk => absurd hk (by omega)), HR0.out, HB0.out⟩
  case round =>
    obtain ⟨j, V, hj, rfl, hVl, hnum, hrow, hb⟩ := hrel
    have HB := Lib.hid hb
    have HR := Lib.hid hrow
    have HVL := Lib.hid hVl
    have HNM := Lib.hid hnum
    clear hb hrow hVl hnum
    by_cases hlt : j < n
    · obtain ⟨g, o, rfl, hglt, hk⟩ := HA.out.resolve_left (by intro e; have := HN.out; rw [e] at this; simp at this; omega)
      have hjL : j < L.length := by rw [← HN.out]; exact hlt
      have hc := stAt (k := 1) HB.out hglt hk hjL
      have q0 : wr.cell? ⟨g, o + j, none⟩ = some (Bs (L.getD j [])) := by have := hc 0 _ rfl; rwa [Nat.mul_one] at this
      have hlen := HL.out (L.getD j []) (by rw [List.getD, List.getElem?_eq_getElem hjL]; exact List.getElem_mem hjL)
      have HLE := Lib.hid hlen
      have hw1 := nextD hlt HNX.out
      have HJ : Hid (j + 1 ≤ n ∧ n - (j + 1) < n - j ∧ j < n) := Lib.hid ⟨hlt, by omega, hlt⟩
      have HNU : Hid (∀ x, num1 (L.getD j []) = some x → ∀ k, k < j + 1 → num1 (L.getD k []) = some ((V.set j x).getD k 0)) := Lib.hid (fun x hx k hk => by
        by_cases e : k = j
        · subst e
          have := HVL.out
          rw [hx, List.getD, List.getElem?_set_self (by omega)]; rfl
        · rw [HNM.out k (by omega)]
          simp [List.getD, List.getElem?_set_ne (Ne.symm e)])
      have HNO : Hid (num1 (L.getD j []) = none → ∃ j, j < n ∧ num1 (L.getD j []) = none) := Lib.hid (fun h => ⟨j, hlt, h⟩)
      generalize L.getD j [] = s at q0 HLE HNU HNO
      have hDr := HDM.out.below HB.out
      clear hk hc hjL hlen HNM
      by_cases hok : ∃ u, Lib.atoiAll s = .ok u
      · obtain ⟨v, hv⟩ := hok
        have hAt := atoiOk_any HLE.out hv wr
        have HI : Hid (∀ V, Below w.heap.size w V → _) := Lib.hid (fun V hb => itoaI_any (atoi_in hv) (HDM.out.below hb))
        have hnv := num1_ok hv
        clear hv hDr
        by_cases hs : itoa v = s
        · rw [if_pos hs] at hnv
          have HX := Lib.hid (HNU.out v hnv)
          rw [hs] at HI
          clear hnv hs HNU HNO
          go_wp2_with (first
            | (go_at_call 93; (with_reducible refine hAt.mono ?_); rintro e w2 ⟨rfl, hb2⟩; have HB2 := Lib.hid (HB.out.trans (hb2.mono HB.out.size)); have HR2 := Lib.hid (HR.out.below hb2); have hIt := HI.out w2 HB2.out; clear hb2)
            | (go_at_call 45; (with_reducible refine hIt.mono ?_); rintro e w3 ⟨rfl, hb3⟩; have HB3 := Lib.hid (HB2.out.trans (hb3.mono HB2.out.size)); have HR3 := Lib.hid (HR2.out.below hb3); clear hb3; obtain ⟨x3, f3⟩ := HR3.out.2 j (by rw [HVL.out]; exact HJ.out.2.2)))
          (try rw [hw1])
          clear hw1
          go_roundw
          case rel => exact ⟨j + 1, V.set j v, HJ.out.1, by go_num, by rw [List.length_set]; exact HVL.out, HX.out, HR3.out.set j (by rw [HVL.out]; exact HJ.out.2.2) v, below_set HB3.out (Nat.le_refl _)⟩
          case measure => have h := HJ.out.2.1; simp only [RowKit.intOf]; omega
        · rw [if_neg hs] at hnv
          have HX := Lib.hid (HNO.out hnv)
          have hsq : (itoa v == s) = false := by rw [beq_eq_false_iff_ne]; exact hs
          clear hnv HNU HNO hs
          go_wp2_with (first
            | (go_at_call 93; (with_reducible refine hAt.mono ?_); rintro e w2 ⟨rfl, hb2⟩; have HB2 := Lib.hid (HB.out.trans (hb2.mono HB.out.size)); have hIt := HI.out w2 HB2.out; clear hb2)
            | (go_at_call 45; (with_reducible refine hIt.mono ?_); rintro e w3 ⟨rfl, hb3⟩; have HB3 := Lib.hid (HB2.out.trans (hb3.mono HB2.out.size)); clear hb3))
          go_ret2
          exact ⟨HB3.out, .inr ⟨HX.out, rfl⟩⟩
      · have hnv := num1_no (fun u h => hok ⟨u, h⟩)
        have HX := Lib.hid (HNO.out hnv)
        have hAt := atoiNo_any HLE.out (fun u h => hok ⟨u, h⟩) hDr
        clear hnv HNU HNO hok hDr
        go_wp2_with (first
            | (go_at_call 93; (with_reducible refine hAt.mono ?_); rintro e w2 ⟨v, t, p, rfl, hb2⟩; have HB2 := Lib.hid (HB.out.trans (hb2.mono HB.out.size)); clear hb2))
        go_ret2
        exact ⟨HB2.out, .inr ⟨HX.out, rfl⟩⟩
    · obtain rfl : j = n := by omega
      go_wp2
      go_ret2
      exact ⟨HB.out, .inl ⟨V, HVL.out, HNM.out, w.heap.size, rfl, HR.out⟩⟩
theorem wordAt (w : World) (i : Int) (v : Value) (h : (Instr.index 77 (.agg #[Bs [], Bs slotW, Bs pageW, Bs stripeW]) (.int .i64 i)).run Tryz.prog w = .ok v w) : (Instr.index 77 (.agg #[Bs [], Bs slotW, Bs pageW, Bs stripeW]) (.int .i64 i)).run Tryz.prog w = .ok v w := h
set_option maxHeartbeats 4000000 in
set_option maxRecDepth 100000 in
theorem toKind_any (a : List UInt8) {w : World} (hD : DmW w) : Calls Tryz.prog 74 #[Bs a] w fun e w' => e = .returned (.int .u8 (codK a)) ∧ w' = w := by
  have z0 := hD.w0
  have z1 := hD.w1
  have z2 := hD.w2
  have z3 := hD.w3
  clear hD
  have i0 := wordAt w 0 (Bs []) (by kernel_rfl)
  have i1 := wordAt w 1 (Bs slotW) (by kernel_rfl)
  have i2 := wordAt w 2 (Bs pageW) (by kernel_rfl)
  have i3 := wordAt w 3 (Bs stripeW) (by kernel_rfl)
  by_cases h0 : a = []
  · subst h0
    go_enter Tryz.func74, Tryz.ntmps74
    go_wp2
    refine wp_loop_rounds 6 ?_
    rw [rounds_succ]
    go_wp2
    go_ret
    exact ⟨rfl, rfl⟩
  have e0 : (([] : List UInt8) == a) = false := by rw [beq_eq_false_iff_ne]; exact fun e => h0 e.symm
  have e0' : (a == ([] : List UInt8)) = false := by rw [beq_eq_false_iff_ne]; exact h0
  have e0x : a.isEmpty = false := by cases a with
    | nil => exact absurd rfl h0
    | cons x r => rfl
  by_cases h1 : a = slotW
  · have hk : codK a = 1 := by rw [h1]; decide
    rw [hk]
    have e1 : (slotW == a) = true := by rw [h1]; decide
    clear hk h1
    go_enter Tryz.func74, Tryz.ntmps74
    go_wp2
    refine wp_loop_rounds 6 ?_
    rw [rounds_succ]
    go_wp2
    rw [rounds_succ]
    go_wp2
    go_ret
    exact ⟨rfl, rfl⟩
  have e1 : (slotW == a) = false := by rw [beq_eq_false_iff_ne]; exact fun e => h1 e.symm
  by_cases h2 : a = pageW
  · have hk : codK a = 2 := by rw [h2]; decide
    rw [hk]
    have e2 : (pageW == a) = true := by rw [h2]; decide
    clear hk h2
    go_enter Tryz.func74, Tryz.ntmps74
    go_wp2
    refine wp_loop_rounds 6 ?_
    rw [rounds_succ]
    go_wp2
    rw [rounds_succ]
    go_wp2
    rw [rounds_succ]
    go_wp2
    go_ret
    exact ⟨rfl, rfl⟩
  have e2 : (pageW == a) = false := by rw [beq_eq_false_iff_ne]; exact fun e => h2 e.symm
  by_cases h3 : a = stripeW
  · have hk : codK a = 3 := by rw [h3]; decide
    rw [hk]
    have e3 : (stripeW == a) = true := by rw [h3]; decide
    clear hk h3
    go_enter Tryz.func74, Tryz.ntmps74
    go_wp2
    refine wp_loop_rounds 6 ?_
    rw [rounds_succ]
    go_wp2
    rw [rounds_succ]
    go_wp2
    rw [rounds_succ]
    go_wp2
    rw [rounds_succ]
    go_wp2
    go_ret
    exact ⟨rfl, rfl⟩
  have e3 : (stripeW == a) = false := by rw [beq_eq_false_iff_ne]; exact fun e => h3 e.symm
  have hk : codK a = 0 := by unfold codK; rw [if_neg h1, if_neg h2, if_neg h3]
  rw [hk]
  clear hk h0 h1 h2 h3
  go_enter Tryz.func74, Tryz.ntmps74
  go_wp2
  refine wp_loop_rounds 6 ?_
  rw [rounds_succ]
  go_wp2
  rw [rounds_succ]
  go_wp2
  rw [rounds_succ]
  go_wp2
  rw [rounds_succ]
  go_wp2
  rw [rounds_succ]
  go_wp2
  go_ret
  exact ⟨rfl, rfl⟩
end Go.Proofs.YtfmpbohiahjafaaGreatDoor
