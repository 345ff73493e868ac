/- Pools: the law's lives. -/
import Derived.Test.YtmnjcmpikbihaaaPoolC
import Derived.Test.YtmnjcmpikbihaaaPoolD
import Derived.Test.YtmnjcmpikbihaaaPoolE
import Derived.Test.YtmnjcmpikbihaaaPoolF
namespace Go.Proofs.Ytmnjcmpikbihaaa
open Go.RowKit Go.Maps

theorem byteInfoP : ∃ i, Try.prog.info? 5 = some i ∧ i.zero = some (.int .u8 0) ∧ i.size = 1 ∧ i.bytes = 1 := by
  have e : (Try.prog.info? 5).map (fun i => (i.zero, i.size, i.bytes)) = some (some (.int .u8 0), 1, 1) := by kernel_rfl
  obtain ⟨i, hi, hz⟩ := Option.map_eq_some_iff.1 e
  simp only [Prod.mk.injEq] at hz
  exact ⟨i, hi, hz.1, hz.2.1, hz.2.2⟩
theorem made1_at (v : Value) (n j : Nat) (h : j < n) : (madeCells v.cells n)[j]? = some (v.cells[j % v.cells.size]!) := by
  unfold madeCells
  rw [Array.getElem?_map, Array.getElem?_range, if_pos h]; rfl
/-- A string of as many bytes 00, as the law makes it. -/
theorem long_made (n : Nat) (h0 : 0 < n) (hn : n ≤ 140737488355328) : ∃ (M : Array Value) (Z : ByteArray), Z.size = n ∧ (∀ W : World, (Instr.makeSlice 46 (.int .i64 (n : Int)) (.int .i64 (n : Int))).run Try.prog W = .ok (.slice (some ⟨W.heap.size, 0, none⟩) n n) (W.alloc (.cells M 5))) ∧
    (∀ W : World, (convert 46 9 (.slice (some ⟨W.heap.size, 0, none⟩) n n)).run Try.prog (W.alloc (.cells M 5)) = .ok (.string Z) (W.alloc (.cells M 5))) := by
  obtain ⟨i, hi, hz, hs, hb⟩ := byteInfoP
  refine ⟨madeCells (Value.int .u8 0).cells n, ⟨(List.replicate n 0).toArray⟩, by show (List.replicate n (0 : UInt8)).toArray.size = n; simp, fun W => ?_, fun W => ?_⟩
  · have h := run_make (P := Try.prog) W 46 5 i (.int .u8 0) Try.underlying46 hi hz .i64 .i64 (n : Int) (n : Int) (by omega) (by omega) (by rw [hb]; omega) (by omega)
    rw [hs] at h
    simpa using h
  · have hl : (List.replicate n (0 : UInt8)).length = n := List.length_replicate ..
    have h := run_convert_bytes_back (P := Try.prog) (W.alloc (.cells (madeCells (Value.int .u8 0).cells n) 5)) 46 9 5 ⟨W.heap.size, 0, none⟩ n (List.replicate n 0) Try.underlying46 Try.underlying5 Try.underlying9 (fun j hj => by
      rw [hl] at hj
      have e : ((⟨W.heap.size, 0, none⟩ : Addr).add j) = ⟨W.heap.size, j, none⟩ := by unfold Addr.add; split <;> simp_all
      rw [e, cell_of_row _ _ _ _ 5 (0, 0) (heap_alloc_new W _), made1_at _ _ _ hj]
      simp [Value.cells, Nat.mod_one])
    rw [hl] at h
    exact h
theorem lv1 {W : World} {b m : Nat} (d : PoolAt W b m [] 0) : Calls Try.prog 7 #[.pointer (some ⟨b, 0, none⟩), .string ⟨#[97]⟩] W fun e w' => e = .returned (.tuple #[.int .i64 1, .int .i64 0]) ∧ PoolAt w' b m [(1, [97])] 1 ∧ Ap (fun k => k = b ∨ k = m) W w' := poolAdd_any d ⟨#[97]⟩
theorem lv2 {W : World} {b m : Nat} (d : PoolAt W b m [(1, [97])] 1) : Calls Try.prog 7 #[.pointer (some ⟨b, 0, none⟩), .string ⟨#[98, 99]⟩] W fun e w' => e = .returned (.tuple #[.int .i64 2, .int .i64 0]) ∧ PoolAt w' b m [(1, [97]), (2, [98, 99])] 2 ∧ Ap (fun k => k = b ∨ k = m) W w' := poolAdd_any d ⟨#[98, 99]⟩
theorem lv3 {W : World} {b m : Nat} (d : PoolAt W b m [(2, [98, 99])] 2) : Calls Try.prog 7 #[.pointer (some ⟨b, 0, none⟩), .string ⟨#[]⟩] W fun e w' => e = .returned (.tuple #[.int .i64 3, .int .i64 0]) ∧ PoolAt w' b m [(2, [98, 99]), (3, [])] 3 ∧ Ap (fun k => k = b ∨ k = m) W w' := poolAdd_any d ⟨#[]⟩
theorem lv4 {W : World} {b m : Nat} {L : PL} {n : Nat} (d : PoolAt W b m L n) (Z : ByteArray) (hZ : Z.size = 65537) : Calls Try.prog 7 #[.pointer (some ⟨b, 0, none⟩), .string Z] W fun e w' => e = .returned (.tuple #[.int .i64 0, .int .i64 7]) ∧ w' = W := by
  have e : addE n Z = 7 := by unfold addE; rw [if_pos (by omega)]
  have h := poolAdd_no d Z (by rw [e]; decide)
  rw [e] at h; exact h
theorem lvG2 {W : World} {b m : Nat} (d : PoolAt W b m [(2, [98, 99]), (3, [])] 3) : Calls Try.prog 9 #[.pointer (some ⟨b, 0, none⟩), .int .i64 2] W fun e w' => e = .returned (.tuple #[.string ⟨#[98, 99]⟩, .int .i64 0]) ∧ Below W.heap.size W w' := poolGet_any d 2 (by omega)
theorem lvG1 {W : World} {b m : Nat} (d : PoolAt W b m [(2, [98, 99]), (3, [])] 3) : Calls Try.prog 9 #[.pointer (some ⟨b, 0, none⟩), .int .i64 1] W fun e w' => e = .returned (.tuple #[.string ⟨#[]⟩, .int .i64 3]) ∧ Below W.heap.size W w' := poolGet_any d 1 (by omega)
theorem idxS_one (W : World) (x : Int) : IdxS (W.alloc (.cells #[.int .i64 x] 3)) (.slice (some ⟨W.heap.size, 0, none⟩) 1 1) [x] :=
  ⟨_, 1, rfl, Nat.le_refl _, by unfold maxLen; omega, .inr ⟨_, 0, rfl, by simp, fun j hj => by
    obtain rfl : j = 0 := by simpa using hj
    rw [cell_of_row _ _ _ _ 3 (0, 0) (heap_alloc_new W _)]; rfl⟩⟩
theorem idxS_two (W : World) (x y : Int) : IdxS (W.alloc (.cells #[.int .i64 x, .int .i64 y] 3)) (.slice (some ⟨W.heap.size, 0, none⟩) 2 2) [x, y] :=
  ⟨_, 2, rfl, Nat.le_refl _, by unfold maxLen; omega, .inr ⟨_, 0, rfl, by simp, fun j hj => by
    rw [cell_of_row _ _ _ _ 3 (0, 0) (heap_alloc_new W _)]
    rcases (show j = 0 ∨ j = 1 by simp at hj; omega) with rfl | rfl <;> rfl⟩⟩
theorem lvK {W : World} {b m : Nat} (d : PoolAt W b m [(1, [97]), (2, [98, 99])] 2) : Calls Try.prog 11 #[.pointer (some ⟨b, 0, none⟩), .slice (some ⟨W.heap.size, 0, none⟩) 1 1] (W.alloc (.cells #[.int .i64 2] 3)) fun e w' => e = .returned (.int .i64 1) ∧ (∃ m', PoolAt w' b m' [(2, [98, 99])] 2 ∧ W.heap.size ≤ m') ∧ Ap (fun k => k = b) W w' := by
  have hb := below1P W (.cells #[.int .i64 2] 3)
  refine (poolKeep_any (d.below hb) (by omega) (idxS_one W 2) (fun x hx => by simp at hx; omega)).mono ?_
  rintro e w' ⟨rfl, h1, h2⟩
  exact ⟨rfl, ⟨_, h1, by simp⟩, (Ap.of_below hb).trans h2⟩
theorem lvB {W : World} {b m : Nat} (d : PoolAt W b m [(2, [98, 99]), (3, [])] 3) : Calls Try.prog 16 #[.pointer (some ⟨b, 0, none⟩)] W fun e w' => e = .returned (.int .i64 2) ∧ Below W.heap.size W w' := poolBytes_any d (by decide)
/-- A pool that the call has made. -/
structure PoolNew (w W : World) (b m : Nat) (L : PL) (n : Nat) : Prop where
  at' : PoolAt W b m L n
  hb : w.heap.size ≤ b
  hm : w.heap.size ≤ m
  be : Below w.heap.size w W
theorem PoolNew.ap {w W W' : World} {b m m' : Nat} {L L' : PL} {n n' : Nat} (d : PoolNew w W b m L n) (h : PoolAt W' b m' L' n') (hm : w.heap.size ≤ m') (a : Ap (fun k => k = b ∨ k = m) W W') : PoolNew w W' b m' L' n' :=
  ⟨h, d.hb, hm, d.be.trans (a.below d.be.size (fun k hk => by have := d.hb; have := d.hm; rcases hk with rfl | rfl <;> omega))⟩
theorem PoolNew.below {w W W' : World} {b m : Nat} {L : PL} {n : Nat} (d : PoolNew w W b m L n) (h : Below W.heap.size W W') : PoolNew w W' b m L n := ⟨d.at'.below h, d.hb, d.hm, d.be.trans (h.mono d.be.size)⟩
theorem PoolNew.start {w W : World} (d : PoolAt W (w.heap.size + 1) w.heap.size [] 0) (h : Below w.heap.size w W) : PoolNew w W (w.heap.size + 1) w.heap.size [] 0 := ⟨d, by omega, by omega, h⟩
set_option maxHeartbeats 2000000 in
set_option maxRecDepth 100000 in
theorem poolLives_any (w : World) : Calls Try.prog 4 #[] w fun e w' => e = .returned (.bool true) ∧ Below w.heap.size w w' := by
  obtain ⟨M, Z, hZ, hmk, hcv⟩ := long_made 65537 (by omega) (by omega)
  replace hmk : ∀ W : World, (Instr.makeSlice 46 (.int .i64 65537) (.int .i64 65537)).run Try.prog W = .ok (.slice (some ⟨W.heap.size, 0, none⟩) 65537 65537) (W.alloc (.cells M 5)) := hmk
  have HZ := Lib.hid hZ
  have hN := poolNew_any w
  clear hZ
  go_enter Try.func4, Try.ntmps4
  go_wp2_with (first
    | (go_at_call 5; refine hN.mono ?_; rintro e w1 ⟨rfl, hp, hb⟩; have HP := Lib.hid (PoolNew.start hp hb); clear hp hb; generalize w.heap.size + 1 = b at HP ⊢; generalize hm : w.heap.size = m at HP ⊢)
    | (go_at_call 7; with_reducible refine (lv1 HP.out.at').mono ?_; rintro e w2 ⟨rfl, hp, ha⟩; have HP2 := Lib.hid (HP.out.ap hp HP.out.hm ha); clear hp ha HP)
    | (go_at_call 7; with_reducible refine (lv2 HP2.out.at').mono ?_; rintro e w3 ⟨rfl, hp, ha⟩; have HP3 := Lib.hid (HP2.out.ap hp HP2.out.hm ha); clear hp ha HP2)
    | (go_at_call 11; with_reducible refine (lvK HP3.out.at').mono ?_; rintro e w4 ⟨rfl, ⟨m4, hp, hmm⟩, ha⟩; have HP4 := Lib.hid (HP3.out.ap hp (Nat.le_trans HP3.out.be.size hmm) (ha.weak (fun _ h => .inl h))); clear hp hmm ha HP3)
    | (go_at_call 7; with_reducible refine (lv3 HP4.out.at').mono ?_; rintro e w5 ⟨rfl, hp, ha⟩; have HP5 := Lib.hid (HP4.out.ap hp HP4.out.hm ha); clear hp ha HP4)
    | (go_at_call 9; with_reducible refine (lvG2 HP5.out.at').mono ?_; rintro e w6 ⟨rfl, hb⟩; have HP6 := Lib.hid (HP5.out.below hb); clear hb HP5)
    | (go_at_call 9; with_reducible refine (lvG1 HP6.out.at').mono ?_; rintro e w7 ⟨rfl, hb⟩; have HP7 := Lib.hid (HP6.out.below hb); have HP8 := Lib.hid (HP7.out.below (below1P w7 (.cells M 5))); clear hb HP6)
    | (go_at_call 7; with_reducible refine (lv4 HP8.out.at' Z HZ.out).mono ?_; rintro e w8 ⟨rfl, rfl⟩)
    | (go_at_call 14; with_reducible refine (poolIds_any HP8.out.at' (by omega)).mono ?_; rintro e w9 ⟨v, rfl, hv, hb⟩; have HV := Lib.hid hv; have HP9 := Lib.hid (HP8.out.below hb); clear hv hb HP8)
    | (go_at_call 13; with_reducible refine (idxSame_any (HV.out.below (below1P w9 (.cells #[.int .i64 2, .int .i64 3] 3)) (Nat.le_refl _)) (idxS_two w9 2 3)).mono ?_; rintro e w10 ⟨rfl, hb⟩; have HP10 := Lib.hid ((HP9.out.below (below1P w9 (.cells #[.int .i64 2, .int .i64 3] 3))).below hb); clear hb HP9)
    | (go_at_call 16; with_reducible refine (lvB HP10.out.at').mono ?_; rintro e w11 ⟨rfl, hb⟩; have HP11 := Lib.hid (HP10.out.below hb); clear hb HP10))
  go_ret
  exact ⟨rfl, HP11.out.be⟩
end Go.Proofs.Ytmnjcmpikbihaaa
