/- Pools: Add. -/
import Derived.Test.YtmnjcmpikbihaaaPoolB
import Derived.Deep.RegionHeld3
namespace Go.Proofs.Ytmnjcmpikbihaaa
open Go.RowKit Go.Maps

/-- What Add answers: the error. -/
def addE (n : Nat) (s : ByteArray) : Int := if 65536 < s.size then 7 else if 1073741824 ≤ n then 8 else 0
def addN (n : Nat) (s : ByteArray) : Nat := if addE n s = 0 then n + 1 else n
def addL (L : PL) (n : Nat) (s : ByteArray) : PL := if addE n s = 0 then L ++ [(((n : Int) + 1), s.data.toList)] else L
theorem add_map {w w' : World} {m k k' n : Nat} {L : PL} {D : DataW Unit} (hr : ∀ x ∈ idsP L, x ≤ n) (ho : w.ownsMap Try.prog 3 datElem m k D) (hh : ∀ x : Int, has D (kI x) = true ↔ x ∈ idsP L) (hv : ∀ p ∈ L, ∀ z, D.atKey (kI p.1) z = .lit (.string p.2)) {l : List UInt8}
    (h' : w'.ownsMap Try.prog 3 datElem m k' (D.put (kI ((n : Int) + 1)) (.lit (.string l)))) : PMap w' m (L ++ [(((n : Int) + 1), l)]) := by
  refine PMap.put ho hh hv _ l h' (fun x => ?_) (fun p hp => ?_)
  · unfold idsP
    rw [List.map_append, List.mem_append, List.map_cons, List.map_nil, List.mem_singleton]
    exact or_comm
  · rcases List.mem_append.1 hp with hp | hp
    · have := hr p.1 (List.mem_map.2 ⟨p, hp, rfl⟩)
      exact .inr ⟨hp, by omega⟩
    · rw [List.mem_singleton] at hp; exact .inl hp
theorem eqlP (m : Nat) (w : World) : (binOp .eql 48 (.map (some m)) (.map none)).run Try.prog w = .ok (.bool false) w := by kernel_rfl
set_option maxHeartbeats 1000000 in
set_option maxRecDepth 100000 in
theorem poolAdd_no {w : World} {b m n : Nat} {L : PL} (d : PoolAt w b m L n) (s : ByteArray) (h : addE n s ≠ 0) :
    Calls Try.prog 7 #[.pointer (some ⟨b, 0, none⟩), .string s] w fun e w' => e = .returned (.tuple #[.int .i64 0, .int .i64 (addE n s)]) ∧ w' = w := by
  have c1 := d.c1
  by_cases h1 : 65536 < s.size
  · have e : addE n s = 7 := if_pos h1
    rw [e]
    have d1 : decide ((65536 : Int) < (s.size : Int)) = true := decide_eq_true (by omega)
    clear d e h
    go_enter Try.func7, Try.ntmps7
    go_wp2
    go_ret2
    exact ⟨rfl, rfl⟩
  · have e : addE n s = if 1073741824 ≤ n then 8 else 0 := if_neg h1
    by_cases h2 : 1073741824 ≤ n
    · rw [if_pos h2] at e
      rw [e]
      have d1 : decide ((65536 : Int) < (s.size : Int)) = false := decide_eq_false (by omega)
      have d2 : decide ((1073741824 : Int) ≤ (n : Int)) = true := decide_eq_true (by omega)
      clear d e h
      go_enter Try.func7, Try.ntmps7
      go_wp2
      go_ret2
      exact ⟨rfl, rfl⟩
    · rw [if_neg h2] at e; exact absurd e h
set_option maxHeartbeats 1000000 in
set_option maxRecDepth 100000 in
theorem poolAdd_yes {w : World} {b m n : Nat} {L : PL} (d : PoolAt w b m L n) (s : ByteArray) (hs : s.size ≤ 65536) (hn : n < 1073741824) :
    Calls Try.prog 7 #[.pointer (some ⟨b, 0, none⟩), .string s] w fun e w' => e = .returned (.tuple #[.int .i64 ((n : Int) + 1), .int .i64 0]) ∧ PoolAt w' b m (L ++ [(((n : Int) + 1), s.data.toList)]) (n + 1) ∧ Ap (fun k => k = b ∨ k = m) w w' := by
  have c0 := d.c0
  have c1 := d.c1
  have f1 := d.fz 1 (by omega)
  have hlt := d.lt
  have d1 : decide ((65536 : Int) < (s.size : Int)) = false := decide_eq_false (by omega)
  have d2 : decide ((1073741824 : Int) ≤ (n : Int)) = false := decide_eq_false (by omega)
  have hw1 : wrap64 ((n : Int) + 1) = ((n : Int) + 1) := by unfold wrap64; omega
  have hw2 : IntKind.i64.wrap ((n : Int) + 1) = ((n : Int) + 1) := by rw [IntKind.wrap_i64]; omega
  have hkey : keyOf Try.prog 3 (.int .i64 ((n : Int) + 1)) = some (kI ((n : Int) + 1)) := Maps.keyOf_int_mk Try.underlying3 (by simp [Lit.wf, IntKind.min, IntKind.max, IntKind.signed, IntKind.bits]; omega)
  have HKY := Lib.hid hkey
  have heq := eqlP m w
  have HCL : Hid (∀ W : World, _) := Lib.hid (fun W => sClone_any s (by omega) W)
  have HD := Lib.hid d
  obtain ⟨W1, hW1⟩ : ∃ W1, W1 = w.setCell ⟨b, 1, none⟩ (.int .i64 ((n : Int) + 1)) := ⟨_, rfl⟩
  have ha1 : Ap (fun k => k = b ∨ k = m) w W1 := by rw [hW1]; exact (Ap.refl w).setCell (.inl (.inl rfl)) _
  have HW := Lib.hid hW1
  have HA1 := Lib.hid ha1
  have k0 : W1.cell? ⟨b, 0, none⟩ = some (.map (some m)) := by rw [hW1]; go_cell
  have k1 : W1.cell? ⟨b, 1, none⟩ = some (.int .i64 ((n : Int) + 1)) := by rw [hW1]; go_cell
  have HF : Hid (∀ w2 : World, Below W1.drew.heap.size W1.drew w2 → ∃ w3, (Instr.mapUpdate 48 (.map (some m)) (.int .i64 ((n : Int) + 1)) (.agg #[.string s])).run Try.prog w2 = .ok () w3 ∧ w2.cell? ⟨b, 0, none⟩ = some (.map (some m)) ∧ w2.cell? ⟨b, 1, none⟩ = some (.int .i64 ((n : Int) + 1)) ∧ w3.cell? ⟨b, 0, none⟩ = some (.map (some m)) ∧ w3.cell? ⟨b, 1, none⟩ = some (.int .i64 ((n : Int) + 1)) ∧ Ap (fun k => k = b ∨ k = m) w w3 ∧ PoolAt w3 b m (L ++ [((n : Int) + 1, s.data.toList)]) (n + 1)) := Lib.hid (fun w2 hb => by
    have D0 := HD.out
    have h1 : PMap W1 m L := by rw [hW1]; exact D0.map.ap (S := fun k => k = b) (Ap.setCell (S := fun k => k = b) (p := ⟨b, 1, none⟩) (Ap.refl w) (.inl rfl) _) (Ne.symm D0.ne)
    have hb' : Below W1.heap.size W1 w2 := ⟨hb.os, hb.tape, hb.output, hb.size, hb.block⟩
    obtain ⟨D, ho, hh, hv⟩ := h1.below hb'
    have e := sizeP ho intKP Try.underlying3 D0.rise hh
    have h3 : (idsP L).length = L.length := by simp [idsP]
    have hlen := D0.len
    obtain ⟨w3, hrun, ho3, ht3⟩ := ho.store intKP Try.underlying48 (by unfold maxLen; omega) HKY.out (datElem_mk s)
    have hbl : b < W1.heap.size := Nat.lt_of_lt_of_le D0.lt ha1.size
    have g0 := (hb'.cell (p := ⟨b, 0, none⟩) hbl).trans k0
    have g1 := (hb'.cell (p := ⟨b, 1, none⟩) hbl).trans k1
    have hbl2 : b < w2.heap.size := Nat.lt_of_lt_of_le hbl hb'.size
    have ha3 : Ap (fun k => k = m) w2 w3 := Ap.turned (S := fun k => k = m) (Ap.refl w2) (.inl rfl) ht3
    have q0 := (ha3.cell hbl2 D0.ne 0).trans g0
    have q1 := (ha3.cell hbl2 D0.ne 1).trans g1
    have haa : Ap (fun k => k = b ∨ k = m) w w3 := (ha1.trans (Ap.of_below hb')).trans (ha3.weak (fun _ h => .inr h))
    refine ⟨w3, hrun, g0, g1, q0, q1, haa, ?_⟩
    refine ⟨Nat.lt_of_lt_of_le D0.lt haa.size, q0, q1, fun o ho' => ?_, add_map (fun x hx => (D0.rng x hx).2) ho hh hv ho3, ?_, ?_, D0.ne⟩
    · have f1 : W1.frozen? ⟨b, o, none⟩ = false := by rw [hW1, World.frozen?_setCell]; exact D0.fz o ho'
      rw [ha3.frozen hbl2 D0.ne]
      exact ((Ap.of_below (S := fun _ => False) hb').frozen hbl id o).trans f1
    · unfold idsP
      rw [List.map_append, List.pairwise_append]
      refine ⟨D0.rise, by simp, fun x hx y hy => ?_⟩
      have := (D0.rng x hx).2
      simp only [List.map_cons, List.map_nil, List.mem_singleton] at hy
      omega
    · intro x hx
      unfold idsP at hx
      rw [List.map_append, List.mem_append] at hx
      rcases hx with hx | hx
      · have := D0.rng x hx; omega
      · simp only [List.map_cons, List.map_nil, List.mem_singleton] at hx; omega)
  clear d hkey ha1
  go_enter Try.func7, Try.ntmps7
  go_wp2
  rw [← hW1]
  clear hW1
  go_region_held3 (fun w' => w'.cell? ⟨b, 0, none⟩ = some (.map (some m)) ∧ w'.cell? ⟨b, 1, none⟩ = some (.int .i64 ((n : Int) + 1))) (first | exact ⟨k0, k1⟩ | exact ⟨g0, g1⟩ | exact ⟨q0, q1⟩) (first | (go_at_call 18; refine (HCL.out _).mono ?_; rintro e w2 ⟨rfl, hb2⟩; obtain ⟨w3, hrun, g0, g1, q0, q1, ha3, hp3⟩ := HF.out w2 hb2; have HA3 := Lib.hid ha3; have HP3 := Lib.hid hp3; clear ha3 hp3 hb2))
  go_wp2
  go_ret2
  exact ⟨rfl, HP3.out, HA3.out⟩
theorem poolAdd_any {w : World} {b m n : Nat} {L : PL} (d : PoolAt w b m L n) (s : ByteArray) :
    Calls Try.prog 7 #[.pointer (some ⟨b, 0, none⟩), .string s] w fun e w' => e = .returned (.tuple #[.int .i64 (if addE n s = 0 then (n : Int) + 1 else 0), .int .i64 (addE n s)]) ∧ PoolAt w' b m (addL L n s) (addN n s) ∧ Ap (fun k => k = b ∨ k = m) w w' := by
  by_cases h : addE n s = 0
  · have h1 : s.size ≤ 65536 := by
      unfold addE at h
      split at h
      · omega
      · omega
    have h2 : n < 1073741824 := by
      unfold addE at h
      rw [if_neg (by omega)] at h
      split at h
      · omega
      · omega
    unfold addL addN
    rw [if_pos h, if_pos h, if_pos h, h]
    exact poolAdd_yes d s h1 h2
  · refine (poolAdd_no d s h).mono ?_
    rintro e w' ⟨rfl, rfl⟩
    unfold addL addN
    rw [if_neg h, if_neg h, if_neg h]
    exact ⟨rfl, d, Ap.refl _⟩
end Go.Proofs.Ytmnjcmpikbihaaa
