/- Pools: New, Get, and what a shelf tells. -/
import Derived.Test.YtmnjcmpikbihaaaPoolM
import Derived.Test.YtmnjcmpikbihaaaShelf
import Derived.Test.YtmnjcmpikbihaaaShelfC
namespace Go.Proofs.Ytmnjcmpikbihaaa
open Go.RowKit Go.Maps Go.Sort Go.Shelf

theorem below1P (w : World) (o : Obj) : Below w.heap.size w (w.alloc o) := (Below.refl _ w).alloc (Nat.le_refl _) o
/-- A pool in block b, its shelf in block m; n numbers were given. -/
structure PoolAt (w : World) (b m : Nat) (L : PL) (n : Nat) : Prop where
  lt : b < w.heap.size
  c0 : w.cell? ⟨b, 0, none⟩ = some (.map (some m))
  c1 : w.cell? ⟨b, 1, none⟩ = some (.int .i64 (n : Int))
  fz : ∀ o, o < 2 → w.frozen? ⟨b, o, none⟩ = false
  map : PMap w m L
  rise : (idsP L).Pairwise (· < ·)
  rng : ∀ x ∈ idsP L, 1 ≤ x ∧ x ≤ n
  ne : b ≠ m
theorem PoolAt.ap {S : Nat → Prop} {w w' : World} {b m n : Nat} {L : PL} (d : PoolAt w b m L n) (a : Ap S w w') (h1 : ¬ S b) (h2 : ¬ S m) : PoolAt w' b m L n :=
  ⟨Nat.lt_of_lt_of_le d.lt a.size, (a.cell d.lt h1 _).trans d.c0, (a.cell d.lt h1 _).trans d.c1, fun o ho => (a.frozen d.lt h1 _).trans (d.fz o ho), d.map.ap a h2, d.rise, d.rng, d.ne⟩
theorem PoolAt.below {w w' : World} {b m n : Nat} {L : PL} (d : PoolAt w b m L n) (a : Below w.heap.size w w') : PoolAt w' b m L n := d.ap (S := fun _ => False) (Ap.of_below a) id id
theorem riseLen : ∀ (l : List Int) (a n : Int), l.Pairwise (· < ·) → (∀ x ∈ l, a ≤ x ∧ x < n) → a ≤ n → (l.length : Int) ≤ n - a
  | [], a, n, _, _, h => by simp; omega
  | x :: r, a, n, hp, hb, h => by
    obtain ⟨h1, h2⟩ := List.pairwise_cons.1 hp
    have hx := hb x (by simp)
    have := riseLen r (x + 1) n h2 (fun y hy => ⟨by have := h1 y hy; omega, (hb y (by simp [hy])).2⟩) (by omega)
    simp only [List.length_cons]
    omega
theorem PoolAt.len {w : World} {b m n : Nat} {L : PL} (d : PoolAt w b m L n) : L.length ≤ n := by
  have h := riseLen (idsP L) 1 (n + 1) d.rise (fun x hx => by have := d.rng x hx; omega) (by omega)
  have e : (idsP L).length = L.length := by simp [idsP]
  rw [e] at h; omega
theorem pmap_new (w : World) : PMap (w.alloc (.map #[] 0)) w.heap.size [] := PMap.nil (World.ownsMap_made w _ _ _)
set_option maxHeartbeats 400000 in
theorem poolNew_any (w : World) :
    Calls Try.prog 5 #[] w fun e w' => e = .returned (.pointer (some ⟨w.heap.size + 1, 0, none⟩)) ∧ PoolAt w' (w.heap.size + 1) w.heap.size [] 0 ∧ Below w.heap.size w w' := by
  have hmm := @run_makeMap Try.prog
  have B1 := below1P w (.map #[] 0)
  have HB := Lib.hid B1
  clear B1
  go_enter Try.func5, Try.ntmps5
  go_wp2_with fail
  go_ret
  have B2 := below1P (w.alloc (.map #[] 0)) (.cells #[.map (some w.heap.size), .int .i64 0] 50)
  refine ⟨by simp, ?_, HB.out.trans (B2.mono (by simp))⟩
  refine ⟨by simp, ?_, ?_, fun o ho => ?_, ?_, by simp [idsP], fun p hp => by simp [idsP] at hp, by omega⟩
  · simp [go_sem]
  · simp [go_sem]
  · have e := frozen_of_row _ _ o _ 50 (heap_alloc_new (w.alloc (.map #[] 0)) (.cells #[.map (some w.heap.size), .int .i64 0] 50))
    rw [show (w.alloc (.map #[] 0)).heap.size = w.heap.size + 1 by simp] at e
    exact e
  · exact (pmap_new w).ap (S := fun _ => False) (Ap.of_below B2) id
theorem sClone_any (s : ByteArray) (hs : s.size ≤ 281474976710656) (w : World) :
    Calls Try.prog 18 #[.string s] w fun e w' => e = .returned (.string s) ∧ Below w.heap.size w w' := by
  have hC : Calls Try.prog 22 #[.string s] w fun e w' => e = .returned (.string s) ∧ Below w.heap.size w w' := Any.stringslite_Clone Try.laysM316 s w hs
  go_enter Try.func18, Try.ntmps18
  go_wp2_with (go_at_call 22; refine hC.mono ?_; rintro e w' ⟨rfl, hb⟩)
  go_ret
  exact ⟨rfl, hb⟩
theorem zDat (w : World) : (zeroValue 55).run Try.prog w = .ok (.agg #[.string ⟨#[]⟩]) w := Try.zeroValue55 w
/-- What Get answers. -/
def getV (L : PL) (x : Int) : List UInt8 := (getP L x).getD []
def getE (L : PL) (x : Int) : Int := if (getP L x).isSome = true then 0 else 3
theorem getP_has {L : PL} {x : Int} : x ∈ idsP L ↔ (getP L x).isSome = true := by
  constructor
  · intro h
    unfold idsP at h
    obtain ⟨p, hp, e⟩ := List.mem_map.1 h
    cases hg : getP L x with
    | some l => rfl
    | none =>
      unfold getP at hg
      rw [Option.map_eq_none_iff, List.find?_eq_none] at hg
      exact absurd (by simpa using e) (hg p hp)
  · intro h
    obtain ⟨l, hl⟩ := Option.isSome_iff_exists.1 h
    exact List.mem_map.2 ⟨_, getP_mem hl, rfl⟩
set_option maxHeartbeats 1000000 in
set_option maxRecDepth 100000 in
theorem poolGet_any {w : World} {b m n : Nat} {L : PL} (d : PoolAt w b m L n) (x : Int) (hx : -9223372036854775808 ≤ x ∧ x ≤ 9223372036854775807) :
    Calls Try.prog 9 #[.pointer (some ⟨b, 0, none⟩), .int .i64 x] w fun e w' => e = .returned (.tuple #[.string ⟨(getV L x).toArray⟩, .int .i64 (getE L x)]) ∧ Below w.heap.size w w' := by
  have c0 := d.c0
  obtain ⟨D, ho, hh, hv⟩ := d.map
  have hkey : keyOf Try.prog 3 (.int .i64 x) = some (kI x) := Maps.keyOf_int_mk Try.underlying3 (by simp [Lit.wf, IntKind.min, IntKind.max, IntKind.signed, IntKind.bits]; omega)
  have HK := Lib.hid hkey
  have hZ : ∀ W : World, (zeroValue 55).run Try.prog W = .ok (.agg #[.string ⟨#[]⟩]) W := zDat
  have HZ := Lib.hid hZ
  cases hg : getP L x with
  | some l =>
    have hhas : Maps.has D (kI x) = true := (hh x).2 (getP_has.2 (by rw [hg]; rfl))
    have hat := hv _ (getP_mem hg)
    have HG : Hid (∀ v ps, datElem v = some (D.atKey (kI x) (.lit (.string [])), ps) → v = .agg #[.string ⟨l.toArray⟩]) := Lib.hid (fun v ps hv => by
      obtain ⟨s, hv', hz⟩ := datElem_inv hv
      rw [hat] at hz
      injection hz with hz _
      injection hz with hz
      injection hz with hz
      rw [hv', show l = s.data.toList from hz, Array.toArray_toList])
    rw [show getV L x = l by unfold getV; rw [hg]; rfl, show getE L x = 0 by unfold getE; rw [hg]; rfl]
    have HHas := Lib.hid hhas
    clear d hh hv hhas hat hkey hg hx hZ
    go_enter Try.func9, Try.ntmps9
    go_wp2_with (at_lookup; refine wpList_lookup_own_ok _ rfl _ _ 48 rfl 3 55 intKP Try.underlying48 datElem (HZ.out _) _ [] (datElem_mk ⟨#[]⟩) m (Maps.size D) D rfl ho _ _ rfl HK.out ?_; intro v ps hv; have hv2 := HG.out v ps hv; subst hv2; clear hv; rw [HHas.out])
    go_ret2
    exact ⟨rfl, below1P w _⟩
  | none =>
    have hhas : Maps.has D (kI x) = false := by
      cases hc : Maps.has D (kI x)
      · rfl
      · have := getP_has.1 ((hh x).1 hc); rw [hg] at this; cases this
    have HG : Hid (∀ v ps, datElem v = some (D.atKey (kI x) (.lit (.string [])), ps) → v = .agg #[.string ⟨#[]⟩]) := Lib.hid (fun v ps hv => by
      obtain ⟨s, hv', hz⟩ := datElem_inv hv
      rw [atKey_of_not_has hhas] at hz
      injection hz with hz _
      injection hz with hz
      injection hz with hz
      rw [hv', show s = ⟨#[]⟩ from ByteArray.ext (Array.ext' hz.symm)])
    rw [show getV L x = [] by unfold getV; rw [hg]; rfl, show getE L x = 3 by unfold getE; rw [hg]; rfl]
    have HHas := Lib.hid hhas
    clear d hh hv hhas hkey hg hx hZ
    go_enter Try.func9, Try.ntmps9
    go_wp2_with (at_lookup; refine wpList_lookup_own_ok _ rfl _ _ 48 rfl 3 55 intKP Try.underlying48 datElem (HZ.out _) _ [] (datElem_mk ⟨#[]⟩) m (Maps.size D) D rfl ho _ _ rfl HK.out ?_; intro v ps hv; have hv2 := HG.out v ps hv; subst hv2; clear hv; rw [HHas.out])
    go_ret2
    exact ⟨rfl, below1P w _⟩
end Go.Proofs.Ytmnjcmpikbihaaa
