/- Slices of acts, and of bools, that come in. Places that wait, what a crash keeps of them; Erase at any place; numbers that lie anywhere. -/
import Derived.Test.YtjhpheepimbbdaaGreatDoorZDevE
import Derived.Test.YtjhpheepimbbdaaGreatDoorZGeoA
import Derived.OpenShut
import Derived.Deep.Slices
import Derived.Deep.Grids
import Derived.Lib.SmallJoins
namespace Go.Proofs.YtjhpheepimbbdaaGreatDoor
open Go.RowKit Go.Joins
open Go.Deep (open_bools boolRow open_slice choose_lt)

/-- A slice that reads as these bools. -/
def BoolsS (w : World) (v : Value) (Q : List Bool) : Prop :=
  ∃ A cap, v = .slice A Q.length cap ∧ Q.length ≤ cap ∧ cap ≤ maxLen ∧ (Q = [] ∨ ∃ b off, A = some ⟨b, off, none⟩ ∧ b < w.heap.size ∧ ∀ j, j < Q.length → w.cell? ⟨b, off + j, none⟩ = some (.bool (Q.getD j false)))
theorem BoolsS.below {B : Nat} {w w' : World} {v : Value} {Q : List Bool} (k : BoolsS w v Q) (hb : Below B w w') (hB : w.heap.size ≤ B) : BoolsS w' v Q := by
  obtain ⟨A, cap, hv, h1, h2, h3⟩ := k
  refine ⟨A, cap, hv, h1, h2, ?_⟩
  rcases h3 with h3 | ⟨b, off, hA, hlt, hc⟩
  · exact .inl h3
  · exact .inr ⟨b, off, hA, Nat.lt_of_lt_of_le hlt hb.size, fun j hj => (hb.cell (p := ⟨b, off + j, none⟩) (by show b < B; omega)).trans (hc j hj)⟩
/-- What came in is none of a younger device's blocks. -/
theorem BoolsS.at {w w' : World} {v : Value} {Q : List Bool} {h : DH} (k : BoolsS w v Q) (hb : Below w.heap.size w w') (hS : h.above w.heap.size) : BoolsAt w' h v Q := by
  obtain ⟨A, cap, hv, h1, h2, h3⟩ := k
  refine ⟨A, cap, hv, h1, (by unfold maxLen at h2; omega), ?_⟩
  rcases h3 with h3 | ⟨b, off, hA, hlt, hc⟩
  · exact .inl h3
  · exact .inr ⟨b, off, hA, Nat.lt_of_lt_of_le hlt hb.size, (fun e => by have := DH.above_S hS b e; omega), fun j hj => (hb.cell (p := ⟨b, off + j, none⟩) hlt).trans (hc j hj)⟩
theorem adr_add (b off j : Nat) : (⟨b, off, none⟩ : Addr).add j = ⟨b, off + j, none⟩ := by unfold Addr.add; split <;> simp_all
theorem adr_plain {w : World} {x : Addr} {v : Value} (h : w.cell? (x.add 0) = some v) : ∃ b off, x = ⟨b, off, none⟩ ∧ b < w.heap.size := by
  obtain ⟨b, off, spot⟩ := x
  have hspot : spot = none := by simpa [Addr.add] using World.cell?_spot h
  subst hspot
  exact ⟨b, off, rfl, by have := World.block_lt_of_cell? w _ h; simpa [Addr.add] using this⟩
theorem boolsS_of {H : Type} {enc : TypeId × Value → H} {P : Program} {w : World} {base : Nat} {held : Bool} {fuel t e : Nat} {A : Option Addr} {len cap : Nat} {x : DataW H × List MemPlace}
    (ht : P.underlying t = some (.slice e)) (he : P.underlying e = some .bool) (hc : P.cellsOf e = 1)
    (h : DataW.trod enc P w base (fun _ => true) held fuel t (Value.slice A len cap).cells.toList = some x) : ∃ Q, BoolsS w (.slice A len cap) Q := by
  rcases open_bools ht he hc h with ⟨hcs, _⟩ | ⟨a, len', cap', B, hcs, _, hl, hm, _, hcell⟩
  · simp [Value.cells] at hcs
    obtain ⟨rfl, rfl, rfl⟩ := hcs
    exact ⟨[], none, 0, rfl, Nat.le_refl _, Nat.zero_le _, .inl rfl⟩
  · simp [Value.cells] at hcs
    obtain ⟨rfl, rfl, rfl⟩ := hcs
    have hlen : ((List.range len).map B).length = len := by simp
    refine ⟨(List.range len).map B, some a, cap, by rw [hlen], by rw [hlen]; exact hl, hm, ?_⟩
    by_cases h0 : len = 0
    · left; subst h0; rfl
    · right
      obtain ⟨b, off, rfl, hb⟩ := adr_plain (hcell 0 (by omega))
      refine ⟨b, off, rfl, hb, fun j hj => ?_⟩
      rw [hlen] at hj
      have hc := hcell j (by omega)
      rw [adr_add] at hc
      rw [hc]
      simp [List.getD, hj]

/-- An act that came in. -/
structure AM where
  kind : Int
  pos : Int
  c : UInt8
  kv : Value
  keep : List Bool
  num : Int
  turn : Int
def AM.none : AM := ⟨0, 0, 0, .slice .none 0 0, [], 0, 0⟩
/-- An act, as its cells read from place o of block b on. -/
structure ActAt (w : World) (b o : Nat) (x : AM) : Prop where
  c0 : w.cell? ⟨b, o, .none⟩ = some (.int .i64 x.kind)
  c1 : w.cell? ⟨b, o + 1, .none⟩ = some (.int .i64 x.pos)
  c2 : w.cell? ⟨b, o + 2, .none⟩ = some (.int .u8 (x.c.toNat : Int))
  c3 : w.cell? ⟨b, o + 3, .none⟩ = some x.kv
  c4 : w.cell? ⟨b, o + 4, .none⟩ = some (.int .i64 x.num)
  c5 : w.cell? ⟨b, o + 5, .none⟩ = some (.int .u32 x.turn)
  k : BoolsS w x.kv x.keep
  w0 : W64 x.kind
  w1 : W64 x.pos
  w4 : W64 x.num
  w5 : 0 ≤ x.turn ∧ x.turn < 4294967296
theorem ActAt.below {B : Nat} {w w' : World} {b o : Nat} {x : AM} (a : ActAt w b o x) (hb : Below B w w') (hB : w.heap.size ≤ B) (hlt : b < w.heap.size) : ActAt w' b o x := by
  have h (q : Nat) : w'.cell? ⟨b, q, .none⟩ = w.cell? ⟨b, q, .none⟩ := hb.cell (p := ⟨b, q, .none⟩) (by show b < B; omega)
  exact ⟨(h _).trans a.c0, (h _).trans a.c1, (h _).trans a.c2, (h _).trans a.c3, (h _).trans a.c4, (h _).trans a.c5, a.k.below hb hB, a.w0, a.w1, a.w4, a.w5⟩
/-- A slice that reads as these acts. -/
def ActsS (w : World) (v : Value) (L : List AM) : Prop :=
  ∃ A cap, v = .slice A L.length cap ∧ L.length ≤ cap ∧ cap ≤ maxLen ∧ (L = [] ∨ ∃ b off, A = some ⟨b, off, .none⟩ ∧ b < w.heap.size ∧ ∀ j, j < L.length → ActAt w b (off + j * 6) (L.getD j AM.none))
theorem ActsS.below {B : Nat} {w w' : World} {v : Value} {L : List AM} (k : ActsS w v L) (hb : Below B w w') (hB : w.heap.size ≤ B) : ActsS w' v L := by
  obtain ⟨A, cap, hv, h1, h2, h3⟩ := k
  refine ⟨A, cap, hv, h1, h2, ?_⟩
  rcases h3 with h3 | ⟨b, off, hA, hlt, hc⟩
  · exact .inl h3
  · exact .inr ⟨b, off, hA, Nat.lt_of_lt_of_le hlt hb.size, fun j hj => (hc j hj).below hb hB hlt⟩
theorem actsS_of {H : Type} {enc : TypeId × Value → H} {P : Program} {w : World} {base : Nat} {held : Bool} {fuel t e : Nat} {f0 f1 f2 f3 f4 f5 : Field} {bt : Nat} {A : Option Addr} {len cap : Nat} {x : DataW H × List MemPlace}
    (ht : P.underlying t = some (.slice e)) (he : P.underlying e = some (.struct #[f0, f1, f2, f3, f4, f5])) (hC : P.cellsOf e = 6)
    (o : f0.offset = 0 ∧ f1.offset = 1 ∧ f2.offset = 2 ∧ f3.offset = 3 ∧ f4.offset = 4 ∧ f5.offset = 5)
    (c : P.cellsOf f0.type = 1 ∧ P.cellsOf f1.type = 1 ∧ P.cellsOf f2.type = 1 ∧ P.cellsOf f3.type = 1 ∧ P.cellsOf f4.type = 1 ∧ P.cellsOf f5.type = 1)
    (u0 : P.underlying f0.type = some (.int .i64)) (u1 : P.underlying f1.type = some (.int .i64)) (u2 : P.underlying f2.type = some (.int .u8)) (u3 : P.underlying f3.type = some (.slice bt)) (ub : P.underlying bt = some .bool) (cb : P.cellsOf bt = 1)
    (u4 : P.underlying f4.type = some (.int .i64)) (u5 : P.underlying f5.type = some (.int .u32))
    (h : DataW.trod enc P w base (fun _ => true) held fuel t (Value.slice A len cap).cells.toList = some x) : ∃ L, ActsS w (.slice A len cap) L := by
  rcases open_slice ht h with ⟨hcs, _⟩ | ⟨a, len', cap', m, n, D, Pl, hcs, _, hl, hm, hmm, _, hi⟩
  · simp [Value.cells] at hcs
    obtain ⟨rfl, rfl, rfl⟩ := hcs
    exact ⟨[], .none, 0, rfl, Nat.le_refl _, Nat.zero_le _, .inl rfl⟩
  · simp [Value.cells] at hcs
    obtain ⟨rfl, rfl, rfl⟩ := hcs
    simp only [if_true] at hmm
    by_cases h0 : len = 0
    · exact ⟨[], some a, cap, by rw [h0]; rfl, Nat.zero_le _, hm, .inl rfl⟩
    obtain ⟨b, off, rfl, hb⟩ : ∃ b off, a = ⟨b, off, .none⟩ ∧ b < w.heap.size := by
      obtain ⟨cs', h1, _⟩ := hi 0 (by omega)
      obtain ⟨_, hlen, hcell⟩ := World.cells?_some h1
      have h2 := hcell 0 (by omega)
      rw [Nat.zero_mul, List.getElem?_eq_getElem (by omega)] at h2
      have e : a.add 0 = a := by unfold Addr.add; simp
      rw [e] at h2
      exact adr_plain h2
    have each : ∀ i, i < len → ∃ y : AM, ActAt w b (off + i * 6) y := by
      intro i hil
      obtain ⟨cs', h1, h2⟩ := hi i (by omega)
      rw [hC] at h1
      obtain ⟨_, hlen, hcell⟩ := World.cells?_some h1
      obtain ⟨xs, n', _, _, _, hxl, hf⟩ := DataW.trod_struct he h2
      obtain ⟨o0, o1, o2, o3, o4, o5⟩ := o
      obtain ⟨c0, c1, c2, c3, c4, c5⟩ := c
      match xs, hxl, cs', hlen with
      | [y0, y1, y2, y3, y4, y5], _, [v0, v1, v2, v3, v4, v5], _ =>
        have g0 := hf 0 f0 rfl
        have g1 := hf 1 f1 rfl
        have g2 := hf 2 f2 rfl
        have g3 := hf 3 f3 rfl
        have g4 := hf 4 f4 rfl
        have g5 := hf 5 f5 rfl
        simp [o0, o1, o2, o3, o4, o5, c0, c1, c2, c3, c4, c5] at g0 g1 g2 g3 g4 g5
        have e0 := hcell 0 (by omega)
        have e1 := hcell 1 (by omega)
        have e2 := hcell 2 (by omega)
        have e3 := hcell 3 (by omega)
        have e4 := hcell 4 (by omega)
        have e5 := hcell 5 (by omega)
        rw [adr_add, adr_add] at e0 e1 e2 e3 e4 e5
        obtain ⟨z0, hz0, _, q0⟩ := DataW.trod_int u0 g0
        obtain ⟨z1, hz1, _, q1⟩ := DataW.trod_int u1 g1
        obtain ⟨z2, hz2, _, q2⟩ := DataW.trod_int u2 g2
        obtain ⟨z4, hz4, _, q4⟩ := DataW.trod_int u4 g4
        obtain ⟨z5, hz5, _, q5⟩ := DataW.trod_int u5 g5
        obtain ⟨Q, kv, hkv, hQ⟩ : ∃ Q kv, v3 = kv ∧ BoolsS w kv Q := by
          have hs : ∃ A3 l3 c3, v3 = .slice A3 l3 c3 := by
            rcases open_bools u3 ub cb g3 with ⟨hcs, _⟩ | ⟨a3, l3, k3, _, hcs, _⟩
            · injection hcs with hcs _; exact ⟨_, _, _, hcs⟩
            · injection hcs with hcs _; exact ⟨_, _, _, hcs⟩
          obtain ⟨A3, l3, k3, rfl⟩ := hs
          obtain ⟨Q, hQ⟩ := boolsS_of (A := A3) (len := l3) (cap := k3) u3 ub cb (by simpa [Value.cells] using g3)
          exact ⟨Q, _, rfl, hQ⟩
        injection hz0 with hz0 _; injection hz1 with hz1 _; injection hz2 with hz2 _; injection hz4 with hz4 _; injection hz5 with hz5 _
        subst hz0 hz1 hz2 hz4 hz5 hkv
        have hc : z2 = ((UInt8.ofNat z2.toNat).toNat : Int) := by
          simp [Lit.wf, IntKind.min, IntKind.max, IntKind.signed, IntKind.bits] at q2
          rw [UInt8.toNat_ofNat']; omega
        simp only [List.getElem?_cons_zero, List.getElem?_cons_succ] at e0 e1 e2 e3 e4 e5
        rw [hc] at e2
        refine ⟨⟨z0, z1, UInt8.ofNat z2.toNat, v3, Q, z4, z5⟩, e0, e1, e2, e3, e4, e5, hQ, w64_of_wf q0, w64_of_wf q1, w64_of_wf q4, ?_⟩
        simp [Lit.wf, IntKind.min, IntKind.max, IntKind.signed, IntKind.bits] at q5
        show 0 ≤ z5 ∧ z5 < 4294967296
        omega
    have : Inhabited AM := ⟨AM.none⟩
    obtain ⟨q, hq⟩ := choose_lt each
    have hlen : ((List.range len).map q).length = len := by simp
    refine ⟨(List.range len).map q, some ⟨b, off, .none⟩, cap, by rw [hlen], by rw [hlen]; exact hl, hm, .inr ⟨b, off, rfl, hb, fun j hj => ?_⟩⟩
    rw [hlen] at hj
    have e : ((List.range len).map q).getD j AM.none = q j := by simp [List.getD, hj]
    rw [e]
    exact hq j hj
end Go.Proofs.YtjhpheepimbbdaaGreatDoor
namespace Go.Proofs.YtjhpheepimbbdaaGreatDoor
open Go.RowKit Go.Maps

/-! ### the places that wait, and what a crash keeps of them -/
def fl (p : Nat → Bool) (n : Nat) : List Nat := (List.range n).filter p
theorem fl_succ (p : Nat → Bool) (n : Nat) : fl p (n + 1) = fl p n ++ (if p n then [n] else []) := by
  unfold fl
  rw [List.range_succ, List.filter_append]
  congr 1
  cases h : p n <;> simp [h]
theorem fl_lt {p : Nat → Bool} {n k : Nat} (h : k ∈ fl p n) : k < n ∧ p k = true := by
  unfold fl at h
  rw [List.mem_filter, List.mem_range] at h
  exact h
theorem fl_at {p : Nat → Bool} {i : Nat} (hp : p i = true) : ∀ n, i < n → (fl p i).length < (fl p n).length ∧ (fl p n).getD (fl p i).length 0 = i
  | 0, h => by omega
  | n + 1, h => by
    rw [fl_succ]
    by_cases e : i = n
    · subst e
      rw [if_pos hp]
      exact ⟨by simp, by simp [List.getD]⟩
    · obtain ⟨h1, h2⟩ := fl_at hp n (by omega)
      refine ⟨by rw [List.length_append]; omega, ?_⟩
      rw [List.getD, List.getElem?_append_left h1]
      exact h2
theorem kept_none {L : List Nat} {Q : List Bool} {i : Nat} (h : i ∉ L) : keptB L Q i = false := by
  unfold keptB
  rw [List.any_eq_false]
  intro x hx
  have h1 := (List.of_mem_zip (a := x.1) (b := x.2) hx).1
  have : x.1 ≠ i := fun e => h (e ▸ h1)
  simp [this]
theorem kept_fl {p : Nat → Bool} {Q : List Bool} {i : Nat} (hp : p i = true) : ∀ n, i < n → keptB (fl p n) Q i = (decide ((fl p i).length < Q.length) && Q.getD (fl p i).length false)
  | 0, h => by omega
  | n + 1, h => by
    rw [fl_succ]
    by_cases e : i = n
    · subst e
      rw [if_pos hp]
      have h0 : keptB (fl p i) Q i = false := kept_none (fun m => by have := (fl_lt m).1; omega)
      unfold keptB at h0 ⊢
      rw [zip_snoc, List.any_append, h0, Bool.false_or]
      by_cases g : (fl p i).length < Q.length
      · rw [if_pos g]; simp [g]
      · rw [if_neg g]; simp [g]
    · have ih := kept_fl (Q := Q) hp n (by omega)
      by_cases q : p n = true
      · rw [if_pos q]
        unfold keptB at ih ⊢
        rw [zip_snoc, List.any_append, ih]
        by_cases g : (fl p n).length < Q.length
        · rw [if_pos g]; simp [Ne.symm e]
        · rw [if_neg g]; simp
      · rw [if_neg q, List.append_nil]; exact ih
def eraseE (M : DM) (a : Int) : Int := if hasB M.n a = true then 0 else 1
def eraseM (M : DM) (a : Int) : DM := if hasB M.n a = true then { M with bad := upd M.bad a.toNat true } else M
theorem devErase_any {w : World} {h : DH} {M : DM} (d : DevAt w h M) (a : Int) :
    Calls Tryz.prog 22 #[.pointer (some ⟨h.b, 0, none⟩), .int .i64 a] w fun e w' => e = .returned (.int .i64 (eraseE M a)) ∧ DevAt w' h (eraseM M a) ∧ Ap h.S w w' := by
  unfold eraseE eraseM
  by_cases g : hasB M.n a = true
  · rw [if_pos g, if_pos g]
    have g' := g
    unfold hasB at g'
    have g'' := of_decide_eq_true g'
    obtain ⟨i, rfl⟩ : ∃ i : Nat, a = (i : Int) := ⟨a.toNat, by omega⟩
    exact devErase_yes d i (by omega)
  · rw [if_neg g, if_neg g]
    exact (devErase_no d a (by simpa using g)).mono fun e w' ⟨he, hw⟩ => ⟨he, by rw [← hw]; exact d, by rw [← hw]; exact Ap.refl _⟩
/-- A slice that reads as these numbers, wherever it lies. -/
def IntsR (w : World) (v : Value) (L : List Int) : Prop :=
  ∃ A cap, v = .slice A L.length cap ∧ L.length ≤ cap ∧ cap ≤ 9223372036854775807 ∧ (L = [] ∨ ∃ b off, A = some ⟨b, off, none⟩ ∧ ∀ j, j < L.length → w.cell? ⟨b, off + j, none⟩ = some (.int .i64 (L.getD j 0)))
theorem IntsOf.toR {w : World} {base : Nat} {v : Value} {L : List Int} (h : IntsOf w base v L) : IntsR w v L := by
  rcases h.reads with ⟨rfl, rfl⟩ | ⟨g, cap, rfl, _, _, h1, h2, h3⟩
  · exact ⟨none, 0, rfl, Nat.le_refl _, by omega, .inl rfl⟩
  · exact ⟨_, cap, rfl, h1, h2, .inr ⟨g, 0, rfl, fun j hj => by rw [Nat.zero_add]; exact h3 j hj⟩⟩
end Go.Proofs.YtjhpheepimbbdaaGreatDoor
