/- Slices of the acts of layer 8 that come in. -/
import Derived.Test.YtjhpheepimbbdaaGreatDoorZActs
namespace Go.Proofs.YtjhpheepimbbdaaGreatDoor
open Go.RowKit Go.Joins
open Go.Deep (open_slice choose_lt)

/-- An act that came in. -/
structure AM8 where
  kind : Int
  pos : Int
  text : ByteArray
  num : Int
  by' : Int
def AM8.none : AM8 := ⟨0, 0, ⟨#[]⟩, 0, 0⟩
/-- An act, as its cells read from place o of block b on. -/
structure Act8At (w : World) (b o : Nat) (x : AM8) : Prop where
  c0 : w.cell? ⟨b, o, .none⟩ = some (.int .i64 x.kind)
  c1 : w.cell? ⟨b, o + 1, .none⟩ = some (.int .i64 x.pos)
  c2 : w.cell? ⟨b, o + 2, .none⟩ = some (.string x.text)
  c3 : w.cell? ⟨b, o + 3, .none⟩ = some (.int .i64 x.num)
  c4 : w.cell? ⟨b, o + 4, .none⟩ = some (.int .u32 x.by')
  w0 : W64 x.kind
  w1 : W64 x.pos
  w3 : W64 x.num
  w4 : 0 ≤ x.by' ∧ x.by' < 4294967296
theorem Act8At.below {B : Nat} {w w' : World} {b o : Nat} {x : AM8} (a : Act8At w b o x) (hb : Below B w w') (hB : w.heap.size ≤ B) (hlt : b < w.heap.size) : Act8At w' b o x := by
  have h (q : Nat) : w'.cell? ⟨b, q, .none⟩ = w.cell? ⟨b, q, .none⟩ := hb.cell (p := ⟨b, q, .none⟩) (by show b < B; omega)
  exact ⟨(h _).trans a.c0, (h _).trans a.c1, (h _).trans a.c2, (h _).trans a.c3, (h _).trans a.c4, a.w0, a.w1, a.w3, a.w4⟩
/-- A slice that reads as these acts. -/
def Acts8 (w : World) (v : Value) (L : List AM8) : Prop :=
  ∃ A cap, v = .slice A L.length cap ∧ L.length ≤ cap ∧ cap ≤ maxLen ∧ (L = [] ∨ ∃ b off, A = some ⟨b, off, .none⟩ ∧ b < w.heap.size ∧ ∀ j, j < L.length → Act8At w b (off + j * 5) (L.getD j AM8.none))
theorem acts8_of {H : Type} {enc : TypeId × Value → H} {P : Program} {w : World} {base : Nat} {held : Bool} {fuel t e : Nat} {f0 f1 f2 f3 f4 : Field} {A : Option Addr} {len cap : Nat} {x : DataW H × List MemPlace}
    (ht : P.underlying t = some (.slice e)) (he : P.underlying e = some (.struct #[f0, f1, f2, f3, f4])) (hC : P.cellsOf e = 5)
    (o : f0.offset = 0 ∧ f1.offset = 1 ∧ f2.offset = 2 ∧ f3.offset = 3 ∧ f4.offset = 4)
    (c : P.cellsOf f0.type = 1 ∧ P.cellsOf f1.type = 1 ∧ P.cellsOf f2.type = 1 ∧ P.cellsOf f3.type = 1 ∧ P.cellsOf f4.type = 1)
    (u0 : P.underlying f0.type = some (.int .i64)) (u1 : P.underlying f1.type = some (.int .i64)) (u2 : P.underlying f2.type = some .string)
    (u3 : P.underlying f3.type = some (.int .i64)) (u4 : P.underlying f4.type = some (.int .u32))
    (h : DataW.trod enc P w base (fun _ => true) held fuel t (Value.slice A len cap).cells.toList = some x) : ∃ L, Acts8 w (.slice A len cap) L := by
  rcases open_slice ht h with ⟨hcs, _⟩ | ⟨a, len', cap', m, n, D, Pl, hcs, _, hl, hm, hmm, _, hi⟩
  · simp [Value.cells] at hcs
    obtain ⟨rfl, rfl, rfl⟩ := hcs
    exact ⟨[], .none, 0, rfl, Nat.le_refl _, Nat.zero_le _, .inl rfl⟩
  · simp [Value.cells] at hcs
    obtain ⟨rfl, rfl, rfl⟩ := hcs
    simp only [if_true] at hmm
    by_cases h0 : len = 0
    · exact ⟨[], some a, cap, by rw [h0]; rfl, Nat.zero_le _, hm, .inl rfl⟩
    obtain ⟨b, off, rfl, hb⟩ : ∃ b off, a = ⟨b, off, .none⟩ ∧ b < w.heap.size := by
      obtain ⟨cs', h1, _⟩ := hi 0 (by omega)
      obtain ⟨_, hlen, hcell⟩ := World.cells?_some h1
      have h2 := hcell 0 (by omega)
      rw [Nat.zero_mul, List.getElem?_eq_getElem (by omega)] at h2
      have e : a.add 0 = a := by unfold Addr.add; simp
      rw [e] at h2
      exact adr_plain h2
    have each : ∀ i, i < len → ∃ y : AM8, Act8At w b (off + i * 5) y := by
      intro i hil
      obtain ⟨cs', h1, h2⟩ := hi i (by omega)
      rw [hC] at h1
      obtain ⟨_, hlen, hcell⟩ := World.cells?_some h1
      obtain ⟨xs, n', _, _, _, hxl, hf⟩ := DataW.trod_struct he h2
      obtain ⟨o0, o1, o2, o3, o4⟩ := o
      obtain ⟨c0, c1, c2, c3, c4⟩ := c
      match xs, hxl, cs', hlen with
      | [y0, y1, y2, y3, y4], _, [v0, v1, v2, v3, v4], _ =>
        have g0 := hf 0 f0 rfl
        have g1 := hf 1 f1 rfl
        have g2 := hf 2 f2 rfl
        have g3 := hf 3 f3 rfl
        have g4 := hf 4 f4 rfl
        simp [o0, o1, o2, o3, o4, c0, c1, c2, c3, c4] at g0 g1 g2 g3 g4
        have e0 := hcell 0 (by omega)
        have e1 := hcell 1 (by omega)
        have e2 := hcell 2 (by omega)
        have e3 := hcell 3 (by omega)
        have e4 := hcell 4 (by omega)
        rw [adr_add, adr_add] at e0 e1 e2 e3 e4
        obtain ⟨z0, hz0, _, q0⟩ := DataW.trod_int u0 g0
        obtain ⟨z1, hz1, _, q1⟩ := DataW.trod_int u1 g1
        obtain ⟨z2, hz2, _⟩ := DataW.trod_string u2 g2
        obtain ⟨z3, hz3, _, q3⟩ := DataW.trod_int u3 g3
        obtain ⟨z4, hz4, _, q4⟩ := DataW.trod_int u4 g4
        injection hz0 with hz0 _; injection hz1 with hz1 _; injection hz2 with hz2 _; injection hz3 with hz3 _; injection hz4 with hz4 _
        subst hz0 hz1 hz2 hz3 hz4
        simp only [List.getElem?_cons_zero, List.getElem?_cons_succ] at e0 e1 e2 e3 e4
        refine ⟨⟨z0, z1, z2, z3, z4⟩, e0, e1, e2, e3, e4, w64_of_wf q0, w64_of_wf q1, w64_of_wf q3, ?_⟩
        simp [Lit.wf, IntKind.min, IntKind.max, IntKind.signed, IntKind.bits] at q4
        show 0 ≤ z4 ∧ z4 < 4294967296
        omega
    have : Inhabited AM8 := ⟨AM8.none⟩
    obtain ⟨q, hq⟩ := choose_lt each
    have hlen : ((List.range len).map q).length = len := by simp
    refine ⟨(List.range len).map q, some ⟨b, off, .none⟩, cap, by rw [hlen], by rw [hlen]; exact hl, hm, .inr ⟨b, off, rfl, hb, fun j hj => ?_⟩⟩
    rw [hlen] at hj
    have e : ((List.range len).map q).getD j AM8.none = q j := by simp [List.getD, hj]
    rw [e]
    exact hq j hj
end Go.Proofs.YtjhpheepimbbdaaGreatDoor
