/- Charts that come in. Charts: the acts of ChartLast that come in. -/
import Derived.Test.YtjocdbacdbhemaaEntSV
import Derived.Test.YtjocdbacdbhemaaChtMB
import Derived.Test.YtjocdbacdbhemaaChuA
namespace Go.Proofs.Ytjocdbacdbhemaa
open Go.RowKit Go.Joins Go.WideShapes Go.ChangeShapes
open Go.Deep (open_slice choose_lt)

theorem ek_T : Try.prog.cellsOf 84 = 2 := by kernel_rfl
theorem ek_C : Try.prog.cellsOf 44 = 2 := by kernel_rfl
theorem ek_L : Try.prog.cellsOf 36 = 1 := by kernel_rfl
theorem ek_TS : Try.prog.cellsOf 42 = 1 := by kernel_rfl
set_option maxRecDepth 100000 in
theorem tab_trod {H : Type} {enc : TypeId × Value → H} {w : World} {base : Nat} {held : Bool} {fuel : Nat} {c0 c1 : Value} {x : DataW H × List MemPlace}
    (hf : DataW.trod enc Try.prog w base (fun _ => true) held fuel 84 [c0, c1] = some x) : ∃ t : TB, c0 = .int .i64 t.at' ∧ EntsS w c1 t.l := by
  obtain ⟨y0, y1, n, h0, h1⟩ := est_struct2 Try.underlying84 hf
  simp only [ek_I, ek_L, List.drop_zero, List.drop_succ_cons, List.take_succ_cons, List.take_zero] at h0 h1
  obtain ⟨x0, e0, _, _⟩ := DataW.trod_int Try.underlying3 h0
  simp only [List.cons.injEq, and_true] at e0
  obtain ⟨A, len, cap, rfl⟩ : ∃ A len cap, c1 = .slice A len cap := by
    rcases open_slice Try.underlying36 h1 with ⟨hcs, _⟩ | ⟨a, len, cap, _, _, _, _, hcs, _⟩
    · simp only [List.cons.injEq, and_true] at hcs
      exact ⟨_, _, _, hcs⟩
    · simp only [List.cons.injEq, and_true] at hcs
      exact ⟨_, _, _, hcs⟩
  obtain ⟨L, hL⟩ := entsS_of Try.underlying36 h1
  exact ⟨⟨x0, L⟩, e0, hL⟩
set_option maxRecDepth 100000 in
theorem tabsS_of {H : Type} {enc : TypeId × Value → H} {w : World} {base : Nat} {held : Bool} {fuel t : Nat} {A : Option Addr} {len cap : Nat} {x : DataW H × List MemPlace}
    (ht : Try.prog.underlying t = some (.slice 84))
    (h : DataW.trod enc Try.prog w base (fun _ => true) held fuel t (Value.slice A len cap).cells.toList = some x) : ∃ T, TabsS w (.slice A len cap) T := by
  rcases open_slice ht h with ⟨hcs, _⟩ | ⟨a, len', cap', m, n, D, Pl, hcs, _, hl, hm, hmm, _, hi⟩
  · simp [Value.cells] at hcs
    obtain ⟨rfl, rfl, rfl⟩ := hcs
    exact ⟨[], .none, 0, rfl, Nat.le_refl _, Nat.zero_le _, .inl rfl⟩
  · simp [Value.cells] at hcs
    obtain ⟨rfl, rfl, rfl⟩ := hcs
    simp only [if_true] at hmm
    by_cases h0 : len = 0
    · exact ⟨[], some a, cap, by rw [h0]; rfl, Nat.zero_le _, hm, .inl rfl⟩
    obtain ⟨b, off, rfl, hb⟩ : ∃ b off, a = ⟨b, off, .none⟩ ∧ b < w.heap.size := by
      obtain ⟨cs', h1, _⟩ := hi 0 (by omega)
      obtain ⟨_, hlen, hcell⟩ := World.cells?_some h1
      have h2 := hcell 0 (by rw [ek_T]; omega)
      rw [Nat.zero_mul, List.getElem?_eq_getElem (by rw [hlen, ek_T]; omega)] at h2
      have e : a.add 0 = a := by unfold Addr.add; simp
      rw [e] at h2
      exact eadr_plain h2
    have each : ∀ i, i < len → ∃ y : TB, TabAt w b (off + i * 2) y := by
      intro i hil
      obtain ⟨cs', h1, h2⟩ := hi i (by omega)
      rw [ek_T] at h1
      obtain ⟨_, hlen, hcell⟩ := World.cells?_some h1
      match cs', hlen with
      | [v0, v1], _ =>
        have e0 := hcell 0 (by omega)
        have e1 := hcell 1 (by omega)
        rw [eadr_add, eadr_add] at e0 e1
        obtain ⟨p, rfl, hp⟩ := tab_trod h2
        simp only [List.getElem?_cons_zero, List.getElem?_cons_succ] at e0 e1
        exact ⟨p, v1, e0, e1, hp⟩
    have : Inhabited TB := ⟨TB.zero⟩
    obtain ⟨q, hq⟩ := choose_lt each
    have hlen : ((List.range len).map q).length = len := by simp
    refine ⟨(List.range len).map q, some ⟨b, off, .none⟩, cap, by rw [hlen], by rw [hlen]; exact hl, hm, .inr ⟨b, off, rfl, hb, fun j hj => ?_⟩⟩
    rw [hlen] at hj
    have e : ((List.range len).map q).getD j TB.zero = q j := by simp [List.getD, hj]
    rw [e]
    exact hq j hj
/-- A value that is a map. -/
def ChtVal (w : World) (v : Value) : Prop := ∃ (B : Int) (T : List TB) (tv : Value), v = .agg #[.int .i64 B, tv] ∧ TabsS w tv T
theorem array2 {cs : Array Value} (h : cs.size = 2) : ∃ a b, cs = #[a, b] := by
  obtain ⟨l⟩ := cs
  match l, h with
  | [a, b], _ => exact ⟨a, b, rfl⟩
set_option maxRecDepth 100000 in
theorem chtVal_of {H : Type} {enc : TypeId × Value → H} {w : World} {base : Nat} {held : Bool} {r : Reach} {b0 : Nat} {v : Value} {d : DataW H} {p : List MemPlace}
    (hv : Value.okWide Try.prog w r b0 44 v) (h : DataW.Trod enc Try.prog w base (fun _ => true) held 44 v d p) : ChtVal w v := by
  obtain ⟨cs, rfl, hsz⟩ := okWide_struct Try.underlying44 hv
  obtain ⟨c0, c1, rfl⟩ := array2 (hsz.trans ek_C)
  obtain ⟨fuel, hf⟩ := h
  have hf' : DataW.trod enc Try.prog w base (fun _ => true) held fuel 44 [c0, c1] = some (d, p) := hf
  obtain ⟨y0, y1, n, h0, h1⟩ := est_struct2 Try.underlying44 hf'
  simp only [ek_I, ek_TS, List.drop_zero, List.drop_succ_cons, List.take_succ_cons, List.take_zero] at h0 h1
  obtain ⟨x0, e0, _, _⟩ := DataW.trod_int Try.underlying3 h0
  simp only [List.cons.injEq, and_true] at e0
  obtain ⟨A, len, cap, rfl⟩ : ∃ A len cap, c1 = .slice A len cap := by
    rcases open_slice Try.underlying42 h1 with ⟨hcs, _⟩ | ⟨a, len, cap, _, _, _, _, hcs, _⟩
    · simp only [List.cons.injEq, and_true] at hcs
      exact ⟨_, _, _, hcs⟩
    · simp only [List.cons.injEq, and_true] at hcs
      exact ⟨_, _, _, hcs⟩
  obtain ⟨T, hT⟩ := tabsS_of Try.underlying42 h1
  exact ⟨x0, T, _, by rw [e0], hT⟩
end Go.Proofs.Ytjocdbacdbhemaa
namespace Go.Proofs.Ytjocdbacdbhemaa
open Go.RowKit Go.Joins Go.WideShapes Go.ChangeShapes
open Go.Deep (open_slice choose_lt)

/-- An act. -/
structure A14 where
  kind : Int
  b : Int
  e : EN
  w : EN
def A14.zero : A14 := ⟨0, 0, EN.zero, EN.zero⟩
/-- An act's ten cells. -/
structure ActAt (W : World) (g o : Nat) (a : A14) : Prop where
  c0 : W.cell? ⟨g, o, none⟩ = some (.int .i64 a.kind)
  c1 : W.cell? ⟨g, o + 1, none⟩ = some (.int .i64 a.b)
  c2 : W.cell? ⟨g, o + 2, none⟩ = some (.int .u8 a.e.kind)
  c3 : W.cell? ⟨g, o + 3, none⟩ = some (.int .i64 a.e.st)
  c4 : W.cell? ⟨g, o + 4, none⟩ = some (.int .i64 a.e.mb)
  c5 : W.cell? ⟨g, o + 5, none⟩ = some (.int .i64 a.e.fr)
  c6 : W.cell? ⟨g, o + 6, none⟩ = some (.int .u8 a.w.kind)
  c7 : W.cell? ⟨g, o + 7, none⟩ = some (.int .i64 a.w.st)
  c8 : W.cell? ⟨g, o + 8, none⟩ = some (.int .i64 a.w.mb)
  c9 : W.cell? ⟨g, o + 9, none⟩ = some (.int .i64 a.w.fr)
theorem ActAt.below {B : Nat} {W W' : World} {g o : Nat} {a : A14} (k : ActAt W g o a) (hb : Below B W W') (hlt : g < B) : ActAt W' g o a := by
  have h (q : Nat) : W'.cell? ⟨g, q, none⟩ = W.cell? ⟨g, q, none⟩ := hb.cell (p := ⟨g, q, none⟩) hlt
  exact ⟨(h _).trans k.c0, (h _).trans k.c1, (h _).trans k.c2, (h _).trans k.c3, (h _).trans k.c4, (h _).trans k.c5, (h _).trans k.c6, (h _).trans k.c7, (h _).trans k.c8, (h _).trans k.c9⟩
/-- A slice that reads as these acts. -/
def A14S (w : World) (v : Value) (L : List A14) : Prop :=
  ∃ A cap, v = .slice A L.length cap ∧ L.length ≤ cap ∧ cap ≤ maxLen ∧ (L = [] ∨ ∃ b off, A = some ⟨b, off, none⟩ ∧ b < w.heap.size ∧ ∀ j, j < L.length → ActAt w b (off + j * 10) (L.getD j A14.zero))
theorem est_struct4 {H : Type} {enc : TypeId × Value → H} {P : Program} {w : World} {base : Nat} {spare : Nat → Bool} {held : Bool} {t : TypeId} {f0 f1 f2 f3 : Field} {fuel : Nat} {cs : List Value} {x : DataW H × List MemPlace} (ht : P.underlying t = some (.struct #[f0, f1, f2, f3])) (h : DataW.trod enc P w base spare held fuel t cs = some x) :
    ∃ y0 y1 y2 y3 n, DataW.trod enc P w base spare held n f0.type ((cs.drop f0.offset).take (P.cellsOf f0.type)) = some y0 ∧ DataW.trod enc P w base spare held n f1.type ((cs.drop f1.offset).take (P.cellsOf f1.type)) = some y1 ∧ DataW.trod enc P w base spare held n f2.type ((cs.drop f2.offset).take (P.cellsOf f2.type)) = some y2 ∧ DataW.trod enc P w base spare held n f3.type ((cs.drop f3.offset).take (P.cellsOf f3.type)) = some y3 := by
  obtain ⟨xs, n, _, rfl, hl, hlen, hf⟩ := DataW.trod_struct ht h
  match xs, hlen with
  | [y0, y1, y2, y3], _ => exact ⟨y0, y1, y2, y3, n, by simpa using hf 0 f0 rfl, by simpa using hf 1 f1 rfl, by simpa using hf 2 f2 rfl, by simpa using hf 3 f3 rfl⟩
theorem ek_A : Try.prog.cellsOf 61 = 10 := by kernel_rfl
set_option maxRecDepth 100000 in
theorem act_trod {H : Type} {enc : TypeId × Value → H} {w : World} {base : Nat} {spare : Nat → Bool} {held : Bool} {fuel : Nat} {c0 c1 c2 c3 c4 c5 c6 c7 c8 c9 : Value} {x : DataW H × List MemPlace}
    (hf : DataW.trod enc Try.prog w base spare held fuel 61 [c0, c1, c2, c3, c4, c5, c6, c7, c8, c9] = some x) : ∃ a : A14, [c0, c1, c2, c3, c4, c5, c6, c7, c8, c9] = [.int .i64 a.kind, .int .i64 a.b, .int .u8 a.e.kind, .int .i64 a.e.st, .int .i64 a.e.mb, .int .i64 a.e.fr, .int .u8 a.w.kind, .int .i64 a.w.st, .int .i64 a.w.mb, .int .i64 a.w.fr] := by
  obtain ⟨y0, y1, y2, y3, n, h0, h1, h2, h3⟩ := est_struct4 Try.underlying61 hf
  simp only [ek_E, ek_I, List.drop_zero, List.drop_succ_cons, List.take_succ_cons, List.take_zero] at h0 h1 h2 h3
  obtain ⟨x0, e0, _, _⟩ := DataW.trod_int Try.underlying3 h0
  obtain ⟨x1, e1, _, _⟩ := DataW.trod_int Try.underlying3 h1
  obtain ⟨p, rfl, rfl, rfl, rfl, _⟩ := ent_trod h2
  obtain ⟨r, rfl, rfl, rfl, rfl, _⟩ := ent_trod h3
  simp only [List.cons.injEq, and_true] at e0 e1
  exact ⟨⟨x0, x1, p, r⟩, by rw [e0, e1]⟩
set_option maxRecDepth 100000 in
theorem a14S_of {H : Type} {enc : TypeId × Value → H} {w : World} {base : Nat} {held : Bool} {fuel t : Nat} {A : Option Addr} {len cap : Nat} {x : DataW H × List MemPlace}
    (ht : Try.prog.underlying t = some (.slice 61))
    (h : DataW.trod enc Try.prog w base (fun _ => true) held fuel t (Value.slice A len cap).cells.toList = some x) : ∃ L, A14S w (.slice A len cap) L := by
  rcases open_slice ht h with ⟨hcs, _⟩ | ⟨a, len', cap', m, n, D, Pl, hcs, _, hl, hm, hmm, _, hi⟩
  · simp [Value.cells] at hcs
    obtain ⟨rfl, rfl, rfl⟩ := hcs
    exact ⟨[], .none, 0, rfl, Nat.le_refl _, Nat.zero_le _, .inl rfl⟩
  · simp [Value.cells] at hcs
    obtain ⟨rfl, rfl, rfl⟩ := hcs
    simp only [if_true] at hmm
    by_cases h0 : len = 0
    · exact ⟨[], some a, cap, by rw [h0]; rfl, Nat.zero_le _, hm, .inl rfl⟩
    obtain ⟨b, off, rfl, hb⟩ : ∃ b off, a = ⟨b, off, .none⟩ ∧ b < w.heap.size := by
      obtain ⟨cs', h1, _⟩ := hi 0 (by omega)
      obtain ⟨_, hlen, hcell⟩ := World.cells?_some h1
      have h2 := hcell 0 (by rw [ek_A]; omega)
      rw [Nat.zero_mul, List.getElem?_eq_getElem (by rw [hlen, ek_A]; omega)] at h2
      have e : a.add 0 = a := by unfold Addr.add; simp
      rw [e] at h2
      exact eadr_plain h2
    have each : ∀ i, i < len → ∃ y : A14, ActAt w b (off + i * 10) y := by
      intro i hil
      obtain ⟨cs', h1, h2⟩ := hi i (by omega)
      rw [ek_A] at h1
      obtain ⟨_, hlen, hcell⟩ := World.cells?_some h1
      match cs', hlen with
      | [v0, v1, v2, v3, v4, v5, v6, v7, v8, v9], _ =>
        obtain ⟨p, hp⟩ := act_trod h2
        simp only [List.cons.injEq, and_true] at hp
        obtain ⟨rfl, rfl, rfl, rfl, rfl, rfl, rfl, rfl, rfl, rfl⟩ := hp
        have hc (j : Nat) (hj : j < 10) := hcell j hj
        have e (j : Nat) : ((⟨b, off, none⟩ : Addr).add (i * 10)).add j = ⟨b, off + i * 10 + j, none⟩ := by rw [eadr_add, eadr_add]
        refine ⟨p, ?_, ?_, ?_, ?_, ?_, ?_, ?_, ?_, ?_, ?_⟩
        · exact (e 0 ▸ hc 0 (by omega))
        · exact (e 1 ▸ hc 1 (by omega))
        · exact (e 2 ▸ hc 2 (by omega))
        · exact (e 3 ▸ hc 3 (by omega))
        · exact (e 4 ▸ hc 4 (by omega))
        · exact (e 5 ▸ hc 5 (by omega))
        · exact (e 6 ▸ hc 6 (by omega))
        · exact (e 7 ▸ hc 7 (by omega))
        · exact (e 8 ▸ hc 8 (by omega))
        · exact (e 9 ▸ hc 9 (by omega))
    have : Inhabited A14 := ⟨A14.zero⟩
    obtain ⟨q, hq⟩ := choose_lt each
    have hlen : ((List.range len).map q).length = len := by simp
    refine ⟨(List.range len).map q, some ⟨b, off, .none⟩, cap, by rw [hlen], by rw [hlen]; exact hl, hm, .inr ⟨b, off, rfl, hb, fun j hj => ?_⟩⟩
    rw [hlen] at hj
    have e : ((List.range len).map q).getD j A14.zero = q j := by simp [List.getD, hj]
    rw [e]
    exact hq j hj
end Go.Proofs.Ytjocdbacdbhemaa
