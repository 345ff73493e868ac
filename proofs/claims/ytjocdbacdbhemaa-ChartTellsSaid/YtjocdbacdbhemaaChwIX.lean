/- Charts that come in. Charts: ChartTells, as its row asks. -/
import Derived.Test.YtjocdbacdbhemaaEntSV
import Derived.Test.YtjocdbacdbhemaaChtMB
import Derived.Test.YtjocdbacdbhemaaChuA
import Derived.Test.YtjocdbacdbhemaaChwT
namespace Go.Proofs.Ytjocdbacdbhemaa
open Go.RowKit Go.Joins Go.WideShapes Go.ChangeShapes
open Go.Deep (open_slice choose_lt)

theorem ek_T : Try.prog.cellsOf 84 = 2 := by kernel_rfl
theorem ek_C : Try.prog.cellsOf 44 = 2 := by kernel_rfl
theorem ek_L : Try.prog.cellsOf 36 = 1 := by kernel_rfl
theorem ek_TS : Try.prog.cellsOf 42 = 1 := by kernel_rfl
set_option maxRecDepth 100000 in
theorem tab_trod {H : Type} {enc : TypeId × Value → H} {w : World} {base : Nat} {held : Bool} {fuel : Nat} {c0 c1 : Value} {x : DataW H × List MemPlace}
    (hf : DataW.trod enc Try.prog w base (fun _ => true) held fuel 84 [c0, c1] = some x) : ∃ t : TB, c0 = .int .i64 t.at' ∧ EntsS w c1 t.l := by
  obtain ⟨y0, y1, n, h0, h1⟩ := est_struct2 Try.underlying84 hf
  simp only [ek_I, ek_L, List.drop_zero, List.drop_succ_cons, List.take_succ_cons, List.take_zero] at h0 h1
  obtain ⟨x0, e0, _, _⟩ := DataW.trod_int Try.underlying3 h0
  simp only [List.cons.injEq, and_true] at e0
  obtain ⟨A, len, cap, rfl⟩ : ∃ A len cap, c1 = .slice A len cap := by
    rcases open_slice Try.underlying36 h1 with ⟨hcs, _⟩ | ⟨a, len, cap, _, _, _, _, hcs, _⟩
    · simp only [List.cons.injEq, and_true] at hcs
      exact ⟨_, _, _, hcs⟩
    · simp only [List.cons.injEq, and_true] at hcs
      exact ⟨_, _, _, hcs⟩
  obtain ⟨L, hL⟩ := entsS_of Try.underlying36 h1
  exact ⟨⟨x0, L⟩, e0, hL⟩
set_option maxRecDepth 100000 in
theorem tabsS_of {H : Type} {enc : TypeId × Value → H} {w : World} {base : Nat} {held : Bool} {fuel t : Nat} {A : Option Addr} {len cap : Nat} {x : DataW H × List MemPlace}
    (ht : Try.prog.underlying t = some (.slice 84))
    (h : DataW.trod enc Try.prog w base (fun _ => true) held fuel t (Value.slice A len cap).cells.toList = some x) : ∃ T, TabsS w (.slice A len cap) T := by
  rcases open_slice ht h with ⟨hcs, _⟩ | ⟨a, len', cap', m, n, D, Pl, hcs, _, hl, hm, hmm, _, hi⟩
  · simp [Value.cells] at hcs
    obtain ⟨rfl, rfl, rfl⟩ := hcs
    exact ⟨[], .none, 0, rfl, Nat.le_refl _, Nat.zero_le _, .inl rfl⟩
  · simp [Value.cells] at hcs
    obtain ⟨rfl, rfl, rfl⟩ := hcs
    simp only [if_true] at hmm
    by_cases h0 : len = 0
    · exact ⟨[], some a, cap, by rw [h0]; rfl, Nat.zero_le _, hm, .inl rfl⟩
    obtain ⟨b, off, rfl, hb⟩ : ∃ b off, a = ⟨b, off, .none⟩ ∧ b < w.heap.size := by
      obtain ⟨cs', h1, _⟩ := hi 0 (by omega)
      obtain ⟨_, hlen, hcell⟩ := World.cells?_some h1
      have h2 := hcell 0 (by rw [ek_T]; omega)
      rw [Nat.zero_mul, List.getElem?_eq_getElem (by rw [hlen, ek_T]; omega)] at h2
      have e : a.add 0 = a := by unfold Addr.add; simp
      rw [e] at h2
      exact eadr_plain h2
    have each : ∀ i, i < len → ∃ y : TB, TabAt w b (off + i * 2) y := by
      intro i hil
      obtain ⟨cs', h1, h2⟩ := hi i (by omega)
      rw [ek_T] at h1
      obtain ⟨_, hlen, hcell⟩ := World.cells?_some h1
      match cs', hlen with
      | [v0, v1], _ =>
        have e0 := hcell 0 (by omega)
        have e1 := hcell 1 (by omega)
        rw [eadr_add, eadr_add] at e0 e1
        obtain ⟨p, rfl, hp⟩ := tab_trod h2
        simp only [List.getElem?_cons_zero, List.getElem?_cons_succ] at e0 e1
        exact ⟨p, v1, e0, e1, hp⟩
    have : Inhabited TB := ⟨TB.zero⟩
    obtain ⟨q, hq⟩ := choose_lt each
    have hlen : ((List.range len).map q).length = len := by simp
    refine ⟨(List.range len).map q, some ⟨b, off, .none⟩, cap, by rw [hlen], by rw [hlen]; exact hl, hm, .inr ⟨b, off, rfl, hb, fun j hj => ?_⟩⟩
    rw [hlen] at hj
    have e : ((List.range len).map q).getD j TB.zero = q j := by simp [List.getD, hj]
    rw [e]
    exact hq j hj
/-- A value that is a map. -/
def ChtVal (w : World) (v : Value) : Prop := ∃ (B : Int) (T : List TB) (tv : Value), v = .agg #[.int .i64 B, tv] ∧ TabsS w tv T
theorem array2 {cs : Array Value} (h : cs.size = 2) : ∃ a b, cs = #[a, b] := by
  obtain ⟨l⟩ := cs
  match l, h with
  | [a, b], _ => exact ⟨a, b, rfl⟩
set_option maxRecDepth 100000 in
theorem chtVal_of {H : Type} {enc : TypeId × Value → H} {w : World} {base : Nat} {held : Bool} {r : Reach} {b0 : Nat} {v : Value} {d : DataW H} {p : List MemPlace}
    (hv : Value.okWide Try.prog w r b0 44 v) (h : DataW.Trod enc Try.prog w base (fun _ => true) held 44 v d p) : ChtVal w v := by
  obtain ⟨cs, rfl, hsz⟩ := okWide_struct Try.underlying44 hv
  obtain ⟨c0, c1, rfl⟩ := array2 (hsz.trans ek_C)
  obtain ⟨fuel, hf⟩ := h
  have hf' : DataW.trod enc Try.prog w base (fun _ => true) held fuel 44 [c0, c1] = some (d, p) := hf
  obtain ⟨y0, y1, n, h0, h1⟩ := est_struct2 Try.underlying44 hf'
  simp only [ek_I, ek_TS, List.drop_zero, List.drop_succ_cons, List.take_succ_cons, List.take_zero] at h0 h1
  obtain ⟨x0, e0, _, _⟩ := DataW.trod_int Try.underlying3 h0
  simp only [List.cons.injEq, and_true] at e0
  obtain ⟨A, len, cap, rfl⟩ : ∃ A len cap, c1 = .slice A len cap := by
    rcases open_slice Try.underlying42 h1 with ⟨hcs, _⟩ | ⟨a, len, cap, _, _, _, _, hcs, _⟩
    · simp only [List.cons.injEq, and_true] at hcs
      exact ⟨_, _, _, hcs⟩
    · simp only [List.cons.injEq, and_true] at hcs
      exact ⟨_, _, _, hcs⟩
  obtain ⟨T, hT⟩ := tabsS_of Try.underlying42 h1
  exact ⟨x0, T, _, by rw [e0], hT⟩
end Go.Proofs.Ytjocdbacdbhemaa
namespace Go.Proofs.Ytjocdbacdbhemaa
open Go.RowKit

theorem chartTells_any {w : World} (e : Int) {q0 : Prop} (_ : q0) {v : Value} (h : ChtVal w v) (b : Int) {q1 : Prop} (_ : q1) {x y : Value} (hx : EntVal x) (hy : EntVal y) (nb : Int) {q2 : Prop} (_ : q2) : Calls Try.prog 6 #[.int .i64 e, v, .int .i64 b, x, y, .int .i64 nb] w fun e' w' => e' = .returned (.bool true) ∧ Below w.heap.size w w' := by
  obtain ⟨B, T, tv, rfl, hT⟩ := h
  obtain ⟨p, rfl, _⟩ := hx
  obtain ⟨r, rfl, _⟩ := hy
  exact chartTells_walk e B b nb T tv p r w hT
end Go.Proofs.Ytjocdbacdbhemaa
