/- References: maps and places that come in; RefsAsks. -/
import Derived.Test.YthhbaccbhfngbaaMc02
import Derived.Test.YthhbaccbhfngbaaRefV
import Derived.Test.YthhbaccbhfngbaaRefK
import Derived.Test.YthhbaccbhfngbaaMb18
namespace Go.Proofs.Ythhbaccbhfngbaa
open Go.RowKit Go.Joins Go.WideShapes Go.ChangeShapes
open Go.Deep (open_slice choose_lt)

/-- A value that is a place. -/
def PlcVal (v : Value) : Prop := ∃ s m : Int, v = .agg #[.int .i64 s, .int .i64 m]
set_option maxRecDepth 100000 in
theorem plcVal_of {H : Type} {enc : TypeId × Value → H} {w : World} {base : Nat} {held : Bool} {r : Reach} {b0 : Nat} {v : Value} {d : DataW H} {p : List MemPlace}
    (hv : Value.okWide Try.prog w r b0 36 v) (h : DataW.Trod enc Try.prog w base (fun _ => true) held 36 v d p) : PlcVal v := by
  obtain ⟨cs, rfl, hsz⟩ := okWide_struct Try.underlying36 hv
  obtain ⟨c0, c1, rfl⟩ := array2 (hsz.trans ek_P)
  obtain ⟨fuel, hf⟩ := h
  have hf' : DataW.trod enc Try.prog w base (fun _ => true) held fuel 36 [c0, c1] = some (d, p) := hf
  obtain ⟨y0, y1, n, h0, h1⟩ := est_struct2 Try.underlying36 hf'
  simp only [ek_I, List.drop_zero, List.drop_succ_cons, List.take_succ_cons, List.take_zero] at h0 h1
  obtain ⟨x0, e0, _, _⟩ := DataW.trod_int Try.underlying3 h0
  obtain ⟨x1, e1, _, _⟩ := DataW.trod_int Try.underlying3 h1
  simp only [List.cons.injEq, and_true] at e0 e1
  exact ⟨x0, x1, by rw [e0, e1]⟩
theorem refsAsks_any {w : World} {v0 v1 v2 : Value} {L : List RF} {S : List Int} (w0 : RefW w v0 L) (w1 : PlcVal v1) (w2 : IdxW w v2 S) (k : Int) (_ : (Lit.int .i64 k).wf = true) :
    Calls Try.prog 4 #[v0, v1, v2, .int .i64 k] w fun e w' => e = .returned (.bool true) ∧ Below w.heap.size w w' := by
  obtain ⟨s, m, rfl⟩ := w1
  exact refsAsks_walk s m k (fun W => refLives_any W) w0.s w0.wf w2.s w2.b
set_option maxRecDepth 100000 in
theorem cht_trod {H : Type} {enc : TypeId × Value → H} {w : World} {base : Nat} {held : Bool} {fuel : Nat} {c0 c1 : Value} {x : DataW H × List MemPlace}
    (hf : DataW.trod enc Try.prog w base (fun _ => true) held fuel 44 [c0, c1] = some x) : ∃ (c : CH) (tA : Option Addr) (tc : Nat), c0 = .int .i64 c.blocks ∧ c1 = .slice tA c.tabs.length tc ∧ TabsS w (.slice tA c.tabs.length tc) c.tabs := by
  obtain ⟨y0, y1, n, h0, h1⟩ := est_struct2 Try.underlying44 hf
  simp only [ek_I, ek_TS, List.drop_zero, List.drop_succ_cons, List.take_succ_cons, List.take_zero] at h0 h1
  obtain ⟨x0, e0, _, _⟩ := DataW.trod_int Try.underlying3 h0
  simp only [List.cons.injEq, and_true] at e0
  obtain ⟨A, len, cap, rfl⟩ : ∃ A len cap, c1 = .slice A len cap := by
    rcases open_slice Try.underlying42 h1 with ⟨hcs, _⟩ | ⟨a, len, cap, _, _, _, _, hcs, _⟩
    · simp only [List.cons.injEq, and_true] at hcs
      exact ⟨_, _, _, hcs⟩
    · simp only [List.cons.injEq, and_true] at hcs
      exact ⟨_, _, _, hcs⟩
  obtain ⟨T, hT⟩ := tabsS_of Try.underlying42 h1
  obtain ⟨A', cap', hv⟩ := hT.form
  have hT' := hT
  rw [hv] at hT' ⊢
  exact ⟨⟨x0, T⟩, A', cap', e0, rfl, hT'⟩
structure ChsW (w : World) (v : Value) (C : List CH) : Prop where
  s : ChsS w v C
theorem ChsW.len {w : World} {A : Option Addr} {n c : Nat} {C : List CH} (h : ChsW w (.slice A n c) C) : C.length = n := by obtain ⟨_, _, e, _⟩ := h.s; injection e with _ e _; exact e.symm
set_option maxRecDepth 100000 in
theorem chsW_in {H : Type} {enc : TypeId × Value → H} {w : World} {base : Nat} {held : Bool} {fuel t : Nat} {A : Option Addr} {len cap : Nat} {x : DataW H × List MemPlace}
    (ht : Try.prog.underlying t = some (.slice 44))
    (h : DataW.trod enc Try.prog w base (fun _ => true) held fuel t (Value.slice A len cap).cells.toList = some x) : ∃ C, ChsW w (.slice A len cap) C := by
  rcases open_slice ht h with ⟨hcs, _⟩ | ⟨a, len', cap', m, n, D, Pl, hcs, _, hl, hm, hmm, _, hi⟩
  · simp [Value.cells] at hcs
    obtain ⟨rfl, rfl, rfl⟩ := hcs
    exact ⟨[], ⟨.none, 0, rfl, Nat.le_refl _, Nat.zero_le _, .inl rfl⟩⟩
  · simp [Value.cells] at hcs
    obtain ⟨rfl, rfl, rfl⟩ := hcs
    simp only [if_true] at hmm
    by_cases h0 : len = 0
    · exact ⟨[], ⟨some a, cap, by rw [h0]; rfl, Nat.zero_le _, hm, .inl rfl⟩⟩
    obtain ⟨b, off, rfl, hb⟩ : ∃ b off, a = ⟨b, off, .none⟩ ∧ b < w.heap.size := by
      obtain ⟨cs', h1, _⟩ := hi 0 (by omega)
      obtain ⟨_, hlen, hcell⟩ := World.cells?_some h1
      have h2 := hcell 0 (by rw [ek_C]; omega)
      rw [Nat.zero_mul, List.getElem?_eq_getElem (by rw [hlen, ek_C]; omega)] at h2
      have e : a.add 0 = a := by unfold Addr.add; simp
      rw [e] at h2
      exact eadr_plain h2
    have each : ∀ i, i < len → ∃ c : CH, ∃ tA tc, w.cell? ⟨b, off + i * 2, none⟩ = some (.int .i64 c.blocks) ∧ w.cell? ⟨b, off + i * 2 + 1, none⟩ = some (.slice tA c.tabs.length tc) ∧ TabsS w (.slice tA c.tabs.length tc) c.tabs := by
      intro i hil
      obtain ⟨cs', h1, h2⟩ := hi i (by omega)
      rw [ek_C] at h1
      obtain ⟨_, hlen, hcell⟩ := World.cells?_some h1
      match cs', hlen with
      | [v0, v1], _ =>
        have e0 := hcell 0 (by omega)
        have e1 := hcell 1 (by omega)
        rw [eadr_add, eadr_add] at e0 e1
        obtain ⟨c, tA, tc, rfl, rfl, hp⟩ := cht_trod h2
        simp only [List.getElem?_cons_zero, List.getElem?_cons_succ] at e0 e1
        exact ⟨c, tA, tc, e0, e1, hp⟩
    have : Inhabited CH := ⟨CH.zero⟩
    obtain ⟨q, hq⟩ := choose_lt each
    have hlen : ((List.range len).map q).length = len := by simp
    refine ⟨(List.range len).map q, ⟨some ⟨b, off, .none⟩, cap, by rw [hlen], by rw [hlen]; exact hl, hm, .inr ⟨b, off, rfl, hb, fun j hj => ?_⟩⟩⟩
    rw [hlen] at hj
    have e : ((List.range len).map q).getD j CH.zero = q j := by simp [List.getD, hj]
    rw [e]
    exact hq j hj
end Go.Proofs.Ythhbaccbhfngbaa
