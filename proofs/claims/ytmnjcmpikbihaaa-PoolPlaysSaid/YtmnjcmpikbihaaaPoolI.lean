/- Pools: the acts that come in. -/
import Derived.Test.YtmnjcmpikbihaaaStrIn
import Derived.Test.YtmnjcmpikbihaaaIdx
namespace Go.Proofs.Ytmnjcmpikbihaaa
open Go.RowKit Go.Joins Go.WideShapes Go.ChangeShapes
open Go.Deep (open_slice choose_lt)

/-- An act: v is the slice of its numbers. -/
structure A17 where
  kind : Int
  text : ByteArray
  id : Int
  v : Value
  K : List Int
def A17.enc (a : A17) : List Value := [.int .i64 a.kind, .string a.text, .int .i64 a.id, a.v]
def A17.zero : A17 := ⟨0, ⟨#[]⟩, 0, .slice none 0 0, []⟩
/-- A slice that reads as these acts. -/
structure A17W (w : World) (v : Value) (L : List A17) : Prop where
  s : StS 4 A17.enc A17.zero w v L
  g : ∀ a ∈ L, IdxS w a.v a.K ∧ (∀ x ∈ a.K, -9223372036854775808 ≤ x ∧ x ≤ 9223372036854775807) ∧ -9223372036854775808 ≤ a.id ∧ a.id ≤ 9223372036854775807
theorem A17W.len {w : World} {A : Option Addr} {n c : Nat} {R : List A17} (h : A17W w (.slice A n c) R) : R.length = n := by obtain ⟨_, _, e, _⟩ := h.s; injection e with _ e _; exact e.symm
theorem pk_A : Try.prog.cellsOf 31 = 4 := by kernel_rfl
theorem pk_I : Try.prog.cellsOf 3 = 1 := by kernel_rfl
theorem pk_S : Try.prog.cellsOf 9 = 1 := by kernel_rfl
theorem pk_N : Try.prog.cellsOf 29 = 1 := by kernel_rfl
theorem td_struct4 {H : Type} {enc : TypeId × Value → H} {P : Program} {w : World} {base : Nat} {spare : Nat → Bool} {held : Bool} {t : TypeId} {f0 f1 f2 f3 : Field} {fuel : Nat} {cs : List Value} {x : DataW H × List MemPlace} (ht : P.underlying t = some (.struct #[f0, f1, f2, f3])) (h : DataW.trod enc P w base spare held fuel t cs = some x) :
    ∃ y0 y1 y2 y3 n, DataW.trod enc P w base spare held n f0.type ((cs.drop f0.offset).take (P.cellsOf f0.type)) = some y0 ∧ DataW.trod enc P w base spare held n f1.type ((cs.drop f1.offset).take (P.cellsOf f1.type)) = some y1 ∧ DataW.trod enc P w base spare held n f2.type ((cs.drop f2.offset).take (P.cellsOf f2.type)) = some y2 ∧ DataW.trod enc P w base spare held n f3.type ((cs.drop f3.offset).take (P.cellsOf f3.type)) = some y3 := by
  obtain ⟨xs, n, _, rfl, hl, hlen, hf⟩ := DataW.trod_struct ht h
  match xs, hlen with
  | [y0, y1, y2, y3], _ => exact ⟨y0, y1, y2, y3, n, by simpa using hf 0 f0 rfl, by simpa using hf 1 f1 rfl, by simpa using hf 2 f2 rfl, by simpa using hf 3 f3 rfl⟩
section
variable {H : Type} {enc : TypeId × Value → H} {w : World} {base : Nat} {held : Bool} {fuel t : Nat} {A : Option Addr} {len cap : Nat} {x : DataW H × List MemPlace}
set_option maxRecDepth 100000 in
theorem idsIn (ht : Try.prog.underlying t = some (.slice 3)) (h : DataW.trod enc Try.prog w base (fun _ => true) held fuel t (Value.slice A len cap).cells.toList = some x) : ∃ R, IdxS w (.slice A len cap) R ∧ ∀ x ∈ R, -9223372036854775808 ≤ x ∧ x ≤ 9223372036854775807 := by
  obtain ⟨R, h1, h2⟩ := stS_in (k := 1) (enc := fun n : Int => [.int .i64 n]) (z := (0 : Int)) (G := fun n => -9223372036854775808 ≤ n ∧ n ≤ 9223372036854775807) (by decide) ht pk_I (fun n cs y _ hf => by
    obtain ⟨s, e, _, hw⟩ := DataW.trod_int Try.underlying3 hf
    have := td_i64 hw
    exact ⟨s, e, by omega⟩) h
  obtain ⟨B, c, hv, q1, q2, q3⟩ := h1
  refine ⟨R, ⟨B, c, hv, q1, q2, ?_⟩, h2⟩
  rcases q3 with q3 | ⟨b, off, hA, hlt, hc⟩
  · exact .inl q3
  · exact .inr ⟨b, off, hA, hlt, fun j hj => by have := hc j hj 0 _ rfl; rwa [Nat.mul_one, Nat.add_zero] at this⟩
set_option maxRecDepth 100000 in
theorem a17W_in (ht : Try.prog.underlying t = some (.slice 31)) (h : DataW.trod enc Try.prog w base (fun _ => true) held fuel t (Value.slice A len cap).cells.toList = some x) : ∃ R, A17W w (.slice A len cap) R := by
  obtain ⟨R, h1, h2⟩ := stS_in (k := 4) (enc := A17.enc) (z := A17.zero) (G := fun a => IdxS w a.v a.K ∧ (∀ x ∈ a.K, -9223372036854775808 ≤ x ∧ x ≤ 9223372036854775807) ∧ -9223372036854775808 ≤ a.id ∧ a.id ≤ 9223372036854775807) (by decide) ht pk_A (fun n cs y hl hf => by
    match cs, hl with
    | [c0, c1, c2, c3], _ =>
      obtain ⟨_, _, _, _, m, h0, h1, h2, h3⟩ := td_struct4 Try.underlying31 hf
      simp only [pk_I, pk_S, pk_N, List.drop_zero, List.drop_succ_cons, List.take_succ_cons, List.take_zero] at h0 h1 h2 h3
      obtain ⟨x0, e0, _, _⟩ := DataW.trod_int Try.underlying3 h0
      obtain ⟨x1, e1, _, _⟩ := DataW.trod_string Try.underlying9 h1
      obtain ⟨x2, e2, _, hw⟩ := DataW.trod_int Try.underlying3 h2
      obtain ⟨A3, l3, k3, e3⟩ : ∃ A l k, [c3] = (Value.slice A l k).cells.toList := by
        rcases open_slice Try.underlying29 h3 with ⟨hcs, _⟩ | ⟨a, len, cap, _, _, _, _, hcs, _⟩
        · exact ⟨_, _, _, hcs⟩
        · exact ⟨_, _, _, hcs⟩
      rw [e3] at h3
      obtain ⟨K, hK, hg⟩ := idsIn Try.underlying29 h3
      simp only [Value.cells, List.cons.injEq, and_true] at e0 e1 e2 e3
      have hw2 : -9223372036854775808 ≤ x2 ∧ x2 ≤ 9223372036854775807 := by have := td_i64 hw; omega
      exact ⟨⟨x0, x1, x2, .slice A3 l3 k3, K⟩, by rw [e0, e1, e2, e3]; rfl, hK, hg, hw2⟩) h
  exact ⟨R, ⟨h1, h2⟩⟩
end
end Go.Proofs.Ytmnjcmpikbihaaa
