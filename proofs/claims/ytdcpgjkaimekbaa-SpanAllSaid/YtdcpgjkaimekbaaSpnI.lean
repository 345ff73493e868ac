/- Spans, ranges, strings and numbers that come in. -/
import Derived.Test.YtdcpgjkaimekbaaSpnX
import Derived.Test.YtdcpgjkaimekbaaStrIn
namespace Go.Proofs.Ytdcpgjkaimekbaa
open Go.RowKit Go.Joins Go.WideShapes Go.ChangeShapes

structure RgsW (w : World) (v : Value) (R : List RG) : Prop where
  s : RgsS w v R
structure SpnW (w : World) (v : Value) (P : List SP) : Prop where
  s : SpnS w v P
structure StrW (w : World) (v : Value) (Q : List ByteArray) : Prop where
  s : StrL w v Q
structure IdxW (w : World) (v : Value) (L : List Int) : Prop where
  s : IdxS w v L
  b : ∀ x ∈ L, -9223372036854775808 ≤ x ∧ x < 9223372036854775808
theorem RgsW.len {w : World} {A : Option Addr} {n c : Nat} {R : List RG} (h : RgsW w (.slice A n c) R) : R.length = n := by obtain ⟨_, _, e, _⟩ := h.s; injection e with _ e _; exact e.symm
theorem SpnW.len {w : World} {A : Option Addr} {n c : Nat} {R : List SP} (h : SpnW w (.slice A n c) R) : R.length = n := by obtain ⟨_, _, e, _⟩ := h.s; injection e with _ e _; exact e.symm
theorem StrW.len {w : World} {A : Option Addr} {n c : Nat} {R : List ByteArray} (h : StrW w (.slice A n c) R) : R.length = n := by obtain ⟨_, _, e, _⟩ := h.s; injection e with _ e _; exact e.symm
theorem IdxW.len {w : World} {A : Option Addr} {n c : Nat} {R : List Int} (h : IdxW w (.slice A n c) R) : R.length = n := by obtain ⟨_, _, e, _⟩ := h.s; injection e with _ e _; exact e.symm
theorem sk_R : Try.prog.cellsOf 51 = 2 := by kernel_rfl
theorem sk_S : Try.prog.cellsOf 63 = 3 := by kernel_rfl
theorem sk_I : Try.prog.cellsOf 3 = 1 := by kernel_rfl
theorem sk_T : Try.prog.cellsOf 9 = 1 := by kernel_rfl
section
variable {H : Type} {enc : TypeId × Value → H} {w : World} {base : Nat} {held : Bool} {fuel t : Nat} {A : Option Addr} {len cap : Nat} {x : DataW H × List MemPlace}
set_option maxRecDepth 100000 in
theorem rgsW_in (ht : Try.prog.underlying t = some (.slice 51)) (h : DataW.trod enc Try.prog w base (fun _ => true) held fuel t (Value.slice A len cap).cells.toList = some x) : ∃ R, RgsW w (.slice A len cap) R := by
  obtain ⟨R, h1, _⟩ := stS_in (k := 2) (enc := RG.cells) (z := RG.zero) (G := fun _ => True) (by decide) ht sk_R (fun n cs y hl hf => by
    match cs, hl with
    | [c0, c1], _ =>
      obtain ⟨_, _, m, h0, h1⟩ := td_struct2 Try.underlying51 hf
      simp only [sk_I, List.drop_zero, List.drop_succ_cons, List.take_succ_cons, List.take_zero] at h0 h1
      obtain ⟨x0, e0, _, _⟩ := DataW.trod_int Try.underlying3 h0
      obtain ⟨x1, e1, _, _⟩ := DataW.trod_int Try.underlying3 h1
      simp only [List.cons.injEq, and_true] at e0 e1
      exact ⟨⟨x0, x1⟩, by rw [e0, e1]; rfl, trivial⟩) h
  exact ⟨R, ⟨h1⟩⟩
set_option maxRecDepth 100000 in
theorem spnW_in (ht : Try.prog.underlying t = some (.slice 63)) (h : DataW.trod enc Try.prog w base (fun _ => true) held fuel t (Value.slice A len cap).cells.toList = some x) : ∃ R, SpnW w (.slice A len cap) R := by
  obtain ⟨R, h1, _⟩ := stS_in (k := 3) (enc := SP.cells) (z := SP.zero) (G := fun _ => True) (by decide) ht sk_S (fun n cs y hl hf => by
    match cs, hl with
    | [c0, c1, c2], _ =>
      obtain ⟨_, _, _, m, h0, h1, h2⟩ := td_struct3 Try.underlying63 hf
      simp only [sk_I, List.drop_zero, List.drop_succ_cons, List.take_succ_cons, List.take_zero] at h0 h1 h2
      obtain ⟨x0, e0, _, _⟩ := DataW.trod_int Try.underlying3 h0
      obtain ⟨x1, e1, _, _⟩ := DataW.trod_int Try.underlying3 h1
      obtain ⟨x2, e2, _, _⟩ := DataW.trod_int Try.underlying3 h2
      simp only [List.cons.injEq, and_true] at e0 e1 e2
      exact ⟨⟨x0, x1, x2⟩, by rw [e0, e1, e2]; rfl, trivial⟩) h
  exact ⟨R, ⟨h1⟩⟩
set_option maxRecDepth 100000 in
theorem strW_in (ht : Try.prog.underlying t = some (.slice 9)) (h : DataW.trod enc Try.prog w base (fun _ => true) held fuel t (Value.slice A len cap).cells.toList = some x) : ∃ R, StrW w (.slice A len cap) R := by
  obtain ⟨R, h1, _⟩ := stS_in (k := 1) (enc := sEnc) (z := (⟨#[]⟩ : ByteArray)) (G := fun _ => True) (by decide) ht sk_T (fun n cs y _ hf => by
    obtain ⟨s, e, _, _⟩ := DataW.trod_string Try.underlying9 hf
    exact ⟨s, e, trivial⟩) h
  exact ⟨R, ⟨h1⟩⟩
set_option maxRecDepth 100000 in
theorem idxW_in (ht : Try.prog.underlying t = some (.slice 3)) (h : DataW.trod enc Try.prog w base (fun _ => true) held fuel t (Value.slice A len cap).cells.toList = some x) : ∃ R, IdxW w (.slice A len cap) R := by
  obtain ⟨R, h1, h2⟩ := stS_in (k := 1) (enc := fun n : Int => [.int .i64 n]) (z := (0 : Int)) (G := fun n => -9223372036854775808 ≤ n ∧ n < 9223372036854775808) (by decide) ht sk_I (fun n cs y _ hf => by
    obtain ⟨s, e, _, hw⟩ := DataW.trod_int Try.underlying3 hf
    exact ⟨s, e, td_i64 hw⟩) h
  obtain ⟨B, c, hv, q1, q2, q3⟩ := h1
  refine ⟨R, ⟨B, c, hv, q1, q2, ?_⟩, h2⟩
  rcases q3 with q3 | ⟨b, off, hA, hlt, hc⟩
  · exact .inl q3
  · exact .inr ⟨b, off, hA, hlt, fun j hj => by have := hc j hj 0 _ rfl; rwa [Nat.mul_one, Nat.add_zero] at this⟩
end
theorem spanMerges_any {w : World} {vb vl vp vq : Value} {L : List Int} {R : List RG} {P : List SP} {Q : List ByteArray} (hL : IdxW w vb L) (_ : L.length * 8 ≤ 140737488351232) (hR : RgsW w vl R) (hr : R.length * 16 ≤ 140737488351232) (s : Int) (_ : (Lit.int .i64 s).wf = true) (hP : SpnW w vp P) (_ : P.length * 24 ≤ 140737488351232) (hQ : StrW w vq Q) (_ : Q.length * 16 ≤ 140737488351232) (was : ByteArray) (_ : was.size ≤ maxLen) (hw : was.size ≤ 140737488351232) :
    Calls Try.prog 6 #[vb, vl, .int .i64 s, vp, vq, .string was] w fun e w' => e = .returned (.bool true) ∧ Below w.heap.size w w' :=
  spanMerges_walk hL.s (fun b hb => (hL.b b hb).1) hR.s hr s hP.s hQ.s was hw
end Go.Proofs.Ytdcpgjkaimekbaa
