/- SpanMerges: any blocks have the ranges, and any ranges the blocks, that the document says, or none; any parts are joined, and laid over, as it says, or not. No condition. -/
import Derived.Test.YtdcpgjkaimekbaaSpnI
import Derived.Test.YtdcpgjkaimekbaaPlain
import Derived.SizedLaws
namespace Go.Proofs.Ytdcpgjkaimekbaa
open Go.ChangeShapes Go.WideShapes Go.ChangeAt Go.RowKit
open Go.ChangeMaps (open_string shut_string)

set_option maxRecDepth 100000 in
theorem spanMerges_lifted (os : Os) (started : os.Started) (H : Type) (enc : TypeId × Value → H) :
    ReturnsInHanded {} Try.checked os 6 .any (Rows.spanMergesSpec.pre6 enc Try.prog Try.f6 Rows.spanMergesRow.domain false) (Rows.spanMergesSpec.post enc Try.prog Try.f6 false true false false) := by
  refine returnsInHanded_of_change_sized (C := Try.checked) own started (by kernel_rfl) Try.func6
    (ChangeSpec.witness6 (enc := enc) (C := Try.checked) false ⟨#[], #[.slice none 0 0, .slice none 0 0, .int .i64 0, .slice none 0 0, .slice none 0 0, .string ⟨#[]⟩], []⟩ 8 (by kernel_rfl) (by kernel_rfl) (by kernel_rfl) (by kernel_rfl)) ?_
  intro W base args ds gs before hval0 hW hcnd hsz0 _
  have hval : ∀ (j : Nat) t v, Try.f6.params[j]? = some t → args[j]? = some v → Value.okWide Try.prog W .any base t v := hval0
  have hW' := hW
  obtain ⟨p, q, hA0, hV, rfl, hfz, hnd⟩ := hW
  have hA : DataW.TrodAll enc Try.prog W 0 (fun _ => true) true Try.f6.params.toList args.toList ds p := hA0
  have hsz : (DataW.weightsEach Try.prog (Try.f6.params.toList ++ Rows.spanMergesSpec.plain.varTypes Try.prog) (ds ++ gs)).all (· ≤ reachBytes) = true := hsz0
  rw [Try.params6] at hA hval hsz
  obtain ⟨v0, vs0, d0, ds0, p0, q0, hargs, rfl, rfl, h0, r0⟩ := trodAll_cons hA
  obtain ⟨v1, vs1, d1, ds1, p1, q1, rfl, rfl, rfl, h1, r1⟩ := trodAll_cons r0
  obtain ⟨v2, vs2, d2, ds2, p2, q2, rfl, rfl, rfl, h2, r2⟩ := trodAll_cons r1
  obtain ⟨v3, vs3, d3, ds3, p3, q3, rfl, rfl, rfl, h3, r3⟩ := trodAll_cons r2
  obtain ⟨v4, vs4, d4, ds4, p4, q4, rfl, rfl, rfl, h4, r4⟩ := trodAll_cons r3
  obtain ⟨v5, vs5, d5, ds5, p5, q5, rfl, rfl, rfl, h5, r5⟩ := trodAll_cons r4
  obtain ⟨rfl, rfl, rfl⟩ := trodAll_nil r5
  obtain rfl : args = #[v0, v1, v2, v3, v4, v5] := by cases args; simp_all
  obtain ⟨rfl, rfl⟩ := trodVars_none hV
  obtain ⟨A0, len0, cap0, rfl⟩ := okWide_slice Try.underlying29 (hval 0 29 v0 rfl rfl)
  have k0 := h0
  have lt0 : ∀ x ∈ p0, x.block < W.heap.size := by obtain ⟨m, hm⟩ := k0; exact DataW.trod_lt m _ _ _ hm
  obtain ⟨z0, w0⟩ : ∃ R, IdxW W (.slice A0 len0 cap0) R := by
    obtain ⟨fuel, hf⟩ := h0
    exact idxW_in Try.underlying29 hf
  have e0 : z0.length = len0 := w0.len
  have s0 : z0.length * 8 ≤ 140737488351232 := by
    rw [e0]
    obtain ⟨fuel, hf⟩ := k0
    rcases st_len Try.underlying29 hf with h | ⟨elems, spare, rfl, h⟩
    · omega
    · have := sized_slice hsz (j := 0) (t := 29) (e := 3) rfl rfl Try.underlying29
      rw [show Try.prog.bytesOf 3 = 8 by kernel_rfl] at this
      simp only [reachBytes] at this
      omega
  obtain ⟨A1, len1, cap1, rfl⟩ := okWide_slice Try.underlying56 (hval 1 56 v1 rfl rfl)
  have k1 := h1
  have lt1 : ∀ x ∈ p1, x.block < W.heap.size := by obtain ⟨m, hm⟩ := k1; exact DataW.trod_lt m _ _ _ hm
  obtain ⟨z1, w1⟩ : ∃ R, RgsW W (.slice A1 len1 cap1) R := by
    obtain ⟨fuel, hf⟩ := h1
    exact rgsW_in Try.underlying56 hf
  have e1 : z1.length = len1 := w1.len
  have s1 : z1.length * 16 ≤ 140737488351232 := by
    rw [e1]
    obtain ⟨fuel, hf⟩ := k1
    rcases st_len Try.underlying56 hf with h | ⟨elems, spare, rfl, h⟩
    · omega
    · have := sized_slice hsz (j := 1) (t := 56) (e := 51) rfl rfl Try.underlying56
      rw [show Try.prog.bytesOf 51 = 16 by kernel_rfl] at this
      simp only [reachBytes] at this
      omega
  obtain ⟨a2, rfl, rfl, rfl, w2⟩ := open_int Try.underlying3 (hval 2 3 v2 rfl rfl) h2
  obtain ⟨A3, len3, cap3, rfl⟩ := okWide_slice Try.underlying47 (hval 3 47 v3 rfl rfl)
  have k3 := h3
  have lt3 : ∀ x ∈ p3, x.block < W.heap.size := by obtain ⟨m, hm⟩ := k3; exact DataW.trod_lt m _ _ _ hm
  obtain ⟨z3, w3⟩ : ∃ R, SpnW W (.slice A3 len3 cap3) R := by
    obtain ⟨fuel, hf⟩ := h3
    exact spnW_in Try.underlying47 hf
  have e3 : z3.length = len3 := w3.len
  have s3 : z3.length * 24 ≤ 140737488351232 := by
    rw [e3]
    obtain ⟨fuel, hf⟩ := k3
    rcases st_len Try.underlying47 hf with h | ⟨elems, spare, rfl, h⟩
    · omega
    · have := sized_slice hsz (j := 3) (t := 47) (e := 63) rfl rfl Try.underlying47
      rw [show Try.prog.bytesOf 63 = 24 by kernel_rfl] at this
      simp only [reachBytes] at this
      omega
  obtain ⟨A4, len4, cap4, rfl⟩ := okWide_slice Try.underlying46 (hval 4 46 v4 rfl rfl)
  have k4 := h4
  have lt4 : ∀ x ∈ p4, x.block < W.heap.size := by obtain ⟨m, hm⟩ := k4; exact DataW.trod_lt m _ _ _ hm
  obtain ⟨z4, w4⟩ : ∃ R, StrW W (.slice A4 len4 cap4) R := by
    obtain ⟨fuel, hf⟩ := h4
    exact strW_in Try.underlying46 hf
  have e4 : z4.length = len4 := w4.len
  have s4 : z4.length * 16 ≤ 140737488351232 := by
    rw [e4]
    obtain ⟨fuel, hf⟩ := k4
    rcases st_len Try.underlying46 hf with h | ⟨elems, spare, rfl, h⟩
    · omega
    · have := sized_slice hsz (j := 4) (t := 46) (e := 9) rfl rfl Try.underlying46
      rw [show Try.prog.bytesOf 9 = 16 by kernel_rfl] at this
      simp only [reachBytes] at this
      omega
  obtain ⟨a5, rfl, rfl, rfl, w5⟩ := open_string Try.underlying9 (hval 5 9 v5 rfl rfl) h5
  have s5 : a5.size ≤ 140737488351232 := by
    have := sized_string hsz (j := 5) (t := 9) rfl rfl
    simp only [reachBytes] at this
    simpa using this
  clear hA0 hval0
  refine (spanMerges_any (w := W) w0 s0 w1 s1 a2 w2 w3 s3 w4 s4 a5 w5 s5).mono fun e W' ⟨he, bel⟩ => ?_
  subst he
  exact ⟨_, rfl, _, _, _, [], _, [], hW', trodAll_mk1 (shut_bool Try.underlying4 _), (trodAll_cons_mk (Below.trod laidOut (by kernel_rfl) (of_decide_eq_true (by kernel_rfl)) k0 bel lt0) (trodAll_cons_mk (Below.trod laidOut (by kernel_rfl) (of_decide_eq_true (by kernel_rfl)) k1 bel lt1) (trodAll_cons_mk (shut_int Try.underlying3 w2) (trodAll_cons_mk (Below.trod laidOut (by kernel_rfl) (of_decide_eq_true (by kernel_rfl)) k3 bel lt3) (trodAll_cons_mk (Below.trod laidOut (by kernel_rfl) (of_decide_eq_true (by kernel_rfl)) k4 bel lt4) (trodAll_cons_mk (shut_string Try.underlying9 w5) trodAll_mk0)))))), rfl, bel.frame _, fun h => by cases h⟩

theorem spanMerges_holds : Rows.SpanMergesSaid :=
  OpenClaim.holds_of_wide 6 Try.f6 rfl rfl rfl rfl rfl rfl rfl ⟨rfl, rfl, rfl, rfl, rfl⟩ rfl rfl rfl rfl rfl (by kernel_rfl) Try.func6 (by kernel_rfl)
    (of_decide_eq_true (by kernel_rfl)) (by unfold Func.isWrapper; first | (rw [if_pos (by decide +kernel)]; kernel_rfl) | (rw [if_neg (by decide +kernel)]; exact ⟨rfl, rfl⟩))
    (fun os started H enc _ => spanMerges_lifted os started H enc)
end Go.Proofs.Ytdcpgjkaimekbaa
