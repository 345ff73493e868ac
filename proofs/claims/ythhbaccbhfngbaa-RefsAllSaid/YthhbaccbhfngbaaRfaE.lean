/- References: RefsAll, what its last two loops ask. -/
import Derived.Test.YthhbaccbhfngbaaRfaC
namespace Go.Proofs.Ythhbaccbhfngbaa
open Go.RowKit

theorem rents_len {e : Int} {C : List CH} (h : FewC C) : (rfEnts e C).length ≤ 3600 := by
  unfold rfEnts
  split
  · have h1 := flat_le (e := e) C h.2
    have := h.1
    omega
  · exact Nat.zero_le _
theorem cnt_wf {e : Int} {C : List CH} (hok : rfOk e C = true) (hF : FewC C) : RfWf (cntU (rfEnts e C)) := by
  intro r hr
  obtain ⟨h1, _⟩ := ((cntU_refs (Nat.le_trans (rents_len (e := e) hF) (by omega))).mem r).1 hr
  unfold plcOf at h1
  obtain ⟨y, hy, he⟩ := List.mem_map.1 h1
  have hy2 := rt_eok (e := e) (C := C) y (by rw [(rt_of hok).1]; exact (List.mem_filter.1 hy).1)
  have hs : y.st = r.s := congrArg Prod.fst he
  unfold EOk PlOk at hy2
  omega
theorem cnt_len {L : List EN} (hl : L.length ≤ 3600) : (cntU L).length ≤ 3600 := by
  have hl2 : L.length ≤ 100000 := by omega
  have hpos : ∀ r ∈ cntU L, 1 ≤ r.n := fun r hr => by
    obtain ⟨h1, h2⟩ := ((cntU_refs hl2).mem r).1 hr
    have := List.count_pos_iff.2 h1
    omega
  have hnn : ∀ (l : List RF), (∀ r ∈ l, 1 ≤ r.n) → (l.length : Int) ≤ sumR l := by
    intro l
    induction l with
    | nil => intro _; exact Int.le_refl _
    | cons x l ih =>
      intro h
      have h1 := h x (List.mem_cons_self ..)
      have h2 := ih (fun r hr => h r (List.mem_cons_of_mem _ hr))
      have e : sumR (x :: l) = x.n + sumR l := by unfold sumR; simp
      rw [List.length_cons]
      omega
  have h3 := hnn _ hpos
  rw [sumR_cnt hl2] at h3
  have h4 := plcOf_len L
  omega
/-- One line of the count, as the law looks at it. -/
theorem cnt_line {A B L : List EN} (hL : L = A ++ B) (hl : L.length ≤ 3600) {j : Nat} (hj : j < (cntU L).length) :
    ∃ na nb : Int, na = nOf ((cntU L).getD j RF.zero).s ((cntU L).getD j RF.zero).m (cntU A) ∧ nb = nOf ((cntU L).getD j RF.zero).s ((cntU L).getD j RF.zero).m (cntU B) ∧ ((cntU L).getD j RF.zero).n = na + nb ∧ 0 ≤ na ∧ 0 ≤ nb ∧ 1 ≤ na + nb ∧ na + nb ≤ 100000 := by
  subst hL
  have hm : (cntU (A ++ B)).getD j RF.zero ∈ cntU (A ++ B) := by rw [List.getD, List.getElem?_eq_getElem hj]; exact List.getElem_mem hj
  obtain ⟨h1, h2, h3, h4, h5⟩ := cnt_two (by omega) hm
  exact ⟨_, _, rfl, rfl, h3, h4, h5, by omega, by omega⟩
theorem wrapN (x : Int) (h0 : 0 ≤ x) (h1 : x ≤ 200000) : wrap64 x = x ∧ IntKind.i64.wrap x = x := by
  have h : wrap64 x = x := by unfold wrap64; omega
  exact ⟨h, by rw [wrap_eq]; exact h⟩
end Go.Proofs.Ythhbaccbhfngbaa
