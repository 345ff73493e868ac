/- Charts: slices.Insert of one table into a row that a call owns. -/
import Derived.Test.YtngkbcaflkinhaaDoorChvE
import Derived.Shelf.Spec.SlicesInsert
import Derived.Lib.AppendZerosOnto
import Derived.Lib.Overlaps
namespace Go.Proofs.YtngkbcaflkinhaaDoor
open Go.RowKit

theorem run_copy_sz {P : Program} (w : World) (dT sT ty elem : TypeId) (size b o dLen dCap : Nat) (a : Addr) (sLen sCap : Nat) (cs : List Value)
    (hu : P.underlying dT = some (.slice elem)) (hs : (P.info? elem).map (·.size) = some size) (hn : cs.length = Nat.min sLen dLen * size)
    (hsrc : ∀ j v, cs[j]? = some v → w.cell? (a.add j) = some v) (hc : ∀ j, j < cs.length → (w.cell? ⟨b, o + j, none⟩).isSome = true) (hf : ∀ j, j < cs.length → w.frozen? ⟨b, o + j, none⟩ = false) (h1 : ∀ v ∈ cs, v.oneCell' = true) :
    (Builtin.copy_ #[dT, sT] ty #[.slice (some ⟨b, o, none⟩) dLen dCap, .slice (some a) sLen sCap]).run P w = .ok (goInt (Nat.min sLen dLen)) (w.setCells b o cs) := by
  have hl := run_loadCells_list (P := P) w a cs hsrc
  have hst := run_storeCells_cells (P := P) b o cs 0 w (by simpa using hc) (by simpa using hf) h1
  cases hq : P.info? elem with
  | none => simp [hq] at hs
  | some i =>
    have hi : i.size = size := by simpa [hq] using hs
    rw [hn] at hl
    simp [Builtin.copy_, run_underlying hu, Builtin.lenOf, Builtin.firstCells, sizeOf, typeInfo, hq, hi, hl, hst]
theorem tabSize2 : (Tryd.prog.info? 42).map (·.size) = some 2 := by
  obtain ⟨i, hi, _, hz, _⟩ := tabInfo'
  rw [hi]; simp [hz]
/-- One table put between, in cells. -/
def insC (xs : List Value) (i : Nat) (a u : Value) : List Value := xs.take (i * 2) ++ [a, u] ++ xs.drop (i * 2)
theorem insC_len {xs : List Value} {n i : Nat} (h : xs.length = n * 2) (hi : i ≤ n) (a u : Value) : (insC xs i a u).length = (n + 1) * 2 := by
  unfold insC; rw [List.length_append, List.length_append, List.length_take, List.length_drop, List.length_cons, List.length_cons, List.length_nil]; omega
theorem insC_at {xs : List Value} {n i : Nat} (h : xs.length = n * 2) (hi : i ≤ n) (a u : Value) (q : Nat) : (insC xs i a u)[q]? = if q < i * 2 then xs[q]? else if q < (i + 1) * 2 then [a, u][q - i * 2]? else xs[q - 2]? := by
  unfold insC
  have hl : (xs.take (i * 2)).length = i * 2 := by rw [List.length_take]; omega
  rw [List.append_assoc]
  by_cases h1 : q < i * 2
  · rw [if_pos h1, List.getElem?_append_left (by omega), List.getElem?_take, if_pos h1]
  · rw [if_neg h1, List.getElem?_append_right (by omega), hl]
    by_cases h2 : q < (i + 1) * 2
    · rw [if_pos h2, List.getElem?_append_left (by simp; omega)]
    · rw [if_neg h2, List.getElem?_append_right (by simp; omega), List.getElem?_drop]
      congr 1
      simp only [List.length_cons, List.length_nil]; omega
/-- What is stored, cell by cell. -/
theorem ins_read {W : World} {g n i : Nat} {xs : List Value} {a u : Value} (hx : xs.length = n * 2) (hi : i ≤ n) (hold : ∀ q, q < i * 2 → W.cell? ⟨g, q, none⟩ = xs[q]?) (hsome : ∀ q, q < (n + 1) * 2 → (W.cell? ⟨g, q, none⟩).isSome = true) :
    (∀ q, q < (n + 1) * 2 → ((W.setCells g ((i + 1) * 2) (xs.drop (i * 2))).setCells g (i * 2) [a, u]).cell? ⟨g, q, none⟩ = (insC xs i a u)[q]?) ∧
    (∀ q, q < (n + 1) * 2 → ((W.setCells g (i * 2) [a, u]).setCells g ((i + 1) * 2) (xs.drop (i * 2))).cell? ⟨g, q, none⟩ = (insC xs i a u)[q]?) := by
  have hdl : (xs.drop (i * 2)).length = (n - i) * 2 := by rw [List.length_drop]; omega
  have hs1 : ∀ q, q < (n + 1) * 2 → ((W.setCells g ((i + 1) * 2) (xs.drop (i * 2))).cell? ⟨g, q, none⟩).isSome = true := fun q hq => isSome_setCells g _ _ _ (fun j hj => hsome _ (by omega)) q (hsome q hq)
  have hs2 : ∀ q, q < (n + 1) * 2 → ((W.setCells g (i * 2) [a, u]).cell? ⟨g, q, none⟩).isSome = true := fun q hq => isSome_setCells g _ _ _ (fun j hj => hsome _ (by simp at hj; omega)) q (hsome q hq)
  constructor
  · intro q hq
    rw [insC_at hx hi]
    by_cases h1 : q < i * 2
    · rw [if_pos h1, World.cell?_setCells_out _ _ _ _ _ (fun _ _ => .inl h1), World.cell?_setCells_out _ _ _ _ _ (fun _ _ => .inl (by show q < _; omega)), hold q h1]
    · rw [if_neg h1]
      by_cases h2 : q < (i + 1) * 2
      · rw [if_pos h2]
        have := World.cell?_setCells_in g [a, u] (i * 2) (W.setCells g ((i + 1) * 2) (xs.drop (i * 2))) (fun j hj => hs1 _ (by simp at hj; omega)) (q - i * 2) (by simp; omega)
        rw [show i * 2 + (q - i * 2) = q by omega] at this
        rw [this, List.getElem?_eq_getElem (by simp; omega)]
      · rw [if_neg h2, World.cell?_setCells_out _ _ _ _ _ (fun _ _ => .inr (by show _ ≤ q; simp; omega))]
        have := World.cell?_setCells_in g (xs.drop (i * 2)) ((i + 1) * 2) W (fun j hj => hsome _ (by omega)) (q - (i + 1) * 2) (by omega)
        rw [show (i + 1) * 2 + (q - (i + 1) * 2) = q by omega] at this
        rw [this, ← List.getElem?_eq_getElem, List.getElem?_drop]
        congr 1; omega
  · intro q hq
    rw [insC_at hx hi]
    by_cases h1 : q < i * 2
    · rw [if_pos h1, World.cell?_setCells_out _ _ _ _ _ (fun _ _ => .inl (by show q < _; omega)), World.cell?_setCells_out _ _ _ _ _ (fun _ _ => .inl h1), hold q h1]
    · rw [if_neg h1]
      by_cases h2 : q < (i + 1) * 2
      · rw [if_pos h2, World.cell?_setCells_out _ _ _ _ _ (fun _ _ => .inl h2)]
        have := World.cell?_setCells_in g [a, u] (i * 2) W (fun j hj => hsome _ (by simp at hj; omega)) (q - i * 2) (by simp; omega)
        rw [show i * 2 + (q - i * 2) = q by omega] at this
        rw [this, List.getElem?_eq_getElem (by simp; omega)]
      · rw [if_neg h2]
        have := World.cell?_setCells_in g (xs.drop (i * 2)) ((i + 1) * 2) (W.setCells g (i * 2) [a, u]) (fun j hj => hs2 _ (by omega)) (q - (i + 1) * 2) (by omega)
        rw [show (i + 1) * 2 + (q - (i + 1) * 2) = q by omega] at this
        rw [this, ← List.getElem?_eq_getElem, List.getElem?_drop]
        congr 1; omega
/-- What a call of Insert leaves. -/
def InsQ (w : World) (B : Nat) (v : Value) (n i : Nat) (xs : List Value) (a u : Value) (e : Ending) (w' : World) : Prop :=
  ∃ v', e = .returned v' ∧ w'.ownsRow B 42 2 v' (n + 1) (insC xs i a u) ∧ Ap (fun q => some q = v.ownBlock) w w' ∧ (v'.ownBlock = v.ownBlock ∨ ∃ q, v'.ownBlock = some q ∧ w.heap.size ≤ q)
set_option maxRecDepth 100000 in
set_option maxHeartbeats 4000000 in
/-- At the end. -/
theorem ins_end (B n vb : Nat) (v : Value) (xs : List Value) (a u : Value) (w : World) (hv : w.ownsRow B 42 2 v n xs) (hn : n ≤ 65536) (hB : B ≤ w.heap.size)
    (hc : ∀ j x, ([a, u] : List Value)[j]? = some x → w.cell? ((⟨vb, 0, none⟩ : Addr).add j) = some x) (h1 : ∀ x ∈ ([a, u] : List Value), x.oneCell' = true) :
    Calls Tryd.prog 20 #[v, .int .i64 (n : Int), .slice (some ⟨vb, 0, none⟩) 1 1] w (InsQ w B v n n xs a u) := by
  obtain ⟨A, cap, rfl, hA⟩ := own_form hv
  have HV := Lib.hid hv
  have HN := Lib.hid hn
  have HBW := Lib.hid hB
  have HC := Lib.hid hc
  have H1 := Lib.hid h1
  obtain ⟨iT, tI, tz0, tz1, tz2⟩ := tabInfo'
  have hcap : n ≤ cap ∧ cap ≤ maxLen := by
    rcases hv.2 with ⟨h, h0⟩ | ⟨g, cap', cur, h, _, _, h1, h2, _⟩
    · injection h with _ e1 e2; exact ⟨by omega, by rw [e2]; exact Nat.zero_le _⟩
    · injection h with _ e1 e2; subst e2; exact ⟨h1, h2⟩
  obtain ⟨hc1, hc2⟩ := hcap
  have HXS : Hid (insC xs n a u = xs ++ [a, u]) := Lib.hid (by
    unfold insC
    have := hv.1
    rw [List.take_of_length_le (by omega), List.drop_of_length_le (by omega), List.append_nil])
  clear hv hn hc h1 hA hB
  unfold InsQ
  by_cases hcn : cap = n
  all_goals
    go_enter Tryd.func20, Tryd.ntmps20
    go_wp2_with (at_builtin; (with_reducible refine wpList_append_own_at _ ?g0 (.tmp 23) (.tmp 24) 25 ?g1 B 42 iT (.agg #[.int .i64 0, .slice none 0 0]) 2 32 Tryd.underlying25 tI tz0 tz1 tz2 ?g2 (by decide) (.slice A n cap) n xs ?g3 HV.out ⟨vb, 0, none⟩ 1 1 [a, u] ?g4 ?g5 ?c1 ?c2 ?c3 ?c4 ?c5 ?_); (case g0 => rfl); (case g1 => rfl); (case g2 => rfl); (case g3 => rfl); (case g4 => rfl); (case g5 => rfl); (case c1 => exact HC.out); (case c2 => exact H1.out); (case c3 => have := HN.out; unfold maxLen; omega); (case c4 => have := HN.out; omega); (case c5 => exact HBW.out); (intro v6 w6 hown6 hgrow6 _ hob6); (obtain ⟨ao6, cp6, rfl, _⟩ := own_form hown6); have HO6 := Lib.hid hown6; have HG6 := Lib.hid hgrow6; have HOB6 := Lib.hid hob6; clear hown6 hgrow6 hob6)
    go_wp2
    go_ret
    refine ⟨_, rfl, by rw [HXS.out]; exact HO6.out, Ap.grown (Ap.refl w) HG6.out (fun q hq => .inl hq.symm), ?_⟩
    rcases HOB6.out with h | h
    · exact .inl h
    · exact .inr ⟨_, h, Nat.le_refl _⟩
end Go.Proofs.YtngkbcaflkinhaaDoor

