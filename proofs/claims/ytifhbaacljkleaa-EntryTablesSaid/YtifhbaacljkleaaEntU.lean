/- Entries: the document's own ParseTable; Same. -/
import Derived.Test.YtifhbaacljkleaaEntR
namespace Go.Proofs.Ytifhbaacljkleaa
open Go.RowKit

def eCells (L : List EN) : List Value := L.flatMap EN.cells
theorem eCells_len (L : List EN) : (eCells L).length = L.length * 4 := by
  unfold eCells
  induction L with
  | nil => rfl
  | cons p r ih => rw [List.flatMap_cons, List.length_append, ih, List.length_cons]; show 4 + _ = _; omega
theorem eCells_snoc (L : List EN) (p : EN) : eCells (L ++ [p]) = eCells L ++ [.int .u8 p.kind, .int .i64 p.st, .int .i64 p.mb, .int .i64 p.fr] := by
  unfold eCells; rw [List.flatMap_append, List.flatMap_singleton]; rfl
theorem eCells_at : ∀ (L : List EN) (j : Nat), j < L.length → ∀ q, q < 4 → (eCells L)[j * 4 + q]? = (L.getD j EN.zero).cells[q]?
  | p :: r, 0, _, q, hq => by
    show (p.cells ++ eCells r)[0 * 4 + q]? = _
    rw [Nat.zero_mul, Nat.zero_add, List.getElem?_append_left (by show q < 4; exact hq)]; rfl
  | p :: r, j + 1, h, q, hq => by
    show (p.cells ++ eCells r)[(j + 1) * 4 + q]? = _
    rw [List.getElem?_append_right (by show 4 ≤ _; omega), List.getD_cons_succ, ← eCells_at r j (by simpa using h) q hq]
    congr 1
    show (j + 1) * 4 + q - 4 = _; omega
/-- What a call owns reads as that. -/
theorem EntsS.of_own {w : World} {base : Nat} {v : Value} {L : List EN} (h : w.ownsRow base 26 4 v L.length (eCells L)) : EntsS w v L := by
  rcases h.2 with ⟨rfl, h0⟩ | ⟨g, cap, cur, rfl, hb, hh, hn, hm, hs, ht⟩
  · have : L = [] := by
      have h1 := eCells_len L
      cases L with
      | nil => rfl
      | cons a b => simp at h0
    subst this
    exact ⟨none, 0, rfl, Nat.le_refl _, Nat.zero_le _, .inl rfl⟩
  · refine ⟨_, cap, rfl, hn, hm, .inr ⟨g, 0, rfl, (Array.getElem?_eq_some_iff.1 hh).1, fun j hj => ?_⟩⟩
    have hc : ∀ q, q < 4 → w.cell? ⟨g, 0 + j * 4 + q, none⟩ = (L.getD j EN.zero).cells[q]? := by
      intro q hq
      rw [Nat.zero_add, cell_of_row w g (j * 4 + q) cur _ (0, 0) hh, ← eCells_at L j hj q hq]
      have h1 : (cur.toList.take (L.length * 4))[j * 4 + q]? = (eCells L)[j * 4 + q]? := by rw [ht]
      rw [List.getElem?_take, if_pos (by omega), Array.getElem?_toList] at h1
      exact h1
    exact ⟨hc 0 (by omega), hc 1 (by omega), hc 2 (by omega), hc 3 (by omega)⟩
theorem ent_one (p : EN) : ∀ u ∈ ([.int .u8 p.kind, .int .i64 p.st, .int .i64 p.mb, .int .i64 p.fr] : List Value), u.oneCell' = true := by
  intro u hu
  simp only [List.mem_cons, List.not_mem_nil, or_false] at hu
  rcases hu with rfl | rfl | rfl | rfl <;> rfl
theorem new_cells4 (W : World) (a b c d : Value) (t : TypeId) : ∀ j u, ([a, b, c, d] : List Value)[j]? = some u → (W.alloc (.cells #[a, b, c, d] t)).cell? ((⟨W.heap.size, 0, none⟩ : Addr).add j) = some u := by
  intro j u h
  have hj : j < 4 := by have := (List.getElem?_eq_some_iff.1 h).1; simpa using this
  have e : ((⟨W.heap.size, 0, none⟩ : Addr).add j) = ⟨W.heap.size, j, none⟩ := by unfold Addr.add; split <;> simp_all
  rw [e, cell_of_row _ _ _ _ t (0, 0) (heap_alloc_new W _), ← h]
  simp
theorem entInfo' : ∃ i, Try.prog.info? 26 = some i ∧ i.zero = some (.agg #[.int .u8 0, .int .i64 0, .int .i64 0, .int .i64 0]) ∧ i.size = 4 ∧ i.bytes = 32 := by
  obtain ⟨i, hi, hz⟩ := Option.map_eq_some_iff.1 entInfo
  simp only [Prod.mk.injEq] at hz
  exact ⟨i, hi, hz.1, hz.2.1, hz.2.2⟩
theorem own_keepE {w w' : World} {base e s n : Nat} {v : Value} {xs : List Value} (h : w.ownsRow base e s v n xs) (hb : Below w.heap.size w w') : w'.ownsRow base e s v n xs := by
  refine ⟨h.1, ?_⟩
  rcases h.2 with h0 | ⟨g, cap, cur, hv, hg, hh, r⟩
  · exact .inl h0
  · exact .inr ⟨g, cap, cur, hv, hg, (hb.block g (Array.getElem?_eq_some_iff.1 hh).1).trans hh, r⟩
set_option maxRecDepth 100000 in
set_option maxHeartbeats 2000000 in
theorem rentParseTable_any (s : ByteArray) (hsz : s.size ≤ maxLen) (w : World) :
    Calls Try.prog 20 #[.string s] w fun e w' => (∃ x, e = .returned (.tuple #[x, .int .i64 (ptE s.data.toList)]) ∧ EntsS w' x (ptL s.data.toList)) ∧ Below w.heap.size w w' := by
  obtain ⟨r, hr⟩ : ∃ r : Int, r = ((s.size % 8 : Nat) : Int) := ⟨_, rfl⟩
  obtain ⟨n, hn⟩ : ∃ n : Nat, n = s.size / 8 := ⟨_, rfl⟩
  have hm1 : (s.size : Int) % 8 = r := by omega
  have hm2 : (s.size : Int).tmod 8 = r := by rw [hr]; rfl
  have hq1 : (s.size : Int) / 8 = (n : Int) := by omega
  have hq2 : (s.size : Int).tdiv 8 = (n : Int) := by rw [hn]; rfl
  have HN : Hid (n = s.data.toList.length / 8) := Lib.hid (by rw [size_toList]; exact hn)
  have HR : Hid (r = ((s.data.toList.length % 8 : Nat) : Int)) := Lib.hid (by rw [size_toList]; exact hr)
  by_cases h0 : r = 0
  case neg =>
    obtain ⟨e1, e2⟩ := pt_bad (s := s.data.toList) (fun h => h0 (by rw [HR.out, h.1]; rfl))
    rw [e1, e2]
    have d0 : (r == 0) = false := by rw [beq_eq_false_iff_ne]; exact h0
    have d1 : (r != 0) = true := by rw [bne_iff_ne]; exact h0
    clear hr hn
    go_enter Try.func20, Try.ntmps20
    go_wp2
    go_ret2
    exact ⟨⟨_, rfl, _, 0, rfl, Nat.le_refl _, Nat.zero_le _, .inl rfl⟩, Below.refl _ _⟩
  case pos =>
  rw [h0] at hm1 hm2
  clear h0
  by_cases hl : 8192 < n
  · obtain ⟨e1, e2⟩ := pt_bad (s := s.data.toList) (fun h => by have := h.2; rw [← HN.out] at this; omega)
    rw [e1, e2]
    have d1 : decide ((8192 : Int) < (n : Int)) = true := decide_eq_true (by omega)
    have d2 : wrap64 (n : Int) = (n : Int) := by unfold maxLen at hsz; unfold wrap64; omega
    clear hr hn hl
    go_enter Try.func20, Try.ntmps20
    go_wp2
    go_ret2
    exact ⟨⟨_, rfl, _, 0, rfl, Nat.le_refl _, Nat.zero_le _, .inl rfl⟩, Below.refl _ _⟩
  have HMOD : Hid (s.data.toList.length % 8 = 0) := Lib.hid (by rw [size_toList]; omega)
  have HSZ : Hid (s.size = 8 * n) := Lib.hid (by omega)
  have HNL : Hid (n ≤ 8192) := Lib.hid (by omega)
  have hnl := HNL.out
  have d1 : decide ((8192 : Int) < (n : Int)) = false := decide_eq_false (by omega)
  have d2 : wrap64 (n : Int) = (n : Int) := by unfold wrap64; omega
  clear hr hn hl hsz
  go_enter Try.func20, Try.ntmps20
  go_wp2
  clear hm1 hm2 hq1 hq2 d1 d2 HR
  obtain ⟨i0, hi, hz0, hz1, hz2⟩ := entInfo'
  go_loopw [4, 5] (fun vx ix wr => ∃ (j : Nat) (z : Value), j ≤ n ∧ ix = .int .i64 ((j : Int) * 8) ∧ z = vx ∧ (∀ i, i < j → EP (chunk s.data.toList i)) ∧ wr.ownsRow w.heap.size 26 4 z j (eCells (ptR s.data.toList j)) ∧ Below w.heap.size w wr) (fun _ ix _ => 8 * n - (intOf ix).toNat)
  case atStart => exact ⟨0, .slice none 0 0, Nat.zero_le _, rfl, rfl, (fun i h => absurd h (by omega)), World.ownsRow_nil _ _ _ _, Below.refl _ _⟩
  case round =>
    obtain ⟨j, z, hj, rfl, rfl, hp, hown, hB⟩ := hrel
    have HB := Lib.hid hB
    have HP := Lib.hid hp
    have HOWN := Lib.hid hown
    clear hB hp hown
    by_cases hlt : j < n
    · have hSl := slice8 s j (by have := HSZ.out; omega)
      have hPa := rentParse_any (s.extract (j * 8) (j * 8 + 8))
      rw [extract_chunk'] at hPa
      generalize s.extract (j * 8) (j * 8 + 8) = sub at hSl hPa
      have dlt : decide ((j : Int) * 8 < (s.size : Int)) = true := decide_eq_true (by have := HSZ.out; omega)
      have hx1 : wrap64 ((j : Int) * 8 + 8) = (j : Int) * 8 + 8 := by unfold wrap64; omega
      have HPOK : Hid (EP (chunk s.data.toList j) → entPE (chunk s.data.toList j) = 0) := Lib.hid (fun h => if_pos h)
      have HNO : Hid (¬ EP (chunk s.data.toList j) → entPE (chunk s.data.toList j) = 6 ∧ ptE s.data.toList = 6 ∧ ptL s.data.toList = []) := Lib.hid (fun h => ⟨if_neg h, pt_stop (by rw [← HN.out]; exact hlt) h⟩)
      by_cases hp : EP (chunk s.data.toList j)
      · rw [HPOK.out hp] at hPa
        have HPJ : Hid (∀ i, i < j + 1 → EP (chunk s.data.toList i)) := Lib.hid (fun i hi => by
          by_cases e : i = j
          · rw [e]; exact hp
          · exact HP.out i (by omega))
        have HSN := Lib.hid (ptR_succ s.data.toList j)
        generalize entP (chunk s.data.toList j) = p at hPa HSN
        obtain ⟨k, st, mb, fr⟩ := p
        unfold EN.v at hPa
        dsimp only at hPa
        clear hp HPOK HNO
        go_wp2_with (first
          | (go_at_call 11; refine (hPa _).mono ?_; rintro e w2 ⟨rfl, hb2⟩
             have HB2 := Lib.hid (HB.out.trans (hb2.mono HB.out.size))
             have HO2 := Lib.hid (own_keepE (own_keepE (own_keepE HOWN.out hb2) (below1 w2 (.cells #[.int .u8 k, .int .i64 st, .int .i64 mb, .int .i64 fr] 26))) (below1 (w2.alloc (.cells #[.int .u8 k, .int .i64 st, .int .i64 mb, .int .i64 fr] 26)) (.cells #[.int .u8 k, .int .i64 st, .int .i64 mb, .int .i64 fr] 26)))
             have hcl := new_cells4 (w2.alloc (.cells #[.int .u8 k, .int .i64 st, .int .i64 mb, .int .i64 fr] 26)) (.int .u8 k) (.int .i64 st) (.int .i64 mb) (.int .i64 fr) 26
             rw [World.size_alloc] at hcl
             have HCL := Lib.hid hcl
             clear hb2 hcl)
          | (at_builtin; (with_reducible refine wpList_append_own_at _ ?g0 (.tmp 36) (.tmp 38) 36 ?g1 w.heap.size 26 i0 (.agg #[.int .u8 0, .int .i64 0, .int .i64 0, .int .i64 0]) 4 32 Try.underlying36 hi hz0 hz1 hz2 ?g2 (by decide) z j (eCells (ptR s.data.toList j)) ?g3 HO2.out ⟨w2.heap.size + 1, 0, none⟩ 1 1 [.int .u8 k, .int .i64 st, .int .i64 mb, .int .i64 fr] ?g4 ?g5 ?c1 ?c2 ?c3 ?c4 ?c5 ?_); (case g0 => rfl); (case g1 => rfl); (case g2 => rfl); (case g3 => rfl); (case g4 => rfl); (case g5 => rfl); (case c1 => exact HCL.out); (case c2 => exact ent_one ⟨k, st, mb, fr⟩); (case c3 => unfold maxLen; omega); (case c4 => omega); (case c5 => have := HB2.out.size; simp; omega); (intro v' w3 hown3 hgrow _ _)))
        have hB3 : Below w.heap.size w w3 := ((HB2.out.alloc HB2.out.size (.cells #[.int .u8 k, .int .i64 st, .int .i64 mb, .int .i64 fr] 26)).alloc (by have := HB2.out.size; simp; omega) (.cells #[.int .u8 k, .int .i64 st, .int .i64 mb, .int .i64 fr] 26)).grown hgrow (by have := HB2.out.size; simp; omega) (fun g hg => (World.ownsRow.lt HOWN.out g hg).1)
        go_roundw
        case rel => exact ⟨j + 1, v', by omega, by go_num, rfl, HPJ.out, by rw [HSN.out, eCells_snoc]; exact hown3, hB3⟩
        case measure => simp [intOf]; omega
      · obtain ⟨e1, e2, e3⟩ := HNO.out hp
        rw [e1] at hPa
        have HE2 := Lib.hid e2
        have HE3 := Lib.hid e3
        generalize entP (chunk s.data.toList j) = p at hPa
        obtain ⟨k, st, mb, fr⟩ := p
        unfold EN.v at hPa
        dsimp only at hPa
        clear hp HPOK HNO e1 e2 e3
        go_wp2_with (go_at_call 11; refine (hPa _).mono ?_; rintro e w2 ⟨rfl, hb2⟩
                     have HB3 := Lib.hid ((HB.out.trans (hb2.mono HB.out.size)).alloc (Nat.le_trans HB.out.size hb2.size) (.cells #[.int .u8 k, .int .i64 st, .int .i64 mb, .int .i64 fr] 26))
                     clear hb2)
        go_ret2
        rw [HE2.out, HE3.out]
        exact ⟨⟨_, rfl, _, 0, rfl, Nat.le_refl _, Nat.zero_le _, .inl rfl⟩, HB3.out⟩
    · obtain rfl : j = n := by omega
      have HOK : Hid (ptOk s.data.toList) := Lib.hid ⟨HMOD.out, by rw [← HN.out]; exact HNL.out, fun i hi => HP.out i (by rw [HN.out]; exact hi)⟩
      have HL2 : Hid (ptL s.data.toList = ptR s.data.toList j) := Lib.hid (by unfold ptL; rw [if_pos HOK.out, ← HN.out])
      have HE2 : Hid (ptE s.data.toList = 0) := Lib.hid (if_pos HOK.out)
      have dlt : decide ((j : Int) * 8 < (s.size : Int)) = false := decide_eq_false (by have := HSZ.out; omega)
      go_wp2
      go_ret2
      rw [HE2.out, HL2.out]
      have h1 := HOWN.out
      refine ⟨⟨_, rfl, EntsS.of_own (base := w.heap.size) (by rw [ptR_len]; exact h1)⟩, HB.out⟩
end Go.Proofs.Ytifhbaacljkleaa
