/- Scripts: what is read is right; the law's own sample (no program). -/
import Derived.Test.YtfmpbohiahjafaaDoorScrT
namespace Go.Proofs.YtfmpbohiahjafaaDoor
open Go.Lib

theorem nbOk_I6 {n : Int} (h : nbOk n = true) : I6 n := by
  have := nbOk_iff.1 h
  unfold I6; omega
theorem i6z : I6 0 := by unfold I6; decide
theorem takeW_ok {d d2 : DD} {x : Int} {w : List UInt8} (hd : DDok d) (h : takeW d x w = some d2) : DDok d2 := by
  obtain ⟨k1, k2, a, b, n⟩ := hd
  unfold takeW at h
  split at h
  · obtain ⟨t, _, rfl⟩ := Option.map_eq_some_iff.1 h
    exact ⟨k1, k2, a, b, n⟩
  · obtain ⟨m, hm, rfl⟩ := Option.map_eq_some_iff.1 h
    have hm := nbOk_I6 (numB_is hm).1
    split
    · exact ⟨k1, k2, hm, b, n⟩
    · split
      · exact ⟨k1, k2, a, hm, n⟩
      · split
        · exact ⟨k1, k2, a, b, hm⟩
        · exact ⟨k1, k2, a, b, n⟩
theorem takeAll_ok : ∀ (xs : List Int) (ws : List (List UInt8)) {d d2 : DD}, DDok d → takeAll d xs ws = some d2 → DDok d2
  | [], _, d, d2, hd, h => by
    rw [takeAll] at h
    · injection h with h; subst h; exact hd
    · intro x xs w ws e; cases e
  | _ :: _, [], d, d2, hd, h => by
    rw [takeAll] at h
    · injection h with h; subst h; exact hd
    · intro x xs w ws _ e; cases e
  | x :: xs, w :: ws, d, d2, hd, h => by
    rw [takeAll] at h
    split at h
    · rename_i d3 h3
      exact takeAll_ok xs ws (takeW_ok hd h3) h
    · cases h
theorem psD_ok {l : List UInt8} {d : DD} (h : psD l = some d) : DDok d := by
  unfold psD at h
  split at h
  · cases h
  · rename_i w r _
    split at h
    · cases h
    · have hk := kOf_lt w
      refine takeAll_ok _ _ ⟨?_, ?_, ?_, ?_, ?_⟩ h
      · exact Int.natCast_nonneg _
      · show ((kOf w : Nat) : Int) < 256
        omega
      all_goals exact i6z
theorem psS_ok {l : List UInt8} {c : SU} (h : psS l = some c) : SUok c := by
  unfold psS at h
  split at h
  · split at h
    · split at h
      · rename_i a' b' c' d' e' ha hb hc hd he
        injection h with h
        subst h
        exact ⟨nbOk_I6 (numB_is ha).1, nbOk_I6 (numB_is hb).1, nbOk_I6 (numB_is hc).1, nbOk_I6 (numB_is hd).1, nbOk_I6 (numB_is he).1⟩
      · cases h
    · cases h
  · cases h
theorem su_zero_ok : SUok SU.zero := by
  refine ⟨?_, ?_, ?_, ?_, ?_⟩ <;> (unfold I6; decide)
theorem gp_err : ∀ (P : List (List UInt8)) (acc : List DD), (gp P acc).2.2 = 0 ∨ (gp P acc).1 = []
  | [], acc => .inl rfl
  | [p], acc => by
    rw [gp]
    split
    · exact .inl rfl
    · exact .inr rfl
  | p :: q :: R, acc => by
    rw [gp]
    split
    · exact .inr rfl
    · split
      · exact .inr rfl
      · exact gp_err (q :: R) _
/-- What is read of a text: right, and that text again; or nothing. -/
theorem getS_two (T : List UInt8) : (∃ c L, getS T = (c, L, 0, 0) ∧ putS c L = (T, 0) ∧ SUok c ∧ ∀ d ∈ L, DDok d) ∨ (∃ a e, getS T = (SU.zero, [], a, e) ∧ e ≠ 0) := by
  have h6 : (6 : Int) ≠ 0 := by decide
  rcases hs : spl 10 T with _ | ⟨p, _ | ⟨q, R⟩⟩
  · exact .inr ⟨1, 6, by unfold getS; rw [hs], h6⟩
  · exact .inr ⟨1, 6, by unfold getS; rw [hs], h6⟩
  · cases hp : psS p with
    | none => exact .inr ⟨1, 6, by unfold getS; rw [hs]; show (match psS p with | none => _ | some c => _) = _; rw [hp], h6⟩
    | some c =>
      have hg : getS T = if (gp (q :: R) []).2.2 = 0 then (c, (gp (q :: R) []).1, 0, 0) else (SU.zero, [], (gp (q :: R) []).2.1, (gp (q :: R) []).2.2) := by
        unfold getS; rw [hs]; show (match psS p with | none => _ | some c => _) = _; rw [hp]
      by_cases h0 : (gp (q :: R) []).2.2 = 0
      · rw [if_pos h0] at hg
        refine .inl ⟨c, _, hg, put_get hg, psS_ok hp, ?_⟩
        obtain ⟨M, h1, _, h3, _⟩ := gp_back (q :: R) [] (gp (q :: R) []).1 (gp (q :: R) []).2.1 (by simp) (by simp) (by rw [← h0])
        rw [h1, List.nil_append]
        exact fun d hd => psD_ok (lnD_some (h3 d hd))
      · rw [if_neg h0] at hg
        exact .inr ⟨_, _, hg, h0⟩
/-- What is written: read again; or nothing. -/
theorem putS_two (c : SU) (L : List DD) : (putS c L = (putT c L, 0) ∧ getS (putT c L) = (c, L, 0, 0)) ∨ (∃ e, putS c L = ([], e) ∧ e ≠ 0) := by
  by_cases h : (putS c L).2 = 0
  · have h2 : putS c L = (putT c L, 0) := by
      unfold putS at h ⊢
      split at h
      · exact absurd h (by decide)
      · split at h
        · rename_i h1 h2
          rw [if_neg h1, if_pos h2]
        · exact absurd h (by decide)
    exact .inl ⟨h2, get_put h2⟩
  · refine .inr ⟨(putS c L).2, ?_, h⟩
    rw [← putS_no h]
theorem putT_len {c : SU} {L : List DD} (hc : SUok c) (hL : ∀ d ∈ L, DDok d) (hn : L.length ≤ 200) (h : putS c L = (putT c L, 0)) : (putT c L).length ≤ 100000000 := by
  have hok : putOk c L = true := by
    unfold putS at h
    split at h
    · exact absurd (Prod.mk.inj h).2 (by decide)
    · split at h
      · assumption
      · exact absurd (Prod.mk.inj h).2 (by decide)
  unfold putOk at hok
  rw [Bool.and_eq_true, List.all_eq_true] at hok
  have hp : pOk c L (L.length + 1) := by
    intro i hi
    unfold lnK
    split
    · exact hok.1
    · exact hok.2 _ (by rw [List.getD, List.getElem?_eq_getElem (by omega)]; exact List.getElem_mem _)
  have h2 := pT_len hc hL (L.length + 1) (Nat.le_refl _) hp
  have h3 : pT c L (L.length + 1) = putT c L := by
    unfold pT putT
    rw [if_neg (by omega), Nat.add_sub_cancel, List.take_length]
  rw [h3] at h2
  have : (L.length + 1) * 100001 ≤ 201 * 100001 := Nat.mul_le_mul_right _ (by omega)
  omega
/-! ### the sample -/
theorem numB_at {s : List UInt8} {n : Int} (h1 : atoiAll s = .ok n) (h2 : itoa n = s) (h3 : nbOk n = true) : numB s = some n := by
  unfold numB; rw [h1]; exact if_pos ⟨h3, h2⟩
theorem ito1s (n : Nat) (h : n < 10) : itoa (n : Int) = [UInt8.ofNat (48 + n)] := by
  unfold itoa
  rw [if_neg (by omega), Int.toNat_natCast, decDigits_one h]
theorem ito40 : itoa (40 : Int) = [52, 48] := by
  unfold itoa
  rw [if_neg (by omega), show (40 : Int).toNat = 40 from rfl, decDigits_two (by omega) (by omega)]
  decide
theorem nu1 : numB [49] = some 1 := numB_at (by rfl) (ito1s 1 (by omega)) (by decide)
theorem nu2 : numB [50] = some 2 := numB_at (by rfl) (ito1s 2 (by omega)) (by decide)
theorem nu3 : numB [51] = some 3 := numB_at (by rfl) (ito1s 3 (by omega)) (by decide)
theorem nu5 : numB [53] = some 5 := numB_at (by rfl) (ito1s 5 (by omega)) (by decide)
theorem nu7 : numB [55] = some 7 := numB_at (by rfl) (ito1s 7 (by omega)) (by decide)
theorem nu40 : numB [52, 48] = some 40 := numB_at (by rfl) ito40 (by decide)
theorem nu01 : numB [48, 49] = none := by
  unfold numB
  rw [show atoiAll [48, 49] = .ok 1 from by rfl]
  refine if_neg ?_
  rintro ⟨_, h⟩
  rw [show itoa (1 : Int) = [49] from ito1s 1 (by omega)] at h
  revert h; decide
def lvSU : SU := ⟨1, 2, 3, 40, 5⟩
def lvD1 : DD := ⟨2, 7, 0, 0, [104, 105]⟩
def lvD2 : DD := ⟨14, 2, 3, 1, []⟩
def lvT0 : List UInt8 := [105, 109, 97, 103, 101, 32, 49, 32, 50, 32, 51, 32, 52, 48, 32, 53, 10, 119, 114, 105, 116, 101, 32, 55, 32, 54, 56, 54, 57, 10, 103, 97, 114, 98, 108, 101, 32, 49, 32, 50, 32, 51, 10]
def lvR : List UInt8 := [114, 101, 115, 105, 122, 101, 32, 48, 49, 10]
theorem lv_su : suT lvSU = [105, 109, 97, 103, 101, 32, 49, 32, 50, 32, 51, 32, 52, 48, 32, 53] := by
  have h1 : itoa (1 : Int) = [49] := ito1s 1 (by omega)
  have h2 : itoa (2 : Int) = [50] := ito1s 2 (by omega)
  have h3 : itoa (3 : Int) = [51] := ito1s 3 (by omega)
  have h5 : itoa (5 : Int) = [53] := ito1s 5 (by omega)
  show jn 32 [imgW, itoa 1, itoa 2, itoa 3, itoa 40, itoa 5] = _
  rw [h1, h2, h3, h5, ito40]; decide
theorem lv_psS : psS (suT lvSU) = some lvSU := by
  rw [lv_su]
  unfold psS
  rw [show spl 32 [105, 109, 97, 103, 101, 32, 49, 32, 50, 32, 51, 32, 52, 48, 32, 53] = [imgW, [49], [50], [51], [52, 48], [53]] from by decide]
  show (if imgW = imgW then _ else _) = _
  rw [if_pos rfl, nu1, nu2, nu3, nu40, nu5]
  rfl
theorem lv_l1 : lnT lvD1 = [119, 114, 105, 116, 101, 32, 55, 32, 54, 56, 54, 57] := by
  have h7 : itoa (7 : Int) = [55] := ito1s 7 (by omega)
  show jn 32 [kWd 2, itoa 7, texW [104, 105]] = _
  rw [h7]; decide
theorem lv_l2 : lnT lvD2 = [103, 97, 114, 98, 108, 101, 32, 49, 32, 50, 32, 51] := by
  have h1 : itoa (1 : Int) = [49] := ito1s 1 (by omega)
  have h2 : itoa (2 : Int) = [50] := ito1s 2 (by omega)
  have h3 : itoa (3 : Int) = [51] := ito1s 3 (by omega)
  show jn 32 [kWd 14, itoa 1, itoa 2, itoa 3] = _
  rw [h1, h2, h3]; decide
theorem psD_at {l w : List UInt8} {r : List (List UInt8)} {k : Nat} (h1 : spl 32 l = w :: r) (h2 : kOf w = k) (h3 : k ≠ 0) : psD l = if r.length ≠ (kTl k).length then none else takeAll ⟨k, 0, 0, 0, []⟩ (kTl k) r := by
  unfold psD
  rw [h1]
  show (if kOf w = 0 ∨ _ then _ else _) = _
  rw [h2]
  by_cases h : r.length ≠ (kTl k).length
  · rw [if_pos h, if_pos (.inr h)]
  · rw [if_neg h, if_neg (fun h4 => h4.elim h3 h)]
theorem lv_p1 : psD [119, 114, 105, 116, 101, 32, 55, 32, 54, 56, 54, 57] = some lvD1 := by
  rw [psD_at (w := [119, 114, 105, 116, 101]) (r := [[55], [54, 56, 54, 57]]) (k := 2) (by decide) (by decide) (by decide), if_neg (by decide)]
  show takeAll _ [1, 4] _ = _
  rw [takeAll, show takeW ⟨((2 : Nat) : Int), 0, 0, 0, []⟩ 1 [55] = some ⟨2, 7, 0, 0, []⟩ from by unfold takeW; rw [if_neg (by decide), nu7]; rfl]
  show takeAll _ [4] _ = _
  rw [takeAll, show takeW ⟨2, 7, 0, 0, []⟩ 4 [54, 56, 54, 57] = some lvD1 from by unfold takeW; rw [if_pos (by decide), show texB [54, 56, 54, 57] = some [104, 105] from by decide]; rfl]
  rfl
theorem lv_p2 : psD [103, 97, 114, 98, 108, 101, 32, 49, 32, 50, 32, 51] = some lvD2 := by
  rw [psD_at (w := [103, 97, 114, 98, 108, 101]) (r := [[49], [50], [51]]) (k := 14) (by decide) (by decide) (by decide), if_neg (by decide)]
  show takeAll _ [3, 1, 2] _ = _
  rw [takeAll, show takeW ⟨((14 : Nat) : Int), 0, 0, 0, []⟩ 3 [49] = some ⟨14, 0, 0, 1, []⟩ from by unfold takeW; rw [if_neg (by decide), nu1]; rfl]
  show takeAll _ [1, 2] _ = _
  rw [takeAll, show takeW ⟨14, 0, 0, 1, []⟩ 1 [50] = some ⟨14, 2, 0, 1, []⟩ from by unfold takeW; rw [if_neg (by decide), nu2]; rfl]
  show takeAll _ [2] _ = _
  rw [takeAll, show takeW ⟨14, 2, 0, 1, []⟩ 2 [51] = some lvD2 from by unfold takeW; rw [if_neg (by decide), nu3]; rfl]
  rfl
theorem lv_p3 : psD [114, 101, 115, 105, 122, 101, 32, 48, 49] = none := by
  rw [psD_at (w := [114, 101, 115, 105, 122, 101]) (r := [[48, 49]]) (k := 5) (by decide) (by decide) (by decide), if_neg (by decide)]
  show takeAll _ [3] _ = _
  rw [takeAll, show takeW ⟨((5 : Nat) : Int), 0, 0, 0, []⟩ 3 [48, 49] = none from by unfold takeW; rw [if_neg (by decide), nu01]; rfl]
theorem lv_p4 : psD [115, 110, 97, 112, 32, 45] = some ⟨6, 0, 0, 0, []⟩ := by
  rw [psD_at (w := [115, 110, 97, 112]) (r := [[45]]) (k := 6) (by decide) (by decide) (by decide), if_neg (by decide)]
  show takeAll _ [4] _ = _
  rw [takeAll, show takeW ⟨((6 : Nat) : Int), 0, 0, 0, []⟩ 4 [45] = some ⟨6, 0, 0, 0, []⟩ from by unfold takeW; rw [if_pos (by decide), show texB [45] = some [] from by decide]; rfl]
  rfl
theorem lv_p5 : psD [102, 108, 117, 115, 104, 32, 49] = none := by
  rw [psD_at (w := [102, 108, 117, 115, 104]) (r := [[49]]) (k := 10) (by decide) (by decide) (by decide), if_pos (by decide)]
theorem lv_p6 : lnD ⟨10, 0, 0, 1, []⟩ = none := by
  unfold lnD
  rw [if_neg]
  rintro ⟨_, _, h⟩
  rw [show lnT ⟨10, 0, 0, 1, []⟩ = [102, 108, 117, 115, 104] from by decide, psD_at (w := [102, 108, 117, 115, 104]) (r := []) (k := 10) (by decide) (by decide) (by decide), if_neg (by decide)] at h
  have h : (some (⟨((10 : Nat) : Int), 0, 0, 0, []⟩ : DD)) = some ⟨10, 0, 0, 1, []⟩ := h
  revert h; decide
theorem lv_n1 : lnD lvD1 = some [119, 114, 105, 116, 101, 32, 55, 32, 54, 56, 54, 57] := lnD_of lv_p1
theorem lv_n2 : lnD lvD2 = some [103, 97, 114, 98, 108, 101, 32, 49, 32, 50, 32, 51] := lnD_of lv_p2
theorem lv_put : putS lvSU [lvD1, lvD2] = (lvT0, 0) := by
  have hok : putOk lvSU [lvD1, lvD2] = true := by
    unfold putOk
    rw [List.all_cons, List.all_cons, List.all_nil, lnS_of lv_psS, lv_n1, lv_n2]
    rfl
  unfold putS
  rw [if_neg (by decide), if_pos hok]
  unfold putT dsT
  rw [List.flatMap_cons, List.flatMap_cons, List.flatMap_nil, lv_l1, lv_l2, lv_su]
  decide
theorem lv_get : getS lvT0 = (lvSU, [lvD1, lvD2], 0, 0) := by
  rcases putS_two lvSU [lvD1, lvD2] with ⟨h1, h2⟩ | ⟨e, h1, h2⟩
  · rw [lv_put] at h1
    rw [(Prod.mk.inj h1).1]
    exact h2
  · rw [lv_put] at h1
    exact absurd (Prod.mk.inj h1).2.symm h2
theorem lv_get2 : getS (lvT0 ++ lvR) = (SU.zero, [], 4, 6) := by
  have e : lvT0 ++ lvR = suT lvSU ++ 10 :: [119, 114, 105, 116, 101, 32, 55, 32, 54, 56, 54, 57, 10, 103, 97, 114, 98, 108, 101, 32, 49, 32, 50, 32, 51, 10, 114, 101, 115, 105, 122, 101, 32, 48, 49, 10] := by rw [lv_su]; decide
  rw [e, getS_in (suT_out _) lv_psS, show spl 10 [119, 114, 105, 116, 101, 32, 55, 32, 54, 56, 54, 57, 10, 103, 97, 114, 98, 108, 101, 32, 49, 32, 50, 32, 51, 10, 114, 101, 115, 105, 122, 101, 32, 48, 49, 10] = [[119, 114, 105, 116, 101, 32, 55, 32, 54, 56, 54, 57], [103, 97, 114, 98, 108, 101, 32, 49, 32, 50, 32, 51], [114, 101, 115, 105, 122, 101, 32, 48, 49], []] from by decide]
  have hg : gp [[119, 114, 105, 116, 101, 32, 55, 32, 54, 56, 54, 57], [103, 97, 114, 98, 108, 101, 32, 49, 32, 50, 32, 51], [114, 101, 115, 105, 122, 101, 32, 48, 49], []] [] = ([], 4, 6) := by
    rw [gp, lv_p1]
    dsimp only
    rw [if_neg (by decide), gp, lv_p2]
    dsimp only
    rw [if_neg (by decide), gp, lv_p3]
    rfl
  rw [hg]
  exact if_neg (by decide)
theorem lv_get0 : getS [] = (SU.zero, [], 1, 6) := getS_none (by simp)
end Go.Proofs.YtfmpbohiahjafaaDoor
