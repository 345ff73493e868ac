/- Scripts: the plain model (no program): lines of deeds and of a setup, there and back. -/
import Derived.Test.YtfmpbohiahjafaaDoorDmgP
namespace Go.Proofs.YtfmpbohiahjafaaDoor
open Go.Lib

/-! ### numbers -/
def nbOk (n : Int) : Bool := decide (0 ≤ n) && decide (n ≤ 1099511627776)
theorem nbOk_iff {n : Int} : nbOk n = true ↔ 0 ≤ n ∧ n ≤ 1099511627776 := by unfold nbOk; rw [Bool.and_eq_true, decide_eq_true_eq, decide_eq_true_eq]
/-- The number whose word this is, if there is one. -/
def numB (s : List UInt8) : Option Int := match atoiAll s with
  | .ok n => if nbOk n = true ∧ itoa n = s then some n else none
  | _ => none
theorem numB_is {s : List UInt8} {n : Int} (h : numB s = some n) : nbOk n = true ∧ itoa n = s := by
  unfold numB at h
  split at h
  · split at h
    · rename_i h2
      injection h with h
      subst h; exact h2
    · cases h
  · cases h
/-! ### texts -/
def hexs : List UInt8 := [48, 49, 50, 51, 52, 53, 54, 55, 56, 57, 97, 98, 99, 100, 101, 102]
def hx1 (n : Nat) : UInt8 := hexs.getD n 0
def hexW : List UInt8 → List UInt8
  | [] => []
  | b :: r => hx1 (b.toNat / 16) :: hx1 (b.toNat % 16) :: hexW r
/-- A text's word. -/
def texW (t : List UInt8) : List UInt8 := if t = [] then [45] else hexW t
/-- A digit's value; -1, if it is none. -/
def dgX (c : UInt8) : Int := indexByte hexs c
def unhex : List UInt8 → Option (List UInt8)
  | [] => some []
  | [_] => none
  | a :: b :: r => if dgX a < 0 ∨ dgX b < 0 then none else match unhex r with
    | some t => some (UInt8.ofNat ((dgX a).toNat * 16 + (dgX b).toNat) :: t)
    | none => none
/-- The text whose word this is, if there is one. -/
def texB (s : List UInt8) : Option (List UInt8) := if s = [45] then some [] else if s = [] ∨ 16384 < s.length then none else unhex s
theorem hx1_dg : ∀ n, n < 16 → dgX (hx1 n) = n := by decide
set_option maxRecDepth 100000 in
theorem dgX_cases : ∀ m : Nat, m < 256 → dgX (UInt8.ofNat m) = -1 ∨ ∃ n : Nat, n < 16 ∧ dgX (UInt8.ofNat m) = (n : Int) ∧ hx1 n = UInt8.ofNat m := by decide +kernel
theorem dgX_is {c : UInt8} (h : ¬ dgX c < 0) : ∃ n : Nat, n < 16 ∧ dgX c = (n : Int) ∧ hx1 n = c := by
  have hc := dgX_cases c.toNat c.toNat_lt
  rw [UInt8.ofNat_toNat] at hc
  rcases hc with hc | hc
  · rw [hc] at h; exact absurd (by decide) h
  · exact hc
theorem byte_two (b : UInt8) : UInt8.ofNat (b.toNat / 16 * 16 + b.toNat % 16) = b := by
  have : b.toNat / 16 * 16 + b.toNat % 16 = b.toNat := by omega
  rw [this]; exact UInt8.ofNat_toNat
theorem hexW_len (t : List UInt8) : (hexW t).length = 2 * t.length := by
  induction t with
  | nil => rfl
  | cons b r ih => simp only [hexW, List.length_cons, ih]; omega
theorem unhex_hexW (t : List UInt8) : unhex (hexW t) = some t := by
  induction t with
  | nil => rfl
  | cons b r ih =>
    have hb := b.toNat_lt
    have h1 := hx1_dg (b.toNat / 16) (by omega)
    have h2 := hx1_dg (b.toNat % 16) (by omega)
    rw [hexW, unhex, h1, h2, if_neg (by omega), ih]
    simp only [Int.toNat_natCast, byte_two]
theorem hexW_unhex : ∀ (s t : List UInt8), unhex s = some t → hexW t = s ∧ s.length = 2 * t.length
  | [], t, h => by
    unfold unhex at h
    injection h with h
    subst h; exact ⟨rfl, rfl⟩
  | [_], t, h => by unfold unhex at h; cases h
  | a :: b :: r, t, h => by
    rw [unhex] at h
    split at h
    · cases h
    rename_i hn
    obtain ⟨n, hn1, hn2, hn3⟩ := dgX_is (c := a) (by omega)
    obtain ⟨m, hm1, hm2, hm3⟩ := dgX_is (c := b) (by omega)
    cases hr : unhex r with
    | none => rw [hr] at h; cases h
    | some t2 =>
      rw [hr, hn2, hm2] at h
      injection h with h
      obtain ⟨i1, i2⟩ := hexW_unhex r t2 hr
      subst h
      have e : (UInt8.ofNat ((n : Int).toNat * 16 + (m : Int).toNat)).toNat = n * 16 + m := by
        rw [UInt8.toNat_ofNat', Int.toNat_natCast, Int.toNat_natCast]; omega
      refine ⟨?_, by simp only [List.length_cons]; omega⟩
      rw [hexW, e, i1, show (n * 16 + m) / 16 = n by omega, show (n * 16 + m) % 16 = m by omega, hn3, hm3]
theorem texB_is {s t : List UInt8} (h : texB s = some t) : texW t = s ∧ t.length ≤ 8192 := by
  unfold texB at h
  split at h
  · rename_i hs
    injection h with h
    subst h; exact ⟨hs.symm, by simp⟩
  split at h
  · cases h
  rename_i h1 h2
  obtain ⟨i1, i2⟩ := hexW_unhex s t h
  have ht : t ≠ [] := by
    rintro rfl
    exact h2 (.inl (List.length_eq_zero_iff.1 (by simpa using i2)))
  refine ⟨?_, by omega⟩
  unfold texW
  rw [if_neg ht, i1]
theorem hx1_dgt (n : Nat) (h : n < 16) : (10 : UInt8) ≠ hx1 n ∧ (32 : UInt8) ≠ hx1 n := by
  revert n; decide
theorem hexW_out (t : List UInt8) : (10 : UInt8) ∉ hexW t ∧ (32 : UInt8) ∉ hexW t := by
  induction t with
  | nil => simp [hexW]
  | cons b r ih =>
    have hb := b.toNat_lt
    have h1 := hx1_dgt (b.toNat / 16) (by omega)
    have h2 := hx1_dgt (b.toNat % 16) (by omega)
    simp only [hexW, List.mem_cons, not_or]
    exact ⟨⟨h1.1, h2.1, ih.1⟩, h1.2, h2.2, ih.2⟩
theorem texW_out (t : List UInt8) {c : UInt8} (h : c = 32 ∨ c = 10) : c ∉ texW t := by
  unfold texW
  split
  · rcases h with rfl | rfl <;> decide
  · rcases h with rfl | rfl
    · exact (hexW_out t).2
    · exact (hexW_out t).1
/-! ### deeds -/
/-- A deed: its kind, A, B, N, and its text. -/
structure DD where
  k : Int
  a : Int
  b : Int
  n : Int
  t : List UInt8
deriving DecidableEq
def DD.zero : DD := ⟨0, 0, 0, 0, []⟩
/-- The kinds: their words, and what they tell (1 A, 2 B, 3 N, 4 the text). -/
def kTab : List (List UInt8 × List Int) := [([], []), ([114, 101, 97, 100], [1, 2]), ([119, 114, 105, 116, 101], [1, 4]), ([122, 101, 114, 111], [1, 2]), ([100, 105, 115, 99, 97, 114, 100], [1, 2]), ([114, 101, 115, 105, 122, 101], [3]), ([115, 110, 97, 112], [4]), ([100, 101, 108, 101, 116, 101], [3]), ([114, 101, 118, 101, 114, 116], [3]), ([111, 108, 100], [3, 1, 2]), ([102, 108, 117, 115, 104], []), ([102, 117, 115, 101], [3]), ([99, 114, 97, 115, 104], [1]), ([101, 114, 97, 115, 101], [3]), ([103, 97, 114, 98, 108, 101], [3, 1, 2]), ([115, 99, 114, 117, 98], []), ([99, 111, 109, 112, 97, 99, 116], []), ([114, 101, 98, 117, 105, 108, 100], []), ([99, 104, 101, 99, 107], [])]
def kWd (k : Nat) : List UInt8 := (kTab.getD k ([], [])).1
def kTl (k : Nat) : List Int := (kTab.getD k ([], [])).2
/-- The kind whose word this is; 0, if there is none. -/
def kOf (w : List UInt8) : Nat := ((List.range 19).find? fun k => kWd k == w).getD 0
theorem kOf_lt (w : List UInt8) : kOf w < 19 := by
  unfold kOf
  cases h : (List.range 19).find? fun k => kWd k == w with
  | none => simp
  | some k => simpa using List.mem_range.1 (List.mem_of_find?_eq_some h)
theorem kOf_is {w : List UInt8} (h : kOf w ≠ 0) : kWd (kOf w) = w := by
  unfold kOf at h ⊢
  cases hk : (List.range 19).find? fun k => kWd k == w with
  | none => rw [hk] at h; exact absurd rfl h
  | some k => simpa using List.find?_some hk
theorem kOf_kWd : ∀ k, k < 19 → kOf (kWd k) = k := by decide
theorem kWd_out : ∀ k, k < 19 → (10 : UInt8) ∉ kWd k ∧ (32 : UInt8) ∉ kWd k := by decide
/-- The word of what a deed has there. -/
def tellW (d : DD) (x : Int) : List UInt8 := if x = 1 then itoa d.a else if x = 2 then itoa d.b else if x = 3 then itoa d.n else texW d.t
/-- A deed with what a word tells there. -/
def takeW (d : DD) (x : Int) (w : List UInt8) : Option DD :=
  if x = 4 then (texB w).map fun t => { d with t := t }
  else (numB w).map fun n => if x = 1 then { d with a := n } else if x = 2 then { d with b := n } else if x = 3 then { d with n := n } else d
def takeAll (d : DD) : List Int → List (List UInt8) → Option DD
  | x :: xs, w :: ws => match takeW d x w with
    | some d2 => takeAll d2 xs ws
    | none => none
  | _, _ => some d
/-- The deed whose line this is, if there is one. -/
def psD (l : List UInt8) : Option DD := match spl 32 l with
  | [] => none
  | w :: r => if kOf w = 0 ∨ r.length ≠ (kTl (kOf w)).length then none else takeAll ⟨kOf w, 0, 0, 0, []⟩ (kTl (kOf w)) r
def lnT (d : DD) : List UInt8 := jn 32 (kWd d.k.toNat :: (kTl d.k.toNat).map (tellW d))
/-- A deed's line, if it may be told. -/
def lnD (d : DD) : Option (List UInt8) := if d.k < 19 ∧ d.t.length ≤ 8192 ∧ psD (lnT d) = some d then some (lnT d) else none
theorem takeW_num {d d2 : DD} {x : Int} {w : List UInt8} (hx : x = 1 ∨ x = 2 ∨ x = 3) (h : takeW d x w = some d2) : ∃ n, nbOk n = true ∧ itoa n = w ∧ d2 = (if x = 1 then { d with a := n } else if x = 2 then { d with b := n } else { d with n := n }) := by
  unfold takeW at h
  rw [if_neg (by omega)] at h
  cases hn : numB w with
  | none => rw [hn] at h; cases h
  | some n =>
    obtain ⟨h1, h2⟩ := numB_is hn
    rw [hn] at h
    injection h with h
    refine ⟨n, h1, h2, h.symm.trans ?_⟩
    rcases hx with rfl | rfl | rfl <;> rfl
theorem takeW_tex {d d2 : DD} {w : List UInt8} (h : takeW d 4 w = some d2) : ∃ t, texW t = w ∧ t.length ≤ 8192 ∧ d2 = { d with t := t } := by
  unfold takeW at h
  rw [if_pos rfl] at h
  cases hn : texB w with
  | none => rw [hn] at h; cases h
  | some t =>
    obtain ⟨h1, h2⟩ := texB_is hn
    rw [hn] at h
    injection h with h
    exact ⟨t, h1, h2, h.symm⟩
theorem kTl_shape : ∀ k, k < 19 → kTl k = [] ∨ kTl k = [1] ∨ kTl k = [3] ∨ kTl k = [4] ∨ kTl k = [1, 2] ∨ kTl k = [1, 4] ∨ kTl k = [3, 1, 2] := by decide
theorem takeAll_is {k : Nat} (hk : k < 19) {d : DD} {r : List (List UInt8)} (hl : r.length = (kTl k).length) (h : takeAll ⟨k, 0, 0, 0, []⟩ (kTl k) r = some d) : d.k = k ∧ d.t.length ≤ 8192 ∧ (kTl k).map (tellW d) = r := by
  have one : ∀ (d : DD) (x : Int) (w : List UInt8) (xs : List Int) (ws : List (List UInt8)) (e : DD), takeAll d (x :: xs) (w :: ws) = some e → ∃ d2, takeW d x w = some d2 ∧ takeAll d2 xs ws = some e := by
    intro d x w xs ws e h
    rw [takeAll] at h
    cases ht : takeW d x w with
    | none => rw [ht] at h; cases h
    | some d2 => rw [ht] at h; exact ⟨d2, rfl, h⟩
  have nil : ∀ (d : DD) (ws : List (List UInt8)) (e : DD), takeAll d [] ws = some e → d = e := by
    intro d ws e h
    rw [takeAll] at h
    · injection h
    · intro x xs w ws h; cases h
  rcases kTl_shape k hk with e | e | e | e | e | e | e <;> rw [e] at hl h ⊢
  · obtain rfl : r = [] := List.length_eq_zero_iff.1 hl
    have := nil _ _ _ h
    subst this; exact ⟨rfl, by simp, rfl⟩
  · match r, hl with
    | [a], _ =>
      obtain ⟨d2, h2, h⟩ := one _ _ _ _ _ _ h
      obtain ⟨n, _, hw, rfl⟩ := takeW_num (.inl rfl) h2
      have := nil _ _ _ h
      subst this; exact ⟨rfl, by simp, by rw [← hw]; rfl⟩
  · match r, hl with
    | [a], _ =>
      obtain ⟨d2, h2, h⟩ := one _ _ _ _ _ _ h
      obtain ⟨n, _, hw, rfl⟩ := takeW_num (.inr (.inr rfl)) h2
      have := nil _ _ _ h
      subst this; exact ⟨rfl, by simp, by rw [← hw]; rfl⟩
  · match r, hl with
    | [a], _ =>
      obtain ⟨d2, h2, h⟩ := one _ _ _ _ _ _ h
      obtain ⟨t, hw, ht, rfl⟩ := takeW_tex h2
      have := nil _ _ _ h
      subst this; exact ⟨rfl, ht, by rw [← hw]; rfl⟩
  · match r, hl with
    | [a, b], _ =>
      obtain ⟨d2, h2, h⟩ := one _ _ _ _ _ _ h
      obtain ⟨n, _, hw, rfl⟩ := takeW_num (.inl rfl) h2
      obtain ⟨d3, h3, h⟩ := one _ _ _ _ _ _ h
      obtain ⟨m, _, hv, rfl⟩ := takeW_num (.inr (.inl rfl)) h3
      have := nil _ _ _ h
      subst this; exact ⟨rfl, by simp, by rw [← hw, ← hv]; rfl⟩
  · match r, hl with
    | [a, b], _ =>
      obtain ⟨d2, h2, h⟩ := one _ _ _ _ _ _ h
      obtain ⟨n, _, hw, rfl⟩ := takeW_num (.inl rfl) h2
      obtain ⟨d3, h3, h⟩ := one _ _ _ _ _ _ h
      obtain ⟨t, hv, ht, rfl⟩ := takeW_tex h3
      have := nil _ _ _ h
      subst this; exact ⟨rfl, ht, by rw [← hw, ← hv]; rfl⟩
  · match r, hl with
    | [a, b, c], _ =>
      obtain ⟨d2, h2, h⟩ := one _ _ _ _ _ _ h
      obtain ⟨n, _, hw, rfl⟩ := takeW_num (.inr (.inr rfl)) h2
      obtain ⟨d3, h3, h⟩ := one _ _ _ _ _ _ h
      obtain ⟨m, _, hv, rfl⟩ := takeW_num (.inl rfl) h3
      obtain ⟨d4, h4, h⟩ := one _ _ _ _ _ _ h
      obtain ⟨u, _, hx, rfl⟩ := takeW_num (.inr (.inl rfl)) h4
      have := nil _ _ _ h
      subst this; exact ⟨rfl, by simp, by rw [← hw, ← hv, ← hx]; rfl⟩
theorem psD_is {l : List UInt8} {d : DD} (h : psD l = some d) : (∃ k : Nat, d.k = k ∧ 0 < k ∧ k < 19) ∧ d.t.length ≤ 8192 ∧ lnT d = l := by
  unfold psD at h
  split at h
  · cases h
  rename_i w r hs
  split at h
  · cases h
  rename_i hn
  obtain ⟨h1, h2, h3⟩ := takeAll_is (kOf_lt w) (by omega) h
  have hw := kOf_is (w := w) (by omega)
  refine ⟨⟨kOf w, h1, by omega, kOf_lt w⟩, h2, ?_⟩
  unfold lnT
  rw [h1, Int.toNat_natCast, h3, hw, ← hs, jn_spl]
theorem lnD_of {l : List UInt8} {d : DD} (h : psD l = some d) : lnD d = some l := by
  obtain ⟨⟨k, h1, _, h2⟩, h3, h4⟩ := psD_is h
  unfold lnD
  rw [h4, if_pos ⟨by omega, h3, h⟩]
theorem lnD_is {l : List UInt8} {d : DD} (h : lnD d = some l) : psD l = some d ∧ lnT d = l := by
  unfold lnD at h
  split at h
  · rename_i h2
    injection h with h
    subst h; exact ⟨h2.2.2, rfl⟩
  · cases h
theorem ito_out10 (n : Int) {c : UInt8} (h : c = 32 ∨ c = 10) : c ∉ itoa n := by
  by_cases h0 : 0 ≤ n
  · exact ito_out2 h0 h
  · unfold itoa
    rw [if_pos (by omega)]
    intro hm
    rcases List.mem_cons.1 hm with hm | hm
    · subst hm; rcases h with h | h <;> cases h
    · have hd := dec_dgt _ _ hm
      rcases h with rfl | rfl
      · exact not_dgt32 hd
      · exact not_dgt10 hd
theorem tellW_out (d : DD) (x : Int) {c : UInt8} (h : c = 32 ∨ c = 10) : c ∉ tellW d x := by
  unfold tellW
  split
  · exact ito_out10 _ h
  split
  · exact ito_out10 _ h
  split
  · exact ito_out10 _ h
  · exact texW_out _ h
theorem lnT_out {d : DD} (hk : 0 ≤ d.k ∧ d.k < 19) : (10 : UInt8) ∉ lnT d := by
  refine jn_out (by decide) _ ?_
  intro a ha
  rcases List.mem_cons.1 ha with rfl | ha
  · exact (kWd_out _ (by omega)).1
  · obtain ⟨x, _, rfl⟩ := List.mem_map.1 ha
    exact tellW_out d x (.inr rfl)
/-! ### a setup -/
structure SU where
  s : Int
  k : Int
  m : Int
  c : Int
  l : Int
def SU.zero : SU := ⟨0, 0, 0, 0, 0⟩
def imgW : List UInt8 := [105, 109, 97, 103, 101]
def suW (c : SU) : List (List UInt8) := imgW :: [c.s, c.k, c.m, c.c, c.l].map itoa
def suT (c : SU) : List UInt8 := jn 32 (suW c)
/-- The setup whose line this is, if there is one. -/
def psS (l : List UInt8) : Option SU := match spl 32 l with
  | [w, a, b, c, d, e] => if w = imgW then match numB a, numB b, numB c, numB d, numB e with
    | some a, some b, some c, some d, some e => some ⟨a, b, c, d, e⟩
    | _, _, _, _, _ => none else none
  | _ => none
def lnS (c : SU) : Option (List UInt8) := if (psS (suT c)).isSome = true then some (suT c) else none
theorem psS_is {l : List UInt8} {x : SU} (h : psS l = some x) : suT x = l := by
  unfold psS at h
  split at h
  · rename_i w a b c d e hs
    split at h
    · rename_i hw
      split at h
      · rename_i a' b' c' d' e' ha hb hc hd he
        injection h with h
        subst h
        unfold suT suW
        simp only [List.map_cons, List.map_nil]
        rw [(numB_is ha).2, (numB_is hb).2, (numB_is hc).2, (numB_is hd).2, (numB_is he).2, ← hw, ← hs, jn_spl]
      · cases h
    · cases h
  · cases h
theorem suW_out (c : SU) {b : UInt8} (h : b = 32 ∨ b = 10) : ∀ a ∈ suW c, b ∉ a := by
  intro a ha
  unfold suW at ha
  rcases List.mem_cons.1 ha with rfl | ha
  · rcases h with rfl | rfl <;> decide
  · obtain ⟨n, _, rfl⟩ := List.mem_map.1 ha
    exact ito_out10 n h
theorem suT_out (c : SU) : (10 : UInt8) ∉ suT c := jn_out (by decide) _ (suW_out c (.inr rfl))
theorem ito_injI {a b : Int} (ha : 0 ≤ a) (h : itoa a = itoa b) : a = b := by
  by_cases hb : 0 ≤ b
  · exact ito_inj ha hb h
  · exfalso
    have h1 : (45 : UInt8) ∈ itoa b := by unfold itoa; rw [if_pos (by omega)]; exact List.mem_cons_self ..
    rw [← h, ito_dec ha] at h1
    have := dec_dgt _ _ h1
    unfold dgt at this
    revert this; decide
theorem psS_suT {c x : SU} (h : psS (suT c) = some x) : x = c := by
  have hs : spl 32 (suT c) = suW c := spl_jn 32 _ (by simp [suW]) (suW_out c (.inl rfl))
  unfold psS at h
  rw [hs] at h
  unfold suW at h
  simp only [List.map_cons, List.map_nil, if_true] at h
  split at h
  · rename_i a' b' c' d' e' ha hb hc hd he
    injection h with h
    subst h
    have f : ∀ {n m : Int}, numB (itoa n) = some m → m = n := fun hn => ito_injI (nbOk_iff.1 (numB_is hn).1).1 (numB_is hn).2
    rw [f ha, f hb, f hc, f hd, f he]
  · cases h
theorem lnS_is {c : SU} {l : List UInt8} (h : lnS c = some l) : psS l = some c ∧ l = suT c := by
  unfold lnS at h
  split at h
  · rename_i hp
    injection h with h
    obtain ⟨x, hx⟩ := Option.isSome_iff_exists.1 hp
    have := psS_suT hx
    subst this
    exact ⟨h ▸ hx, h.symm⟩
  · cases h
theorem lnS_of {c : SU} {l : List UInt8} (h : psS l = some c) : lnS c = some l := by
  unfold lnS
  rw [psS_is h, h]; rfl
end Go.Proofs.YtfmpbohiahjafaaDoor
