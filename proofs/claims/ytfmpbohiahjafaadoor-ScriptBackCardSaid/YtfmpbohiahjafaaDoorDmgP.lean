/- Reports of damage: lines, and texts of lines, there and back (no program). -/
import Derived.Test.YtfmpbohiahjafaaDoorDmgM
namespace Go.Proofs.YtfmpbohiahjafaaDoor
open Go.Lib

/-! ### a line's words -/
theorem not_dgt32 : ¬ dgt 32 := by unfold dgt; decide
theorem not_dgt10 : ¬ dgt 10 := by unfold dgt; decide
theorem wdOk_iff {x : WD} : wdOk x = true ↔ (1 ≤ x.k ∧ x.k < 4) ∧ (0 ≤ x.id ∧ x.id ≤ 2147483648) ∧ (0 ≤ x.ix ∧ x.ix ≤ 2147483648) ∧ (0 ≤ x.pl ∧ x.pl ≤ 2147483648) ∧ (x.k = 3 ∨ x.ix = 0 ∨ x.k = 2 ∧ x.ix = 1) := by
  unfold wdOk nmOk
  simp only [Bool.and_eq_true, Bool.or_eq_true, decide_eq_true_eq, and_assoc, or_assoc]
theorem loOk_iff {x : LO} : loOk x = true ↔ -1 ≤ x.c ∧ x.c ≤ 2147483648 ∧ 0 ≤ x.f ∧ x.f < x.t ∧ x.t ≤ 65536 := by
  unfold loOk
  simp only [Bool.and_eq_true, decide_eq_true_eq, and_assoc]
theorem kW_out (k : Int) {c : UInt8} (h : c = 32 ∨ c = 10) : c ∉ kW k := by
  unfold kW
  rcases h with rfl | rfl <;> (split; · decide
                               · split <;> decide)
theorem hW_out (b : Bool) {c : UInt8} (h : c = 32 ∨ c = 10) : c ∉ hW b := by
  rcases h with rfl | rfl <;> cases b <;> decide
theorem ito_out2 {n : Int} (hn : 0 ≤ n) {c : UInt8} (h : c = 32 ∨ c = 10) : c ∉ itoa n := by
  rcases h with rfl | rfl
  · exact ito_out hn not_dgt32
  · exact ito_out hn not_dgt10
theorem cW_out {n : Int} (hn : -1 ≤ n) {c : UInt8} (h : c = 32 ∨ c = 10) : c ∉ cW n := by
  unfold cW
  split
  · rcases h with rfl | rfl <;> decide
  · exact ito_out2 (by omega) h
theorem wW_out {x : WD} (hx : wdOk x = true) {c : UInt8} (h : c = 32 ∨ c = 10) : ∀ a ∈ wWords x, c ∉ a := by
  rw [wdOk_iff] at hx
  intro a ha
  simp only [wWords, List.mem_cons, List.not_mem_nil, or_false] at ha
  rcases ha with rfl | rfl | rfl | rfl | rfl
  · exact kW_out _ h
  · exact ito_out2 hx.2.1.1 h
  · exact ito_out2 hx.2.2.1.1 h
  · exact ito_out2 hx.2.2.2.1.1 h
  · exact hW_out _ h
theorem lW_out {x : LO} (hx : loOk x = true) {c : UInt8} (h : c = 32 ∨ c = 10) : ∀ a ∈ lWords x, c ∉ a := by
  rw [loOk_iff] at hx
  intro a ha
  simp only [lWords, List.mem_cons, List.not_mem_nil, or_false] at ha
  rcases ha with rfl | rfl | rfl | rfl
  · rcases h with rfl | rfl <;> decide
  · exact cW_out hx.1 h
  · exact ito_out2 hx.2.2.1 h
  · exact ito_out2 (by omega) h
theorem spl_w {x : WD} (hx : wdOk x = true) : spl 32 (wLn x) = wWords x := spl_jn 32 _ (by simp [wWords]) (wW_out hx (.inl rfl))
theorem spl_l {x : LO} (hx : loOk x = true) : spl 32 (lLn x) = lWords x := spl_jn 32 _ (by simp [lWords]) (lW_out hx (.inl rfl))
theorem jn_out {c d : UInt8} (hcd : c ≠ d) : ∀ (L : List (List UInt8)), (∀ a ∈ L, c ∉ a) → c ∉ jn d L
  | [], _ => by simp [jn]
  | [a], h => by rw [jn_one]; exact h a (List.mem_cons_self ..)
  | a :: b :: r, h => by
    rw [jn_cons]
    intro hm
    rcases List.mem_append.1 hm with hm | hm
    · exact h a (List.mem_cons_self ..) hm
    · rcases List.mem_cons.1 hm with hm | hm
      · exact hcd hm
      · exact jn_out hcd (b :: r) (fun x hx => h x (List.mem_cons_of_mem _ hx)) hm
theorem wLn_out {x : WD} (hx : wdOk x = true) : (10 : UInt8) ∉ wLn x := jn_out (by decide) _ (wW_out hx (.inr rfl))
theorem lLn_out {x : LO} (hx : loOk x = true) : (10 : UInt8) ∉ lLn x := jn_out (by decide) _ (lW_out hx (.inr rfl))
/-! ### the document's reading of a line -/
def dg8 (b : UInt8) : Nat := (b.toNat + 208) % 256 % 10
def vlA : List UInt8 → Nat → Nat
  | [], acc => acc
  | b :: r, acc => vlA r (10 * acc + dg8 b)
def refV (l : List UInt8) : Int := (vlA (l.take 12) 0 : Nat)
theorem dg8_dgt {b : UInt8} (h : dgt b) : dg8 b = b.toNat - 48 := by unfold dgt at h; unfold dg8; omega
theorem vlA_dgt : ∀ (l : List UInt8) (acc : Nat), (∀ b ∈ l, dgt b) → vlA l acc = vlF acc l
  | [], _, _ => rfl
  | b :: r, acc, h => by
    rw [vlA, dg8_dgt (h b (List.mem_cons_self ..)), vlA_dgt r _ (fun x hx => h x (List.mem_cons_of_mem _ hx))]; rfl
theorem refV_ito {n : Int} (h : nmOk n = true) : refV (itoa n) = n := by
  have hs := ito_short h
  rw [nmOk_iff] at h
  unfold refV
  rw [List.take_of_length_le (by omega), ito_dec h.1, vlA_dgt _ _ (dec_dgt _), vlF_dec]
  omega
def refK (a : List UInt8) : Int := if a = pageW then 2 else if a = slotW then 1 else 3
def rW (l : List UInt8) : Option WD := match spl 32 l with
  | [a, b, c, d, e] => if wdOk ⟨refK a, refV b, refV c, refV d, decide (e = healedW)⟩ = true ∧ wLn ⟨refK a, refV b, refV c, refV d, decide (e = healedW)⟩ = l then some ⟨refK a, refV b, refV c, refV d, decide (e = healedW)⟩ else none
  | _ => none
def refC (a : List UInt8) : Int := if a = nowW then -1 else refV a
def rL (l : List UInt8) : Option LO := match spl 32 l with
  | [_, b, c, d] => if loOk ⟨refC b, refV c, refV d⟩ = true ∧ lLn ⟨refC b, refV c, refV d⟩ = l then some ⟨refC b, refV c, refV d⟩ else none
  | _ => none
theorem rW_is {l : List UInt8} {x : WD} (h : rW l = some x) : wdOk x = true ∧ wLn x = l := by
  unfold rW at h
  split at h
  · split at h
    · rename_i h2
      injection h with h
      subst h; exact h2
    · cases h
  · cases h
theorem rL_is {l : List UInt8} {x : LO} (h : rL l = some x) : loOk x = true ∧ lLn x = l := by
  unfold rL at h
  split at h
  · split at h
    · rename_i h2
      injection h with h
      subst h; exact h2
    · cases h
  · cases h
theorem refK_kW {k : Int} (h : 1 ≤ k ∧ k < 4) : refK (kW k) = k := by
  obtain rfl | rfl | rfl : k = 1 ∨ k = 2 ∨ k = 3 := by omega
  all_goals decide
theorem hl_hW (b : Bool) : decide (hW b = healedW) = b := by cases b <;> decide
theorem ito_ne_now {n : Int} (h : 0 ≤ n) : itoa n ≠ nowW := by
  intro e
  have h1 := dec_dgt n.toNat 110 (by rw [← ito_dec h, e]; decide)
  revert h1; unfold dgt; decide
theorem refC_cW {c : Int} (h : -1 ≤ c) (h2 : c ≤ 2147483648) : refC (cW c) = c := by
  unfold refC cW
  by_cases hc : c = -1
  · rw [if_pos hc, if_pos rfl, hc]
  · rw [if_neg hc, if_neg (ito_ne_now (by omega)), refV_ito (nmOk_iff.2 ⟨by omega, h2⟩)]
theorem rW_of {l : List UInt8} {x : WD} (h1 : wdOk x = true) (h2 : wLn x = l) : rW l = some x := by
  have hs := spl_w h1
  rw [h2] at hs
  have h3 := wdOk_iff.1 h1
  have e : (⟨refK (kW x.k), refV (itoa x.id), refV (itoa x.ix), refV (itoa x.pl), decide (hW x.hl = healedW)⟩ : WD) = x := by
    rw [refK_kW h3.1, refV_ito (nmOk_iff.2 h3.2.1), refV_ito (nmOk_iff.2 h3.2.2.1), refV_ito (nmOk_iff.2 h3.2.2.2.1), hl_hW]
  unfold rW
  rw [hs]
  unfold wWords
  dsimp only
  rw [e, if_pos ⟨h1, h2⟩]
theorem rL_of {l : List UInt8} {x : LO} (h1 : loOk x = true) (h2 : lLn x = l) : rL l = some x := by
  have hs := spl_l h1
  rw [h2] at hs
  have h3 := loOk_iff.1 h1
  have e : (⟨refC (cW x.c), refV (itoa x.f), refV (itoa x.t)⟩ : LO) = x := by
    rw [refC_cW h3.1 h3.2.1, refV_ito (nmOk_iff.2 ⟨h3.2.2.1, by omega⟩), refV_ito (nmOk_iff.2 ⟨by omega, by omega⟩)]
  unfold rL
  rw [hs]
  unfold lWords
  dsimp only
  rw [e, if_pos ⟨h1, h2⟩]
theorem rL_none {l : List UInt8} {x : WD} (h : rW l = some x) : rL l = none := by
  obtain ⟨h1, h2⟩ := rW_is h
  have hs := spl_w h1
  rw [h2] at hs
  unfold rL
  rw [hs]; rfl
/-! ### the program's reading of a line -/
/-- One number of a line. -/
def num1 (s : List UInt8) : Option Int := match atoiAll s with
  | .ok n => if itoa n = s then some n else none
  | _ => none
def codK (a : List UInt8) : Int := if a = slotW then 1 else if a = pageW then 2 else if a = stripeW then 3 else 0
theorem num1_is {s : List UInt8} {n : Int} (h : num1 s = some n) : itoa n = s := by
  unfold num1 at h
  split at h
  · split at h
    · rename_i h2
      injection h with h
      subst h; exact h2
    · cases h
  · cases h
theorem num1_ito {n : Int} (h : nmOk n = true) : num1 (itoa n) = some n := by
  unfold num1
  rw [ato_ito h]
  exact if_pos rfl
theorem codK_is {a : List UInt8} (h : 1 ≤ codK a) : kW (codK a) = a := by
  unfold codK at h ⊢
  by_cases h1 : a = slotW
  · rw [if_pos h1, h1]; rfl
  · by_cases h2 : a = pageW
    · rw [if_neg h1, if_pos h2, h2]; rfl
    · by_cases h3 : a = stripeW
      · rw [if_neg h1, if_neg h2, if_pos h3, h3]; rfl
      · rw [if_neg h1, if_neg h2, if_neg h3] at h; omega
theorem codK_kW {k : Int} (h : 1 ≤ k ∧ k < 4) : codK (kW k) = k := by
  obtain rfl | rfl | rfl : k = 1 ∨ k = 2 ∨ k = 3 := by omega
  all_goals decide
/-- What the program makes of five words. -/
theorem pW_is {l a b c d e : List UInt8} {x y z : Int} (hs : spl 32 l = [a, b, c, d, e]) (he : e = healedW ∨ e = openW) (hx : num1 b = some x) (hy : num1 c = some y) (hz : num1 d = some z)
    (hok : wdOk ⟨codK a, x, y, z, decide (e = healedW)⟩ = true) : rW l = some ⟨codK a, x, y, z, decide (e = healedW)⟩ := by
  refine rW_of hok ?_
  have h3 := wdOk_iff.1 hok
  unfold wLn wWords
  dsimp only
  rw [codK_is h3.1.1, num1_is hx, num1_is hy, num1_is hz]
  have : hW (decide (e = healedW)) = e := by rcases he with rfl | rfl <;> decide
  rw [this, ← hs, jn_spl]
theorem pW_no {l a b c d e : List UInt8} (hs : spl 32 l = [a, b, c, d, e]) (h : ∀ x y z, (e = healedW ∨ e = openW) → num1 b = some x → num1 c = some y → num1 d = some z → wdOk ⟨codK a, x, y, z, decide (e = healedW)⟩ = false) : rW l = none := by
  cases hr : rW l with
  | none => rfl
  | some w =>
    exfalso
    obtain ⟨h1, h2⟩ := rW_is hr
    have hw := spl_w h1
    have h3 := wdOk_iff.1 h1
    rw [h2, hs] at hw
    unfold wWords at hw
    injection hw with e1 hw
    injection hw with e2 hw
    injection hw with e3 hw
    injection hw with e4 hw
    injection hw with e5 hw
    have h4 := h w.id w.ix w.pl (by rw [e5]; cases w.hl <;> simp [hW]) (by rw [e2]; exact num1_ito (nmOk_iff.2 h3.2.1)) (by rw [e3]; exact num1_ito (nmOk_iff.2 h3.2.2.1)) (by rw [e4]; exact num1_ito (nmOk_iff.2 h3.2.2.2.1))
    rw [e1, e5, codK_kW h3.1, hl_hW, h1] at h4
    cases h4
theorem pW_len {l : List UInt8} (h : (spl 32 l).length ≠ 5) : rW l = none := by
  unfold rW
  split
  · rename_i hs; rw [hs] at h; simp at h
  · rfl
/-- The map that a word names. -/
def codC (a : List UInt8) : Option Int := if a = nowW then some (-1) else match num1 a with
  | some n => if n = -1 then none else some n
  | none => none
theorem codC_is {a : List UInt8} {c : Int} (h : codC a = some c) : cW c = a := by
  unfold codC at h
  split at h
  · rename_i h1
    injection h with h
    subst h; rw [h1]; rfl
  · split at h
    · rename_i n hn
      split at h
      · cases h
      · rename_i h2
        injection h with h
        subst h
        unfold cW; rw [if_neg h2]; exact num1_is hn
    · cases h
theorem codC_cW {c : Int} (h : -1 ≤ c) (h2 : c ≤ 2147483648) : codC (cW c) = some c := by
  unfold codC cW
  by_cases hc : c = -1
  · rw [if_pos hc, if_pos rfl, hc]
  · rw [if_neg hc, if_neg (ito_ne_now (by omega)), num1_ito (nmOk_iff.2 ⟨by omega, h2⟩)]
    dsimp only
    rw [if_neg hc]
theorem pL_is {l b c d : List UInt8} {x y z : Int} (hs : spl 32 l = [lostW, b, c, d]) (hx : codC b = some x) (hy : num1 c = some y) (hz : num1 d = some z) (hok : loOk ⟨x, y, z⟩ = true) : rL l = some ⟨x, y, z⟩ := by
  refine rL_of hok ?_
  unfold lLn lWords
  dsimp only
  rw [codC_is hx, num1_is hy, num1_is hz, ← hs, jn_spl]
theorem pL_no {l a b c d : List UInt8} (hs : spl 32 l = [a, b, c, d]) (h : ∀ x y z, a = lostW → codC b = some x → num1 c = some y → num1 d = some z → loOk ⟨x, y, z⟩ = false) : rL l = none := by
  cases hr : rL l with
  | none => rfl
  | some w =>
    exfalso
    obtain ⟨h1, h2⟩ := rL_is hr
    have hw := spl_l h1
    have h3 := loOk_iff.1 h1
    rw [h2, hs] at hw
    unfold lWords at hw
    injection hw with e1 hw
    injection hw with e2 hw
    injection hw with e3 hw
    injection hw with e4 hw
    have h4 := h w.c w.f w.t e1 (by rw [e2]; exact codC_cW h3.1 h3.2.1) (by rw [e3]; exact num1_ito (nmOk_iff.2 ⟨h3.2.2.1, by omega⟩)) (by rw [e4]; exact num1_ito (nmOk_iff.2 ⟨by omega, by omega⟩))
    rw [h1] at h4
    cases h4
theorem pL_len {l : List UInt8} (h : (spl 32 l).length ≠ 4) : rL l = none := by
  unfold rL
  split
  · rename_i hs; rw [hs] at h; simp at h
  · rfl
end Go.Proofs.YtfmpbohiahjafaaDoor
