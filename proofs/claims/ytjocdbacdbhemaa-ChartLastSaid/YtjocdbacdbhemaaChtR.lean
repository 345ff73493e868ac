/- Charts: the document's own blank and Check. -/
import Derived.Test.YtjocdbacdbhemaaChtE
namespace Go.Proofs.Ytjocdbacdbhemaa
open Go.RowKit

theorem any_take_drop {l : List EN} {m : Nat} (h : (l.drop m).any fullB = false) : (l.take m).any fullB = l.any fullB := by
  have : l.any fullB = (l.take m ++ l.drop m).any fullB := by rw [List.take_append_drop]
  rw [this, List.any_append, h, Bool.or_false]
theorem drop_any {l : List EN} {m : Nat} : (l.drop m).any fullB = false ↔ ∀ i, i < l.length → m ≤ i → fullB (l.getD i EN.zero) = false := by
  constructor
  · intro h i hi hm
    have h1 : l[i] ∈ l.drop m := List.mem_iff_getElem.2 ⟨i - m, by rw [List.length_drop]; omega, by rw [List.getElem_drop]; congr 1; omega⟩
    have h2 := List.any_eq_false.1 h _ h1
    rw [List.getD, List.getElem?_eq_getElem hi]
    simpa using h2
  · intro h
    rw [List.any_eq_false]
    intro x hx
    obtain ⟨k, hk, rfl⟩ := List.mem_iff_getElem.1 hx
    rw [List.length_drop] at hk
    have := h (m + k) (by omega) (by omega)
    rw [List.getD, List.getElem?_eq_getElem (by omega)] at this
    rw [List.getElem_drop]
    simpa using this
theorem any_wrong {l : List EN} : l.any wrongB = false ↔ ∀ i, i < l.length → EOk (l.getD i EN.zero) := by
  rw [List.any_eq_false]
  constructor
  · intro h i hi
    have := h l[i] (List.getElem_mem _)
    rw [List.getD, List.getElem?_eq_getElem hi]
    unfold wrongB at this
    simpa using this
  · intro h x hx
    obtain ⟨k, hk, rfl⟩ := List.mem_iff_getElem.1 hx
    have := h k hk
    rw [List.getD, List.getElem?_eq_getElem hk] at this
    unfold wrongB
    simpa using this
/-- A table, entry by entry. -/
def eachOk (l : List EN) (n : Nat) (i : Nat) : Prop := EOk (l.getD i EN.zero) ∧ (n ≤ i → fullB (l.getD i EN.zero) = false)
theorem tbl_ref (E n : Nat) (l : List EN) (hl : l.length = E) : tblB (E : Int) l (n : Int) = true ↔ (l.any fullB = true ∧ ∀ i, i < l.length → eachOk l n i) := by
  unfold tblB eachOk
  have hmin : (min (n : Int) (E : Int)).toNat = min n E := by omega
  rw [hmin]
  simp only [Bool.and_eq_true, decide_eq_true_eq, Bool.not_eq_true']
  constructor
  · rintro ⟨⟨⟨_, h1⟩, h2⟩, h3⟩
    rw [any_take_drop h3] at h2
    exact ⟨h2, fun i hi => ⟨any_wrong.1 h1 i hi, fun hn => drop_any.1 h3 i hi (by omega)⟩⟩
  · rintro ⟨h1, h2⟩
    have h3 : (l.drop (min n E)).any fullB = false := drop_any.2 (fun i hi hm => (h2 i hi).2 (by omega))
    exact ⟨⟨⟨by omega, any_wrong.2 (fun i hi => (h2 i hi).1)⟩, by rw [any_take_drop h3]; exact h1⟩, h3⟩
set_option maxHeartbeats 2000000 in
theorem rchtBlank_any (L : List EN) (v : Value) (w : World) (hv : EntsS w v L) :
    Calls Try.prog 57 #[v] w fun e w' => e = .returned (.bool (!L.any fullB)) ∧ Below w.heap.size w w' := by
  obtain ⟨A, cap, rfl, hc1, hc2, hc3⟩ := hv
  have HC3 := Lib.hid hc3
  clear hc3
  obtain ⟨res, hres⟩ : ∃ res, res = !L.any fullB := ⟨_, rfl⟩
  rw [← hres]
  have RES := Lib.hid hres
  clear hres
  go_enter Try.func57, Try.ntmps57
  go_wp2
  go_loopw [7] (fun ix wr => ∃ (j : Nat), j ≤ L.length ∧ ix = .int .i64 (j : Int) ∧ (∀ k, k < j → fullB (L.getD k EN.zero) = false) ∧ Below w.heap.size w wr) (fun ix _ => L.length - (intOf ix).toNat)
  case atStart => exact ⟨0, Nat.zero_le _, rfl, (fun i h => absurd h (by omega)), Below.refl _ _⟩
  case round =>
    obtain ⟨j, hj, rfl, hp, hB⟩ := hrel
    have HB := Lib.hid hB
    have HP := Lib.hid hp
    clear hB hp
    by_cases hlt : j < L.length
    · obtain ⟨b, off, rfl, hb, hcell⟩ := HC3.out.resolve_left (by intro e; rw [e] at hlt; simp at hlt)
      obtain ⟨q0, q1, q2, q3⟩ := (hcell j hlt).below HB.out hb
      have HNX : Hid (fullB (L.getD j EN.zero) = false → ∀ k, k < j + 1 → fullB (L.getD k EN.zero) = false) := Lib.hid (fun h k hk => by
        by_cases e : k = j
        · rw [e]; exact h
        · exact HP.out k (by omega))
      have HAT : Hid (fullB (L.getD j EN.zero) = true → res = false) := Lib.hid (fun h => by
        rw [RES.out, List.any_eq_true.2 ⟨L[j], List.getElem_mem _, by rw [List.getD, List.getElem?_eq_getElem hlt] at h; exact h⟩]; rfl)
      have HW1 := Lib.hid (wrap_succ hlt hc1 hc2)
      clear hcell hb
      generalize L.getD j EN.zero = x at q0 q1 q2 q3 HNX HAT
      obtain ⟨k, st, mb, fr⟩ := x
      unfold fullB at HNX HAT
      dsimp only at q0 q1 q2 q3 HNX HAT
      have HB2 := Lib.hid (HB.out.trans ((below1 wr (.cells #[.int .u8 k, .int .i64 st, .int .i64 mb, .int .i64 fr] 26)).mono HB.out.size))
      by_cases hk : k = 0
      · subst hk
        have HN := Lib.hid (HNX.out rfl)
        clear HNX HAT
        have hw1 := HW1.out
        go_wp2
        rw [hw1]
        clear hw1
        go_roundw
        case rel => exact ⟨j + 1, by omega, by go_num, HN.out, HB2.out⟩
        case measure => simp [intOf]; omega
      · have d0 : (k == 0) = false := by rw [beq_eq_false_iff_ne]; exact hk
        have d1 : (k != 0) = true := by rw [bne, d0]; rfl
        have HA := Lib.hid (HAT.out d1)
        clear HNX HAT
        go_wp2
        go_ret
        exact ⟨by rw [HA.out]; rfl, HB2.out⟩
    · obtain rfl : j = L.length := by omega
      have HF : Hid (res = true) := Lib.hid (by rw [RES.out, List.any_eq_false.2 (fun x hx => by rw [all_false fullB EN.zero L HP.out x hx]; decide)]; rfl)
      go_wp2
      go_ret
      exact ⟨by rw [HF.out]; rfl, HB.out⟩
end Go.Proofs.Ytjocdbacdbhemaa
