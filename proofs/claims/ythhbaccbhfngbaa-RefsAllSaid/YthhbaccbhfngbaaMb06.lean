/- Charts: what a right map has; the contracts of New and Get. Charts: the document's own blank and Check. -/
import Derived.Test.YthhbaccbhfngbaaMb05
namespace Go.Proofs.Ythhbaccbhfngbaa
open Go.RowKit

/-! ### what a right map has -/
theorem tabs_all (e B : Int) : ∀ (T : List TB) (ls : Int), tabsB e B ls T = true → ∀ j, j < T.length → ls ≤ (T.getD j TB.zero).at' ∧ (T.getD j TB.zero).at' < parts e B ∧ tblB e (T.getD j TB.zero).l (B - (T.getD j TB.zero).at' * e) = true
  | t :: r, ls, h, 0, _ => by
    rw [tabsB] at h
    simp only [Bool.and_eq_true, decide_eq_true_eq] at h
    exact ⟨h.1.1.1, h.1.1.2, h.1.2⟩
  | t :: r, ls, h, j + 1, hj => by
    rw [tabsB] at h
    simp only [Bool.and_eq_true, decide_eq_true_eq] at h
    have := tabs_all e B r (t.at' + 1) h.2 j (by simpa using hj)
    rw [List.getD_cons_succ]
    exact ⟨by omega, this.2⟩
theorem tabs_rise (e B : Int) : ∀ (T : List TB) (ls : Int), tabsB e B ls T = true → Rises T
  | [], _, _ => fun i j _ hj => absurd hj (by simp)
  | t :: r, ls, h => by
    have h' := h
    rw [tabsB] at h
    simp only [Bool.and_eq_true, decide_eq_true_eq] at h
    intro i j hij hj
    match i, j, hij with
    | 0, j + 1, _ =>
      have := tabs_all e B r (t.at' + 1) h.2 j (by simpa using hj)
      rw [List.getD_cons_succ]
      show t.at' < _
      omega
    | i + 1, j + 1, hij =>
      rw [List.getD_cons_succ, List.getD_cons_succ]
      exact tabs_rise e B r (t.at' + 1) h.2 i j (by omega) (by simpa using hj)
/-- A right map. -/
structure COk (E BN : Nat) (T : List TB) : Prop where
  e1 : 1 ≤ E
  e2 : E ≤ 8192
  b2 : BN ≤ 65536
  rise : Rises T
  each : ∀ j, j < T.length → ∃ k : Nat, (T.getD j TB.zero).at' = (k : Int) ∧ k * E < BN ∧ tblB (E : Int) (T.getD j TB.zero).l ((BN : Int) - (k : Int) * (E : Int)) = true
theorem rises_ge {T : List TB} (h : Rises T) (h0 : ∀ j, j < T.length → 0 ≤ (T.getD j TB.zero).at') : ∀ j, j < T.length → (j : Int) ≤ (T.getD j TB.zero).at'
  | 0, hj => h0 0 hj
  | j + 1, hj => by
    have h1 := rises_ge h h0 j (by omega)
    have h2 := h j (j + 1) (by omega) hj
    omega
theorem COk.len {E BN : Nat} {T : List TB} (h : COk E BN T) : T.length ≤ 65536 := by
  by_cases h0 : T.length = 0
  · omega
  · have h1 := rises_ge h.rise (fun j hj => by obtain ⟨k, hk, _⟩ := h.each j hj; omega) (T.length - 1) (by omega)
    obtain ⟨k, hk, h2, _⟩ := h.each (T.length - 1) (by omega)
    have h3 : k * 1 ≤ k * E := Nat.mul_le_mul_left k h.e1
    have h4 := h.b2
    omega
theorem cok_of {e : Int} {c : CH} (h : okB e c = true) : ∃ E BN : Nat, e = (E : Int) ∧ c.blocks = (BN : Int) ∧ COk E BN c.tabs := by
  unfold okB at h
  simp only [Bool.and_eq_true, decide_eq_true_eq] at h
  obtain ⟨⟨⟨h1, h2⟩, h3⟩, h4⟩ := h
  obtain ⟨b1, b2⟩ := mayB_iff.1 h3
  obtain ⟨E, rfl⟩ : ∃ E : Nat, e = (E : Int) := ⟨e.toNat, by omega⟩
  obtain ⟨BN, hBN⟩ : ∃ BN : Nat, c.blocks = (BN : Int) := ⟨c.blocks.toNat, by omega⟩
  rw [hBN] at h4 b2
  refine ⟨E, BN, rfl, hBN, by omega, by omega, by omega, tabs_rise _ _ _ _ h4, fun j hj => ?_⟩
  obtain ⟨g1, g2, g3⟩ := tabs_all _ _ _ _ h4 j hj
  obtain ⟨k, hk⟩ : ∃ k : Nat, (c.tabs.getD j TB.zero).at' = (k : Int) := ⟨(c.tabs.getD j TB.zero).at'.toNat, by omega⟩
  rw [hk] at g2 g3
  have := (parts_iff (by omega)).1 g2
  exact ⟨k, hk, by rw [← Int.natCast_mul] at this; omega, g3⟩
theorem tblB_len {e : Int} {l : List EN} {n : Int} (h : tblB e l n = true) : (l.length : Int) = e := by
  unfold tblB at h
  simp only [Bool.and_eq_true, decide_eq_true_eq] at h
  exact h.1.1.1
/-- The entry of a block. -/
def getM (E : Nat) (T : List TB) (b : Nat) : EN :=
  if isThere T ((b / E : Nat) : Int) = true then (T.getD (before T ((b / E : Nat) : Int)) TB.zero).l.getD (b % E) EN.zero else EN.zero
def getR (e : Int) (c : CH) (b : Int) : EN := if okB e c = true ∧ 0 ≤ b ∧ b < c.blocks then getM e.toNat c.tabs b.toNat else EN.zero
def getRE (e : Int) (c : CH) (b : Int) : Int := if okB e c = true then (if 0 ≤ b ∧ b < c.blocks then 0 else 1) else 2
def newE (b : Int) : Int := if mayB b = true then 0 else 1
def newC (b : Int) : CH := if mayB b = true then ⟨b, []⟩ else CH.zero
theorem newC_tabs (b : Int) : (newC b).tabs = [] := by unfold newC; split <;> rfl
/-! ### Get -/
/-- A chart in a box, and a result's place. -/
structure GB (w W : World) (B : Int) (v : Value) : Prop where
  bl : Below w.heap.size w W
  x : B2 W w.heap.size (.int .i64 B) v
  r : EBox W (w.heap.size + 1) EN.zero
theorem GB.below {w W W' : World} {B : Int} {v : Value} (k : GB w W B v) (hb : Below W.heap.size W W') : GB w W' B v := ⟨k.bl.trans (hb.mono k.bl.size), k.x.below hb, k.r.below hb⟩
theorem GB.new (w : World) (B : Int) (v : Value) : GB w ((w.alloc (.cells #[.int .i64 B, v] 44)).alloc (.cells #[.int .u8 0, .int .i64 0, .int .i64 0, .int .i64 0] 50)) B v := by
  refine ⟨(below1 _ _).alloc (by simp) _, (B2.new w _ _ _).below (below1 _ _), ?_⟩
  have h := EBox.new (w.alloc (.cells #[.int .i64 B, v] 44)) 0 0 0 0 50
  rw [World.size_alloc] at h
  exact h
theorem GB.rx {w W : World} {B : Int} {v : Value} (k : GB w W B v) : Bx W (w.heap.size + 1) (.int .u8 0) (.int .i64 0) (.int .i64 0) (.int .i64 0) := k.r
theorem GB.ends {w W : World} {B : Int} {v : Value} (k : GB w W B v) (u0 u1 u2 u3 : Value) : Below w.heap.size w (put4 W (w.heap.size + 1) u0 u1 u2 u3) :=
  (((k.bl.setCell (p := ⟨_, 0, none⟩) (Nat.le_succ _) _).setCell (p := ⟨_, 1, none⟩) (Nat.le_succ _) _).setCell (p := ⟨_, 2, none⟩) (Nat.le_succ _) _).setCell (p := ⟨_, 3, none⟩) (Nat.le_succ _) _
end Go.Proofs.Ythhbaccbhfngbaa
namespace Go.Proofs.Ythhbaccbhfngbaa
open Go.RowKit

theorem any_take_drop {l : List EN} {m : Nat} (h : (l.drop m).any fullB = false) : (l.take m).any fullB = l.any fullB := by
  have : l.any fullB = (l.take m ++ l.drop m).any fullB := by rw [List.take_append_drop]
  rw [this, List.any_append, h, Bool.or_false]
theorem drop_any {l : List EN} {m : Nat} : (l.drop m).any fullB = false ↔ ∀ i, i < l.length → m ≤ i → fullB (l.getD i EN.zero) = false := by
  constructor
  · intro h i hi hm
    have h1 : l[i] ∈ l.drop m := List.mem_iff_getElem.2 ⟨i - m, by rw [List.length_drop]; omega, by rw [List.getElem_drop]; congr 1; omega⟩
    have h2 := List.any_eq_false.1 h _ h1
    rw [List.getD, List.getElem?_eq_getElem hi]
    simpa using h2
  · intro h
    rw [List.any_eq_false]
    intro x hx
    obtain ⟨k, hk, rfl⟩ := List.mem_iff_getElem.1 hx
    rw [List.length_drop] at hk
    have := h (m + k) (by omega) (by omega)
    rw [List.getD, List.getElem?_eq_getElem (by omega)] at this
    rw [List.getElem_drop]
    simpa using this
theorem any_wrong {l : List EN} : l.any wrongB = false ↔ ∀ i, i < l.length → EOk (l.getD i EN.zero) := by
  rw [List.any_eq_false]
  constructor
  · intro h i hi
    have := h l[i] (List.getElem_mem _)
    rw [List.getD, List.getElem?_eq_getElem hi]
    unfold wrongB at this
    simpa using this
  · intro h x hx
    obtain ⟨k, hk, rfl⟩ := List.mem_iff_getElem.1 hx
    have := h k hk
    rw [List.getD, List.getElem?_eq_getElem hk] at this
    unfold wrongB
    simpa using this
/-- A table, entry by entry. -/
def eachOk (l : List EN) (n : Nat) (i : Nat) : Prop := EOk (l.getD i EN.zero) ∧ (n ≤ i → fullB (l.getD i EN.zero) = false)
theorem tbl_ref (E n : Nat) (l : List EN) (hl : l.length = E) : tblB (E : Int) l (n : Int) = true ↔ (l.any fullB = true ∧ ∀ i, i < l.length → eachOk l n i) := by
  unfold tblB eachOk
  have hmin : (min (n : Int) (E : Int)).toNat = min n E := by omega
  rw [hmin]
  simp only [Bool.and_eq_true, decide_eq_true_eq, Bool.not_eq_true']
  constructor
  · rintro ⟨⟨⟨_, h1⟩, h2⟩, h3⟩
    rw [any_take_drop h3] at h2
    exact ⟨h2, fun i hi => ⟨any_wrong.1 h1 i hi, fun hn => drop_any.1 h3 i hi (by omega)⟩⟩
  · rintro ⟨h1, h2⟩
    have h3 : (l.drop (min n E)).any fullB = false := drop_any.2 (fun i hi hm => (h2 i hi).2 (by omega))
    exact ⟨⟨⟨by omega, any_wrong.2 (fun i hi => (h2 i hi).1)⟩, by rw [any_take_drop h3]; exact h1⟩, h3⟩
set_option maxHeartbeats 2000000 in
theorem rchtBlank_any (L : List EN) (v : Value) (w : World) (hv : EntsS w v L) :
    Calls Try.prog 77 #[v] w fun e w' => e = .returned (.bool (!L.any fullB)) ∧ Below w.heap.size w w' := by
  obtain ⟨A, cap, rfl, hc1, hc2, hc3⟩ := hv
  have HC3 := Lib.hid hc3
  clear hc3
  obtain ⟨res, hres⟩ : ∃ res, res = !L.any fullB := ⟨_, rfl⟩
  rw [← hres]
  have RES := Lib.hid hres
  clear hres
  go_enter Try.func77, Try.ntmps77
  go_wp2
  go_loopw [7] (fun ix wr => ∃ (j : Nat), j ≤ L.length ∧ ix = .int .i64 (j : Int) ∧ (∀ k, k < j → fullB (L.getD k EN.zero) = false) ∧ Below w.heap.size w wr) (fun ix _ => L.length - (intOf ix).toNat)
  case atStart => exact ⟨0, Nat.zero_le _, rfl, (fun i h => absurd h (by omega)), Below.refl _ _⟩
  case round =>
    obtain ⟨j, hj, rfl, hp, hB⟩ := hrel
    have HB := Lib.hid hB
    have HP := Lib.hid hp
    clear hB hp
    by_cases hlt : j < L.length
    · obtain ⟨b, off, rfl, hb, hcell⟩ := HC3.out.resolve_left (by intro e; rw [e] at hlt; simp at hlt)
      obtain ⟨q0, q1, q2, q3⟩ := (hcell j hlt).below HB.out hb
      have HNX : Hid (fullB (L.getD j EN.zero) = false → ∀ k, k < j + 1 → fullB (L.getD k EN.zero) = false) := Lib.hid (fun h k hk => by
        by_cases e : k = j
        · rw [e]; exact h
        · exact HP.out k (by omega))
      have HAT : Hid (fullB (L.getD j EN.zero) = true → res = false) := Lib.hid (fun h => by
        rw [RES.out, List.any_eq_true.2 ⟨L[j], List.getElem_mem _, by rw [List.getD, List.getElem?_eq_getElem hlt] at h; exact h⟩]; rfl)
      have HW1 := Lib.hid (wrap_succ hlt hc1 hc2)
      clear hcell hb
      generalize L.getD j EN.zero = x at q0 q1 q2 q3 HNX HAT
      obtain ⟨k, st, mb, fr⟩ := x
      unfold fullB at HNX HAT
      dsimp only at q0 q1 q2 q3 HNX HAT
      have HB2 := Lib.hid (HB.out.trans ((below1 wr (.cells #[.int .u8 k, .int .i64 st, .int .i64 mb, .int .i64 fr] 50)).mono HB.out.size))
      by_cases hk : k = 0
      · subst hk
        have HN := Lib.hid (HNX.out rfl)
        clear HNX HAT
        have hw1 := HW1.out
        go_wp2
        rw [hw1]
        clear hw1
        go_roundw
        case rel => exact ⟨j + 1, by omega, by go_num, HN.out, HB2.out⟩
        case measure => simp [intOf]; omega
      · have d0 : (k == 0) = false := by rw [beq_eq_false_iff_ne]; exact hk
        have d1 : (k != 0) = true := by rw [bne, d0]; rfl
        have HA := Lib.hid (HAT.out d1)
        clear HNX HAT
        go_wp2
        go_ret
        exact ⟨by rw [HA.out]; rfl, HB2.out⟩
    · obtain rfl : j = L.length := by omega
      have HF : Hid (res = true) := Lib.hid (by rw [RES.out, List.any_eq_false.2 (fun x hx => by rw [all_false fullB EN.zero L HP.out x hx]; decide)]; rfl)
      go_wp2
      go_ret
      exact ⟨by rw [HF.out]; rfl, HB.out⟩
end Go.Proofs.Ythhbaccbhfngbaa
