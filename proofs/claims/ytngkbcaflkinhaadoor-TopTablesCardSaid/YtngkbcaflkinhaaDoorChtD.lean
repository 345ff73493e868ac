/- Charts: where a table stands, or would stand: seek. -/
import Derived.Test.YtngkbcaflkinhaaDoorChtC
namespace Go.Proofs.YtngkbcaflkinhaaDoor
open Go.RowKit

def cmpI (a b : Int) : Int := if a < b then -1 else if b < a then 1 else 0
theorem isNaN_any (a : Int) (w : World) : Calls Tryd.prog 51 #[.int .i64 a] w fun e w' => e = .returned (.bool false) ∧ w' = w := by
  go_enter Tryd.func51, Tryd.ntmps51
  go_wp2
  go_ret
  exact ⟨rfl, rfl⟩
theorem compare_any (a b : Int) (w : World) : Calls Tryd.prog 38 #[.int .i64 a, .int .i64 b] w fun e w' => e = .returned (.int .i64 (cmpI a b)) ∧ w' = w := by
  have hN := isNaN_any
  unfold cmpI
  by_cases h1 : a < b
  · have d1 : decide (a < b) = true := decide_eq_true h1
    rw [if_pos h1]
    clear h1
    go_enter Tryd.func38, Tryd.ntmps38
    go_wp2_with (go_at_call 51; refine (hN _ _).mono ?_; rintro e w2 ⟨rfl, rfl⟩)
    go_ret
    exact ⟨rfl, rfl⟩
  · have d1 : decide (a < b) = false := decide_eq_false h1
    rw [if_neg h1]
    by_cases h2 : b < a
    · have d2 : decide (b < a) = true := decide_eq_true h2
      rw [if_pos h2]
      clear h1 h2
      go_enter Tryd.func38, Tryd.ntmps38
      go_wp2_with (go_at_call 51; refine (hN _ _).mono ?_; rintro e w2 ⟨rfl, rfl⟩)
      go_ret
      exact ⟨rfl, rfl⟩
    · have d2 : decide (b < a) = false := decide_eq_false h2
      rw [if_neg h2]
      clear h1 h2
      go_enter Tryd.func38, Tryd.ntmps38
      go_wp2_with (go_at_call 51; refine (hN _ _).mono ?_; rintro e w2 ⟨rfl, rfl⟩)
      go_ret
      exact ⟨rfl, rfl⟩
theorem seekCmp_any (a b : Int) (u : Value) (w : World) : Calls Tryd.prog 37 #[.agg #[.int .i64 a, u], .int .i64 b] w fun e w' => e = .returned (.int .i64 (cmpI a b)) ∧ Below w.heap.size w w' := by
  have hC := compare_any a b
  generalize cmpI a b = z at hC ⊢
  have HB0 := Lib.hid (below1 w (.cells #[.int .i64 a, u] 42))
  have HX0 := Lib.hid (B2.new w (.int .i64 a) u 42)
  go_enter Tryd.func37, Tryd.ntmps37
  go_upto_region 1 with fail
  generalize w.alloc (.cells #[.int .i64 a, u] 42) = w0 at HB0 HX0 ⊢
  obtain ⟨_, y0, y1, _, _⟩ := HX0.out
  go_wp2_with (go_at_call 38; with_reducible refine (hC _).mono ?_; rintro e w2 ⟨rfl, rfl⟩)
  go_ret
  exact ⟨rfl, HB0.out⟩
/-- How many tables stand ahead of place a. -/
def before (T : List TB) (a : Int) : Nat := T.countP (fun t => decide (t.at' < a))
def isThere (T : List TB) (a : Int) : Bool := T.any (fun t => decide (t.at' = a))
/-- The tables rise. -/
def Rises (T : List TB) : Prop := ∀ i j, i < j → j < T.length → (T.getD i TB.zero).at' < (T.getD j TB.zero).at'
theorem countP_cut {α : Type} (p : α → Bool) (d : α) : ∀ (l : List α) (i : Nat), i ≤ l.length → (∀ k, k < i → p (l.getD k d) = true) → (∀ k, i ≤ k → k < l.length → p (l.getD k d) = false) → l.countP p = i
  | [], i, h, _, _ => by simp at h; subst h; rfl
  | x :: r, 0, _, _, h2 => by
    have h0 : p x = false := h2 0 (Nat.le_refl _) (by simp)
    rw [List.countP_cons, countP_cut p d r 0 (Nat.zero_le _) (fun k hk => absurd hk (by omega)) (fun k _ hk => h2 (k + 1) (Nat.zero_le _) (by simpa using hk)), h0]; rfl
  | x :: r, i + 1, h, h1, h2 => by
    have h0 : p x = true := h1 0 (by omega)
    rw [List.countP_cons, countP_cut p d r i (by simpa using h) (fun k hk => h1 (k + 1) (by omega)) (fun k hk hl => h2 (k + 1) (by omega) (by simpa using hl)), h0]; rfl
theorem cmpI_lt {a b : Int} : decide (cmpI a b < 0) = decide (a < b) := by unfold cmpI; split <;> simp_all; split <;> simp_all
theorem cmpI_eq {a b : Int} : (cmpI a b == 0) = decide (a = b) := by
  unfold cmpI
  by_cases h1 : a < b
  · rw [if_pos h1, decide_eq_false (by omega)]; rfl
  · rw [if_neg h1]
    by_cases h2 : b < a
    · rw [if_pos h2, decide_eq_false (by omega)]; rfl
    · rw [if_neg h2, decide_eq_true (by omega)]; rfl
theorem there_at {T : List TB} {a : Int} {i : Nat} (h1 : ∀ k, k < i → (T.getD k TB.zero).at' < a) (h2 : ∀ k, i ≤ k → k < T.length → a ≤ (T.getD k TB.zero).at') (hR : Rises T) : isThere T a = (decide (i < T.length) && decide ((T.getD i TB.zero).at' = a)) := by
  unfold isThere
  rw [Bool.eq_iff_iff, List.any_eq_true]
  simp only [Bool.and_eq_true, decide_eq_true_eq]
  constructor
  · rintro ⟨t, ht, e⟩
    obtain ⟨k, hk, rfl⟩ := List.mem_iff_getElem.1 ht
    have ek : T.getD k TB.zero = T[k] := by rw [List.getD, List.getElem?_eq_getElem hk]; rfl
    have hik : i ≤ k := by
      by_cases h : k < i
      · have := h1 k h; rw [ek, e] at this; omega
      · omega
    refine ⟨by omega, ?_⟩
    by_cases hc : i = k
    · subst hc; rw [ek]; exact e
    · have g1 := hR i k (by omega) hk
      have g2 := h2 i (Nat.le_refl _) (by omega)
      rw [ek, e] at g1; omega
  · rintro ⟨hi, e⟩
    exact ⟨T[i], List.getElem_mem _, by rw [← e, List.getD, List.getElem?_eq_getElem hi]; rfl⟩
set_option maxRecDepth 100000 in
set_option maxHeartbeats 4000000 in
theorem bsearch_any (T : List TB) (a : Int) (v : Value) (w : World) (hv : TabsS w v T) (hR : Rises T) (hn : T.length ≤ 100000) :
    Calls Tryd.prog 36 #[v, .int .i64 a, .func (.func 37) #[] #[]] w fun e w' => e = .returned (.tuple #[.int .i64 (before T a : Int), .bool (isThere T a)]) ∧ Below w.heap.size w w' := by
  obtain ⟨A, cap, rfl, hc1, hc2, hc3⟩ := hv
  have HC3 := Lib.hid hc3
  have HN := Lib.hid hn
  have HR := Lib.hid hR
  have hS := seekCmp_any
  clear hc3 hn hR
  go_enter Tryd.func36, Tryd.ntmps36
  go_wp2
  go_loopw [9, 10] (fun ix jx wr => ∃ (i j : Nat), i ≤ j ∧ j ≤ T.length ∧ ix = .int .i64 (i : Int) ∧ jx = .int .i64 (j : Int) ∧ (∀ k, k < i → (T.getD k TB.zero).at' < a) ∧ (∀ k, j ≤ k → k < T.length → a ≤ (T.getD k TB.zero).at') ∧ Below w.heap.size w wr) (fun ix jx _ => (intOf jx).toNat - (intOf ix).toNat)
  case atStart => exact ⟨0, T.length, Nat.zero_le _, Nat.le_refl _, rfl, rfl, (fun k h => absurd h (by omega)), (fun k h1 h2 => absurd h1 (by omega)), Below.refl _ _⟩
  case round =>
    obtain ⟨i, j, hij, hj, rfl, rfl, hlo, hhi, hB⟩ := hrel
    have HB := Lib.hid hB
    have HLO := Lib.hid hlo
    have HHI := Lib.hid hhi
    clear hB hlo hhi
    by_cases hlt : i < j
    · obtain ⟨s, hs⟩ : ∃ s : Nat, s = i + j := ⟨_, rfl⟩
      obtain ⟨h, hh⟩ : ∃ h : Nat, h = s / 2 := ⟨_, rfl⟩
      have hN := HN.out
      have S1 : Hid (wrap64 ((i : Int) + (j : Int)) = (s : Int)) := Lib.hid (by unfold wrap64; omega)
      have S2 : Hid (IntKind.u64.wrap (s : Int) = (s : Int)) := Lib.hid (by rw [IntKind.wrap_u64]; omega)
      have S3 : Hid ((s : Int) / 2 = (h : Int)) := Lib.hid (by omega)
      have S4 : Hid (wrap64 (h : Int) = (h : Int)) := Lib.hid (by unfold wrap64; omega)
      have S5 : Hid (wrap64 ((h : Int) + 1) = (h : Int) + 1) := Lib.hid (by unfold wrap64; omega)
      have S6 : Hid (IntKind.u64.wrap ((i : Int) + (j : Int)) = (s : Int)) := Lib.hid (by rw [IntKind.wrap_u64]; omega)
      have hhT : h < T.length := by omega
      have HT := Lib.hid hhT
      have HIH : Hid (i ≤ h ∧ h < j ∧ i < j ∧ j ≤ T.length) := Lib.hid (by omega)
      obtain ⟨b, off, rfl, hb, hcell⟩ := HC3.out.resolve_left (by intro e; rw [e] at hhT; simp at hhT)
      obtain ⟨u, q0, q1, _⟩ := (hcell h hhT).below (HB.out.mono (Nat.le_refl _)) hb
      have hSq := hS (T.getD h TB.zero).at' a u
      have hcl := @cmpI_lt (T.getD h TB.zero).at' a
      have HMONO : Hid (∀ k, k ≤ h → (T.getD k TB.zero).at' ≤ (T.getD h TB.zero).at') := Lib.hid (fun k hk => by
        by_cases e : k = h
        · rw [e]; exact Int.le_refl _
        · exact Int.le_of_lt (HR.out k h (by omega) hhT))
      have HMONO2 : Hid (∀ k, h ≤ k → k < T.length → (T.getD h TB.zero).at' ≤ (T.getD k TB.zero).at') := Lib.hid (fun k hk hl => by
        by_cases e : k = h
        · rw [e]; exact Int.le_refl _
        · exact Int.le_of_lt (HR.out h k (by omega) hl))
      clear hcell hb hs hh hN hij hj hlt hS hhT
      generalize hat : (T.getD h TB.zero).at' = ta at *
      by_cases hta : ta < a
      · rw [decide_eq_true hta] at hcl
        have HLO2 : Hid (∀ k, k < h + 1 → (T.getD k TB.zero).at' < a) := Lib.hid (fun k hk => Int.lt_of_le_of_lt (HMONO.out k (by omega)) hta)
        clear hta hat
        generalize cmpI ta a = z at hSq hcl
        have s1 := S1.out; have s2 := S2.out; have s3 := S3.out; have s4 := S4.out; have s5 := S5.out; have s6 := S6.out; have hlt := HIH.out.2.2.1; have hhT := HT.out
        go_wp2_with (go_at_call 37; with_reducible refine (hSq _).mono ?_; rintro e w2 ⟨rfl, hb2⟩; have HB2 := Lib.hid (HB.out.trans (hb2.mono HB.out.size)); clear hb2)
        rw [s5]
        clear s1 s2 s3 s4 s5 s6 hcl
        have hih := HIH.out
        go_roundw
        case rel => exact ⟨h + 1, j, by omega, by omega, by go_num, rfl, HLO2.out, HHI.out, HB2.out⟩
        case measure => simp [intOf]; omega
      · rw [decide_eq_false hta] at hcl
        have HHI2 : Hid (∀ k, h ≤ k → k < T.length → a ≤ (T.getD k TB.zero).at') := Lib.hid (fun k hk hl => Int.le_trans (by omega) (HMONO2.out k hk hl))
        clear hta hat
        generalize cmpI ta a = z at hSq hcl
        have s1 := S1.out; have s2 := S2.out; have s3 := S3.out; have s4 := S4.out; have s5 := S5.out; have s6 := S6.out; have hlt := HIH.out.2.2.1; have hhT := HT.out
        go_wp2_with (go_at_call 37; with_reducible refine (hSq _).mono ?_; rintro e w2 ⟨rfl, hb2⟩; have HB2 := Lib.hid (HB.out.trans (hb2.mono HB.out.size)); clear hb2)
        clear s1 s2 s3 s4 s5 s6 hcl
        have hih := HIH.out
        go_roundw
        case rel => exact ⟨i, h, by omega, by omega, rfl, rfl, HLO.out, HHI2.out, HB2.out⟩
        case measure => simp [intOf]; omega
    · obtain rfl : i = j := by omega
      have HBF : Hid (before T a = i) := Lib.hid (countP_cut _ TB.zero T i hj (fun k hk => decide_eq_true (HLO.out k hk)) (fun k h1 h2 => decide_eq_false (by have := HHI.out k h1 h2; omega)))
      have HTH := Lib.hid (there_at HLO.out HHI.out HR.out)
      by_cases hiT : i < T.length
      · obtain ⟨b, off, rfl, hb, hcell⟩ := HC3.out.resolve_left (by intro e; rw [e] at hiT; simp at hiT)
        obtain ⟨u, q0, q1, _⟩ := (hcell i hiT).below (HB.out.mono (Nat.le_refl _)) hb
        have hSq := hS (T.getD i TB.zero).at' a u
        have HCE := Lib.hid (@cmpI_eq (T.getD i TB.zero).at' a)
        rw [decide_eq_true hiT, Bool.true_and] at HTH
        clear hcell hb hS
        generalize (T.getD i TB.zero).at' = ta at *
        generalize cmpI ta a = z at hSq HCE
        go_wp2_with (go_at_call 37; with_reducible refine (hSq _).mono ?_; rintro e w2 ⟨rfl, hb2⟩; have HB2 := Lib.hid (HB.out.trans (hb2.mono HB.out.size)); clear hb2)
        go_ret2
        exact ⟨by rw [HBF.out, HTH.out, ← HCE.out]; rfl, HB2.out⟩
      · have hiT2 : i = T.length := by omega
        have HTF : Hid (isThere T a = false) := Lib.hid (by rw [HTH.out, decide_eq_false hiT]; rfl)
        clear hS
        go_wp2
        go_ret2
        exact ⟨by rw [HBF.out, HTF.out]; rfl, HB.out⟩
theorem seek_any (T : List TB) (a B : Int) (v : Value) (w : World) (hv : TabsS w v T) (hR : Rises T) (hn : T.length ≤ 100000) :
    Calls Tryd.prog 19 #[.agg #[.int .i64 B, v], .int .i64 a] w fun e w' => e = .returned (.tuple #[.int .i64 (before T a : Int), .bool (isThere T a)]) ∧ Below w.heap.size w w' := by
  have hS := fun W h => bsearch_any T a v W h hR hn
  have HB0 := Lib.hid (below1 w (.cells #[.int .i64 B, v] 27))
  have HX0 := Lib.hid (B2.new w (.int .i64 B) v 27)
  have HV := Lib.hid (hv.below HB0.out)
  clear hv hR hn
  generalize isThere T a = th at hS ⊢
  generalize (before T a) = n at hS ⊢
  go_enter Tryd.func19, Tryd.ntmps19
  go_upto_region 1 with fail
  generalize w.alloc (.cells #[.int .i64 B, v] 27) = w0 at HB0 HX0 HV ⊢
  obtain ⟨_, y0, y1, _, _⟩ := HX0.out
  go_wp2_with (go_at_call 36; with_reducible refine (hS _ HV.out).mono ?_; rintro e w2 ⟨rfl, hb2⟩; have HB2 := Lib.hid (HB0.out.trans (hb2.mono HB0.out.size)); clear hb2)
  go_ret2
  exact ⟨rfl, HB2.out⟩
end Go.Proofs.YtngkbcaflkinhaaDoor

