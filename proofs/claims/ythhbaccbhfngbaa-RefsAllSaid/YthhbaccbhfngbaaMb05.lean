/- Charts: how maps lie; the contracts of isTable, mayHave. Charts: the contract of Check. Charts: where a table stands, or would stand: seek. -/
import Derived.Test.YthhbaccbhfngbaaMb04
namespace Go.Proofs.Ythhbaccbhfngbaa
open Go.RowKit

/-- A block of two cells. -/
structure B2 (W : World) (b : Nat) (v0 v1 : Value) : Prop where
  lt : b < W.heap.size
  c0 : W.cell? ⟨b, 0, none⟩ = some v0
  c1 : W.cell? ⟨b, 1, none⟩ = some v1
  f0 : W.frozen? ⟨b, 0, none⟩ = false
  f1 : W.frozen? ⟨b, 1, none⟩ = false
theorem B2.new (w : World) (v0 v1 : Value) (t : Nat) : B2 (w.alloc (.cells #[v0, v1] t)) w.heap.size v0 v1 :=
  ⟨by simp, by simp [go_sem], by simp [go_sem], frozen_of_row _ _ _ _ t (heap_alloc_new w _), frozen_of_row _ _ _ _ t (heap_alloc_new w _)⟩
theorem B2.ap {S : Nat → Prop} {W W' : World} {b : Nat} {v0 v1 : Value} (k : B2 W b v0 v1) (a : Ap S W W') (hn : ¬ S b) : B2 W' b v0 v1 :=
  ⟨Nat.lt_of_lt_of_le k.lt a.size, (a.cell k.lt hn _).trans k.c0, (a.cell k.lt hn _).trans k.c1, (a.frozen k.lt hn _).trans k.f0, (a.frozen k.lt hn _).trans k.f1⟩
theorem B2.below {W W' : World} {b : Nat} {v0 v1 : Value} (k : B2 W b v0 v1) (hb : Below W.heap.size W W') : B2 W' b v0 v1 := k.ap (S := fun _ => False) (Ap.of_below hb) id
/-- A table, as it lies. -/
def TabAt (w : World) (b o : Nat) (t : TB) : Prop := ∃ u, w.cell? ⟨b, o, none⟩ = some (.int .i64 t.at') ∧ w.cell? ⟨b, o + 1, none⟩ = some u ∧ EntsS w u t.l
theorem TabAt.below {w w' : World} {b o : Nat} {t : TB} (k : TabAt w b o t) (hb : Below w.heap.size w w') (hlt : b < w.heap.size) : TabAt w' b o t := by
  obtain ⟨u, h0, h1, h2⟩ := k
  exact ⟨u, (hb.cell (p := ⟨b, o, none⟩) hlt).trans h0, (hb.cell (p := ⟨b, o + 1, none⟩) hlt).trans h1, h2.below hb (Nat.le_refl _)⟩
def TabsS (w : World) (v : Value) (T : List TB) : Prop :=
  ∃ A cap, v = .slice A T.length cap ∧ T.length ≤ cap ∧ cap ≤ maxLen ∧ (T = [] ∨ ∃ b off, A = some ⟨b, off, none⟩ ∧ b < w.heap.size ∧ ∀ j, j < T.length → TabAt w b (off + j * 2) (T.getD j TB.zero))
theorem TabsS.below {w w' : World} {v : Value} {T : List TB} (k : TabsS w v T) (hb : Below w.heap.size w w') : TabsS w' v T := by
  obtain ⟨A, cap, hv, h1, h2, h3⟩ := k
  refine ⟨A, cap, hv, h1, h2, ?_⟩
  rcases h3 with h3 | ⟨b, off, hA, hlt, hc⟩
  · exact .inl h3
  · exact .inr ⟨b, off, hA, Nat.lt_of_lt_of_le hlt hb.size, fun j hj => (hc j hj).below hb hlt⟩
theorem EntsS.take {w : World} {b off : Nat} {len cap : Nat} {L : List EN} (h : EntsS w (.slice (some ⟨b, off, none⟩) len cap) L) (m : Nat) (hm : m ≤ L.length) : EntsS w (.slice (some ⟨b, off, none⟩) m cap) (L.take m) := by
  obtain ⟨A, c, hv, h1, h2, h3⟩ := h
  injection hv with hA hl hc
  subst hc
  have e : (L.take m).length = m := by rw [List.length_take]; omega
  refine ⟨some ⟨b, off, none⟩, cap, by rw [e], by rw [e]; omega, h2, ?_⟩
  rcases h3 with h3 | ⟨b', off', hA', hlt, hcell⟩
  · subst h3; exact .inl (by simp)
  · rw [← hA] at hA'
    injection hA' with hA'
    injection hA' with e1 e2 _
    subst e1 e2
    refine .inr ⟨b, off, rfl, hlt, fun j hj => ?_⟩
    rw [e] at hj
    have : (L.take m).getD j EN.zero = L.getD j EN.zero := by rw [List.getD, List.getElem?_take, if_pos hj]; rfl
    rw [this]
    exact hcell j (by omega)
theorem EntsS.drop {w : World} {b off : Nat} {len cap : Nat} {L : List EN} (h : EntsS w (.slice (some ⟨b, off, none⟩) len cap) L) (m : Nat) (hm : m ≤ L.length) : EntsS w (.slice (some ⟨b, off + m * 4, none⟩) (L.length - m) (cap - m)) (L.drop m) := by
  obtain ⟨A, c, hv, h1, h2, h3⟩ := h
  injection hv with hA hl hc
  subst hc
  have e : (L.drop m).length = L.length - m := by rw [List.length_drop]
  refine ⟨some ⟨b, off + m * 4, none⟩, cap - m, by rw [e], by rw [e]; omega, by omega, ?_⟩
  rcases h3 with h3 | ⟨b', off', hA', hlt, hcell⟩
  · subst h3; exact .inl (by simp)
  · rw [← hA] at hA'
    injection hA' with hA'
    injection hA' with e1 e2 _
    subst e1 e2
    refine .inr ⟨b, off + m * 4, rfl, hlt, fun j hj => ?_⟩
    rw [e] at hj
    have : (L.drop m).getD j EN.zero = L.getD (m + j) EN.zero := by rw [List.getD, List.getElem?_drop]; rfl
    rw [this, show off + m * 4 + j * 4 = off + (m + j) * 4 by omega]
    exact hcell (m + j) (by omega)
theorem chtMay_any (b : Int) (w : World) : Calls Try.prog 43 #[.int .i64 b] w fun e w' => e = .returned (.bool (mayB b)) ∧ Below w.heap.size w w' := by
  unfold mayB
  by_cases h1 : 0 ≤ b
  · have d1 : decide (0 ≤ b) = true := decide_eq_true h1
    rw [d1, Bool.true_and]
    clear h1
    go_enter Try.func43, Try.ntmps43
    go_wp2
    go_ret
    exact ⟨rfl, Below.refl _ _⟩
  · have d1 : decide (0 ≤ b) = false := decide_eq_false h1
    rw [d1, Bool.false_and]
    clear h1
    go_enter Try.func43, Try.ntmps43
    go_wp2
    go_ret
    exact ⟨rfl, Below.refl _ _⟩
set_option maxHeartbeats 2000000 in
theorem chtTable_any (E n : Nat) (a : Int) (L : List EN) (u : Value) (w : World) (hE : 1 ≤ E ∧ E ≤ 8192) (hn : n ≤ 65536) (hu : EntsS w u L) :
    Calls Try.prog 44 #[.int .i64 (E : Int), .agg #[.int .i64 a, u], .int .i64 (n : Int)] w fun e w' => e = .returned (.bool (tblB (E : Int) L (n : Int))) ∧ Below w.heap.size w w' := by
  obtain ⟨A, cap, rfl, hc1, hc2, hc3⟩ := hu
  have hu : EntsS w (.slice A L.length cap) L := ⟨A, cap, rfl, hc1, hc2, hc3⟩
  have HU := Lib.hid hu
  have HX0 := Lib.hid (B2.new w (.int .i64 a) (.slice A L.length cap) 55)
  have HB0 := Lib.hid (below1 w (.cells #[.int .i64 a, .slice A L.length cap] 55))
  by_cases hl : L.length = E
  case neg =>
    have d0 : ((L.length : Int) == (E : Int)) = false := by rw [beq_eq_false_iff_ne]; omega
    have d1 : ((L.length : Int) != (E : Int)) = true := by rw [bne_iff_ne]; omega
    have HF : Hid (tblB (E : Int) L (n : Int) = false) := Lib.hid (by unfold tblB; rw [decide_eq_false (by omega)]; rfl)
    clear hl hu hc3
    go_enter Try.func44, Try.ntmps44
    go_wp2
    go_ret
    exact ⟨by rw [HF.out]; rfl, HB0.out⟩
  case pos =>
  subst hl
  obtain ⟨b, off, rfl, hb, _⟩ := hc3.resolve_left (by intro e; rw [e] at hE; simp at hE)
  obtain ⟨m, hmdef⟩ : ∃ m, m = min n L.length := ⟨_, rfl⟩
  have hmin : (min (n : Int) (L.length : Int)).toNat = m := by omega
  have HT : Hid (tblB (L.length : Int) L (n : Int) = (!L.any wrongB && (L.take m).any fullB && !(L.drop m).any fullB)) := Lib.hid (by unfold tblB; rw [hmin, decide_eq_true rfl]; simp)
  have hm : m ≤ L.length := by rw [hmdef]; exact Nat.min_le_right _ _
  have hmm : (n ≤ L.length ∧ n = m) ∨ (L.length < n ∧ L.length = m) := by omega
  have hW := fun W (h : EntsS W (.slice (some ⟨b, off, none⟩) L.length cap) L) => contWrong_any L _ W h
  have hF1 := fun W (h : EntsS W (.slice (some ⟨b, off, none⟩) L.length cap) L) => contFull_any _ _ W (h.take m hm)
  have hF2 := fun W (h : EntsS W (.slice (some ⟨b, off, none⟩) L.length cap) L) => contFull_any _ _ W (h.drop m hm)
  rw [HT.out]
  have hF3 : cap = m → ∀ W, Calls Try.prog 71 #[.slice (some ⟨b, off, none⟩) 0 0, .func (.func 46) #[] #[]] W fun e w' => e = .returned (.bool ((L.drop m).any fullB)) ∧ Below W.heap.size W w' := fun h W => by
    have e : (L.drop m).length = 0 := by rw [List.length_drop]; omega
    exact contFull_any _ _ W ⟨some ⟨b, off, none⟩, 0, by rw [e], by rw [e]; omega, Nat.zero_le _, .inl (List.eq_nil_of_length_eq_zero e)⟩
  generalize L.any wrongB = x1 at hW ⊢
  generalize (L.take m).any fullB = x2 at hF1 ⊢
  generalize (L.drop m).any fullB = x3 at hF2 hF3 ⊢
  have HMM := Lib.hid hmm
  have HMC : Hid (m ≤ cap) := Lib.hid (by omega)
  have hmi : min (n : Int) (L.length : Int) = (m : Int) := by omega
  clear hu hc3 HT hmin hb hmdef hmm
  go_enter Try.func44, Try.ntmps44
  go_upto_region 1 with fail
  generalize w.alloc (.cells #[.int .i64 a, .slice (some ⟨b, off, none⟩) L.length cap] 55) = w0 at HX0 HB0 ⊢
  obtain ⟨_, y0, y1, _, _⟩ := HX0.out
  have HU0 := Lib.hid (HU.out.below HB0.out (Nat.le_refl _))
  cases x1 with
  | true =>
    go_wp2_with (go_at_call 71; with_reducible refine (hW _ HU0.out).mono ?_; rintro e w1 ⟨rfl, hb1⟩; have HB1 := Lib.hid (HB0.out.trans (hb1.mono HB0.out.size)); clear hb1)
    go_ret
    exact ⟨by simp, HB1.out⟩
  | false =>
    go_upto_region 6 with (go_at_call 71; with_reducible refine (hW _ HU0.out).mono ?_; rintro e w1 ⟨rfl, hb1⟩; have HB1 := Lib.hid (HB0.out.trans (hb1.mono HB0.out.size)); have HX1 := Lib.hid (HX0.out.below hb1); have HU1 := Lib.hid (HU0.out.below hb1 (Nat.le_refl _)); clear hb1)
    clear y0 y1
    obtain ⟨_, y0, y1, _, _⟩ := HX1.out
    go_upto_region 7 with fail
    have hmc := HMC.out
    cases x2 with
    | false =>
      go_wp2_with (go_at_call 71; with_reducible refine (hF1 _ HU1.out).mono ?_; rintro e w2 ⟨rfl, hb2⟩; have HB2 := Lib.hid (HB1.out.trans (hb2.mono HB1.out.size)); clear hb2)
      go_ret
      exact ⟨by simp, HB2.out⟩
    | true =>
      by_cases hcm : cap = m
      · have hF4 := hF3 hcm
        subst hcm
        go_wp2_with (first
          | (go_at_call 71; with_reducible refine (hF1 _ HU1.out).mono ?_; rintro e w2 ⟨rfl, hb2⟩; have HB2 := Lib.hid (HB1.out.trans (hb2.mono HB1.out.size)); have HX2 := Lib.hid (HX1.out.below hb2); have HU2 := Lib.hid (HU1.out.below hb2 (Nat.le_refl _)); clear hb2 y0 y1; obtain ⟨_, y0, y1, _, _⟩ := HX2.out)
          | (go_at_call 71; with_reducible refine (hF4 _).mono ?_; rintro e w3 ⟨rfl, hb3⟩; have HB3 := Lib.hid (HB2.out.trans (hb3.mono HB2.out.size)); clear hb3))
        go_ret
        exact ⟨by simp, HB3.out⟩
      · clear hF3
        go_wp2_with (first
          | (go_at_call 71; with_reducible refine (hF1 _ HU1.out).mono ?_; rintro e w2 ⟨rfl, hb2⟩; have HB2 := Lib.hid (HB1.out.trans (hb2.mono HB1.out.size)); have HX2 := Lib.hid (HX1.out.below hb2); have HU2 := Lib.hid (HU1.out.below hb2 (Nat.le_refl _)); clear hb2 y0 y1; obtain ⟨_, y0, y1, _, _⟩ := HX2.out)
          | (go_at_call 71; with_reducible refine (hF2 _ HU2.out).mono ?_; rintro e w3 ⟨rfl, hb3⟩; have HB3 := Lib.hid (HB2.out.trans (hb3.mono HB2.out.size)); clear hb3))
        go_ret
        exact ⟨by simp, HB3.out⟩
end Go.Proofs.Ythhbaccbhfngbaa
namespace Go.Proofs.Ythhbaccbhfngbaa
open Go.RowKit

theorem parts_iff {e B a : Int} (he : 0 < e) : a < parts e B ↔ a * e < B := by
  unfold parts
  rw [show (a < (B + e - 1) / e) ↔ a + 1 ≤ (B + e - 1) / e from Iff.rfl, Int.le_ediv_iff_mul_le he, Int.add_mul]
  omega
theorem okB_no {e : Int} {c : CH} (h : ¬ (1 ≤ e ∧ e ≤ 8192 ∧ mayB c.blocks = true)) : chtE e c = 2 := by
  unfold chtE okB
  rw [if_neg]
  simp only [Bool.and_eq_true, decide_eq_true_eq]
  rintro ⟨⟨⟨a, b⟩, d⟩, _⟩
  exact h ⟨a, b, d⟩
theorem okB_yes {e : Int} {c : CH} (h1 : 1 ≤ e) (h2 : e ≤ 8192) (h3 : mayB c.blocks = true) : chtE e c = if tabsB e c.blocks 0 c.tabs = true then 0 else 2 := by
  unfold chtE okB
  rw [decide_eq_true h1, decide_eq_true h2, h3]
  simp
theorem mayB_iff {b : Int} : mayB b = true ↔ 0 ≤ b ∧ b ≤ 65536 := by unfold mayB; simp
set_option maxRecDepth 100000 in
set_option maxHeartbeats 4000000 in
theorem chtCheck_no (e B : Int) (T : List TB) (tv : Value) (w : World) (h : ¬ (1 ≤ e ∧ e ≤ 8192 ∧ mayB B = true)) :
    Calls Try.prog 33 #[.int .i64 e, .agg #[.int .i64 B, tv]] w fun e' w' => e' = .returned (.int .i64 (chtE e ⟨B, T⟩)) ∧ Below w.heap.size w w' := by
  rw [okB_no h]
  have hM := chtMay_any B
  have HX0 := Lib.hid (B2.new w (.int .i64 B) tv 44)
  have HB0 := Lib.hid (below1 w (.cells #[.int .i64 B, tv] 44))
  by_cases h1 : 1 ≤ e
  · have d1 : decide (e < 1) = false := decide_eq_false (by omega)
    by_cases h2 : e ≤ 8192
    · have d2 : decide (8192 < e) = false := decide_eq_false (by omega)
      have h3 : mayB B = false := by cases hb : mayB B; rfl; exact absurd ⟨h1, h2, hb⟩ h
      rw [h3] at hM
      clear h h1 h2 h3
      go_enter Try.func33, Try.ntmps33
      go_upto_region 1 with fail
      generalize w.alloc (.cells #[.int .i64 B, tv] 44) = w0 at HX0 HB0 ⊢
      obtain ⟨_, y0, y1, _, _⟩ := HX0.out
      go_wp2_with (go_at_call 43; with_reducible refine (hM _).mono ?_; rintro e w1 ⟨rfl, hb1⟩; have HB1 := Lib.hid (HB0.out.trans (hb1.mono HB0.out.size)); clear hb1)
      go_ret
      exact ⟨rfl, HB1.out⟩
    · have d2 : decide (8192 < e) = true := decide_eq_true (by omega)
      clear h h1 h2 hM
      go_enter Try.func33, Try.ntmps33
      go_wp2
      go_ret
      exact ⟨rfl, HB0.out⟩
  · have d1 : decide (e < 1) = true := decide_eq_true (by omega)
    clear h h1 hM
    go_enter Try.func33, Try.ntmps33
    go_wp2
    go_ret
    exact ⟨rfl, HB0.out⟩
set_option maxRecDepth 100000 in
set_option maxHeartbeats 4000000 in
theorem chtCheck_yes (E BN : Nat) (T : List TB) (tv : Value) (w : World) (h1 : 1 ≤ E) (h2 : E ≤ 8192) (h3 : BN ≤ 65536) (hT : TabsS w tv T) :
    Calls Try.prog 33 #[.int .i64 (E : Int), .agg #[.int .i64 (BN : Int), tv]] w fun e' w' => e' = .returned (.int .i64 (if tabsB (E : Int) (BN : Int) 0 T = true then 0 else 2)) ∧ Below w.heap.size w w' := by
  obtain ⟨res, hres⟩ : ∃ res : Int, res = if tabsB (E : Int) (BN : Int) 0 T = true then 0 else 2 := ⟨_, rfl⟩
  rw [← hres]
  have RES := Lib.hid hres
  clear hres
  have hM := chtMay_any (BN : Int)
  rw [mayB_iff.2 ⟨by omega, by omega⟩] at hM
  obtain ⟨A, cap, rfl, hc1, hc2, hc3⟩ := hT
  have HC3 := Lib.hid hc3
  have HX0 := Lib.hid (B2.new w (.int .i64 (BN : Int)) (.slice A T.length cap) 44)
  have HB0 := Lib.hid (below1 w (.cells #[.int .i64 (BN : Int), .slice A T.length cap] 44))
  have d1 : decide ((E : Int) < 1) = false := decide_eq_false (by omega)
  have d2 : decide (8192 < (E : Int)) = false := decide_eq_false (by omega)
  obtain ⟨Q, hQ⟩ : ∃ Q : Nat, Q = BN + E - 1 := ⟨_, rfl⟩
  have s1 : IntKind.i64.wrap ((BN : Int) + (E : Int)) = (BN : Int) + (E : Int) := by rw [IntKind.wrap_i64]; omega
  have s2 : IntKind.i64.wrap ((BN : Int) + (E : Int) - 1) = (Q : Int) := by rw [IntKind.wrap_i64]; omega
  obtain ⟨P, hPd⟩ : ∃ P : Nat, P = Q / E := ⟨_, rfl⟩
  have s3 : (Q : Int).tdiv (E : Int) = (P : Int) := by rw [hPd]; rfl
  have s4 : (Q : Int) / (E : Int) = (P : Int) := by rw [hPd]; rfl
  have s6 : ((E : Int) == 0) = false := by rw [beq_eq_false_iff_ne]; omega
  have s7 : ¬ (E : Int) = 0 := by omega
  have HP : Hid (parts (E : Int) (BN : Int) = (P : Int)) := Lib.hid (by unfold parts; rw [← s4]; congr 1; omega)
  have hP0 : P ≤ 73728 := by rw [hPd]; exact Nat.le_trans (Nat.div_le_self _ _) (by omega)
  have s5 : IntKind.i64.wrap (P : Int) = (P : Int) := by rw [IntKind.wrap_i64]; omega
  have HK : Hid (∀ k : Nat, (k : Int) < (P : Int) → k ≤ 73728) := Lib.hid (fun k hk => by omega)
  have H1 := Lib.hid h1
  have H2 := Lib.hid h2
  have H3 := Lib.hid h3
  clear hc3 hPd h1 h2 h3 hP0 hQ
  go_enter Try.func33, Try.ntmps33
  go_upto_region 1 with fail
  generalize w.alloc (.cells #[.int .i64 (BN : Int), .slice A T.length cap] 44) = w0 at HX0 HB0 ⊢
  obtain ⟨_, y0, y1, _, _⟩ := HX0.out
  go_upto_region 3 with (go_at_call 43; with_reducible refine (hM _).mono ?_; rintro e w1 ⟨rfl, hb1⟩; have HB1 := Lib.hid (HB0.out.trans (hb1.mono HB0.out.size)); have HX1 := Lib.hid (HX0.out.below hb1); clear hb1)
  clear y0 y1
  obtain ⟨_, y0, y1, _, _⟩ := HX1.out
  go_quiet (fail)
  have HBA := Lib.hid (below_drewN HB1.out nq)
  have HXA := Lib.hid (HX1.out.below (below_drewN (Below.refl _ _) nq))
  generalize w1.drewN nq = w2 at HBA HXA ⊢
  clear y0 y1 hM s1 s2 s3 s4 s5 s6 s7
  obtain ⟨_, y0, y1, _, _⟩ := HXA.out
  go_wp2
  clear y0 y1
  go_loopw [5, 31] (fun lx ix wr => ∃ (j : Nat) (ls : Int), j ≤ T.length ∧ ix = .int .i64 (j : Int) ∧ lx = .int .i64 ls ∧ ls = leastAt T j ∧ 0 ≤ ls ∧ tabsB (E : Int) (BN : Int) 0 T = tabsB (E : Int) (BN : Int) ls (T.drop j) ∧ Below w.heap.size w wr ∧ B2 wr w.heap.size (.int .i64 (BN : Int)) (.slice A T.length cap)) (fun _ ix _ => T.length - (intOf ix).toNat)
  case atStart => exact ⟨0, 0, Nat.zero_le _, rfl, rfl, rfl, Int.le_refl _, rfl, HBA.out, HXA.out⟩
  case round =>
    obtain ⟨j, ls, hj, rfl, rfl, hls, hls0, htb, hB, hX⟩ := hrel
    have HB := Lib.hid hB
    have HX := Lib.hid hX
    have HLS := Lib.hid hls
    have HTB := Lib.hid htb
    clear hB hX hls htb HBA HXA
    by_cases hlt : j < T.length
    · obtain ⟨b, off, rfl, hb, hcell⟩ := HC3.out.resolve_left (by intro e; rw [e] at hlt; simp at hlt)
      obtain ⟨u, q0, q1, hu⟩ := (hcell j hlt).below (HB.out.mono (Nat.le_refl _)) hb
      have HW1 := Lib.hid (wrap_succ hlt hc1 hc2)
      have hone := tabsB_drop (E : Int) (BN : Int) T j hlt
      rw [← HLS.out] at hone
      have HONE : Hid (tabsB (E : Int) (BN : Int) 0 T = (oneB (E : Int) (BN : Int) ls (T.getD j TB.zero) && tabsB (E : Int) (BN : Int) (leastAt T (j + 1)) (T.drop (j + 1)))) := Lib.hid (HTB.out.trans hone)
      have HNX : Hid (leastAt T (j + 1) = (T.getD j TB.zero).at' + 1) := Lib.hid rfl
      unfold oneB at HONE
      clear hcell hone
      generalize T.getD j TB.zero = tb at q0 q1 hu HONE HNX
      obtain ⟨a, l⟩ := tb
      dsimp only at q0 q1 hu HONE HNX
      have HU := Lib.hid hu
      obtain ⟨A', cap', rfl, _, _, _⟩ := hu
      obtain ⟨_, y0, y1, _, _⟩ := HX.out
      have HB1' := Lib.hid (HB.out.alloc HB.out.size (.cells #[.int .i64 a, .slice A' l.length cap'] 55))
      have HX1' := Lib.hid (HX.out.below (below1 wr (.cells #[.int .i64 a, .slice A' l.length cap'] 55)))
      have HT1 := Lib.hid (B2.new wr (.int .i64 a) (.slice A' l.length cap') 55)
      have HU1 := Lib.hid (HU.out.below (below1 wr (.cells #[.int .i64 a, .slice A' l.length cap'] 55)) (Nat.le_refl _))
      by_cases ha : a < ls
      · have e1 : decide (a < ls) = true := decide_eq_true ha
        have HF : Hid (tabsB (E : Int) (BN : Int) 0 T = false) := Lib.hid (by rw [HONE.out, decide_eq_false (show ¬ ls ≤ a by omega)]; simp)
        clear ha
        go_wp2
        go_ret
        exact ⟨by rw [RES.out, HF.out]; rfl, HB1'.out⟩
      · have e1 : decide (a < ls) = false := decide_eq_false ha
        by_cases hp : a < (P : Int)
        · have e2 : decide ((P : Int) ≤ a) = false := decide_eq_false (by omega)
          obtain ⟨k, rfl⟩ : ∃ k : Nat, a = (k : Int) := ⟨a.toNat, by omega⟩
          have e3 : decide (P ≤ k) = false := decide_eq_false (by omega)
          obtain ⟨M, hM⟩ : ∃ M : Nat, M = k * E := ⟨_, rfl⟩
          have hME : (k : Int) * (E : Int) = (M : Int) := by rw [hM, Int.natCast_mul]
          have hMB : (M : Int) < (BN : Int) := by rw [← hME]; exact (parts_iff (by have := H1.out; omega)).1 (by rw [HP.out]; exact hp)
          have h3 := H3.out
          obtain ⟨n, hn⟩ : ∃ n : Nat, (n : Int) = (BN : Int) - (M : Int) := ⟨(BN - M), by omega⟩
          have hn2 : n ≤ 65536 := by omega
          have M1 : Hid (wrap64 ((k : Int) * (E : Int)) = (M : Int)) := Lib.hid (by rw [hME]; unfold wrap64; omega)
          have M2 : Hid (wrap64 ((BN : Int) - (M : Int)) = (n : Int)) := Lib.hid (by rw [← hn]; unfold wrap64; omega)
          have hk3 : k ≤ 73728 := HK.out k hp
          have M3 : Hid (wrap64 ((k : Int) + 1) = (k : Int) + 1) := Lib.hid (by unfold wrap64; omega)
          have hTb := fun W (h : EntsS W (.slice A' l.length cap') l) => chtTable_any E n (k : Int) l (.slice A' l.length cap') W ⟨H1.out, H2.out⟩ hn2 h
          have HRES : Hid (tabsB (E : Int) (BN : Int) 0 T = (tblB (E : Int) l (n : Int) && tabsB (E : Int) (BN : Int) (leastAt T (j + 1)) (T.drop (j + 1)))) := Lib.hid (by
            rw [HONE.out, decide_eq_true (show ls ≤ (k : Int) by omega), HP.out, decide_eq_true hp, hME, ← hn]; simp)
          have HNN : Hid (0 ≤ (k : Int) + 1) := Lib.hid (by omega)
          clear hME hMB h3 hn hn2 hM ha hp HONE hk3
          have hw1 := HW1.out
          have m1 := M1.out
          have m2 := M2.out
          have m3 := M3.out
          generalize tblB (E : Int) l (n : Int) = bt at hTb HRES
          cases bt with
          | false =>
            go_wp2_with (go_at_call 44; with_reducible refine (hTb _ HU1.out).mono ?_; rintro e w4 ⟨rfl, hb4⟩; have HB4 := Lib.hid (HB1'.out.trans (hb4.mono HB1'.out.size)); clear hb4)
            go_ret
            exact ⟨by rw [RES.out, HRES.out]; rfl, HB4.out⟩
          | true =>
            go_wp2_with (go_at_call 44; with_reducible refine (hTb _ HU1.out).mono ?_; rintro e w4 ⟨rfl, hb4⟩; have HB4 := Lib.hid (HB1'.out.trans (hb4.mono HB1'.out.size)); have HX4 := Lib.hid (HX1'.out.below hb4); obtain ⟨_, z0, z1, _, _⟩ := HT1.out.below hb4; clear hb4)
            rw [hw1, m3]
            clear hw1 m1 m2 m3 e1 e2 e3
            go_roundw
            case rel => exact ⟨j + 1, (k : Int) + 1, by omega, by go_num, rfl, HNX.out.symm, HNN.out, by rw [HRES.out, HNX.out]; simp, HB4.out, HX4.out⟩
            case measure => simp [intOf]; omega
        · have e2 : decide ((P : Int) ≤ a) = true := decide_eq_true (by omega)
          have HF : Hid (tabsB (E : Int) (BN : Int) 0 T = false) := Lib.hid (by rw [HONE.out, HP.out, decide_eq_false hp]; simp)
          clear ha hp
          go_wp2
          go_ret
          exact ⟨by rw [RES.out, HF.out]; rfl, HB1'.out⟩
    · obtain rfl : j = T.length := by omega
      have HF : Hid (tabsB (E : Int) (BN : Int) 0 T = true) := Lib.hid (by rw [HTB.out, List.drop_of_length_le (Nat.le_refl _)]; rfl)
      go_wp2
      go_ret
      exact ⟨by rw [RES.out, HF.out]; rfl, HB.out⟩
theorem chtCheck_any (e B : Int) (T : List TB) (tv : Value) (w : World) (hT : TabsS w tv T) :
    Calls Try.prog 33 #[.int .i64 e, .agg #[.int .i64 B, tv]] w fun e' w' => e' = .returned (.int .i64 (chtE e ⟨B, T⟩)) ∧ Below w.heap.size w w' := by
  by_cases h : 1 ≤ e ∧ e ≤ 8192 ∧ mayB B = true
  · obtain ⟨h1, h2, h3⟩ := h
    obtain ⟨b1, b2⟩ := mayB_iff.1 h3
    rw [okB_yes (c := ⟨B, T⟩) h1 h2 h3]
    obtain ⟨E, rfl⟩ : ∃ E : Nat, e = (E : Int) := ⟨e.toNat, by omega⟩
    obtain ⟨BN, rfl⟩ : ∃ BN : Nat, B = (BN : Int) := ⟨B.toNat, by omega⟩
    exact chtCheck_yes E BN T tv w (by omega) (by omega) (by omega) hT
  · exact chtCheck_no e B T tv w h
end Go.Proofs.Ythhbaccbhfngbaa
namespace Go.Proofs.Ythhbaccbhfngbaa
open Go.RowKit

def cmpI (a b : Int) : Int := if a < b then -1 else if b < a then 1 else 0
theorem isNaN_any (a : Int) (w : World) : Calls Try.prog 57 #[.int .i64 a] w fun e w' => e = .returned (.bool false) ∧ w' = w := by
  go_enter Try.func57, Try.ntmps57
  go_wp2
  go_ret
  exact ⟨rfl, rfl⟩
theorem compare_any (a b : Int) (w : World) : Calls Try.prog 39 #[.int .i64 a, .int .i64 b] w fun e w' => e = .returned (.int .i64 (cmpI a b)) ∧ w' = w := by
  have hN := isNaN_any
  unfold cmpI
  by_cases h1 : a < b
  · have d1 : decide (a < b) = true := decide_eq_true h1
    rw [if_pos h1]
    clear h1
    go_enter Try.func39, Try.ntmps39
    go_wp2_with (go_at_call 57; refine (hN _ _).mono ?_; rintro e w2 ⟨rfl, rfl⟩)
    go_ret
    exact ⟨rfl, rfl⟩
  · have d1 : decide (a < b) = false := decide_eq_false h1
    rw [if_neg h1]
    by_cases h2 : b < a
    · have d2 : decide (b < a) = true := decide_eq_true h2
      rw [if_pos h2]
      clear h1 h2
      go_enter Try.func39, Try.ntmps39
      go_wp2_with (go_at_call 57; refine (hN _ _).mono ?_; rintro e w2 ⟨rfl, rfl⟩)
      go_ret
      exact ⟨rfl, rfl⟩
    · have d2 : decide (b < a) = false := decide_eq_false h2
      rw [if_neg h2]
      clear h1 h2
      go_enter Try.func39, Try.ntmps39
      go_wp2_with (go_at_call 57; refine (hN _ _).mono ?_; rintro e w2 ⟨rfl, rfl⟩)
      go_ret
      exact ⟨rfl, rfl⟩
/-- How many tables stand ahead of place a. -/
def before (T : List TB) (a : Int) : Nat := T.countP (fun t => decide (t.at' < a))
def isThere (T : List TB) (a : Int) : Bool := T.any (fun t => decide (t.at' = a))
/-- The tables rise. -/
def Rises (T : List TB) : Prop := ∀ i j, i < j → j < T.length → (T.getD i TB.zero).at' < (T.getD j TB.zero).at'
theorem countP_cut {α : Type} (p : α → Bool) (d : α) : ∀ (l : List α) (i : Nat), i ≤ l.length → (∀ k, k < i → p (l.getD k d) = true) → (∀ k, i ≤ k → k < l.length → p (l.getD k d) = false) → l.countP p = i
  | [], i, h, _, _ => by simp at h; subst h; rfl
  | x :: r, 0, _, _, h2 => by
    have h0 : p x = false := h2 0 (Nat.le_refl _) (by simp)
    rw [List.countP_cons, countP_cut p d r 0 (Nat.zero_le _) (fun k hk => absurd hk (by omega)) (fun k _ hk => h2 (k + 1) (Nat.zero_le _) (by simpa using hk)), h0]; rfl
  | x :: r, i + 1, h, h1, h2 => by
    have h0 : p x = true := h1 0 (by omega)
    rw [List.countP_cons, countP_cut p d r i (by simpa using h) (fun k hk => h1 (k + 1) (by omega)) (fun k hk hl => h2 (k + 1) (by omega) (by simpa using hl)), h0]; rfl
theorem cmpI_lt {a b : Int} : decide (cmpI a b < 0) = decide (a < b) := by unfold cmpI; split <;> simp_all; split <;> simp_all
theorem cmpI_eq {a b : Int} : (cmpI a b == 0) = decide (a = b) := by
  unfold cmpI
  by_cases h1 : a < b
  · rw [if_pos h1, decide_eq_false (by omega)]; rfl
  · rw [if_neg h1]
    by_cases h2 : b < a
    · rw [if_pos h2, decide_eq_false (by omega)]; rfl
    · rw [if_neg h2, decide_eq_true (by omega)]; rfl
theorem there_at {T : List TB} {a : Int} {i : Nat} (h1 : ∀ k, k < i → (T.getD k TB.zero).at' < a) (h2 : ∀ k, i ≤ k → k < T.length → a ≤ (T.getD k TB.zero).at') (hR : Rises T) : isThere T a = (decide (i < T.length) && decide ((T.getD i TB.zero).at' = a)) := by
  unfold isThere
  rw [Bool.eq_iff_iff, List.any_eq_true]
  simp only [Bool.and_eq_true, decide_eq_true_eq]
  constructor
  · rintro ⟨t, ht, e⟩
    obtain ⟨k, hk, rfl⟩ := List.mem_iff_getElem.1 ht
    have ek : T.getD k TB.zero = T[k] := by rw [List.getD, List.getElem?_eq_getElem hk]; rfl
    have hik : i ≤ k := by
      by_cases h : k < i
      · have := h1 k h; rw [ek, e] at this; omega
      · omega
    refine ⟨by omega, ?_⟩
    by_cases hc : i = k
    · subst hc; rw [ek]; exact e
    · have g1 := hR i k (by omega) hk
      have g2 := h2 i (Nat.le_refl _) (by omega)
      rw [ek, e] at g1; omega
  · rintro ⟨hi, e⟩
    exact ⟨T[i], List.getElem_mem _, by rw [← e, List.getD, List.getElem?_eq_getElem hi]; rfl⟩
end Go.Proofs.Ythhbaccbhfngbaa
