/- Charts: told: the blocks that are no holes, and where their entries lie, told one by one. -/
import Derived.Test.YthhbaccbhfngbaaMb11
import Derived.Test.YthhbaccbhfngbaaMb12
namespace Go.Proofs.Ythhbaccbhfngbaa
open Go.RowKit Go.Shelf
attribute [local go_sem] Oper.semAt_some

/-! ### the entries that are no holes, in their order -/
def entF (E : Nat) (T : List TB) (p : Nat) : EN := (T.getD (p / E) TB.zero).l.getD (p % E) EN.zero
def fullQ (E : Nat) (T : List TB) : List Bool := (List.range (T.length * E)).map fun p => fullB (entF E T p)
theorem fullQ_len (E : Nat) (T : List TB) : (fullQ E T).length = T.length * E := by unfold fullQ; simp
theorem fullQ_at (E : Nat) (T : List TB) {p : Nat} (h : p < T.length * E) : (fullQ E T).getD p false = fullB (entF E T p) := by
  unfold fullQ; rw [List.getD, List.getElem?_map, List.getElem?_range h]; rfl
def cntF (E : Nat) (T : List TB) (p : Nat) : Nat := (frI true (fullQ E T) p).length
def numF (E : Nat) (T : List TB) : Nat := (fr true (fullQ E T)).length
def posF (E : Nat) (T : List TB) (k : Nat) : Nat := (fr true (fullQ E T)).getD k 0
theorem cntF_zero (E : Nat) (T : List TB) : cntF E T 0 = 0 := rfl
theorem cntF_all (E : Nat) (T : List TB) : cntF E T (T.length * E) = numF E T := by unfold cntF numF fr; rw [fullQ_len]
theorem cntF_full {E : Nat} {T : List TB} {p : Nat} (h : p < T.length * E) (hf : fullB (entF E T p) = true) : cntF E T p < numF E T ∧ posF E T (cntF E T p) = p ∧ cntF E T (p + 1) = cntF E T p + 1 := by
  have hq := (fullQ_at E T h).trans hf
  obtain ⟨h1, h2, _⟩ := frI_at (b := true) (n := (fullQ E T).length) (by rw [fullQ_len]; exact h) hq
  refine ⟨h1, h2, ?_⟩
  unfold cntF
  rw [frI_yes hq, List.length_append]; rfl
theorem cntF_hole {E : Nat} {T : List TB} {p : Nat} (h : p < T.length * E) (hf : fullB (entF E T p) = false) : cntF E T (p + 1) = cntF E T p := by
  have hq := (fullQ_at E T h).trans hf
  unfold cntF
  rw [frI_no (by rw [hq]; decide)]
theorem numF_le (E : Nat) (T : List TB) : numF E T ≤ T.length * E := by
  unfold numF fr; have := frI_len true (fullQ E T) (fullQ E T).length; rw [fullQ_len] at this ⊢; exact this
theorem entF_at {E j i : Nat} (T : List TB) (hi : i < E) : entF E T (j * E + i) = (T.getD j TB.zero).l.getD i EN.zero := by
  unfold entF; rw [(divmod_eq hi).1, (divmod_eq hi).2]
theorem pos_lt {E n j i : Nat} (hj : j < n) (hi : i < E) : j * E + i < n * E := by
  have : (j + 1) * E ≤ n * E := Nat.mul_le_mul_right _ hj
  rw [Nat.add_mul] at this; omega
/-- What is told the k-th. -/
def blkF (E : Nat) (T : List TB) (p : Nat) : Int := (T.getD (p / E) TB.zero).at' * (E : Int) + ((p % E : Nat) : Int)
def encsF (E : Nat) (T : List TB) (g o : Nat → Nat) (k : Nat) : Array Value := #[.int .i64 (blkF E T (posF E T k)), .pointer (some ⟨g (posF E T k / E), o (posF E T k / E) + (posF E T k % E) * 4, none⟩)]
/-- Where a map's tables and their entries lie. -/
structure Lay where
  AT : Option Addr
  cap : Nat
  gt : Nat
  ot : Nat
  g : Nat → Nat
  o : Nat → Nat
  c : Nat → Nat
/-- What the closure reads, k entries having been told. -/
structure TR (A : World) (E : Nat) (T : List TB) (bc be : Nat) (L : Lay) (k : Nat) : Prop where
  cb : A.cell? ⟨bc, 1, none⟩ = some (.slice L.AT T.length L.cap)
  eb : A.cell? ⟨be, 0, none⟩ = some (.int .i64 (E : Int))
  at' : T.length ≠ 0 → L.AT = some ⟨L.gt, L.ot, none⟩
  tb : ∀ j, j < T.length → A.cell? ⟨L.gt, L.ot + j * 2, none⟩ = some (.int .i64 (T.getD j TB.zero).at') ∧ A.cell? ⟨L.gt, L.ot + j * 2 + 1, none⟩ = some (.slice (some ⟨L.g j, L.o j, none⟩) E (L.c j))
  en : ∀ j, j < T.length → ∀ i, i < E → k ≤ cntF E T (j * E + i) → EntAt A (L.g j) (L.o j + i * 4) ((T.getD j TB.zero).l.getD i EN.zero)
theorem told_any (E : Nat) (b : Int) (v : Value) (w : World) (hv : ∃ A n c, v = .slice A n c) :
    Calls Try.prog 34 #[.int .i64 (E : Int), .agg #[.int .i64 b, v]] w fun e w' => e = .returned (.func (.func 45) #[] #[.pointer (some ⟨w.heap.size + 1, 0, none⟩), .pointer (some ⟨w.heap.size, 0, none⟩)]) ∧ w' = (w.alloc (.cells #[.int .i64 (E : Int)] 3)).alloc (.cells #[.int .i64 b, v] 44) := by
  obtain ⟨A, n, c, rfl⟩ := hv
  go_enter Try.func34, Try.ntmps34
  go_wp2
  go_ret
  exact ⟨by simp, rfl⟩
theorem wrSum {M i : Nat} (h : M < 65536) (hi : i < 8192) : IntKind.i64.wrap ((M : Int) + (i : Int)) = (M : Int) + (i : Int) := by rw [IntKind.wrap_i64]; omega
theorem mem_cells2 {W : World} {b : Nat} {v0 v1 : Value} {t : TypeId} (h : W.heap[b]? = some (.cells #[v0, v1] t)) : W.cell? ⟨b, 0, none⟩ = some v0 ∧ W.cell? ⟨b, 1, none⟩ = some v1 :=
  ⟨(cell_of_row W b 0 #[v0, v1] t (0, 0) h).trans rfl, (cell_of_row W b 1 #[v0, v1] t (0, 0) h).trans rfl⟩
set_option maxRecDepth 100000 in
set_option maxHeartbeats 8000000 in
theorem told_tells (n : Nat) (hn : 2 ≤ n) (E BN : Nat) (T : List TB) (bc be : Nat) (L : Lay) (hOK : COk E BN T) (hc : T.length ≤ L.cap ∧ L.cap ≤ maxLen) (hcc : ∀ j, j < T.length → E ≤ L.c j ∧ L.c j ≤ maxLen) (w : World) :
    TellsX Fence.wide n Try.prog 45 #[.pointer (some ⟨bc, 0, none⟩), .pointer (some ⟨be, 0, none⟩)] (encsF E T L.g L.o) (numF E T) (fun k A => TR A E T bc be L k) w := by
  intro l J W hW hJb hJa hJr hJd hY h0
  refine callsIn_of_wp Try.func45 rfl trivial ?_ rfl
  simp only [Try.ntmps45, List.size_toArray, List.length_cons, List.length_nil, Nat.reduceAdd, Nat.reduceSub, Array.replicate_succ, Array.replicate_zero, List.push_toArray, List.append_toArray, List.nil_append, List.cons_append]
  have hc0 := (hJd _ _ _ h0).cb
  have H0 := Lib.hid h0
  have HCAP := Lib.hid hc
  have HCC := Lib.hid hcc
  have HOK := Lib.hid hOK
  have HJB := Lib.hid hJb
  have HJA := Lib.hid hJa
  have HJR := Lib.hid hJr
  have HJD := Lib.hid hJd
  have HY := Lib.hid hY
  have hf0 : Fence.wide.fn 46 := trivial
  have hn1 : 1 ≤ n := by omega
  have hF1 := fun (p : EN) (W : World) j => (callsIn_wide (n := j)).2 (chtFull_any p W)
  clear h0 hc hcc hOK hJb hJa hJr hJd hY hW
  gi_wp2
  clear hc0
  gi_loopw [10] (fun ix wr => ∃ (j : Nat) (X : List (Nat × Obj)), j ≤ T.length ∧ ix = .int .i64 (j : Int) ∧ J X (cntF E T (j * E)) wr) (fun ix _ => T.length - (intOf ix).toNat)
  case atStart => exact ⟨0, [], Nat.zero_le _, rfl, by rw [Nat.zero_mul]; exact H0.out⟩
  case round =>
    obtain ⟨j, X, hj, rfl, hJ⟩ := hrel
    have HJ := Lib.hid hJ
    clear hJ H0
    by_cases hlt : j < T.length
    · have hTR := HJD.out _ _ _ HJ.out
      have hAT := hTR.at' (by omega)
      obtain ⟨t0, t1⟩ := hTR.tb j hlt
      have d0 : decide ((j : Int) < (T.length : Int)) = true := decide_eq_true (by omega)
      have d1 : decide (j < T.length) = true := decide_eq_true hlt
      obtain ⟨kk, hkk, hkE, _⟩ := HOK.out.each j hlt
      have hEl : E ≤ 8192 := HOK.out.e2
      have hB6 : BN ≤ 65536 := HOK.out.b2
      obtain ⟨M, hM⟩ : ∃ M : Nat, M = kk * E := ⟨_, rfl⟩
      have hMB : M < 65536 := by rw [hM]; omega
      have HMV : Hid (∀ i : Nat, i < E → blkF E T (j * E + i) = (M : Int) + (i : Int)) := Lib.hid (fun i hi => by
        unfold blkF
        rw [(divmod_eq hi).1, (divmod_eq hi).2, hkk, hM, Int.natCast_mul])
      have HW1 : Hid (wrap64 ((j : Int) + 1) = (j : Int) + 1) := Lib.hid (wrap_succ hlt HCAP.out.1 HCAP.out.2)
      have m1 : Hid (wrap64 ((kk : Int) * (E : Int)) = (M : Int)) := Lib.hid (by rw [← Int.natCast_mul, ← hM]; unfold wrap64; omega)
      have m2 : Hid (IntKind.i64.wrap ((kk : Int) * (E : Int)) = (M : Int)) := Lib.hid (by rw [← Int.natCast_mul, ← hM, IntKind.wrap_i64]; omega)
      rw [hkk] at t0
      have HT := Lib.hid (hTR.tb j hlt)
      obtain ⟨Lg, hLg⟩ : ∃ Lg, Lg = L.g j := ⟨_, rfl⟩
      obtain ⟨Lo, hLo⟩ : ∃ Lo, Lo = L.o j := ⟨_, rfl⟩
      obtain ⟨Lc, hLc⟩ : ∃ Lc, Lc = L.c j := ⟨_, rfl⟩
      rw [← hLg, ← hLo, ← hLc] at t1
      have HLC : Hid (E ≤ Lc ∧ Lc ≤ maxLen) := Lib.hid (by rw [hLc]; exact HCC.out j hlt)
      have HEN : Hid (∀ i : Nat, i < E → ∀ k A, TR A E T bc be L k → k ≤ cntF E T (j * E + i) → EntAt A Lg (Lo + i * 4) (entF E T (j * E + i)) ∧ A.cell? ⟨be, 0, none⟩ = some (.int .i64 (E : Int))) := Lib.hid (fun i hi k A h hk => by
        rw [entF_at T hi, hLg, hLo]; exact ⟨h.en j hlt i hi hk, h.eb⟩)
      have HENC : Hid (∀ i : Nat, i < E → ∀ k, posF E T k = j * E + i → encsF E T L.g L.o k = #[.int .i64 ((M : Int) + (i : Int)), .pointer (some ⟨Lg, Lo + i * 4, none⟩)]) := Lib.hid (fun i hi k hk => by
        unfold encsF
        rw [hk, HMV.out i hi, (divmod_eq hi).1, (divmod_eq hi).2, hLg, hLo])
      have HPL : Hid (∀ i : Nat, i < E → j * E + i < T.length * E) := Lib.hid (fun i hi => pos_lt hlt hi)
      have HNEXT : Hid ((j + 1) * E = j * E + E) := Lib.hid (by rw [Nat.add_mul, Nat.one_mul])
      have HX0 := Lib.hid (HJA.out _ _ _ (.cells #[.int .i64 (kk : Int), .slice (some ⟨Lg, Lo, none⟩) E Lc] 55) HJ.out rfl)
      have HLT := Lib.hid hlt
      have HMB := Lib.hid hMB
      clear hTR hkk hkE hM hMB hLg hLo hLc hEl hB6
      gi_wp2
      clear t0 t1 hAT d0 d1
      generalize hbt : wr.heap.size = bt at HX0 ⊢
      clear hbt
      generalize wr.alloc (.cells #[.int .i64 (kk : Int), .slice (some ⟨Lg, Lo, none⟩) E Lc] 55) = w1 at HX0 ⊢
      gi_loopw [17] (fun ix wi => ∃ (i : Nat) (X' : List (Nat × Obj)), i ≤ E ∧ ix = .int .i64 (i : Int) ∧ J X' (cntF E T (j * E + i)) wi ∧ (bt, (.cells #[.int .i64 (kk : Int), .slice (some ⟨Lg, Lo, none⟩) E Lc] 55 : Obj)) ∈ X') (fun ix _ => E - (intOf ix).toNat)
      case atStart => exact ⟨0, _, Nat.zero_le _, rfl, HX0.out, List.mem_cons_self ..⟩
      case round =>
        obtain ⟨i, X', hi, rfl, hJ, hm⟩ := hrel
        have HJ1 := Lib.hid hJ
        have HM := Lib.hid hm
        clear hJ hm HX0 HJ
        by_cases hil : i < E
        · have hTRi := HJD.out _ _ _ HJ1.out
          obtain ⟨hE0, hb0⟩ := HEN.out i hil _ _ hTRi (Nat.le_refl _)
          obtain ⟨c0, c1⟩ := mem_cells2 (HJR.out _ _ _ _ _ HJ1.out HM.out)
          have d0 : decide ((i : Int) < (E : Int)) = true := decide_eq_true (by omega)
          have d1 : decide (i < E) = true := decide_eq_true hil
          have HW2 : Hid (wrap64 ((i : Int) + 1) = (i : Int) + 1) := Lib.hid (wrap_succ hil HLC.out.1 HLC.out.2)
          obtain ⟨p, hp⟩ : ∃ p, p = entF E T (j * E + i) := ⟨_, rfl⟩
          rw [← hp] at hE0
          obtain ⟨q0, q1, q2, q3⟩ := hE0
          have HP := Lib.hid hp
          have hF2 := hF1 p
          have HHO : Hid (fullB p = false → cntF E T (j * E + (i + 1)) = cntF E T (j * E + i)) := Lib.hid (fun h => by have h9 := cntF_hole (E := E) (T := T) (p := j * E + i) (HPL.out i hil) (by rw [← hp]; exact h); exact h9)
          have HFU : Hid (fullB p = true → cntF E T (j * E + i) < numF E T ∧ posF E T (cntF E T (j * E + i)) = j * E + i ∧ cntF E T (j * E + (i + 1)) = cntF E T (j * E + i) + 1) := Lib.hid (fun h => by have h9 := cntF_full (E := E) (T := T) (p := j * E + i) (HPL.out i hil) (by rw [← hp]; exact h); exact h9)
          clear hTRi hp
          generalize fullB p = bb at hF2 HHO HFU
          obtain ⟨pk, ps, pm, pf⟩ := p
          unfold EN.v at hF2
          dsimp only at q0 q1 q2 q3 hF2
          cases bb with
          | false =>
            have HS := Lib.hid (HHO.out rfl)
            clear HHO HFU
            gi_wp2
            refine wpIn_region_any (by kernel_rfl) ?_
            change wpAnyIn _ _ _ _ _ _ _ _ _ wr.drew
            refine wpAnyIn_take (i := 0) (v := ?_) rfl rfl (by kernel_rfl) (by kernel_rfl) (by kernel_rfl) (fun _ _ _ h => h) ⟨Or.inl ⟨by rfl, ?_⟩, fun _ => rfl⟩ ?_
            rotate_left
            · (intro w; go_simp; first | done | with_reducible rfl)
            simp only [List.getElem_toArray, List.getElem_cons_zero, Act.put, List.setIfInBounds_toArray, List.set_cons_zero, List.set_cons_succ]
            refine wpAnyIn_take (i := 2) (v := ?_) rfl rfl (by kernel_rfl) (by kernel_rfl) (by kernel_rfl) (fun _ _ _ h => h) ⟨Or.inl ⟨by rfl, ?_⟩, fun _ => rfl⟩ ?_
            rotate_left
            · (intro w; go_simp; first | done | with_reducible rfl)
            simp only [List.getElem_toArray, List.getElem_cons_succ, List.getElem_cons_zero, Act.put, List.setIfInBounds_toArray, List.set_cons_zero, List.set_cons_succ]
            refine wpAnyIn_ready (rs := [1]) (by kernel_rfl) (by simp) ?_
            refine AllReadyIn.cons rfl (fun K hK => ?_) AllReadyIn.nil
            go_simp
            refine hK _ _ ?_
            clear hK K
            refine wpAnyIn_take (i := 3) (v := ?_) rfl rfl (by kernel_rfl) (by kernel_rfl) (by kernel_rfl) (fun _ _ _ h => h) ⟨Or.inl ⟨by rfl, ?_⟩, fun _ => rfl⟩ ?_
            rotate_left
            · (intro w; go_simp; first | done | with_reducible rfl)
            simp only [List.getElem_toArray, List.getElem_cons_succ, List.getElem_cons_zero, Act.put, List.setIfInBounds_toArray, List.set_cons_zero, List.set_cons_succ]
            refine wpAnyIn_ready (rs := [4]) (by kernel_rfl) (by simp) ?_
            refine AllReadyIn.cons rfl (fun K hK => ?_) AllReadyIn.nil
            go_simp
            refine hK _ _ ?_
            clear hK K
            refine wpAnyIn_ready (rs := [5]) (by kernel_rfl) (by simp) ?_
            refine AllReadyIn.cons rfl (fun K hK => ?_) AllReadyIn.nil
            go_simp
            gi_wp2_with (gi_at_call 46; refine (hF2 _ _).mono ?_; rintro e W3 ⟨rfl, hb3⟩; have HJ3 := Lib.hid (HJB.out _ _ _ _ HJ1.out ((Below.refl _ wr).drew.trans hb3)); clear hb3)
            try (refine hK _ _ ?_)
            try (clear hK K)
            refine wpAnyIn_take (i := 6) (v := ?_) rfl rfl (by kernel_rfl) (by kernel_rfl) (by kernel_rfl) (fun _ _ _ h => h) ⟨Or.inl ⟨by rfl, ?_⟩, fun _ => rfl⟩ ?_
            rotate_left
            · (intro w; go_simp; first | done | with_reducible rfl)
            simp only [List.getElem_toArray, List.getElem_cons_succ, List.getElem_cons_zero, Act.put, List.setIfInBounds_toArray, List.set_cons_zero, List.set_cons_succ]
            refine wpAnyIn_take (i := 7) (v := undef) rfl rfl (by kernel_rfl) (by kernel_rfl) (by kernel_rfl) (fun _ _ _ h => h) ⟨Or.inr ⟨by rfl, rfl⟩, fun _ => rfl⟩ ?_
            simp only [List.getElem_toArray, List.getElem_cons_succ, List.getElem_cons_zero, Act.put, List.setIfInBounds_toArray, List.set_cons_zero, List.set_cons_succ]
            refine wpAnyIn_take (i := 8) (v := undef) rfl rfl (by kernel_rfl) (by kernel_rfl) (by kernel_rfl) (fun _ _ _ h => h) ⟨Or.inr ⟨by rfl, rfl⟩, fun _ => rfl⟩ ?_
            simp only [List.getElem_toArray, List.getElem_cons_succ, List.getElem_cons_zero, Act.put, List.setIfInBounds_toArray, List.set_cons_zero, List.set_cons_succ]
            refine wpAnyIn_take (i := 9) (v := undef) rfl rfl (by kernel_rfl) (by kernel_rfl) (by kernel_rfl) (fun _ _ _ h => h) ⟨Or.inr ⟨by rfl, rfl⟩, fun _ => rfl⟩ ?_
            simp only [List.getElem_toArray, List.getElem_cons_succ, List.getElem_cons_zero, Act.put, List.setIfInBounds_toArray, List.set_cons_zero, List.set_cons_succ]
            refine wpAnyIn_take (i := 10) (v := undef) rfl rfl (by kernel_rfl) (by kernel_rfl) (by kernel_rfl) (fun _ _ _ h => h) ⟨Or.inr ⟨by rfl, rfl⟩, fun _ => rfl⟩ ?_
            simp only [List.getElem_toArray, List.getElem_cons_succ, List.getElem_cons_zero, Act.put, List.setIfInBounds_toArray, List.set_cons_zero, List.set_cons_succ]
            refine wpAnyIn_take (i := 11) (v := undef) rfl rfl (by kernel_rfl) (by kernel_rfl) (by kernel_rfl) (fun _ _ _ h => h) ⟨Or.inr ⟨by rfl, rfl⟩, fun _ => rfl⟩ ?_
            simp only [List.getElem_toArray, List.getElem_cons_succ, List.getElem_cons_zero, Act.put, List.setIfInBounds_toArray, List.set_cons_zero, List.set_cons_succ]
            refine wpAnyIn_take (i := 12) (v := undef) rfl rfl (by kernel_rfl) (by kernel_rfl) (by kernel_rfl) (fun _ _ _ h => h) ⟨Or.inr ⟨by rfl, rfl⟩, fun _ => rfl⟩ ?_
            simp only [List.getElem_toArray, List.getElem_cons_succ, List.getElem_cons_zero, Act.put, List.setIfInBounds_toArray, List.set_cons_zero, List.set_cons_succ]
            refine wpAnyIn_take (i := 13) (v := undef) rfl rfl (by kernel_rfl) (by kernel_rfl) (by kernel_rfl) (fun _ _ _ h => h) ⟨Or.inr ⟨by rfl, rfl⟩, fun _ => rfl⟩ ?_
            simp only [List.getElem_toArray, List.getElem_cons_succ, List.getElem_cons_zero, Act.put, List.setIfInBounds_toArray, List.set_cons_zero, List.set_cons_succ]
            refine wpAnyIn_take (i := 14) (v := undef) rfl rfl (by kernel_rfl) (by kernel_rfl) (by kernel_rfl) (fun _ _ _ h => h) ⟨Or.inr ⟨by rfl, rfl⟩, fun _ => rfl⟩ ?_
            simp only [List.getElem_toArray, List.getElem_cons_succ, List.getElem_cons_zero, Act.put, List.setIfInBounds_toArray, List.set_cons_zero, List.set_cons_succ]
            refine wpAnyIn_take (i := 15) (v := undef) rfl rfl (by kernel_rfl) (by kernel_rfl) (by kernel_rfl) (fun _ _ _ h => h) ⟨Or.inr ⟨by rfl, rfl⟩, fun _ => rfl⟩ ?_
            simp only [List.getElem_toArray, List.getElem_cons_succ, List.getElem_cons_zero, Act.put, List.setIfInBounds_toArray, List.set_cons_zero, List.set_cons_succ]
            refine wpAnyIn_take (i := 16) (v := undef) rfl rfl (by kernel_rfl) (by kernel_rfl) (by kernel_rfl) (fun _ _ _ h => h) ⟨Or.inr ⟨by rfl, rfl⟩, fun _ => rfl⟩ ?_
            simp only [List.getElem_toArray, List.getElem_cons_succ, List.getElem_cons_zero, Act.put, List.setIfInBounds_toArray, List.set_cons_zero, List.set_cons_succ]
            refine wpAnyIn_take (i := 17) (v := undef) rfl rfl (by kernel_rfl) (by kernel_rfl) (by kernel_rfl) (fun _ _ _ h => h) ⟨Or.inr ⟨by rfl, rfl⟩, fun _ => rfl⟩ ?_
            simp only [List.getElem_toArray, List.getElem_cons_succ, List.getElem_cons_zero, Act.put, List.setIfInBounds_toArray, List.set_cons_zero, List.set_cons_succ]
            refine wpAnyIn_take (i := 18) (v := undef) rfl rfl (by kernel_rfl) (by kernel_rfl) (by kernel_rfl) (fun _ _ _ h => h) ⟨Or.inr ⟨by rfl, rfl⟩, fun _ => rfl⟩ ?_
            simp only [List.getElem_toArray, List.getElem_cons_succ, List.getElem_cons_zero, Act.put, List.setIfInBounds_toArray, List.set_cons_zero, List.set_cons_succ]
            refine wpAnyIn_take (i := 19) (v := undef) rfl rfl (by kernel_rfl) (by kernel_rfl) (by kernel_rfl) (fun _ _ _ h => h) ⟨Or.inr ⟨by rfl, rfl⟩, fun _ => rfl⟩ ?_
            simp only [List.getElem_toArray, List.getElem_cons_succ, List.getElem_cons_zero, Act.put, List.setIfInBounds_toArray, List.set_cons_zero, List.set_cons_succ]
            refine wpAnyIn_take (i := 20) (v := ?_) rfl rfl (by kernel_rfl) (by kernel_rfl) (by kernel_rfl) (fun _ _ _ h => h) ⟨Or.inl ⟨by rfl, ?_⟩, fun _ => rfl⟩ ?_
            rotate_left
            · (intro w; go_simp; first | done | with_reducible rfl)
            simp only [List.getElem_toArray, List.getElem_cons_succ, List.getElem_cons_zero, Act.put, List.setIfInBounds_toArray, List.set_cons_zero, List.set_cons_succ]
            refine wpAnyIn_done (by kernel_rfl) ?_ _
            gi_wp2
            have hww := HW2.out
            rw [hww]
            clear hww
            go_roundw
            case rel => exact ⟨i + 1, X', by omega, by go_num, by rw [HS.out]; exact HJ3.out, HM.out⟩
            case measure => simp [intOf]; omega
          | true =>
            have HFU2 := Lib.hid (HFU.out rfl)
            have HM3 : Hid (IntKind.i64.wrap ((M : Int) + (i : Int)) = (M : Int) + (i : Int)) := Lib.hid (wrSum HMB.out (Nat.lt_of_lt_of_le hil HOK.out.e2))
            clear HHO HFU
            gi_wp2
            refine wpIn_region_any (by kernel_rfl) ?_
            change wpAnyIn _ _ _ _ _ _ _ _ _ wr.drew
            refine wpAnyIn_take (i := 0) (v := ?_) rfl rfl (by kernel_rfl) (by kernel_rfl) (by kernel_rfl) (fun _ _ _ h => h) ⟨Or.inl ⟨by rfl, ?_⟩, fun _ => rfl⟩ ?_
            rotate_left
            · (intro w; go_simp; first | done | with_reducible rfl)
            simp only [List.getElem_toArray, List.getElem_cons_zero, Act.put, List.setIfInBounds_toArray, List.set_cons_zero, List.set_cons_succ]
            refine wpAnyIn_take (i := 2) (v := ?_) rfl rfl (by kernel_rfl) (by kernel_rfl) (by kernel_rfl) (fun _ _ _ h => h) ⟨Or.inl ⟨by rfl, ?_⟩, fun _ => rfl⟩ ?_
            rotate_left
            · (intro w; go_simp; first | done | with_reducible rfl)
            simp only [List.getElem_toArray, List.getElem_cons_succ, List.getElem_cons_zero, Act.put, List.setIfInBounds_toArray, List.set_cons_zero, List.set_cons_succ]
            refine wpAnyIn_ready (rs := [1]) (by kernel_rfl) (by simp) ?_
            refine AllReadyIn.cons rfl (fun K hK => ?_) AllReadyIn.nil
            go_simp
            refine hK _ _ ?_
            clear hK K
            refine wpAnyIn_take (i := 3) (v := ?_) rfl rfl (by kernel_rfl) (by kernel_rfl) (by kernel_rfl) (fun _ _ _ h => h) ⟨Or.inl ⟨by rfl, ?_⟩, fun _ => rfl⟩ ?_
            rotate_left
            · (intro w; go_simp; first | done | with_reducible rfl)
            simp only [List.getElem_toArray, List.getElem_cons_succ, List.getElem_cons_zero, Act.put, List.setIfInBounds_toArray, List.set_cons_zero, List.set_cons_succ]
            refine wpAnyIn_ready (rs := [4]) (by kernel_rfl) (by simp) ?_
            refine AllReadyIn.cons rfl (fun K hK => ?_) AllReadyIn.nil
            go_simp
            refine hK _ _ ?_
            clear hK K
            refine wpAnyIn_ready (rs := [5]) (by kernel_rfl) (by simp) ?_
            refine AllReadyIn.cons rfl (fun K hK => ?_) AllReadyIn.nil
            go_simp
            gi_wp2_with (gi_at_call 46; refine (hF2 _ _).mono ?_; rintro e W3 ⟨rfl, hb3⟩; have HJ3 := Lib.hid (HJB.out _ _ _ _ HJ1.out ((Below.refl _ wr).drew.trans hb3)); clear hb3)
            try (refine hK _ _ ?_)
            try (clear hK K)
            refine wpAnyIn_take (i := 6) (v := ?_) rfl rfl (by kernel_rfl) (by kernel_rfl) (by kernel_rfl) (fun _ _ _ h => h) ⟨Or.inl ⟨by rfl, ?_⟩, fun _ => rfl⟩ ?_
            rotate_left
            · (intro w; go_simp; first | done | with_reducible rfl)
            simp only [List.getElem_toArray, List.getElem_cons_succ, List.getElem_cons_zero, Act.put, List.setIfInBounds_toArray, List.set_cons_zero, List.set_cons_succ]
            obtain ⟨c30, c31⟩ := mem_cells2 (HJR.out _ _ _ _ _ HJ3.out HM.out)
            have b30 := (HEN.out i hil _ _ (HJD.out _ _ _ HJ3.out) (Nat.le_refl _)).2
            obtain ⟨fn, tmps, assign, body, hy, hRR⟩ := HY.out _ _ _ HJ3.out HFU2.out.1
            rw [HENC.out i hil _ HFU2.out.2.1] at hy
            have m2' := m2.out
            have m3 := HM3.out
            refine wpAnyIn_take (i := 7) (v := ?_) rfl rfl (by kernel_rfl) (by kernel_rfl) (by kernel_rfl) (fun _ _ _ h => h) ⟨Or.inl ⟨by rfl, ?_⟩, fun _ => rfl⟩ ?_
            rotate_left
            · (intro w; go_simp; first | done | with_reducible rfl)
            simp only [List.getElem_toArray, List.getElem_cons_succ, List.getElem_cons_zero, Act.put, List.setIfInBounds_toArray, List.set_cons_zero, List.set_cons_succ]
            refine wpAnyIn_take (i := 8) (v := ?_) rfl rfl (by kernel_rfl) (by kernel_rfl) (by kernel_rfl) (fun _ _ _ h => h) ⟨Or.inl ⟨by rfl, ?_⟩, fun _ => rfl⟩ ?_
            rotate_left
            · (intro w; go_simp; first | done | with_reducible rfl)
            simp only [List.getElem_toArray, List.getElem_cons_succ, List.getElem_cons_zero, Act.put, List.setIfInBounds_toArray, List.set_cons_zero, List.set_cons_succ]
            refine wpAnyIn_take (i := 12) (v := ?_) rfl rfl (by kernel_rfl) (by kernel_rfl) (by kernel_rfl) (fun _ _ _ h => h) ⟨Or.inl ⟨by rfl, ?_⟩, fun _ => rfl⟩ ?_
            rotate_left
            · (intro w; go_simp; first | done | with_reducible rfl)
            simp only [List.getElem_toArray, List.getElem_cons_succ, List.getElem_cons_zero, Act.put, List.setIfInBounds_toArray, List.set_cons_zero, List.set_cons_succ]
            refine wpAnyIn_take (i := 14) (v := ?_) rfl rfl (by kernel_rfl) (by kernel_rfl) (by kernel_rfl) (fun _ _ _ h => h) ⟨Or.inl ⟨by rfl, ?_⟩, fun _ => rfl⟩ ?_
            rotate_left
            · (intro w; go_simp; first | done | with_reducible rfl)
            simp only [List.getElem_toArray, List.getElem_cons_succ, List.getElem_cons_zero, Act.put, List.setIfInBounds_toArray, List.set_cons_zero, List.set_cons_succ]
            refine wpAnyIn_take (i := 16) (v := ?_) rfl rfl (by kernel_rfl) (by kernel_rfl) (by kernel_rfl) (fun _ _ _ h => h) ⟨Or.inl ⟨by rfl, ?_⟩, fun _ => rfl⟩ ?_
            rotate_left
            · (intro w; go_simp; first | done | with_reducible rfl)
            simp only [List.getElem_toArray, List.getElem_cons_succ, List.getElem_cons_zero, Act.put, List.setIfInBounds_toArray, List.set_cons_zero, List.set_cons_succ]
            refine wpAnyIn_ready (rs := [9, 10, 15]) (by kernel_rfl) (by simp) ?_
            refine AllReadyIn.cons rfl (fun K hK => ?_) ?_
            · skip
              go_simp
              refine hK _ _ ?_
              clear hK K
              refine wpAnyIn_ready (rs := [10, 15]) (by kernel_rfl) (by simp) ?_
              refine AllReadyIn.cons rfl (fun K hK => ?_) ?_
              · skip
                go_simp
                refine hK _ _ ?_
                clear hK K
                refine wpAnyIn_take (i := 11) (v := ?_) rfl rfl (by kernel_rfl) (by kernel_rfl) (by kernel_rfl) (fun _ _ _ h => h) ⟨Or.inl ⟨by rfl, ?_⟩, fun _ => rfl⟩ ?_
                rotate_left
                · (intro w; go_simp; first | done | with_reducible rfl)
                simp only [List.getElem_toArray, List.getElem_cons_succ, List.getElem_cons_zero, Act.put, List.setIfInBounds_toArray, List.set_cons_zero, List.set_cons_succ]
                refine wpAnyIn_take (i := 13) (v := ?_) rfl rfl (by kernel_rfl) (by kernel_rfl) (by kernel_rfl) (fun _ _ _ h => h) ⟨Or.inl ⟨by rfl, ?_⟩, fun _ => rfl⟩ ?_
                rotate_left
                · (intro w; go_simp; first | done | with_reducible rfl)
                simp only [List.getElem_toArray, List.getElem_cons_succ, List.getElem_cons_zero, Act.put, List.setIfInBounds_toArray, List.set_cons_zero, List.set_cons_succ]
                refine wpAnyIn_ready (rs := [15]) (by kernel_rfl) (by simp) ?_
                refine AllReadyIn.cons rfl (fun K hK => ?_) AllReadyIn.nil
                go_simp
                refine hK _ _ ?_
                clear hK K
                refine wpAnyIn_take (i := 17) (v := ?_) rfl rfl (by kernel_rfl) (by kernel_rfl) (by kernel_rfl) (fun _ _ _ h => h) ⟨Or.inl ⟨by rfl, ?_⟩, fun _ => rfl⟩ ?_
                rotate_left
                · (intro w; go_simp; first | done | with_reducible rfl)
                simp only [List.getElem_toArray, List.getElem_cons_succ, List.getElem_cons_zero, Act.put, List.setIfInBounds_toArray, List.set_cons_zero, List.set_cons_succ]
                refine wpAnyIn_ready (rs := [18]) (by kernel_rfl) (by simp) ?_
                refine AllReadyIn.cons rfl (fun K hK => ?_) AllReadyIn.nil
                go_simp
                gi_wp2_with (refine hRR.mono ?_; rintro e C ⟨rfl, hJ4⟩; have HJ4 := Lib.hid hJ4; clear hJ4)
                try (refine hK _ _ ?_)
                try (clear hK K)
                refine wpAnyIn_take (i := 19) (v := ?_) rfl rfl (by kernel_rfl) (by kernel_rfl) (by kernel_rfl) (fun _ _ _ h => h) ⟨Or.inl ⟨by rfl, ?_⟩, fun _ => rfl⟩ ?_
                rotate_left
                · (intro w; go_simp; first | done | with_reducible rfl)
                simp only [List.getElem_toArray, List.getElem_cons_succ, List.getElem_cons_zero, Act.put, List.setIfInBounds_toArray, List.set_cons_zero, List.set_cons_succ]
                refine wpAnyIn_take (i := 20) (v := ?_) rfl rfl (by kernel_rfl) (by kernel_rfl) (by kernel_rfl) (fun _ _ _ h => h) ⟨Or.inl ⟨by rfl, ?_⟩, fun _ => rfl⟩ ?_
                rotate_left
                · (intro w; go_simp; first | done | with_reducible rfl)
                simp only [List.getElem_toArray, List.getElem_cons_succ, List.getElem_cons_zero, Act.put, List.setIfInBounds_toArray, List.set_cons_zero, List.set_cons_succ]
                refine wpAnyIn_done (by kernel_rfl) ?_ _
                clear m2' m3 hy hRR c30 c31 b30
                gi_wp2
                have hww := HW2.out
                rw [hww]
                clear hww
                go_roundw
                case rel => exact ⟨i + 1, X', by omega, by go_num, by rw [HFU2.out.2.2]; exact HJ4.out, HM.out⟩
                case measure => simp [intOf]; omega
              refine AllReadyIn.cons rfl (fun K hK => ?_) AllReadyIn.nil
              go_simp
              refine hK _ _ ?_
              clear hK K
              refine wpAnyIn_take (i := 17) (v := ?_) rfl rfl (by kernel_rfl) (by kernel_rfl) (by kernel_rfl) (fun _ _ _ h => h) ⟨Or.inl ⟨by rfl, ?_⟩, fun _ => rfl⟩ ?_
              rotate_left
              · (intro w; go_simp; first | done | with_reducible rfl)
              simp only [List.getElem_toArray, List.getElem_cons_succ, List.getElem_cons_zero, Act.put, List.setIfInBounds_toArray, List.set_cons_zero, List.set_cons_succ]
              refine wpAnyIn_ready (rs := [10]) (by kernel_rfl) (by simp) ?_
              refine AllReadyIn.cons rfl (fun K hK => ?_) AllReadyIn.nil
              go_simp
              refine hK _ _ ?_
              clear hK K
              refine wpAnyIn_take (i := 11) (v := ?_) rfl rfl (by kernel_rfl) (by kernel_rfl) (by kernel_rfl) (fun _ _ _ h => h) ⟨Or.inl ⟨by rfl, ?_⟩, fun _ => rfl⟩ ?_
              rotate_left
              · (intro w; go_simp; first | done | with_reducible rfl)
              simp only [List.getElem_toArray, List.getElem_cons_succ, List.getElem_cons_zero, Act.put, List.setIfInBounds_toArray, List.set_cons_zero, List.set_cons_succ]
              refine wpAnyIn_take (i := 13) (v := ?_) rfl rfl (by kernel_rfl) (by kernel_rfl) (by kernel_rfl) (fun _ _ _ h => h) ⟨Or.inl ⟨by rfl, ?_⟩, fun _ => rfl⟩ ?_
              rotate_left
              · (intro w; go_simp; first | done | with_reducible rfl)
              simp only [List.getElem_toArray, List.getElem_cons_succ, List.getElem_cons_zero, Act.put, List.setIfInBounds_toArray, List.set_cons_zero, List.set_cons_succ]
              refine wpAnyIn_ready (rs := [18]) (by kernel_rfl) (by simp) ?_
              refine AllReadyIn.cons rfl (fun K hK => ?_) AllReadyIn.nil
              go_simp
              gi_wp2_with (refine hRR.mono ?_; rintro e C ⟨rfl, hJ4⟩; have HJ4 := Lib.hid hJ4; clear hJ4)
              try (refine hK _ _ ?_)
              try (clear hK K)
              refine wpAnyIn_take (i := 19) (v := ?_) rfl rfl (by kernel_rfl) (by kernel_rfl) (by kernel_rfl) (fun _ _ _ h => h) ⟨Or.inl ⟨by rfl, ?_⟩, fun _ => rfl⟩ ?_
              rotate_left
              · (intro w; go_simp; first | done | with_reducible rfl)
              simp only [List.getElem_toArray, List.getElem_cons_succ, List.getElem_cons_zero, Act.put, List.setIfInBounds_toArray, List.set_cons_zero, List.set_cons_succ]
              refine wpAnyIn_take (i := 20) (v := ?_) rfl rfl (by kernel_rfl) (by kernel_rfl) (by kernel_rfl) (fun _ _ _ h => h) ⟨Or.inl ⟨by rfl, ?_⟩, fun _ => rfl⟩ ?_
              rotate_left
              · (intro w; go_simp; first | done | with_reducible rfl)
              simp only [List.getElem_toArray, List.getElem_cons_succ, List.getElem_cons_zero, Act.put, List.setIfInBounds_toArray, List.set_cons_zero, List.set_cons_succ]
              refine wpAnyIn_done (by kernel_rfl) ?_ _
              clear m2' m3 hy hRR c30 c31 b30
              gi_wp2
              have hww := HW2.out
              rw [hww]
              clear hww
              go_roundw
              case rel => exact ⟨i + 1, X', by omega, by go_num, by rw [HFU2.out.2.2]; exact HJ4.out, HM.out⟩
              case measure => simp [intOf]; omega
            refine AllReadyIn.cons rfl (fun K hK => ?_) ?_
            · skip
              go_simp
              refine hK _ _ ?_
              clear hK K
              refine wpAnyIn_ready (rs := [9, 15]) (by kernel_rfl) (by simp) ?_
              refine AllReadyIn.cons rfl (fun K hK => ?_) ?_
              · skip
                go_simp
                refine hK _ _ ?_
                clear hK K
                refine wpAnyIn_take (i := 11) (v := ?_) rfl rfl (by kernel_rfl) (by kernel_rfl) (by kernel_rfl) (fun _ _ _ h => h) ⟨Or.inl ⟨by rfl, ?_⟩, fun _ => rfl⟩ ?_
                rotate_left
                · (intro w; go_simp; first | done | with_reducible rfl)
                simp only [List.getElem_toArray, List.getElem_cons_succ, List.getElem_cons_zero, Act.put, List.setIfInBounds_toArray, List.set_cons_zero, List.set_cons_succ]
                refine wpAnyIn_take (i := 13) (v := ?_) rfl rfl (by kernel_rfl) (by kernel_rfl) (by kernel_rfl) (fun _ _ _ h => h) ⟨Or.inl ⟨by rfl, ?_⟩, fun _ => rfl⟩ ?_
                rotate_left
                · (intro w; go_simp; first | done | with_reducible rfl)
                simp only [List.getElem_toArray, List.getElem_cons_succ, List.getElem_cons_zero, Act.put, List.setIfInBounds_toArray, List.set_cons_zero, List.set_cons_succ]
                refine wpAnyIn_ready (rs := [15]) (by kernel_rfl) (by simp) ?_
                refine AllReadyIn.cons rfl (fun K hK => ?_) AllReadyIn.nil
                go_simp
                refine hK _ _ ?_
                clear hK K
                refine wpAnyIn_take (i := 17) (v := ?_) rfl rfl (by kernel_rfl) (by kernel_rfl) (by kernel_rfl) (fun _ _ _ h => h) ⟨Or.inl ⟨by rfl, ?_⟩, fun _ => rfl⟩ ?_
                rotate_left
                · (intro w; go_simp; first | done | with_reducible rfl)
                simp only [List.getElem_toArray, List.getElem_cons_succ, List.getElem_cons_zero, Act.put, List.setIfInBounds_toArray, List.set_cons_zero, List.set_cons_succ]
                refine wpAnyIn_ready (rs := [18]) (by kernel_rfl) (by simp) ?_
                refine AllReadyIn.cons rfl (fun K hK => ?_) AllReadyIn.nil
                go_simp
                gi_wp2_with (refine hRR.mono ?_; rintro e C ⟨rfl, hJ4⟩; have HJ4 := Lib.hid hJ4; clear hJ4)
                try (refine hK _ _ ?_)
                try (clear hK K)
                refine wpAnyIn_take (i := 19) (v := ?_) rfl rfl (by kernel_rfl) (by kernel_rfl) (by kernel_rfl) (fun _ _ _ h => h) ⟨Or.inl ⟨by rfl, ?_⟩, fun _ => rfl⟩ ?_
                rotate_left
                · (intro w; go_simp; first | done | with_reducible rfl)
                simp only [List.getElem_toArray, List.getElem_cons_succ, List.getElem_cons_zero, Act.put, List.setIfInBounds_toArray, List.set_cons_zero, List.set_cons_succ]
                refine wpAnyIn_take (i := 20) (v := ?_) rfl rfl (by kernel_rfl) (by kernel_rfl) (by kernel_rfl) (fun _ _ _ h => h) ⟨Or.inl ⟨by rfl, ?_⟩, fun _ => rfl⟩ ?_
                rotate_left
                · (intro w; go_simp; first | done | with_reducible rfl)
                simp only [List.getElem_toArray, List.getElem_cons_succ, List.getElem_cons_zero, Act.put, List.setIfInBounds_toArray, List.set_cons_zero, List.set_cons_succ]
                refine wpAnyIn_done (by kernel_rfl) ?_ _
                clear m2' m3 hy hRR c30 c31 b30
                gi_wp2
                have hww := HW2.out
                rw [hww]
                clear hww
                go_roundw
                case rel => exact ⟨i + 1, X', by omega, by go_num, by rw [HFU2.out.2.2]; exact HJ4.out, HM.out⟩
                case measure => simp [intOf]; omega
              refine AllReadyIn.cons rfl (fun K hK => ?_) AllReadyIn.nil
              go_simp
              refine hK _ _ ?_
              clear hK K
              refine wpAnyIn_take (i := 17) (v := ?_) rfl rfl (by kernel_rfl) (by kernel_rfl) (by kernel_rfl) (fun _ _ _ h => h) ⟨Or.inl ⟨by rfl, ?_⟩, fun _ => rfl⟩ ?_
              rotate_left
              · (intro w; go_simp; first | done | with_reducible rfl)
              simp only [List.getElem_toArray, List.getElem_cons_succ, List.getElem_cons_zero, Act.put, List.setIfInBounds_toArray, List.set_cons_zero, List.set_cons_succ]
              refine wpAnyIn_ready (rs := [9]) (by kernel_rfl) (by simp) ?_
              refine AllReadyIn.cons rfl (fun K hK => ?_) AllReadyIn.nil
              go_simp
              refine hK _ _ ?_
              clear hK K
              refine wpAnyIn_take (i := 11) (v := ?_) rfl rfl (by kernel_rfl) (by kernel_rfl) (by kernel_rfl) (fun _ _ _ h => h) ⟨Or.inl ⟨by rfl, ?_⟩, fun _ => rfl⟩ ?_
              rotate_left
              · (intro w; go_simp; first | done | with_reducible rfl)
              simp only [List.getElem_toArray, List.getElem_cons_succ, List.getElem_cons_zero, Act.put, List.setIfInBounds_toArray, List.set_cons_zero, List.set_cons_succ]
              refine wpAnyIn_take (i := 13) (v := ?_) rfl rfl (by kernel_rfl) (by kernel_rfl) (by kernel_rfl) (fun _ _ _ h => h) ⟨Or.inl ⟨by rfl, ?_⟩, fun _ => rfl⟩ ?_
              rotate_left
              · (intro w; go_simp; first | done | with_reducible rfl)
              simp only [List.getElem_toArray, List.getElem_cons_succ, List.getElem_cons_zero, Act.put, List.setIfInBounds_toArray, List.set_cons_zero, List.set_cons_succ]
              refine wpAnyIn_ready (rs := [18]) (by kernel_rfl) (by simp) ?_
              refine AllReadyIn.cons rfl (fun K hK => ?_) AllReadyIn.nil
              go_simp
              gi_wp2_with (refine hRR.mono ?_; rintro e C ⟨rfl, hJ4⟩; have HJ4 := Lib.hid hJ4; clear hJ4)
              try (refine hK _ _ ?_)
              try (clear hK K)
              refine wpAnyIn_take (i := 19) (v := ?_) rfl rfl (by kernel_rfl) (by kernel_rfl) (by kernel_rfl) (fun _ _ _ h => h) ⟨Or.inl ⟨by rfl, ?_⟩, fun _ => rfl⟩ ?_
              rotate_left
              · (intro w; go_simp; first | done | with_reducible rfl)
              simp only [List.getElem_toArray, List.getElem_cons_succ, List.getElem_cons_zero, Act.put, List.setIfInBounds_toArray, List.set_cons_zero, List.set_cons_succ]
              refine wpAnyIn_take (i := 20) (v := ?_) rfl rfl (by kernel_rfl) (by kernel_rfl) (by kernel_rfl) (fun _ _ _ h => h) ⟨Or.inl ⟨by rfl, ?_⟩, fun _ => rfl⟩ ?_
              rotate_left
              · (intro w; go_simp; first | done | with_reducible rfl)
              simp only [List.getElem_toArray, List.getElem_cons_succ, List.getElem_cons_zero, Act.put, List.setIfInBounds_toArray, List.set_cons_zero, List.set_cons_succ]
              refine wpAnyIn_done (by kernel_rfl) ?_ _
              clear m2' m3 hy hRR c30 c31 b30
              gi_wp2
              have hww := HW2.out
              rw [hww]
              clear hww
              go_roundw
              case rel => exact ⟨i + 1, X', by omega, by go_num, by rw [HFU2.out.2.2]; exact HJ4.out, HM.out⟩
              case measure => simp [intOf]; omega
            refine AllReadyIn.cons rfl (fun K hK => ?_) AllReadyIn.nil
            go_simp
            refine hK _ _ ?_
            clear hK K
            refine wpAnyIn_take (i := 17) (v := ?_) rfl rfl (by kernel_rfl) (by kernel_rfl) (by kernel_rfl) (fun _ _ _ h => h) ⟨Or.inl ⟨by rfl, ?_⟩, fun _ => rfl⟩ ?_
            rotate_left
            · (intro w; go_simp; first | done | with_reducible rfl)
            simp only [List.getElem_toArray, List.getElem_cons_succ, List.getElem_cons_zero, Act.put, List.setIfInBounds_toArray, List.set_cons_zero, List.set_cons_succ]
            refine wpAnyIn_ready (rs := [9, 10]) (by kernel_rfl) (by simp) ?_
            refine AllReadyIn.cons rfl (fun K hK => ?_) ?_
            · skip
              go_simp
              refine hK _ _ ?_
              clear hK K
              refine wpAnyIn_ready (rs := [10]) (by kernel_rfl) (by simp) ?_
              refine AllReadyIn.cons rfl (fun K hK => ?_) AllReadyIn.nil
              go_simp
              refine hK _ _ ?_
              clear hK K
              refine wpAnyIn_take (i := 11) (v := ?_) rfl rfl (by kernel_rfl) (by kernel_rfl) (by kernel_rfl) (fun _ _ _ h => h) ⟨Or.inl ⟨by rfl, ?_⟩, fun _ => rfl⟩ ?_
              rotate_left
              · (intro w; go_simp; first | done | with_reducible rfl)
              simp only [List.getElem_toArray, List.getElem_cons_succ, List.getElem_cons_zero, Act.put, List.setIfInBounds_toArray, List.set_cons_zero, List.set_cons_succ]
              refine wpAnyIn_take (i := 13) (v := ?_) rfl rfl (by kernel_rfl) (by kernel_rfl) (by kernel_rfl) (fun _ _ _ h => h) ⟨Or.inl ⟨by rfl, ?_⟩, fun _ => rfl⟩ ?_
              rotate_left
              · (intro w; go_simp; first | done | with_reducible rfl)
              simp only [List.getElem_toArray, List.getElem_cons_succ, List.getElem_cons_zero, Act.put, List.setIfInBounds_toArray, List.set_cons_zero, List.set_cons_succ]
              refine wpAnyIn_ready (rs := [18]) (by kernel_rfl) (by simp) ?_
              refine AllReadyIn.cons rfl (fun K hK => ?_) AllReadyIn.nil
              go_simp
              gi_wp2_with (refine hRR.mono ?_; rintro e C ⟨rfl, hJ4⟩; have HJ4 := Lib.hid hJ4; clear hJ4)
              try (refine hK _ _ ?_)
              try (clear hK K)
              refine wpAnyIn_take (i := 19) (v := ?_) rfl rfl (by kernel_rfl) (by kernel_rfl) (by kernel_rfl) (fun _ _ _ h => h) ⟨Or.inl ⟨by rfl, ?_⟩, fun _ => rfl⟩ ?_
              rotate_left
              · (intro w; go_simp; first | done | with_reducible rfl)
              simp only [List.getElem_toArray, List.getElem_cons_succ, List.getElem_cons_zero, Act.put, List.setIfInBounds_toArray, List.set_cons_zero, List.set_cons_succ]
              refine wpAnyIn_take (i := 20) (v := ?_) rfl rfl (by kernel_rfl) (by kernel_rfl) (by kernel_rfl) (fun _ _ _ h => h) ⟨Or.inl ⟨by rfl, ?_⟩, fun _ => rfl⟩ ?_
              rotate_left
              · (intro w; go_simp; first | done | with_reducible rfl)
              simp only [List.getElem_toArray, List.getElem_cons_succ, List.getElem_cons_zero, Act.put, List.setIfInBounds_toArray, List.set_cons_zero, List.set_cons_succ]
              refine wpAnyIn_done (by kernel_rfl) ?_ _
              clear m2' m3 hy hRR c30 c31 b30
              gi_wp2
              have hww := HW2.out
              rw [hww]
              clear hww
              go_roundw
              case rel => exact ⟨i + 1, X', by omega, by go_num, by rw [HFU2.out.2.2]; exact HJ4.out, HM.out⟩
              case measure => simp [intOf]; omega
            refine AllReadyIn.cons rfl (fun K hK => ?_) AllReadyIn.nil
            go_simp
            refine hK _ _ ?_
            clear hK K
            refine wpAnyIn_ready (rs := [9]) (by kernel_rfl) (by simp) ?_
            refine AllReadyIn.cons rfl (fun K hK => ?_) AllReadyIn.nil
            go_simp
            refine hK _ _ ?_
            clear hK K
            refine wpAnyIn_take (i := 11) (v := ?_) rfl rfl (by kernel_rfl) (by kernel_rfl) (by kernel_rfl) (fun _ _ _ h => h) ⟨Or.inl ⟨by rfl, ?_⟩, fun _ => rfl⟩ ?_
            rotate_left
            · (intro w; go_simp; first | done | with_reducible rfl)
            simp only [List.getElem_toArray, List.getElem_cons_succ, List.getElem_cons_zero, Act.put, List.setIfInBounds_toArray, List.set_cons_zero, List.set_cons_succ]
            refine wpAnyIn_take (i := 13) (v := ?_) rfl rfl (by kernel_rfl) (by kernel_rfl) (by kernel_rfl) (fun _ _ _ h => h) ⟨Or.inl ⟨by rfl, ?_⟩, fun _ => rfl⟩ ?_
            rotate_left
            · (intro w; go_simp; first | done | with_reducible rfl)
            simp only [List.getElem_toArray, List.getElem_cons_succ, List.getElem_cons_zero, Act.put, List.setIfInBounds_toArray, List.set_cons_zero, List.set_cons_succ]
            refine wpAnyIn_ready (rs := [18]) (by kernel_rfl) (by simp) ?_
            refine AllReadyIn.cons rfl (fun K hK => ?_) AllReadyIn.nil
            go_simp
            gi_wp2_with (refine hRR.mono ?_; rintro e C ⟨rfl, hJ4⟩; have HJ4 := Lib.hid hJ4; clear hJ4)
            try (refine hK _ _ ?_)
            try (clear hK K)
            refine wpAnyIn_take (i := 19) (v := ?_) rfl rfl (by kernel_rfl) (by kernel_rfl) (by kernel_rfl) (fun _ _ _ h => h) ⟨Or.inl ⟨by rfl, ?_⟩, fun _ => rfl⟩ ?_
            rotate_left
            · (intro w; go_simp; first | done | with_reducible rfl)
            simp only [List.getElem_toArray, List.getElem_cons_succ, List.getElem_cons_zero, Act.put, List.setIfInBounds_toArray, List.set_cons_zero, List.set_cons_succ]
            refine wpAnyIn_take (i := 20) (v := ?_) rfl rfl (by kernel_rfl) (by kernel_rfl) (by kernel_rfl) (fun _ _ _ h => h) ⟨Or.inl ⟨by rfl, ?_⟩, fun _ => rfl⟩ ?_
            rotate_left
            · (intro w; go_simp; first | done | with_reducible rfl)
            simp only [List.getElem_toArray, List.getElem_cons_succ, List.getElem_cons_zero, Act.put, List.setIfInBounds_toArray, List.set_cons_zero, List.set_cons_succ]
            refine wpAnyIn_done (by kernel_rfl) ?_ _
            clear m2' m3 hy hRR c30 c31 b30
            gi_wp2
            have hww := HW2.out
            rw [hww]
            clear hww
            go_roundw
            case rel => exact ⟨i + 1, X', by omega, by go_num, by rw [HFU2.out.2.2]; exact HJ4.out, HM.out⟩
            case measure => simp [intOf]; omega
        · obtain rfl : i = E := by omega
          have d0 : decide ((i : Int) < (i : Int)) = false := decide_eq_false (by omega)
          have d1 : decide (i < i) = false := decide_eq_false (by omega)
          gi_wp2
          have hww := HW1.out
          rw [hww]
          clear hww
          go_roundw
          case rel => exact ⟨j + 1, X', by have := HLT.out; omega, by go_num, by rw [HNEXT.out]; exact HJ1.out⟩
          case measure => have := HLT.out; simp [intOf]; omega
    · obtain rfl : j = T.length := by omega
      have d0 : decide ((T.length : Int) < (T.length : Int)) = false := decide_eq_false (by omega)
      have d1 : decide (T.length < T.length) = false := decide_eq_false (by omega)
      gi_wp2
      go_end0
      exact ⟨⟨_, rfl⟩, X, by rw [← cntF_all]; exact HJ.out⟩
end Go.Proofs.Ythhbaccbhfngbaa

