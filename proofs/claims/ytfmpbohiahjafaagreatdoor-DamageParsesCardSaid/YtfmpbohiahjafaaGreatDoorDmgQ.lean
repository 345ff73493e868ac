/- Reports of damage: texts of lines, there and back; the order (no program). -/
import Derived.Test.YtfmpbohiahjafaaGreatDoorDmgP
namespace Go.Proofs.YtfmpbohiahjafaaGreatDoor
open Go.Lib

/-! ### a text's lines -/
/-- What is read of pieces, behind so many lines. -/
def prs : List (List UInt8) → List WD → List LO → Nat → List WD × List LO × Int × Int
  | [], W, L, _ => (W, L, 0, 0)
  | [r], W, L, n => if r = [] then (W, L, 0, 0) else ([], [], (n : Int), 6)
  | p :: q :: rest, W, L, n => match rL p with
    | some x => if 16384 < n then ([], [], (n : Int), 7) else prs (q :: rest) W (L ++ [x]) (n + 1)
    | none => match rW p with
      | some x => if L ≠ [] then ([], [], (n : Int), 6) else if 16384 < n then ([], [], (n : Int), 7) else prs (q :: rest) (W ++ [x]) L (n + 1)
      | none => ([], [], (n : Int), 6)
def prsT (t : List UInt8) : List WD × List LO × Int × Int := prs (spl 10 t) [] [] 1
theorem prs_bad {p : List UInt8} {R : List (List UInt8)} (hR : R ≠ []) {W : List WD} {L : List LO} {n : Nat} (h1 : rL p = none) (h2 : rW p = none ∨ L ≠ []) : prs (p :: R) W L n = ([], [], (n : Int), 6) := by
  cases R with
  | nil => exact absurd rfl hR
  | cons q rest =>
    rw [prs, h1]
    dsimp only
    cases hw : rW p with
    | none => rfl
    | some x =>
      rcases h2 with h2 | h2
      · rw [hw] at h2; cases h2
      · dsimp only; rw [if_pos h2]
theorem prs_long {p : List UInt8} {R : List (List UInt8)} (hR : R ≠ []) {W : List WD} {L : List LO} {n : Nat} (hn : 16384 < n) (h2 : (∃ x, rL p = some x) ∨ L = [] ∧ ∃ x, rW p = some x) : prs (p :: R) W L n = ([], [], (n : Int), 7) := by
  cases R with
  | nil => exact absurd rfl hR
  | cons q rest =>
    rw [prs]
    rcases h2 with ⟨x, hx⟩ | ⟨rfl, x, hx⟩
    · rw [hx]; exact if_pos hn
    · rw [rL_none hx, hx]
      dsimp only
      rw [if_neg (by simp), if_pos hn]
theorem prs_lost {p : List UInt8} {R : List (List UInt8)} (hR : R ≠ []) {W : List WD} {L : List LO} {n : Nat} {x : LO} (hn : ¬ 16384 < n) (h2 : rL p = some x) : prs (p :: R) W L n = prs R W (L ++ [x]) (n + 1) := by
  cases R with
  | nil => exact absurd rfl hR
  | cons q rest => rw [prs, h2]; exact if_neg hn
theorem prs_wound {p : List UInt8} {R : List (List UInt8)} (hR : R ≠ []) {W : List WD} {n : Nat} {x : WD} (hn : ¬ 16384 < n) (h2 : rW p = some x) : prs (p :: R) W [] n = prs R (W ++ [x]) [] (n + 1) := by
  cases R with
  | nil => exact absurd rfl hR
  | cons q rest => rw [prs, rL_none h2, h2]; dsimp only; rw [if_neg (by simp), if_neg hn]
theorem prs_end (W : List WD) (L : List LO) (n : Nat) : prs (spl 10 []) W L n = (W, L, 0, 0) := by rw [spl, prs, if_pos rfl]
theorem prs_open {r : List UInt8} (hr : r ≠ []) (h : (10 : UInt8) ∉ r) (W : List WD) (L : List LO) (n : Nat) : prs (spl 10 r) W L n = ([], [], (n : Int), 6) := by rw [spl_none h, prs, if_neg hr]
theorem ckE_iff {W : List WD} {L : List LO} : ckE W L = 0 ↔ W.length + L.length ≤ 16384 ∧ (∀ x ∈ W, wdOk x = true) ∧ ∀ x ∈ L, loOk x = true := by
  unfold ckE ckL
  by_cases h : W.length + L.length ≤ 16384
  · rw [decide_eq_true h, if_neg (by simp)]
    by_cases h2 : (W.all wdOk && L.all loOk) = true
    · rw [if_pos h2]
      rw [Bool.and_eq_true, List.all_eq_true, List.all_eq_true] at h2
      exact ⟨fun _ => ⟨h, h2⟩, fun _ => rfl⟩
    · rw [if_neg h2]
      refine ⟨fun e => (by cases e), fun e => absurd ?_ h2⟩
      rw [Bool.and_eq_true, List.all_eq_true, List.all_eq_true]
      exact e.2
  · rw [decide_eq_false h, if_pos rfl]
    exact ⟨fun e => (by cases e), fun e => absurd e.1 h⟩
theorem ckE_or (W : List WD) (L : List LO) : ckE W L = 0 ∨ ckE W L = 2 ∨ ckE W L = 7 := by
  unfold ckE
  split
  · exact .inr (.inr rfl)
  · split
    · exact .inl rfl
    · exact .inr (.inl rfl)
theorem there_l : ∀ (L2 : List LO) (W : List WD) (L1 : List LO) (n : Nat), (∀ x ∈ L2, loOk x = true) → n + L2.length ≤ 16385 → prs (spl 10 (L2.flatMap fun x => lLn x ++ [10])) W L1 n = (W, L1 ++ L2, 0, 0)
  | [], W, L1, n, _, _ => by rw [List.append_nil]; exact prs_end W L1 n
  | x :: r, W, L1, n, h, hn => by
    rw [List.length_cons] at hn
    have hx := h x (List.mem_cons_self ..)
    have e : ((x :: r).flatMap fun x => lLn x ++ [10]) = lLn x ++ 10 :: (r.flatMap fun x => lLn x ++ [10]) := by simp
    rw [e, spl_app _ (lLn_out hx), prs_lost (spl_ne _ _) (by omega) (rL_of hx rfl), there_l r W (L1 ++ [x]) (n + 1) (fun y hy => h y (List.mem_cons_of_mem _ hy)) (by omega), List.append_assoc]
    rfl
theorem there_w (L2 : List LO) (hL : ∀ x ∈ L2, loOk x = true) : ∀ (W2 W1 : List WD) (n : Nat), (∀ x ∈ W2, wdOk x = true) → n + W2.length + L2.length ≤ 16385 → prs (spl 10 ((W2.flatMap fun x => wLn x ++ [10]) ++ L2.flatMap fun x => lLn x ++ [10])) W1 [] n = (W1 ++ W2, L2, 0, 0)
  | [], W1, n, _, hn => by
    have := there_l L2 W1 [] n hL (by simpa using hn)
    simpa using this
  | x :: r, W1, n, h, hn => by
    rw [List.length_cons] at hn
    have hx := h x (List.mem_cons_self ..)
    have e : (((x :: r).flatMap fun x => wLn x ++ [10]) ++ L2.flatMap fun x => lLn x ++ [10]) = wLn x ++ 10 :: ((r.flatMap fun x => wLn x ++ [10]) ++ L2.flatMap fun x => lLn x ++ [10]) := by simp
    rw [e, spl_app _ (wLn_out hx), prs_wound (spl_ne _ _) (by omega) (rW_of hx rfl), there_w L2 hL r (W1 ++ [x]) (n + 1) (fun y hy => h y (List.mem_cons_of_mem _ hy)) (by omega), List.append_assoc]
    rfl
/-- A report is read from its text. -/
theorem prs_txt {W : List WD} {L : List LO} (h : ckE W L = 0) : prsT (txB W L) = (W, L, 0, 0) := by
  rw [ckE_iff] at h
  exact there_w L h.2.2 W [] 1 h.2.1 (by omega)
theorem txB_snocW (W : List WD) (x : WD) : txB (W ++ [x]) [] = txB W [] ++ wLn x ++ [10] := by unfold txB; simp
theorem txB_snocL (W : List WD) (L : List LO) (x : LO) : txB W (L ++ [x]) = txB W L ++ lLn x ++ [10] := by unfold txB; simp
theorem back_pr : ∀ (P : List (List UInt8)) (W1 : List WD) (L1 : List LO) (n : Nat) {W : List WD} {L : List LO} {m : Int}, P ≠ [] → (∀ x ∈ W1, wdOk x = true) → (∀ x ∈ L1, loOk x = true) → n = W1.length + L1.length + 1 → n ≤ 16385 → prs P W1 L1 n = (W, L, m, 0) → txB W1 L1 ++ jn 10 P = txB W L ∧ ckE W L = 0 ∧ m = 0
  | [], _, _, _, _, _, _, h, _, _, _, _, _ => absurd rfl h
  | [r], W1, L1, n, W, L, m, _, hW, hL, hn, hn2, hp => by
    rw [prs] at hp
    split at hp
    · rename_i hr
      simp only [Prod.mk.injEq] at hp
      obtain ⟨rfl, rfl, rfl, _⟩ := hp
      subst hr
      exact ⟨by rw [jn_one, List.append_nil], ckE_iff.2 ⟨by omega, hW, hL⟩, rfl⟩
    · simp only [Prod.mk.injEq] at hp
      have := hp.2.2.2
      omega
  | p :: q :: rest, W1, L1, n, W, L, m, _, hW, hL, hn, hn2, hp => by
    rw [prs] at hp
    split at hp
    · rename_i x hx
      split at hp
      · simp only [Prod.mk.injEq] at hp
        have := hp.2.2.2
        omega
      · obtain ⟨h1, h2⟩ := rL_is hx
        have := back_pr (q :: rest) W1 (L1 ++ [x]) (n + 1) (by simp) hW (by intro y hy; rcases List.mem_append.1 hy with hy | hy; exact hL y hy; rw [List.mem_singleton] at hy; rw [hy]; exact h1) (by simp; omega) (by omega) hp
        rw [txB_snocL, h2] at this
        rw [jn_cons]
        simpa using this
    · split at hp
      · rename_i x hx
        split at hp
        · simp only [Prod.mk.injEq] at hp
          have := hp.2.2.2
          omega
        · split at hp
          · simp only [Prod.mk.injEq] at hp
            have := hp.2.2.2
            omega
          · rename_i hL0 _
            have hL0 : L1 = [] := by
              cases L1 with
              | nil => rfl
              | cons a b => exact absurd (by simp) hL0
            subst hL0
            obtain ⟨h1, h2⟩ := rW_is hx
            have := back_pr (q :: rest) (W1 ++ [x]) [] (n + 1) (by simp) (by intro y hy; rcases List.mem_append.1 hy with hy | hy; exact hW y hy; rw [List.mem_singleton] at hy; rw [hy]; exact h1) hL (by simp at hn ⊢; omega) (by omega) hp
            rw [txB_snocW, h2] at this
            rw [jn_cons]
            simpa using this
      · simp only [Prod.mk.injEq] at hp
        have := hp.2.2.2
        omega
/-- What is read has this text. -/
theorem prs_back {t : List UInt8} {W : List WD} {L : List LO} {m : Int} (h : prsT t = (W, L, m, 0)) : txB W L = t ∧ ckE W L = 0 ∧ m = 0 := by
  have := back_pr (spl 10 t) [] [] 1 (spl_ne _ _) (by simp) (by simp) (by simp) (by omega) h
  rw [jn_spl] at this
  exact ⟨this.1.symm, this.2⟩
/-! ### the order -/
def rk (b : Bool) : Int := if b then 1 else 0
/-- One stands ahead of the other. -/
def Aw (a b : WD) : Prop := a.k < b.k ∨ a.k = b.k ∧ (a.id < b.id ∨ a.id = b.id ∧ (a.ix < b.ix ∨ a.ix = b.ix ∧ (a.pl < b.pl ∨ a.pl = b.pl ∧ rk a.hl < rk b.hl)))
instance (a b : WD) : Decidable (Aw a b) := by unfold Aw; infer_instance
theorem rk_inj {a b : Bool} (h : rk a = rk b) : a = b := by revert h; cases a <;> cases b <;> decide
theorem Aw_tot {a b : WD} (h1 : ¬ Aw a b) (h2 : ¬ Aw b a) : a = b := by
  obtain ⟨k, id, ix, pl, hl⟩ := a
  obtain ⟨k', id', ix', pl', hl'⟩ := b
  unfold Aw at h1 h2
  dsimp only at h1 h2
  obtain ⟨r, hr⟩ : ∃ r, r = rk hl := ⟨_, rfl⟩
  obtain ⟨r', hr'⟩ : ∃ r', r' = rk hl' := ⟨_, rfl⟩
  rw [← hr, ← hr'] at h1 h2
  have : k = k' ∧ id = id' ∧ ix = ix' ∧ pl = pl' ∧ r = r' := by omega
  obtain ⟨rfl, rfl, rfl, rfl, e⟩ := this
  rw [hr, hr'] at e
  rw [rk_inj e]
theorem Aw_irr (a : WD) : ¬ Aw a a := by unfold Aw; omega
theorem Aw_trans {a b c : WD} (h1 : Aw a b) (h2 : Aw b c) : Aw a c := by unfold Aw at *; omega
theorem Aw_ntrans {a b c : WD} (h1 : ¬ Aw a b) (h2 : ¬ Aw b c) : ¬ Aw a c := by unfold Aw at *; omega
/-- The wounds in their order. -/
def srt (W : List WD) : List WD := W.mergeSort (fun a b => decide (¬ Aw b a))
def Srtd (W : List WD) : Prop := W.Pairwise (fun a b => ¬ Aw b a)
theorem srt_perm (W : List WD) : (srt W).Perm W := List.mergeSort_perm ..
theorem srt_srtd (W : List WD) : Srtd (srt W) := by
  have := List.pairwise_mergeSort (le := fun a b => decide (¬ Aw b a)) (fun a b c h1 h2 => by
    simp only [decide_eq_true_eq] at *
    exact Aw_ntrans h2 h1) (fun a b => by
    by_cases h : Aw b a
    · have : ¬ Aw a b := fun h2 => Aw_irr _ (Aw_trans h h2)
      simp [this]
    · simp [h]) W
  exact this.imp (fun h => by simpa using h)
theorem srt_uniq {V W : List WD} (h1 : V.Perm W) (h2 : Srtd V) : V = srt W :=
  List.Perm.eq_of_pairwise (le := fun a b => ¬ Aw b a) (fun _ _ _ _ h1 h2 => Aw_tot h2 h1) h2 (srt_srtd W) (h1.trans (srt_perm W).symm)
theorem srt_len (W : List WD) : (srt W).length = W.length := (srt_perm W).length_eq
theorem srt_srt (W : List WD) : srt (srt W) = srt W := (srt_uniq (List.Perm.refl _) (srt_srtd W)).symm
/-- How many are open. -/
def opn (W : List WD) : Int := ((W.filter fun x => !x.hl).length : Nat)
theorem opn_srt (W : List WD) : opn (srt W) = opn W := by
  unfold opn
  rw [((srt_perm W).filter _).length_eq]
/-- Put in at the first place whose one it is ahead of. -/
theorem ins_srtd {x : WD} {O : List WD} {k : Nat} (hO : Srtd O) (h1 : ∀ j, j < k → ¬ Aw x (O.getD j WD.zero)) (h2 : k < O.length → Aw x (O.getD k WD.zero)) (hk : k ≤ O.length) : Srtd (O.take k ++ x :: O.drop k) := by
  unfold Srtd at hO ⊢
  rw [List.pairwise_append]
  refine ⟨hO.sublist (List.take_sublist _ _), ?_, ?_⟩
  · rw [List.pairwise_cons]
    refine ⟨fun y hy h => ?_, hO.sublist (List.drop_sublist _ _)⟩
    have hlt : k < O.length := by
      rcases Nat.lt_or_ge k O.length with h | h
      · exact h
      · rw [List.drop_eq_nil_of_le h] at hy; cases hy
    have hx := h2 hlt
    rw [List.drop_eq_getElem_cons hlt] at hy
    rw [List.getD, List.getElem?_eq_getElem hlt] at hx
    rcases List.mem_cons.1 hy with rfl | hy
    · exact Aw_irr _ (Aw_trans h hx)
    · have hd := hO.sublist (List.drop_sublist k O)
      rw [List.drop_eq_getElem_cons hlt, List.pairwise_cons] at hd
      have h5 := hd.1 y hy
      exact h5 (Aw_trans h hx)
  · intro y hy z hz h
    have hny : ¬ Aw x y := by
      obtain ⟨j, hj, rfl⟩ := List.mem_iff_getElem.1 hy
      rw [List.length_take] at hj
      have := h1 j (by omega)
      rw [List.getD, List.getElem?_eq_getElem (by omega)] at this
      rw [List.getElem_take]; exact this
    rcases List.mem_cons.1 hz with rfl | hz
    · exact hny h
    · have h6 : (O.take k ++ O.drop k).Pairwise (fun a b => ¬ Aw b a) := by rw [List.take_append_drop]; exact hO
      rw [List.pairwise_append] at h6
      exact h6.2.2 y hy z hz h
/-- How many blocks are lost, as the sum is reckoned. -/
def manyW (wr : Int → Int) (L : List LO) : Int := L.foldl (fun n x => if loOk x = true then wr (n + wr (x.t - x.f)) else n) 0
end Go.Proofs.YtfmpbohiahjafaaGreatDoor
