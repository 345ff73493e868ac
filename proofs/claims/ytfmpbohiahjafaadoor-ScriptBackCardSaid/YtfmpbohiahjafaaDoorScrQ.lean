/- Scripts: the lines of a text, told one by one. -/
import Derived.Test.YtfmpbohiahjafaaDoorScrP
import Derived.Test.YtfmpbohiahjafaaDoorRangeL
namespace Go.Proofs.YtfmpbohiahjafaaDoor
open Go.RowKit Go.Lib Go.Shelf Go.Sort
attribute [local go_sem] Oper.semAt_some

/-- How many lines are told of these pieces. -/
def nLn (P : List (List UInt8)) : Nat := if P.getLast? = some [] then P.length - 1 else P.length
def lineK (P : List (List UInt8)) (k : Nat) : List UInt8 := P.getD k []
def wholeK (P : List (List UInt8)) (k : Nat) : Bool := decide (k + 1 < P.length)
def encsL (P : List (List UInt8)) (k : Nat) : Array Value := #[Bs (lineK P k), .bool (wholeK P k)]
/-- Behind k lines, the rest of the text. -/
def LInv (P : List (List UInt8)) (k : Nat) (r : List UInt8) : Prop := k ≤ nLn P ∧ ((k < P.length ∧ spl 10 r = P.drop k) ∨ (r = [] ∧ k = nLn P))
theorem linv_0 (T : List UInt8) : LInv (spl 10 T) 0 T := ⟨Nat.zero_le _, .inl ⟨by
  cases h : spl 10 T with
  | nil => exact absurd h (spl_ne _ _)
  | cons a r => simp, rfl⟩⟩
theorem last_drop {P : List (List UInt8)} {k : Nat} (h : k < P.length) : P.getLast? = (P.drop k).getLast? := by
  conv => lhs; rw [← List.take_append_drop k P]
  rw [List.getLast?_append]
  cases hd : (P.drop k).getLast? with
  | some x => rfl
  | none =>
    rw [List.getLast?_eq_none_iff] at hd
    have := congrArg List.length hd
    rw [List.length_drop] at this
    simp at this; omega
theorem linv_hit {P : List (List UInt8)} {k : Nat} {one rest : List UInt8} (h : LInv P k (one ++ 10 :: rest)) (ho : (10 : UInt8) ∉ one) : k < nLn P ∧ P.getD k [] = one ∧ k + 1 < P.length ∧ LInv P (k + 1) rest := by
  rcases h.2 with ⟨h1, h2⟩ | ⟨h1, _⟩
  · rw [spl_app _ ho, List.drop_eq_getElem_cons h1] at h2
    injection h2 with h3 h4
    have hne : (spl 10 rest).length ≠ 0 := fun e => spl_ne 10 rest (List.length_eq_zero_iff.1 e)
    have h5 : k + 1 < P.length := by rw [h4, List.length_drop] at hne; omega
    have h6 : k + 1 ≤ nLn P := by unfold nLn; split <;> omega
    exact ⟨by omega, by rw [List.getD, List.getElem?_eq_getElem h1, h3]; rfl, h5, h6, .inl ⟨h5, h4⟩⟩
  · simp at h1
theorem linv_miss {P : List (List UInt8)} {k : Nat} {r : List UInt8} (h : LInv P k r) (hr : r ≠ []) (ho : (10 : UInt8) ∉ r) : k < nLn P ∧ P.getD k [] = r ∧ ¬ k + 1 < P.length ∧ LInv P (k + 1) [] := by
  rcases h.2 with ⟨h1, h2⟩ | ⟨h1, _⟩
  · have hl := last_drop h1
    rw [← h2, spl_none ho] at hl
    rw [spl_none ho, List.drop_eq_getElem_cons h1] at h2
    injection h2 with h3 h4
    have h5 : P.length = k + 1 := by have := congrArg List.length h4; rw [List.length_drop] at this; simp at this; omega
    have h6 : nLn P = k + 1 := by
      unfold nLn
      rw [hl, if_neg (by simpa using hr), h5]
    exact ⟨by omega, by rw [List.getD, List.getElem?_eq_getElem h1, ← h3]; rfl, by omega, by omega, .inr ⟨rfl, h6.symm⟩⟩
  · exact absurd h1 hr
theorem linv_end {P : List (List UInt8)} {k : Nat} (h : LInv P k []) : k = nLn P := by
  rcases h.2 with ⟨h1, h2⟩ | ⟨_, h1⟩
  · have hl := last_drop h1
    rw [← h2] at hl
    have h5 : P.length = k + 1 := by have := congrArg List.length h2; rw [List.length_drop] at this; simp [spl] at this; omega
    unfold nLn
    rw [hl, show spl 10 [] = [[]] from rfl, if_pos (by rfl)]
    omega
  · exact h1
theorem linesF_any (t : List UInt8) (w : World) : Calls Tryd.prog 32 #[.string ⟨t.toArray⟩] w fun e w' =>
    e = .returned (.func (.func 49) #[] #[.pointer (some ⟨w.heap.size, 0, none⟩)]) ∧ w' = w.alloc (.cells #[.string ⟨t.toArray⟩] 9) := by
  go_enter Tryd.func32, Tryd.ntmps32
  go_wp2
  go_ret
  exact ⟨by simp, rfl⟩
def cellN : Option Value → Nat | some (.string s) => s.size | _ => 0
set_option maxHeartbeats 16000000 in
set_option maxRecDepth 100000 in
theorem lines_tells (n : Nat) (hn : 1 ≤ n) {T : List UInt8} (hT : T.length ≤ 100000000) (b : Nat) (w : World) :
    TellsL Fence.wide n Tryd.prog 49 #[.pointer (some ⟨b, 0, none⟩)] (encsL (spl 10 T)) (nLn (spl 10 T)) b (Bs T) ScW w := by
  intro l J Jx W hW hJb hJd hJs hY h0
  refine callsIn_of_wp Tryd.func49 rfl trivial ?_ rfl
  simp only [Tryd.ntmps49, List.size_toArray, List.length_cons, List.length_nil, Nat.reduceAdd, Nat.reduceSub, Array.replicate_succ, Array.replicate_zero, List.push_toArray, List.append_toArray, List.nil_append, List.cons_append]
  have HJB := Lib.hid hJb
  have HJD := Lib.hid hJd
  have HJS := Lib.hid hJs
  have HY := Lib.hid hY
  have H0 := Lib.hid h0
  have HT := Lib.hid hT
  obtain ⟨P, hP⟩ : ∃ P, P = spl 10 T := ⟨_, rfl⟩
  have hI0 := linv_0 T
  rw [← hP] at hI0 HY ⊢
  have HI0 := Lib.hid hI0
  have hf0 : Fence.wide.fn 30 := trivial
  clear hJb hJd hJs hY h0 hW hP hI0 hT
  gi_wp2
  gi_loopw [3, 4, 5] (fun _ _ _ wr => ∃ (k : Nat) (r : List UInt8), LInv P k r ∧ r.length ≤ T.length ∧ J (Bs r) k wr) (fun _ _ _ wr => cellN (wr.cell? ⟨b, 0, none⟩))
  case atStart => exact ⟨0, T, HI0.out, Nat.le_refl _, H0.out⟩
  case round =>
    obtain ⟨k, r, hinv, hrl, hJ⟩ := hrel
    have HI := Lib.hid hinv
    have HJ := Lib.hid hJ
    have HRL := Lib.hid hrl
    obtain ⟨c0, f0, hsw⟩ := HJD.out _ _ _ hJ
    by_cases hr : r = []
    · subst hr
      have hk := linv_end hinv
      subst hk
      clear hinv hrl hJ hsw f0
      gi_wp2
      go_end0
      exact ⟨⟨_, rfl⟩, .inl ⟨_, HJ.out⟩⟩
    · have k0 : (r == []) = false := by rw [beq_eq_false_iff_ne]; exact hr
      have k1 : (r != []) = true := by rw [bne_iff_ne]; exact hr
      have k2 : r.isEmpty = false := by cases r with | nil => exact absurd rfl hr | cons a t => rfl
      have hCut := fun j => (callsIn_wide (n := j)).2 (cutS_any (s := r) (by have := HT.out; omega) hsw)
      by_cases hm : (10 : UInt8) ∈ r
      · obtain ⟨one, rest, hsp, hno⟩ := split_10 hm
        have hi := hinv
        rw [hsp] at hi
        obtain ⟨hkn, hgd, hlt, hi2⟩ := linv_hit hi hno
        have hwd : decide (k + 1 < P.length) = true := decide_eq_true hlt
        have he := cut_hit (rest := rest) hno
        rw [← hsp] at he
        rw [he] at hCut
        dsimp only at hCut
        clear hi hlt he
        have HK := Lib.hid hkn
        have HG := Lib.hid (And.intro hgd hwd)
        have HI2 := Lib.hid hi2
        have HMS : Hid (rest.length < r.length ∧ rest.length ≤ T.length) := Lib.hid (by have h := congrArg List.length hsp; simp at h; omega)
        have HC0 := Lib.hid c0
        clear hinv hrl hJ hsw f0 hkn hgd hwd hi2 hm hsp hno hr
        gi_wp2_with (gi_at_call 30; refine (hCut _).mono ?_; rintro e W2 ⟨rfl, hb2⟩; have HJ2 := Lib.hid (HJB.out _ _ _ _ HJ.out hb2); obtain ⟨fn, tmps, assign, body, hy, hRR⟩ := HY.out _ _ _ HJ2.out HK.out; unfold encsL lineK wholeK at hy; rw [HG.out.1, HG.out.2] at hy; clear hb2)
        refine hRR.mono ?_
        clear hCut hy
        rintro e W3 (⟨rfl, hJ3⟩ | ⟨rfl, hJx3⟩)
        · have HJ3 := Lib.hid hJ3
          obtain ⟨c3, f3, -⟩ := HJD.out _ _ _ hJ3
          have HC3 := Lib.hid c3
          clear hJ3 c0
          gi_wp2
          go_roundw
          case rel => exact ⟨k + 1, rest, HI2.out, HMS.out.2, HJS.out _ _ _ _ HJ3.out⟩
          case measure =>
            rw [HC0.out]
            first
            | rw [put_same HC3.out]
            | rw [show (W3.setCell ⟨b, 0, none⟩ (.string ⟨#[]⟩)).cell? ⟨b, 0, none⟩ = some (.string ⟨#[]⟩) from put_same HC3.out _]
            have h1 := bsz r
            have h2 := bsz rest
            have h3 := HMS.out.1
            simp only [cellN]
            first | omega | (show (0 : Nat) < _; have h4 : 0 < r.length := h3; omega)
        · gi_wp2
          refine bodyPost_ret (results_none rfl _ _ _) rfl ?_
          exact ⟨⟨_, rfl⟩, .inr ⟨_, HK.out, hJx3⟩⟩
      · obtain ⟨hkn, hgd, hlt, hi2⟩ := linv_miss hinv hr hm
        have hwd : decide (k + 1 < P.length) = false := decide_eq_false hlt
        rw [cut_miss hm] at hCut
        dsimp only at hCut
        clear hlt
        have HK := Lib.hid hkn
        have HG := Lib.hid (And.intro hgd hwd)
        have HI2 := Lib.hid hi2
        have HMS : Hid (([] : List UInt8).length < r.length ∧ ([] : List UInt8).length ≤ T.length) := Lib.hid (by cases r with | nil => exact absurd rfl hr | cons a t => simp)
        have HC0 := Lib.hid c0
        clear hinv hrl hJ hsw f0 hkn hgd hwd hi2 hm hr
        gi_wp2_with (gi_at_call 30; refine (hCut _).mono ?_; rintro e W2 ⟨rfl, hb2⟩; have HJ2 := Lib.hid (HJB.out _ _ _ _ HJ.out hb2); obtain ⟨fn, tmps, assign, body, hy, hRR⟩ := HY.out _ _ _ HJ2.out HK.out; unfold encsL lineK wholeK at hy; rw [HG.out.1, HG.out.2] at hy; clear hb2)
        refine hRR.mono ?_
        clear hCut hy
        rintro e W3 (⟨rfl, hJ3⟩ | ⟨rfl, hJx3⟩)
        · have HJ3 := Lib.hid hJ3
          obtain ⟨c3, f3, -⟩ := HJD.out _ _ _ hJ3
          have HC3 := Lib.hid c3
          clear hJ3 c0
          gi_wp2
          go_roundw
          case rel => exact ⟨k + 1, [], HI2.out, HMS.out.2, HJS.out _ _ _ _ HJ3.out⟩
          case measure =>
            rw [HC0.out]
            first
            | rw [put_same HC3.out]
            | rw [show (W3.setCell ⟨b, 0, none⟩ (.string ⟨#[]⟩)).cell? ⟨b, 0, none⟩ = some (.string ⟨#[]⟩) from put_same HC3.out _]
            have h1 := bsz r
            have h2 := bsz ([] : List UInt8)
            have h3 := HMS.out.1
            simp only [cellN]
            first | omega | (show (0 : Nat) < _; have h4 : 0 < r.length := h3; omega)
        · gi_wp2
          refine bodyPost_ret (results_none rfl _ _ _) rfl ?_
          exact ⟨⟨_, rfl⟩, .inr ⟨_, HK.out, hJx3⟩⟩
end Go.Proofs.YtfmpbohiahjafaaDoor
