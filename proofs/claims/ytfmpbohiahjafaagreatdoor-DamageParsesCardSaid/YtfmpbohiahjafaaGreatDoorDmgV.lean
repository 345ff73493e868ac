/- Reports of damage: what the law's own sample comes to (no program). -/
import Derived.Test.YtfmpbohiahjafaaGreatDoorDmgQ
namespace Go.Proofs.YtfmpbohiahjafaaGreatDoor
open Go.Lib

theorem there_lt (t : List UInt8) : ∀ (L2 : List LO) (W : List WD) (L1 : List LO) (n : Nat), (∀ x ∈ L2, loOk x = true) → n + L2.length ≤ 16385 → prs (spl 10 ((L2.flatMap fun x => lLn x ++ [10]) ++ t)) W L1 n = prs (spl 10 t) W (L1 ++ L2) (n + L2.length)
  | [], W, L1, n, _, _ => by rw [List.append_nil]; rfl
  | x :: r, W, L1, n, h, hn => by
    rw [List.length_cons] at hn
    have hx := h x (List.mem_cons_self ..)
    have e : ((x :: r).flatMap fun x => lLn x ++ [10]) ++ t = lLn x ++ 10 :: ((r.flatMap fun x => lLn x ++ [10]) ++ t) := by simp
    rw [e, spl_app _ (lLn_out hx), prs_lost (spl_ne _ _) (by omega) (rL_of hx rfl), there_lt t r W (L1 ++ [x]) (n + 1) (fun y hy => h y (List.mem_cons_of_mem _ hy)) (by omega), List.append_assoc, List.length_cons, show n + 1 + r.length = n + (r.length + 1) by omega]
    rfl
theorem there_wt (t : List UInt8) : ∀ (W2 W1 : List WD) (n : Nat), (∀ x ∈ W2, wdOk x = true) → n + W2.length ≤ 16385 → prs (spl 10 ((W2.flatMap fun x => wLn x ++ [10]) ++ t)) W1 [] n = prs (spl 10 t) (W1 ++ W2) [] (n + W2.length)
  | [], W1, n, _, hn => by rw [List.append_nil]; rfl
  | x :: r, W1, n, h, hn => by
    rw [List.length_cons] at hn
    have hx := h x (List.mem_cons_self ..)
    have e : ((x :: r).flatMap fun x => wLn x ++ [10]) ++ t = wLn x ++ 10 :: ((r.flatMap fun x => wLn x ++ [10]) ++ t) := by simp
    rw [e, spl_app _ (wLn_out hx), prs_wound (spl_ne _ _) (by omega) (rW_of hx rfl), there_wt t r (W1 ++ [x]) (n + 1) (fun y hy => h y (List.mem_cons_of_mem _ hy)) (by omega), List.append_assoc, List.length_cons, show n + 1 + r.length = n + (r.length + 1) by omega]
    rfl
def lvA : WD := ⟨3, 3, 2, 9, true⟩
def lvB : WD := ⟨1, 1, 0, 1, false⟩
def lvZ : WD := ⟨1, 0, 0, 0, false⟩
def lvL : LO := ⟨-1, 2, 5⟩
theorem ito1 (n : Nat) (h : n < 10) : itoa (n : Int) = [UInt8.ofNat (48 + n)] := by rw [ito_dec (by omega), Int.toNat_natCast, decDigits_one h]
theorem lv_srt : srt [lvA, lvB] = [lvB, lvA] :=
  (srt_uniq (V := [lvB, lvA]) (List.Perm.swap lvA lvB []) (by
    unfold Srtd
    rw [List.pairwise_cons]
    refine ⟨fun y hy => ?_, by rw [List.pairwise_cons]; exact ⟨fun y hy => (by cases hy), List.Pairwise.nil⟩⟩
    rw [List.mem_singleton] at hy
    rw [hy]
    decide)).symm
theorem lv_ck : ckE [lvB, lvA] [lvL] = 0 := by decide
theorem lv_ckZ : ckE [WD.zero] [] = 2 := by decide
def lvT : List UInt8 := [115, 108, 111, 116, 32, 49, 32, 48, 32, 49, 32, 111, 112, 101, 110, 10, 115, 116, 114, 105, 112, 101, 32, 51, 32, 50, 32, 57, 32, 104, 101, 97, 108, 101, 100, 10, 108, 111, 115, 116, 32, 110, 111, 119, 32, 50, 32, 53, 10]
def lvS : List UInt8 := [115, 108, 111, 116, 32, 48, 32, 48, 32, 48, 32, 111, 112, 101, 110, 10]
theorem lv_wB : wLn lvB = [115, 108, 111, 116, 32, 49, 32, 48, 32, 49, 32, 111, 112, 101, 110] := by
  have h1 := ito1 1 (by omega)
  have h0 := ito1 0 (by omega)
  show jn 32 [slotW, itoa ((1 : Nat) : Int), itoa ((0 : Nat) : Int), itoa ((1 : Nat) : Int), openW] = _
  rw [h1, h0]; decide
theorem lv_wA : wLn lvA = [115, 116, 114, 105, 112, 101, 32, 51, 32, 50, 32, 57, 32, 104, 101, 97, 108, 101, 100] := by
  have h3 := ito1 3 (by omega)
  have h2 := ito1 2 (by omega)
  have h9 := ito1 9 (by omega)
  show jn 32 [stripeW, itoa ((3 : Nat) : Int), itoa ((2 : Nat) : Int), itoa ((9 : Nat) : Int), healedW] = _
  rw [h3, h2, h9]; decide
theorem lv_wZ : wLn lvZ ++ [10] = lvS := by
  have h0 := ito1 0 (by omega)
  show jn 32 [slotW, itoa ((0 : Nat) : Int), itoa ((0 : Nat) : Int), itoa ((0 : Nat) : Int), openW] ++ [10] = _
  rw [h0]; decide
theorem lv_lL : lLn lvL = [108, 111, 115, 116, 32, 110, 111, 119, 32, 50, 32, 53] := by
  have h2 := ito1 2 (by omega)
  have h5 := ito1 5 (by omega)
  show jn 32 [lostW, nowW, itoa ((2 : Nat) : Int), itoa ((5 : Nat) : Int)] = _
  rw [h2, h5]; decide
theorem lv_txB : txB [lvB, lvA] [lvL] = lvT := by
  unfold txB
  simp only [List.flatMap_cons, List.flatMap_nil]
  rw [lv_wB, lv_wA, lv_lL]; decide
theorem lv_txL : txL [lvB, lvA] [lvL] = lvT := by unfold txL; rw [if_pos lv_ck, lv_txB]
theorem lv_prs : prsT lvT = ([lvB, lvA], [lvL], 0, 0) := by rw [← lv_txB]; exact prs_txt lv_ck
theorem lv_prs2 : prsT (lvT ++ lvS) = ([], [], 4, 6) := by
  have hW : ∀ x ∈ [lvB, lvA], wdOk x = true := by decide
  have hL : ∀ x ∈ [lvL], loOk x = true := by decide
  have hZ : wdOk lvZ = true := by decide
  rw [← lv_txB]
  unfold txB prsT
  rw [List.append_assoc, there_wt _ _ _ _ hW (by decide), there_lt _ _ _ _ _ hL (by decide)]
  rw [← lv_wZ, spl_app [] (wLn_out hZ)]
  exact prs_bad (spl_ne _ _) (rL_none (rW_of hZ rfl)) (.inr (by simp))
end Go.Proofs.YtfmpbohiahjafaaGreatDoor
