/- Small words that all of this seat's texts use. Fields: the plain model: widths, the bytes of a number, the number of bytes, several of them. -/
import Derived.Test.YthhbaccbhfngbaaRows
import Derived.WalkKit
import Derived.ProofKit
import Derived.Below
import Derived.Handy
import Derived.Lib.Hide
import Derived.BigQuiet
import Derived.Deep.QuietTactic
import Derived.Laws.DeepBits32
namespace Go.Proofs.Ythhbaccbhfngbaa
open Go.RowKit
theorem ret_int {k : IntKind} {a b : Int} (h : a = b) : Ending.returned (.int k a) = Ending.returned (.int k b) := by rw [h]
theorem ret_bool {a b : Bool} (h : a = b) : Ending.returned (.bool a) = Ending.returned (.bool b) := by rw [h]
theorem ret_str {a b : ByteArray} (h : a = b) : Ending.returned (.string a) = Ending.returned (.string b) := by rw [h]
theorem below_drewN {B : Nat} {a w : World} (h : Below B a w) (n : Nat) : Below B a (w.drewN n) := ⟨h.os, h.tape, h.output, h.size, h.block⟩
theorem take_snoc (s : ByteArray) (k : Nat) (h : k < s.size) : s.data.toList.take (k + 1) = s.data.toList.take k ++ [s[k]] := by
  rw [List.take_succ_eq_append_getElem (by simpa using h)]; rfl
theorem toList_loop (bs : ByteArray) (n : Nat) : ∀ (i : Nat) (r : List UInt8), bs.size - i = n → ByteArray.toList.loop bs i r = r.reverse ++ bs.data.toList.drop i := by
  induction n with
  | zero =>
    intro i r h
    unfold ByteArray.toList.loop
    rw [if_neg (by omega), List.drop_of_length_le (by simp; show bs.size ≤ i; omega), List.append_nil]
  | succ n ih =>
    intro i r h
    unfold ByteArray.toList.loop
    have hi : i < bs.data.size := by show i < bs.size; omega
    rw [if_pos (by omega), ih (i + 1) _ (by omega), List.reverse_cons, List.append_assoc]
    congr 1
    have hi2 : i < bs.data.toList.length := by simpa using hi
    rw [List.drop_eq_getElem_cons hi2]
    show bs.get! i :: _ = _
    congr 1
    show bs.data[i]! = _
    rw [getElem!_pos bs.data i hi]; simp
theorem byte_toList (bs : ByteArray) : bs.toList = bs.data.toList := by
  unfold ByteArray.toList
  rw [toList_loop bs _ 0 [] rfl]; simp
end Go.Proofs.Ythhbaccbhfngbaa
namespace Go.Proofs.Ythhbaccbhfngbaa

/-- A width. -/
def isW (k : Int) : Bool := decide (k = 1 ∨ k = 2 ∨ k = 4 ∨ k = 8)
/-- The lowest k bytes of n, the lowest one first. -/
def leB : Nat → Nat → List UInt8
  | 0, _ => []
  | k + 1, n => UInt8.ofNat n :: leB k (n / 256)
/-- The number of bytes. -/
def leN : List UInt8 → Nat
  | [] => 0
  | b :: r => b.toNat + 256 * leN r
theorem isW_iff {k : Int} : isW k = true ↔ (k = 1 ∨ k = 2 ∨ k = 4 ∨ k = 8) := by unfold isW; simp
theorem leB_len : ∀ k n, (leB k n).length = k
  | 0, _ => rfl
  | k + 1, n => by rw [leB, List.length_cons, leB_len k]
theorem leB_at : ∀ (k n j : Nat), j < k → (leB k n).getD j 0 = UInt8.ofNat (n / 256 ^ j)
  | k + 1, n, 0, _ => by simp [leB]
  | k + 1, n, j + 1, h => by
    have := leB_at k (n / 256) j (by omega)
    rw [leB, List.getD_cons_succ, this, Nat.div_div_eq_div_mul, Nat.pow_succ, Nat.mul_comm 256]
theorem leB_snoc : ∀ k n, leB (k + 1) n = leB k n ++ [UInt8.ofNat (n / 256 ^ k)]
  | 0, n => by simp [leB]
  | k + 1, n => by
    rw [leB, leB_snoc k (n / 256), leB, Nat.div_div_eq_div_mul, Nat.pow_succ, Nat.mul_comm 256]; rfl
theorem leN_lt : ∀ l : List UInt8, leN l < 256 ^ l.length
  | [] => by simp [leN]
  | b :: r => by
    have := leN_lt r
    have hb := b.toNat_lt
    rw [leN, List.length_cons, Nat.pow_succ]; omega
theorem leN_snoc : ∀ (l : List UInt8) (b : UInt8), leN (l ++ [b]) = leN l + 256 ^ l.length * b.toNat
  | [], b => by simp [leN]
  | a :: r, b => by
    have := leN_snoc r b
    rw [List.cons_append, leN, this, leN, List.length_cons, Nat.pow_succ]
    rw [Nat.mul_add, ← Nat.mul_assoc, Nat.mul_comm 256 (256 ^ r.length)]; omega
theorem leN_leB : ∀ (k n : Nat), n < 256 ^ k → leN (leB k n) = n
  | 0, n, h => by simp at h; simp [leB, leN, h]
  | k + 1, n, h => by
    rw [Nat.pow_succ] at h
    rw [leB, leN, leN_leB k (n / 256) (by omega), UInt8.toNat_ofNat']
    omega
theorem leB_leN : ∀ l : List UInt8, leB l.length (leN l) = l
  | [] => rfl
  | b :: r => by
    have hb := b.toNat_lt
    rw [List.length_cons, leB, leN]
    rw [show (b.toNat + 256 * leN r) / 256 = leN r by omega, leB_leN r]
    congr 1
    have : (b.toNat + 256 * leN r) % 256 = b.toNat := by omega
    exact UInt8.toNat_inj.1 (by rw [UInt8.toNat_ofNat']; exact this)

/-! ### one field -/
def putE (k : Int) (n : Nat) : Int := if isW k = true ∧ n < 256 ^ k.toNat then 0 else 1
def putS (k : Int) (n : Nat) : List UInt8 := if isW k = true ∧ n < 256 ^ k.toNat then leB k.toNat n else []
def getE (k : Int) (s : List UInt8) : Int := if isW k = true then (if k.toNat ≤ s.length then 0 else 5) else 1
def getN (k : Int) (s : List UInt8) : Nat := if isW k = true ∧ k.toNat ≤ s.length then leN (s.take k.toNat) else 0
def textE (t : List UInt8) : Int := if t.length ≤ 32 then 0 else 7
def textS (t : List UInt8) : List UInt8 := if t.length ≤ 32 then UInt8.ofNat t.length :: t else []
theorem getE_ok {k : Int} {s : List UInt8} : getE k s = 0 ↔ isW k = true ∧ k.toNat ≤ s.length := by
  unfold getE; split
  · split <;> simp_all
  · simp_all
theorem putE_ok {k : Int} {n : Nat} : putE k n = 0 ↔ isW k = true ∧ n < 256 ^ k.toNat := by
  unfold putE; split <;> simp_all
theorem putS_ok {k : Int} {n : Nat} (h : putE k n = 0) : putS k n = leB k.toNat n := if_pos (putE_ok.1 h)
theorem getN_ok {k : Int} {s : List UInt8} (h : getE k s = 0) : getN k s = leN (s.take k.toNat) := if_pos (getE_ok.1 h)
theorem isW_le {k : Int} (h : isW k = true) : 1 ≤ k ∧ k ≤ 8 := by rcases isW_iff.1 h with h | h | h | h <;> omega
theorem getN_lt {k : Int} {s : List UInt8} : getN k s < 18446744073709551616 := by
  unfold getN
  split
  · rename_i h
    have h1 := leN_lt (s.take k.toNat)
    rw [List.length_take, Nat.min_eq_left h.2] at h1
    rcases isW_iff.1 h.1 with e | e | e | e <;> subst e <;> simp at h1 ⊢ <;> omega
  · omega

/-! ### several -/
def allE : List UInt8 → List Int → Int
  | _, [] => 0
  | s, k :: r => if getE k s = 0 then allE (s.drop k.toNat) r else getE k s
def allL : List UInt8 → List Int → List Nat
  | _, [] => []
  | s, k :: r => getN k s :: allL (s.drop k.toNat) r
def allR : List UInt8 → List Int → List UInt8
  | s, [] => s
  | s, k :: r => allR (s.drop k.toNat) r
def allV (s : List UInt8) (ks : List Int) : List Nat := if allE s ks = 0 then allL s ks else []
def allT (s : List UInt8) (ks : List Int) : List UInt8 := if allE s ks = 0 then allR s ks else []
theorem allE_app : ∀ (s : List UInt8) (a b : List Int), allE s (a ++ b) = if allE s a = 0 then allE (allR s a) b else allE s a
  | s, [], b => by simp [allE, allR]
  | s, k :: r, b => by
    rw [List.cons_append, allE, allE, allR, allE_app]
    by_cases h : getE k s = 0
    · rw [if_pos h, if_pos h]
    · rw [if_neg h, if_neg h, if_neg h]
theorem allL_app : ∀ (s : List UInt8) (a b : List Int), allL s (a ++ b) = allL s a ++ allL (allR s a) b
  | s, [], b => by simp [allL, allR]
  | s, k :: r, b => by rw [List.cons_append, allL, allL, allR, allL_app]; rfl
theorem allR_app : ∀ (s : List UInt8) (a b : List Int), allR s (a ++ b) = allR (allR s a) b
  | s, [], b => by simp [allR]
  | s, k :: r, b => by rw [List.cons_append, allR, allR, allR_app]
theorem allL_len : ∀ (s : List UInt8) (a : List Int), (allL s a).length = a.length
  | _, [] => rfl
  | s, k :: r => by rw [allL, List.length_cons, List.length_cons, allL_len]
theorem allR_le : ∀ (s : List UInt8) (a : List Int), (allR s a).length ≤ s.length
  | _, [] => Nat.le_refl _
  | s, k :: r => by rw [allR]; refine Nat.le_trans (allR_le _ _) ?_; rw [List.length_drop]; omega
theorem allL_lt : ∀ (s : List UInt8) (a : List Int), ∀ x ∈ allL s a, x < 18446744073709551616
  | _, [], _, h => by cases h
  | s, k :: r, x, h => by
    rw [allL, List.mem_cons] at h
    rcases h with rfl | h
    · exact getN_lt
    · exact allL_lt _ _ x h
theorem take_snocI {L : List Int} {k : Nat} (hk : k < L.length) : L.take (k + 1) = L.take k ++ [L.getD k 0] := by
  rw [List.take_succ_eq_append_getElem hk, List.getD, List.getElem?_eq_getElem hk]; rfl
/-- One step. -/
theorem all_step {s : List UInt8} {ks : List Int} {j : Nat} (hj : j < ks.length) (h0 : allE s (ks.take j) = 0) :
    allE s (ks.take (j + 1)) = getE (ks.getD j 0) (allR s (ks.take j)) ∧ allL s (ks.take (j + 1)) = allL s (ks.take j) ++ [getN (ks.getD j 0) (allR s (ks.take j))] ∧ allR s (ks.take (j + 1)) = (allR s (ks.take j)).drop (ks.getD j 0).toNat := by
  rw [take_snocI hj, allE_app, allL_app, allR_app, if_pos h0]
  refine ⟨?_, rfl, rfl⟩
  rw [allE, allE]
  by_cases h : getE (ks.getD j 0) (allR s (ks.take j)) = 0
  · rw [if_pos h, h]
  · rw [if_neg h]
/-- An error is the first one. -/
theorem all_stop {s : List UInt8} {ks : List Int} {j : Nat} (hj : j < ks.length) (h0 : allE s (ks.take j) = 0) (he : getE (ks.getD j 0) (allR s (ks.take j)) ≠ 0) :
    allE s ks = getE (ks.getD j 0) (allR s (ks.take j)) := by
  have h1 := (all_step hj h0).1
  have h2 : allE s ks = allE s (ks.take (j + 1) ++ ks.drop (j + 1)) := by rw [List.take_append_drop]
  rw [h2, allE_app, if_neg (by rw [h1]; exact he), h1]

def joinP : List Int → List Nat → Int
  | [], _ => 0
  | _ :: _, [] => 0
  | k :: r, n :: m => if putE k n = 0 then joinP r m else putE k n
def joinL : List Int → List Nat → List UInt8
  | [], _ => []
  | _ :: _, [] => []
  | k :: r, n :: m => leB k.toNat n ++ joinL r m
def joinE (ks : List Int) (ns : List Nat) : Int := if ks.length = ns.length then joinP ks ns else 2
def joinS (ks : List Int) (ns : List Nat) : List UInt8 := if joinE ks ns = 0 then joinL ks ns else []
theorem take_snocN {L : List Nat} {k : Nat} (hk : k < L.length) : L.take (k + 1) = L.take k ++ [L.getD k 0] := by
  rw [List.take_succ_eq_append_getElem hk, List.getD, List.getElem?_eq_getElem hk]; rfl
theorem joinP_app : ∀ (a : List Int) (x : List Nat) (b : List Int) (y : List Nat), a.length = x.length → joinP (a ++ b) (x ++ y) = if joinP a x = 0 then joinP b y else joinP a x
  | [], [], b, y, _ => by simp [joinP]
  | k :: r, n :: m, b, y, h => by
    rw [List.cons_append, List.cons_append, joinP, joinP, joinP_app r m b y (by simpa using h)]
    by_cases g : putE k n = 0
    · rw [if_pos g, if_pos g]
    · rw [if_neg g, if_neg g, if_neg g]
  | [], _ :: _, _, _, h => by simp at h
  | _ :: _, [], _, _, h => by simp at h
theorem joinL_app : ∀ (a : List Int) (x : List Nat) (b : List Int) (y : List Nat), a.length = x.length → joinL (a ++ b) (x ++ y) = joinL a x ++ joinL b y
  | [], [], b, y, _ => by simp [joinL]
  | k :: r, n :: m, b, y, h => by rw [List.cons_append, List.cons_append, joinL, joinL, joinL_app r m b y (by simpa using h), List.append_assoc]
  | [], _ :: _, _, _, h => by simp at h
  | _ :: _, [], _, _, h => by simp at h
theorem join_step {ks : List Int} {ns : List Nat} {j : Nat} (hl : ks.length = ns.length) (hj : j < ks.length) (h0 : joinP (ks.take j) (ns.take j) = 0) :
    joinP (ks.take (j + 1)) (ns.take (j + 1)) = putE (ks.getD j 0) (ns.getD j 0) ∧ joinL (ks.take (j + 1)) (ns.take (j + 1)) = joinL (ks.take j) (ns.take j) ++ leB (ks.getD j 0).toNat (ns.getD j 0) := by
  rw [take_snocI hj, take_snocN (by omega), joinP_app _ _ _ _ (by simp; omega), joinL_app _ _ _ _ (by simp; omega), if_pos h0]
  refine ⟨?_, by simp [joinL]⟩
  rw [joinP, joinP]
  by_cases h : putE (ks.getD j 0) (ns.getD j 0) = 0
  · rw [if_pos h, h]
  · rw [if_neg h]
theorem join_stop {ks : List Int} {ns : List Nat} {j : Nat} (hl : ks.length = ns.length) (hj : j < ks.length) (h0 : joinP (ks.take j) (ns.take j) = 0) (he : putE (ks.getD j 0) (ns.getD j 0) ≠ 0) :
    joinE ks ns = putE (ks.getD j 0) (ns.getD j 0) := by
  have h1 := (join_step hl hj h0).1
  have h2 : joinP ks ns = joinP (ks.take (j + 1) ++ ks.drop (j + 1)) (ns.take (j + 1) ++ ns.drop (j + 1)) := by rw [List.take_append_drop, List.take_append_drop]
  unfold joinE
  rw [if_pos hl, h2, joinP_app _ _ _ _ (by simp; omega), if_neg (by rw [h1]; exact he), h1]
theorem joinL_len : ∀ (a : List Int) (x : List Nat), joinP a x = 0 → (joinL a x).length ≤ 8 * a.length
  | [], _, _ => by simp [joinL]
  | _ :: _, [], _ => by simp [joinL]
  | k :: r, n :: m, h => by
    rw [joinP] at h
    split at h
    · rename_i g
      have h1 := joinL_len r m h
      have h2 := isW_le (putE_ok.1 g).1
      rw [joinL, List.length_append, leB_len, List.length_cons]; omega
    · rename_i g; exact absurd h g

/-! ### there and back -/
theorem put_got {k : Int} {n : Nat} (h : putE k n = 0) (t : List UInt8) : getE k (leB k.toNat n ++ t) = 0 ∧ getN k (leB k.toNat n ++ t) = n ∧ (leB k.toNat n ++ t).drop k.toNat = t := by
  obtain ⟨h1, h2⟩ := putE_ok.1 h
  have hl := leB_len k.toNat n
  have hg : getE k (leB k.toNat n ++ t) = 0 := getE_ok.2 ⟨h1, by rw [List.length_append]; omega⟩
  refine ⟨hg, ?_, ?_⟩
  · rw [getN_ok hg, List.take_append_of_le_length (by omega), List.take_of_length_le (by omega), leN_leB _ _ h2]
  · rw [List.drop_append_of_le_length (by omega), List.drop_of_length_le (by omega), List.nil_append]
theorem got_put {k : Int} {s : List UInt8} (h : getE k s = 0) : putE k (getN k s) = 0 ∧ leB k.toNat (getN k s) = s.take k.toNat := by
  obtain ⟨h1, h2⟩ := getE_ok.1 h
  have hl : (s.take k.toNat).length = k.toNat := by rw [List.length_take]; omega
  have h3 := leN_lt (s.take k.toNat)
  have h4 := leB_leN (s.take k.toNat)
  rw [hl] at h3 h4
  rw [getN_ok h]
  exact ⟨putE_ok.2 ⟨h1, h3⟩, h4⟩
theorem join_all : ∀ (ks : List Int) (ns : List Nat) (t : List UInt8), ks.length = ns.length → joinP ks ns = 0 → allE (joinL ks ns ++ t) ks = 0 ∧ allL (joinL ks ns ++ t) ks = ns ∧ allR (joinL ks ns ++ t) ks = t
  | [], [], t, _, _ => by simp [joinL, allE, allL, allR]
  | k :: r, n :: m, t, hl, h => by
    rw [joinP] at h
    split at h
    · rename_i g
      obtain ⟨g1, g2, g3⟩ := put_got g (joinL r m ++ t)
      obtain ⟨i1, i2, i3⟩ := join_all r m t (by simpa using hl) h
      rw [joinL, List.append_assoc, allE, allL, allR, if_pos g1, g2, g3, i1, i2, i3]
      exact ⟨rfl, rfl, rfl⟩
    · rename_i g; exact absurd h g
  | [], _ :: _, _, h, _ => by simp at h
  | _ :: _, [], _, h, _ => by simp at h
theorem all_join : ∀ (ks : List Int) (s : List UInt8), allE s ks = 0 → joinP ks (allL s ks) = 0 ∧ joinL ks (allL s ks) ++ allR s ks = s
  | [], s, _ => by simp [joinP, joinL, allR]
  | k :: r, s, h => by
    rw [allE] at h
    split at h
    · rename_i g
      obtain ⟨g1, g2⟩ := got_put g
      obtain ⟨i1, i2⟩ := all_join r _ h
      rw [allL, joinP, joinL, allR, if_pos g1, List.append_assoc, i2, g2, List.take_append_drop]
      exact ⟨i1, rfl⟩
    · rename_i g; exact absurd h g
theorem joinE_ok {ks : List Int} {ns : List Nat} (h : joinE ks ns = 0) : ks.length = ns.length ∧ joinP ks ns = 0 ∧ joinS ks ns = joinL ks ns := by
  refine ⟨?_, ?_, if_pos h⟩
  · unfold joinE at h; split at h
    · assumption
    · simp at h
  · unfold joinE at h; split at h
    · exact h
    · simp at h
theorem join_back {ks : List Int} {ns : List Nat} (h : joinE ks ns = 0) (t : List UInt8) : allE (joinS ks ns ++ t) ks = 0 ∧ allV (joinS ks ns ++ t) ks = ns ∧ allT (joinS ks ns ++ t) ks = t := by
  obtain ⟨h1, h2, h3⟩ := joinE_ok h
  rw [h3]
  obtain ⟨i1, i2, i3⟩ := join_all ks ns t h1 h2
  unfold allV allT
  rw [if_pos i1, if_pos i1]
  exact ⟨i1, i2, i3⟩
theorem all_back {ks : List Int} {s : List UInt8} (h : allE s ks = 0) : joinE ks (allV s ks) = 0 ∧ joinS ks (allV s ks) ++ allT s ks = s := by
  obtain ⟨i1, i2⟩ := all_join ks s h
  have e1 : allV s ks = allL s ks := if_pos h
  have e2 : allT s ks = allR s ks := if_pos h
  have e3 : joinE ks (allL s ks) = 0 := by unfold joinE; rw [if_pos (allL_len s ks).symm]; exact i1
  rw [e1, e2]
  exact ⟨e3, by rw [(joinE_ok e3).2.2]; exact i2⟩
end Go.Proofs.Ythhbaccbhfngbaa
