/- Fields: the plain model: widths, the bytes of a number, the number of bytes, several of them. Entries: the plain model: what is right, the bytes of an entry, and the entry of bytes. -/
import Derived.Test.YtngkbcaflkinhaaDoorKit
namespace Go.Proofs.YtngkbcaflkinhaaDoor

/-- A width. -/
def isW (k : Int) : Bool := decide (k = 1 ∨ k = 2 ∨ k = 4 ∨ k = 8)
/-- The lowest k bytes of n, the lowest one first. -/
def leB : Nat → Nat → List UInt8
  | 0, _ => []
  | k + 1, n => UInt8.ofNat n :: leB k (n / 256)
/-- The number of bytes. -/
def leN : List UInt8 → Nat
  | [] => 0
  | b :: r => b.toNat + 256 * leN r
theorem isW_iff {k : Int} : isW k = true ↔ (k = 1 ∨ k = 2 ∨ k = 4 ∨ k = 8) := by unfold isW; simp
theorem leB_len : ∀ k n, (leB k n).length = k
  | 0, _ => rfl
  | k + 1, n => by rw [leB, List.length_cons, leB_len k]
theorem leB_at : ∀ (k n j : Nat), j < k → (leB k n).getD j 0 = UInt8.ofNat (n / 256 ^ j)
  | k + 1, n, 0, _ => by simp [leB]
  | k + 1, n, j + 1, h => by
    have := leB_at k (n / 256) j (by omega)
    rw [leB, List.getD_cons_succ, this, Nat.div_div_eq_div_mul, Nat.pow_succ, Nat.mul_comm 256]
theorem leB_snoc : ∀ k n, leB (k + 1) n = leB k n ++ [UInt8.ofNat (n / 256 ^ k)]
  | 0, n => by simp [leB]
  | k + 1, n => by
    rw [leB, leB_snoc k (n / 256), leB, Nat.div_div_eq_div_mul, Nat.pow_succ, Nat.mul_comm 256]; rfl
theorem leN_lt : ∀ l : List UInt8, leN l < 256 ^ l.length
  | [] => by simp [leN]
  | b :: r => by
    have := leN_lt r
    have hb := b.toNat_lt
    rw [leN, List.length_cons, Nat.pow_succ]; omega
theorem leN_snoc : ∀ (l : List UInt8) (b : UInt8), leN (l ++ [b]) = leN l + 256 ^ l.length * b.toNat
  | [], b => by simp [leN]
  | a :: r, b => by
    have := leN_snoc r b
    rw [List.cons_append, leN, this, leN, List.length_cons, Nat.pow_succ]
    rw [Nat.mul_add, ← Nat.mul_assoc, Nat.mul_comm 256 (256 ^ r.length)]; omega
theorem leN_leB : ∀ (k n : Nat), n < 256 ^ k → leN (leB k n) = n
  | 0, n, h => by simp at h; simp [leB, leN, h]
  | k + 1, n, h => by
    rw [Nat.pow_succ] at h
    rw [leB, leN, leN_leB k (n / 256) (by omega), UInt8.toNat_ofNat']
    omega
theorem leB_leN : ∀ l : List UInt8, leB l.length (leN l) = l
  | [] => rfl
  | b :: r => by
    have hb := b.toNat_lt
    rw [List.length_cons, leB, leN]
    rw [show (b.toNat + 256 * leN r) / 256 = leN r by omega, leB_leN r]
    congr 1
    have : (b.toNat + 256 * leN r) % 256 = b.toNat := by omega
    exact UInt8.toNat_inj.1 (by rw [UInt8.toNat_ofNat']; exact this)

/-! ### one field -/
def putE (k : Int) (n : Nat) : Int := if isW k = true ∧ n < 256 ^ k.toNat then 0 else 1
def putS (k : Int) (n : Nat) : List UInt8 := if isW k = true ∧ n < 256 ^ k.toNat then leB k.toNat n else []
def getE (k : Int) (s : List UInt8) : Int := if isW k = true then (if k.toNat ≤ s.length then 0 else 5) else 1
def getN (k : Int) (s : List UInt8) : Nat := if isW k = true ∧ k.toNat ≤ s.length then leN (s.take k.toNat) else 0
def textE (t : List UInt8) : Int := if t.length ≤ 32 then 0 else 7
def textS (t : List UInt8) : List UInt8 := if t.length ≤ 32 then UInt8.ofNat t.length :: t else []
theorem getE_ok {k : Int} {s : List UInt8} : getE k s = 0 ↔ isW k = true ∧ k.toNat ≤ s.length := by
  unfold getE; split
  · split <;> simp_all
  · simp_all
theorem putE_ok {k : Int} {n : Nat} : putE k n = 0 ↔ isW k = true ∧ n < 256 ^ k.toNat := by
  unfold putE; split <;> simp_all
theorem putS_ok {k : Int} {n : Nat} (h : putE k n = 0) : putS k n = leB k.toNat n := if_pos (putE_ok.1 h)
theorem getN_ok {k : Int} {s : List UInt8} (h : getE k s = 0) : getN k s = leN (s.take k.toNat) := if_pos (getE_ok.1 h)
theorem isW_le {k : Int} (h : isW k = true) : 1 ≤ k ∧ k ≤ 8 := by rcases isW_iff.1 h with h | h | h | h <;> omega
theorem getN_lt {k : Int} {s : List UInt8} : getN k s < 18446744073709551616 := by
  unfold getN
  split
  · rename_i h
    have h1 := leN_lt (s.take k.toNat)
    rw [List.length_take, Nat.min_eq_left h.2] at h1
    rcases isW_iff.1 h.1 with e | e | e | e <;> subst e <;> simp at h1 ⊢ <;> omega
  · omega

/-! ### several -/
def allE : List UInt8 → List Int → Int
  | _, [] => 0
  | s, k :: r => if getE k s = 0 then allE (s.drop k.toNat) r else getE k s
def allL : List UInt8 → List Int → List Nat
  | _, [] => []
  | s, k :: r => getN k s :: allL (s.drop k.toNat) r
def allR : List UInt8 → List Int → List UInt8
  | s, [] => s
  | s, k :: r => allR (s.drop k.toNat) r
def allV (s : List UInt8) (ks : List Int) : List Nat := if allE s ks = 0 then allL s ks else []
def allT (s : List UInt8) (ks : List Int) : List UInt8 := if allE s ks = 0 then allR s ks else []
theorem allE_app : ∀ (s : List UInt8) (a b : List Int), allE s (a ++ b) = if allE s a = 0 then allE (allR s a) b else allE s a
  | s, [], b => by simp [allE, allR]
  | s, k :: r, b => by
    rw [List.cons_append, allE, allE, allR, allE_app]
    by_cases h : getE k s = 0
    · rw [if_pos h, if_pos h]
    · rw [if_neg h, if_neg h, if_neg h]
theorem allL_app : ∀ (s : List UInt8) (a b : List Int), allL s (a ++ b) = allL s a ++ allL (allR s a) b
  | s, [], b => by simp [allL, allR]
  | s, k :: r, b => by rw [List.cons_append, allL, allL, allR, allL_app]; rfl
theorem allR_app : ∀ (s : List UInt8) (a b : List Int), allR s (a ++ b) = allR (allR s a) b
  | s, [], b => by simp [allR]
  | s, k :: r, b => by rw [List.cons_append, allR, allR, allR_app]
theorem allL_len : ∀ (s : List UInt8) (a : List Int), (allL s a).length = a.length
  | _, [] => rfl
  | s, k :: r => by rw [allL, List.length_cons, List.length_cons, allL_len]
theorem allR_le : ∀ (s : List UInt8) (a : List Int), (allR s a).length ≤ s.length
  | _, [] => Nat.le_refl _
  | s, k :: r => by rw [allR]; refine Nat.le_trans (allR_le _ _) ?_; rw [List.length_drop]; omega
theorem allL_lt : ∀ (s : List UInt8) (a : List Int), ∀ x ∈ allL s a, x < 18446744073709551616
  | _, [], _, h => by cases h
  | s, k :: r, x, h => by
    rw [allL, List.mem_cons] at h
    rcases h with rfl | h
    · exact getN_lt
    · exact allL_lt _ _ x h
theorem take_snocI {L : List Int} {k : Nat} (hk : k < L.length) : L.take (k + 1) = L.take k ++ [L.getD k 0] := by
  rw [List.take_succ_eq_append_getElem hk, List.getD, List.getElem?_eq_getElem hk]; rfl
/-- One step. -/
theorem all_step {s : List UInt8} {ks : List Int} {j : Nat} (hj : j < ks.length) (h0 : allE s (ks.take j) = 0) :
    allE s (ks.take (j + 1)) = getE (ks.getD j 0) (allR s (ks.take j)) ∧ allL s (ks.take (j + 1)) = allL s (ks.take j) ++ [getN (ks.getD j 0) (allR s (ks.take j))] ∧ allR s (ks.take (j + 1)) = (allR s (ks.take j)).drop (ks.getD j 0).toNat := by
  rw [take_snocI hj, allE_app, allL_app, allR_app, if_pos h0]
  refine ⟨?_, rfl, rfl⟩
  rw [allE, allE]
  by_cases h : getE (ks.getD j 0) (allR s (ks.take j)) = 0
  · rw [if_pos h, h]
  · rw [if_neg h]
/-- An error is the first one. -/
theorem all_stop {s : List UInt8} {ks : List Int} {j : Nat} (hj : j < ks.length) (h0 : allE s (ks.take j) = 0) (he : getE (ks.getD j 0) (allR s (ks.take j)) ≠ 0) :
    allE s ks = getE (ks.getD j 0) (allR s (ks.take j)) := by
  have h1 := (all_step hj h0).1
  have h2 : allE s ks = allE s (ks.take (j + 1) ++ ks.drop (j + 1)) := by rw [List.take_append_drop]
  rw [h2, allE_app, if_neg (by rw [h1]; exact he), h1]

def joinP : List Int → List Nat → Int
  | [], _ => 0
  | _ :: _, [] => 0
  | k :: r, n :: m => if putE k n = 0 then joinP r m else putE k n
def joinL : List Int → List Nat → List UInt8
  | [], _ => []
  | _ :: _, [] => []
  | k :: r, n :: m => leB k.toNat n ++ joinL r m
def joinE (ks : List Int) (ns : List Nat) : Int := if ks.length = ns.length then joinP ks ns else 2
def joinS (ks : List Int) (ns : List Nat) : List UInt8 := if joinE ks ns = 0 then joinL ks ns else []
theorem take_snocN {L : List Nat} {k : Nat} (hk : k < L.length) : L.take (k + 1) = L.take k ++ [L.getD k 0] := by
  rw [List.take_succ_eq_append_getElem hk, List.getD, List.getElem?_eq_getElem hk]; rfl
theorem joinP_app : ∀ (a : List Int) (x : List Nat) (b : List Int) (y : List Nat), a.length = x.length → joinP (a ++ b) (x ++ y) = if joinP a x = 0 then joinP b y else joinP a x
  | [], [], b, y, _ => by simp [joinP]
  | k :: r, n :: m, b, y, h => by
    rw [List.cons_append, List.cons_append, joinP, joinP, joinP_app r m b y (by simpa using h)]
    by_cases g : putE k n = 0
    · rw [if_pos g, if_pos g]
    · rw [if_neg g, if_neg g, if_neg g]
  | [], _ :: _, _, _, h => by simp at h
  | _ :: _, [], _, _, h => by simp at h
theorem joinL_app : ∀ (a : List Int) (x : List Nat) (b : List Int) (y : List Nat), a.length = x.length → joinL (a ++ b) (x ++ y) = joinL a x ++ joinL b y
  | [], [], b, y, _ => by simp [joinL]
  | k :: r, n :: m, b, y, h => by rw [List.cons_append, List.cons_append, joinL, joinL, joinL_app r m b y (by simpa using h), List.append_assoc]
  | [], _ :: _, _, _, h => by simp at h
  | _ :: _, [], _, _, h => by simp at h
theorem join_step {ks : List Int} {ns : List Nat} {j : Nat} (hl : ks.length = ns.length) (hj : j < ks.length) (h0 : joinP (ks.take j) (ns.take j) = 0) :
    joinP (ks.take (j + 1)) (ns.take (j + 1)) = putE (ks.getD j 0) (ns.getD j 0) ∧ joinL (ks.take (j + 1)) (ns.take (j + 1)) = joinL (ks.take j) (ns.take j) ++ leB (ks.getD j 0).toNat (ns.getD j 0) := by
  rw [take_snocI hj, take_snocN (by omega), joinP_app _ _ _ _ (by simp; omega), joinL_app _ _ _ _ (by simp; omega), if_pos h0]
  refine ⟨?_, by simp [joinL]⟩
  rw [joinP, joinP]
  by_cases h : putE (ks.getD j 0) (ns.getD j 0) = 0
  · rw [if_pos h, h]
  · rw [if_neg h]
theorem join_stop {ks : List Int} {ns : List Nat} {j : Nat} (hl : ks.length = ns.length) (hj : j < ks.length) (h0 : joinP (ks.take j) (ns.take j) = 0) (he : putE (ks.getD j 0) (ns.getD j 0) ≠ 0) :
    joinE ks ns = putE (ks.getD j 0) (ns.getD j 0) := by
  have h1 := (join_step hl hj h0).1
  have h2 : joinP ks ns = joinP (ks.take (j + 1) ++ ks.drop (j + 1)) (ns.take (j + 1) ++ ns.drop (j + 1)) := by rw [List.take_append_drop, List.take_append_drop]
  unfold joinE
  rw [if_pos hl, h2, joinP_app _ _ _ _ (by simp; omega), if_neg (by rw [h1]; exact he), h1]
theorem joinL_len : ∀ (a : List Int) (x : List Nat), joinP a x = 0 → (joinL a x).length ≤ 8 * a.length
  | [], _, _ => by simp [joinL]
  | _ :: _, [], _ => by simp [joinL]
  | k :: r, n :: m, h => by
    rw [joinP] at h
    split at h
    · rename_i g
      have h1 := joinL_len r m h
      have h2 := isW_le (putE_ok.1 g).1
      rw [joinL, List.length_append, leB_len, List.length_cons]; omega
    · rename_i g; exact absurd h g

/-! ### there and back -/
theorem put_got {k : Int} {n : Nat} (h : putE k n = 0) (t : List UInt8) : getE k (leB k.toNat n ++ t) = 0 ∧ getN k (leB k.toNat n ++ t) = n ∧ (leB k.toNat n ++ t).drop k.toNat = t := by
  obtain ⟨h1, h2⟩ := putE_ok.1 h
  have hl := leB_len k.toNat n
  have hg : getE k (leB k.toNat n ++ t) = 0 := getE_ok.2 ⟨h1, by rw [List.length_append]; omega⟩
  refine ⟨hg, ?_, ?_⟩
  · rw [getN_ok hg, List.take_append_of_le_length (by omega), List.take_of_length_le (by omega), leN_leB _ _ h2]
  · rw [List.drop_append_of_le_length (by omega), List.drop_of_length_le (by omega), List.nil_append]
theorem got_put {k : Int} {s : List UInt8} (h : getE k s = 0) : putE k (getN k s) = 0 ∧ leB k.toNat (getN k s) = s.take k.toNat := by
  obtain ⟨h1, h2⟩ := getE_ok.1 h
  have hl : (s.take k.toNat).length = k.toNat := by rw [List.length_take]; omega
  have h3 := leN_lt (s.take k.toNat)
  have h4 := leB_leN (s.take k.toNat)
  rw [hl] at h3 h4
  rw [getN_ok h]
  exact ⟨putE_ok.2 ⟨h1, h3⟩, h4⟩
theorem join_all : ∀ (ks : List Int) (ns : List Nat) (t : List UInt8), ks.length = ns.length → joinP ks ns = 0 → allE (joinL ks ns ++ t) ks = 0 ∧ allL (joinL ks ns ++ t) ks = ns ∧ allR (joinL ks ns ++ t) ks = t
  | [], [], t, _, _ => by simp [joinL, allE, allL, allR]
  | k :: r, n :: m, t, hl, h => by
    rw [joinP] at h
    split at h
    · rename_i g
      obtain ⟨g1, g2, g3⟩ := put_got g (joinL r m ++ t)
      obtain ⟨i1, i2, i3⟩ := join_all r m t (by simpa using hl) h
      rw [joinL, List.append_assoc, allE, allL, allR, if_pos g1, g2, g3, i1, i2, i3]
      exact ⟨rfl, rfl, rfl⟩
    · rename_i g; exact absurd h g
  | [], _ :: _, _, h, _ => by simp at h
  | _ :: _, [], _, h, _ => by simp at h
theorem all_join : ∀ (ks : List Int) (s : List UInt8), allE s ks = 0 → joinP ks (allL s ks) = 0 ∧ joinL ks (allL s ks) ++ allR s ks = s
  | [], s, _ => by simp [joinP, joinL, allR]
  | k :: r, s, h => by
    rw [allE] at h
    split at h
    · rename_i g
      obtain ⟨g1, g2⟩ := got_put g
      obtain ⟨i1, i2⟩ := all_join r _ h
      rw [allL, joinP, joinL, allR, if_pos g1, List.append_assoc, i2, g2, List.take_append_drop]
      exact ⟨i1, rfl⟩
    · rename_i g; exact absurd h g
theorem joinE_ok {ks : List Int} {ns : List Nat} (h : joinE ks ns = 0) : ks.length = ns.length ∧ joinP ks ns = 0 ∧ joinS ks ns = joinL ks ns := by
  refine ⟨?_, ?_, if_pos h⟩
  · unfold joinE at h; split at h
    · assumption
    · simp at h
  · unfold joinE at h; split at h
    · exact h
    · simp at h
theorem join_back {ks : List Int} {ns : List Nat} (h : joinE ks ns = 0) (t : List UInt8) : allE (joinS ks ns ++ t) ks = 0 ∧ allV (joinS ks ns ++ t) ks = ns ∧ allT (joinS ks ns ++ t) ks = t := by
  obtain ⟨h1, h2, h3⟩ := joinE_ok h
  rw [h3]
  obtain ⟨i1, i2, i3⟩ := join_all ks ns t h1 h2
  unfold allV allT
  rw [if_pos i1, if_pos i1]
  exact ⟨i1, i2, i3⟩
theorem all_back {ks : List Int} {s : List UInt8} (h : allE s ks = 0) : joinE ks (allV s ks) = 0 ∧ joinS ks (allV s ks) ++ allT s ks = s := by
  obtain ⟨i1, i2⟩ := all_join ks s h
  have e1 : allV s ks = allL s ks := if_pos h
  have e2 : allT s ks = allR s ks := if_pos h
  have e3 : joinE ks (allL s ks) = 0 := by unfold joinE; rw [if_pos (allL_len s ks).symm]; exact i1
  rw [e1, e2]
  exact ⟨e3, by rw [(joinE_ok e3).2.2]; exact i2⟩
end Go.Proofs.YtngkbcaflkinhaaDoor
namespace Go.Proofs.YtngkbcaflkinhaaDoor
open Go.RowKit

/-- An entry. -/
structure EN where
  kind : Int
  st : Int
  mb : Int
  fr : Int
deriving DecidableEq
def EN.zero : EN := ⟨0, 0, 0, 0⟩
def EN.cells (p : EN) : List Value := [.int .u8 p.kind, .int .i64 p.st, .int .i64 p.mb, .int .i64 p.fr]
def EN.v (p : EN) : Value := .agg #[.int .u8 p.kind, .int .i64 p.st, .int .i64 p.mb, .int .i64 p.fr]
def PlOk (st mb : Int) : Prop := (0 ≤ st ∧ st < 2147483648) ∧ (0 ≤ mb ∧ mb < 255)
instance (a b : Int) : Decidable (PlOk a b) := by unfold PlOk; infer_instance
def EOk (p : EN) : Prop := (p.kind = 0 ∧ p.st = 0 ∧ p.mb = 0 ∧ p.fr = 0) ∨ (p.kind = 1 ∧ PlOk p.st p.mb ∧ p.fr = 0) ∨ (p.kind = 2 ∧ (1 ≤ p.fr ∧ p.fr ≤ 1073741824) ∧ p.st = 0 ∧ p.mb = 0)
instance (p : EN) : Decidable (EOk p) := by unfold EOk; infer_instance
def entE (p : EN) : Int := if EOk p then 0 else 2
/-- It has bytes. -/
def EB (p : EN) : Prop := EOk p ∧ p.kind ≠ 2
instance (p : EN) : Decidable (EB p) := by unfold EB; infer_instance
def entN (p : EN) : Nat := if p.kind = 0 then 0 else (p.st + 1).toNat + 4294967296 * p.mb.toNat
def entBE (p : EN) : Int := if EB p then 0 else 2
def entBL (p : EN) : List UInt8 := if EB p then leB 8 (entN p) else []
def ofN (n : Nat) : EN := if n = 0 then EN.zero else ⟨1, ((n % 4294967296 : Nat) : Int) - 1, ((n / 4294967296 : Nat) : Int), 0⟩
/-- These bytes are an entry's. -/
def EP (s : List UInt8) : Prop := s.length = 8 ∧ EOk (ofN (leN s))
instance (s : List UInt8) : Decidable (EP s) := by unfold EP; infer_instance
def entP (s : List UInt8) : EN := if EP s then ofN (leN s) else EN.zero
def entPE (s : List UInt8) : Int := if EP s then 0 else 6

theorem eb_cases {p : EN} (h : EB p) : p = EN.zero ∨ (p.kind = 1 ∧ PlOk p.st p.mb ∧ p.fr = 0) := by
  obtain ⟨h1, h2⟩ := h
  rcases h1 with ⟨a, b, c, d⟩ | h1 | ⟨a, _⟩
  · left; obtain ⟨k, s, m, f⟩ := p; simp_all [EN.zero]
  · exact .inr h1
  · exact absurd a h2
theorem entN_lt {p : EN} (h : EB p) : entN p < 18446744073709551616 := by
  unfold entN
  rcases eb_cases h with rfl | ⟨a, ⟨⟨b, c⟩, d, e⟩, _⟩
  · simp [EN.zero]
  · rw [if_neg (by omega)]; omega
theorem ofN_entN {p : EN} (h : EB p) : ofN (entN p) = p := by
  rcases eb_cases h with rfl | ⟨a, ⟨⟨b, c⟩, d, e⟩, f⟩
  · rfl
  · unfold ofN entN
    rw [if_neg (show ¬ p.kind = 0 by omega), if_neg (by omega)]
    obtain ⟨k, s, m, f'⟩ := p
    dsimp only at *
    subst a f
    congr 1
    · omega
    · omega
theorem eb_ofN {n : Nat} (h : EOk (ofN n)) : EB (ofN n) := by
  refine ⟨h, ?_⟩
  unfold ofN
  split
  · decide
  · exact fun e : (1 : Int) = 2 => absurd e (by decide)
theorem entN_ofN {n : Nat} (h : EOk (ofN n)) : entN (ofN n) = n := by
  by_cases h0 : n = 0
  · subst h0; rfl
  · unfold ofN entN
    rw [if_neg h0]
    dsimp only
    rw [if_neg (by omega)]
    unfold ofN at h
    rw [if_neg h0] at h
    rcases h with ⟨a, _⟩ | ⟨_, ⟨⟨a, b⟩, c, d⟩, _⟩ | ⟨a, _⟩
    · exact absurd (show (1 : Int) = _ from a) (by decide)
    · dsimp only at a b c d; omega
    · exact absurd (show (1 : Int) = _ from a) (by decide)
theorem entBL_len {p : EN} (h : EB p) : (entBL p).length = 8 := by unfold entBL; rw [if_pos h, leB_len]
/-- There and back. -/
theorem ent_back {p : EN} (h : EB p) : EP (entBL p) ∧ entP (entBL p) = p := by
  have h1 : leN (entBL p) = entN p := by unfold entBL; rw [if_pos h, leN_leB _ _ (by have := entN_lt h; exact this)]
  have h2 : EP (entBL p) := ⟨entBL_len h, by rw [h1, ofN_entN h]; exact h.1⟩
  exact ⟨h2, by unfold entP; rw [if_pos h2, h1, ofN_entN h]⟩
theorem ent_forth {s : List UInt8} (h : EP s) : EB (entP s) ∧ entBL (entP s) = s := by
  have e : entP s = ofN (leN s) := if_pos h
  have hb : EB (ofN (leN s)) := eb_ofN h.2
  rw [e]
  refine ⟨hb, ?_⟩
  unfold entBL
  rw [if_pos hb, entN_ofN h.2]
  have := leB_leN s
  rwa [h.1] at this
theorem entP_ok (s : List UInt8) : EOk (entP s) := by
  unfold entP; split
  · rename_i h; exact h.2
  · exact .inl ⟨rfl, rfl, rfl, rfl⟩

/-! ### the document's way -/
def joinK : List Int := [4, 1, 1, 1, 1]
def refN (p : EN) : List Nat := [if p.kind = 1 then (p.st + 1).toNat else 0, p.mb.toNat, 0, 0, 0]
theorem leB_app : ∀ (a b n : Nat), leB (a + b) n = leB a n ++ leB b (n / 256 ^ a)
  | 0, b, n => by simp [leB]
  | a + 1, b, n => by
    rw [show a + 1 + b = (a + b) + 1 by omega, leB, leB_app a b, leB, List.cons_append, Nat.div_div_eq_div_mul, Nat.pow_succ, Nat.mul_comm 256]
theorem leB_mod : ∀ (k n : Nat), leB k (n % 256 ^ k) = leB k n
  | 0, n => rfl
  | k + 1, n => by
    rw [leB, leB, ← leB_mod k (n / 256)]
    have e1 : UInt8.ofNat (n % 256 ^ (k + 1)) = UInt8.ofNat n := by
      apply UInt8.toNat_inj.1
      rw [UInt8.toNat_ofNat', UInt8.toNat_ofNat', Nat.mod_mod_of_dvd _ (by rw [Nat.pow_succ]; exact Nat.dvd_mul_left _ _)]
    have e2 : n % 256 ^ (k + 1) / 256 = n / 256 % 256 ^ k := by
      rw [Nat.pow_succ, Nat.mul_comm, Nat.mod_mul_right_div_self]
    rw [e1, e2]
theorem ref_join {p : EN} (h : EB p) : joinE joinK (refN p) = 0 ∧ joinS joinK (refN p) = entBL p := by
  have hn : entN p = (if p.kind = 1 then (p.st + 1).toNat else 0) + 4294967296 * p.mb.toNat ∧ (if p.kind = 1 then (p.st + 1).toNat else 0) < 4294967296 ∧ p.mb.toNat < 256 := by
    unfold entN
    rcases eb_cases h with rfl | ⟨a, ⟨⟨b, c⟩, d, e⟩, _⟩
    · decide
    · rw [if_neg (by omega), if_pos a]; omega
  obtain ⟨h1, h2, h3⟩ := hn
  unfold entBL refN
  rw [if_pos h, h1]
  generalize (if p.kind = 1 then (p.st + 1).toNat else 0) = a at *
  generalize p.mb.toNat = b at *
  have p4 : putE 4 a = 0 := putE_ok.2 ⟨by decide, by show a < 256 ^ 4; omega⟩
  have p1 : putE 1 b = 0 := putE_ok.2 ⟨by decide, by show b < 256 ^ 1; omega⟩
  have p0 : putE 1 0 = 0 := putE_ok.2 ⟨by decide, by decide⟩
  have hE : joinE joinK [a, b, 0, 0, 0] = 0 := by
    unfold joinE joinK; rw [if_pos (show [(4 : Int), 1, 1, 1, 1].length = [a, b, 0, 0, 0].length from rfl)]; simp only [joinP, p4, p1, p0, if_true]
  refine ⟨hE, ?_⟩
  unfold joinS
  rw [if_pos hE]
  unfold joinK
  simp only [joinL]
  have e1 := leB_app 4 4 (a + 4294967296 * b)
  have e2 := leB_app 1 3 b
  have e3 : (a + 4294967296 * b) / 256 ^ 4 = b := by show (a + 4294967296 * b) / 4294967296 = b; omega
  have e4 : leB 4 (a + 4294967296 * b) = leB 4 a := by rw [← leB_mod 4 (a + 4294967296 * b), ← leB_mod 4 a]; congr 1; show (a + 4294967296 * b) % 4294967296 = a % 4294967296; omega
  have e5 : b / 256 ^ 1 = 0 := by show b / 256 = 0; omega
  rw [show (8 : Nat) = 4 + 4 from rfl, e1, e3, e4, show leB 4 b = leB (1 + 3) b from rfl, e2, e5]
  rfl
def refE (s : List UInt8) : EN := if 0 < leN (s.take 4) then ⟨1, (leN (s.take 4) : Int) - 1, (leN ((s.drop 4).take 1) : Int), 0⟩ else EN.zero
theorem leN_app : ∀ (a b : List UInt8), leN (a ++ b) = leN a + 256 ^ a.length * leN b
  | [], b => by simp [leN]
  | x :: r, b => by
    rw [List.cons_append, leN, leN_app r b, leN, List.length_cons, Nat.pow_succ, Nat.mul_add, ← Nat.mul_assoc, Nat.mul_comm 256 (256 ^ r.length)]; omega
theorem ref_parts {s : List UInt8} (hs : s.length = 8) : leN s = leN (s.take 4) + 4294967296 * (leN ((s.drop 4).take 1) + 256 * leN (s.drop 5)) ∧ leN (s.take 4) < 4294967296 ∧ leN ((s.drop 4).take 1) < 256 := by
  have h1 := leN_app (s.take 4) (s.drop 4)
  have h2 := leN_app ((s.drop 4).take 1) ((s.drop 4).drop 1)
  rw [List.take_append_drop] at h1 h2
  rw [List.drop_drop] at h2
  have l1 : (s.take 4).length = 4 := by rw [List.length_take]; omega
  have l2 : ((s.drop 4).take 1).length = 1 := by rw [List.length_take, List.length_drop]; omega
  have b1 := leN_lt (s.take 4)
  have b2 := leN_lt ((s.drop 4).take 1)
  rw [l1] at h1 b1
  rw [l2] at h2 b2
  rw [h1, h2]
  exact ⟨rfl, b1, b2⟩
theorem refE_same {s : List UInt8} (hs : s.length = 8) : (EB (refE s) ∧ entBL (refE s) = s) ↔ EP s := by
  obtain ⟨h1, h2, h3⟩ := ref_parts hs
  constructor
  · rintro ⟨hb, he⟩
    rw [← he]; exact (ent_back hb).1
  · intro h
    have hk := h.2
    have : refE s = ofN (leN s) := by
      unfold refE ofN
      generalize leN (s.take 4) = a at *
      generalize leN ((s.drop 4).take 1) = b at *
      generalize leN (s.drop 5) = c at *
      by_cases h0 : leN s = 0
      · rw [if_neg (by omega), if_pos h0]
      · unfold ofN at hk
        rw [if_neg h0] at hk ⊢
        rcases hk with ⟨q, _⟩ | ⟨_, ⟨⟨q1, q2⟩, q3, q4⟩, _⟩ | ⟨q, _⟩
        · exact absurd (show (1 : Int) = _ from q) (by decide)
        · dsimp only at q1 q2 q3 q4
          rw [if_pos (by omega)]
          congr 1
          · omega
          · omega
        · exact absurd (show (1 : Int) = _ from q) (by decide)
    rw [this]
    have e : entP s = ofN (leN s) := if_pos h
    rw [← e]
    exact ent_forth h
theorem refE_val {s : List UInt8} (hs : s.length = 8) (h : EP s) : refE s = entP s := by
  have h1 := (refE_same hs).2 h
  have h2 := (ent_back h1.1).2
  rw [h1.2] at h2
  exact h2.symm

/-! ### several -/
def tabE (l : List EN) : Int := if l.length ≤ 8192 then (if ∀ p ∈ l, EB p then 0 else 2) else 7
def tabL (l : List EN) : List UInt8 := if tabE l = 0 then l.flatMap entBL else []
def chunk (s : List UInt8) (j : Nat) : List UInt8 := (s.drop (8 * j)).take 8
def ptOk (s : List UInt8) : Prop := s.length % 8 = 0 ∧ s.length / 8 ≤ 8192 ∧ ∀ j, j < s.length / 8 → EP (chunk s j)
instance (s : List UInt8) : Decidable (ptOk s) := by unfold ptOk; infer_instance
def ptE (s : List UInt8) : Int := if ptOk s then 0 else 6
def ptR (s : List UInt8) (j : Nat) : List EN := (List.range j).map fun i => entP (chunk s i)
def ptL (s : List UInt8) : List EN := if ptOk s then ptR s (s.length / 8) else []
theorem tabE_ok {l : List EN} : tabE l = 0 ↔ l.length ≤ 8192 ∧ ∀ p ∈ l, EB p := by
  unfold tabE; split
  · rename_i g; split <;> simp_all
  · rename_i g; exact ⟨fun e => absurd e (by decide), fun e => absurd e.1 g⟩
theorem flat_len : ∀ (l : List EN), (∀ p ∈ l, EB p) → (l.flatMap entBL).length = 8 * l.length
  | [], _ => rfl
  | p :: r, h => by
    rw [List.flatMap_cons, List.length_append, entBL_len (h p (List.mem_cons_self ..)), flat_len r (fun q hq => h q (List.mem_cons_of_mem _ hq)), List.length_cons]; omega
theorem flat_chunk : ∀ (l : List EN), (∀ p ∈ l, EB p) → ∀ j, j < l.length → chunk (l.flatMap entBL) j = entBL (l.getD j EN.zero)
  | p :: r, h, 0, _ => by
    have hp := entBL_len (h p (List.mem_cons_self ..))
    unfold chunk
    rw [List.flatMap_cons, Nat.mul_zero, List.drop_zero, List.take_append_of_le_length (by omega), List.take_of_length_le (by omega)]; rfl
  | p :: r, h, j + 1, hj => by
    have hp := entBL_len (h p (List.mem_cons_self ..))
    have := flat_chunk r (fun q hq => h q (List.mem_cons_of_mem _ hq)) j (by simpa using hj)
    rw [List.getD_cons_succ, ← this]
    unfold chunk
    rw [List.flatMap_cons, show 8 * (j + 1) = 8 + 8 * j by omega, ← List.drop_drop, List.drop_append_of_le_length (Nat.le_of_eq hp.symm), List.drop_of_length_le (Nat.le_of_eq hp), List.nil_append]
theorem ptR_len (s : List UInt8) (j : Nat) : (ptR s j).length = j := by unfold ptR; simp
theorem ptR_succ (s : List UInt8) (j : Nat) : ptR s (j + 1) = ptR s j ++ [entP (chunk s j)] := by unfold ptR; rw [List.range_succ, List.map_append]; rfl
theorem ptR_at (s : List UInt8) {j n : Nat} (h : j < n) : (ptR s n).getD j EN.zero = entP (chunk s j) := by
  unfold ptR; rw [List.getD, List.getElem?_map, List.getElem?_range h]; rfl
theorem tab_back {l : List EN} (h : tabE l = 0) : ptOk (tabL l) ∧ ptL (tabL l) = l ∧ (tabL l).length = 8 * l.length := by
  obtain ⟨h1, h2⟩ := tabE_ok.1 h
  have e : tabL l = l.flatMap entBL := if_pos h
  have hl := flat_len l h2
  have hq : (l.flatMap entBL).length / 8 = l.length := by omega
  have hp : ptOk (l.flatMap entBL) := by
    refine ⟨by omega, by omega, fun j hj => ?_⟩
    rw [flat_chunk l h2 j (by omega)]
    have hj' : j < l.length := by omega
    exact (ent_back (h2 _ (by rw [List.getD, List.getElem?_eq_getElem hj']; exact List.getElem_mem _))).1
  rw [e]
  refine ⟨hp, ?_, hl⟩
  unfold ptL
  rw [if_pos hp, hq]
  apply List.ext_getElem
  · rw [ptR_len]
  · intro j hj1 hj2
    have := ptR_at (l.flatMap entBL) (j := j) (n := l.length) hj2
    rw [List.getD, List.getElem?_eq_getElem (by rw [ptR_len]; exact hj2), Option.getD_some] at this
    rw [this, flat_chunk l h2 j hj2, (ent_back (h2 _ (by rw [List.getD, List.getElem?_eq_getElem hj2]; exact List.getElem_mem _))).2, List.getD, List.getElem?_eq_getElem hj2]; rfl
theorem chunks_flat (s : List UInt8) : ∀ n, 8 * n ≤ s.length → (List.range n).flatMap (chunk s) = s.take (8 * n)
  | 0, _ => by simp
  | n + 1, h => by
    rw [List.range_succ, List.flatMap_append, chunks_flat s n (by omega), List.flatMap_singleton]
    unfold chunk
    rw [show 8 * (n + 1) = 8 * n + 8 by omega, List.take_add]
theorem tab_forth {s : List UInt8} (h : ptOk s) : tabE (ptL s) = 0 ∧ tabL (ptL s) = s := by
  obtain ⟨h1, h2, h3⟩ := h
  have e : ptL s = ptR s (s.length / 8) := if_pos ⟨h1, h2, h3⟩
  have hE : tabE (ptL s) = 0 := by
    rw [e]
    refine tabE_ok.2 ⟨by rw [ptR_len]; exact h2, fun p hp => ?_⟩
    unfold ptR at hp
    obtain ⟨i, hi, rfl⟩ := List.mem_map.1 hp
    exact (ent_forth (h3 i (List.mem_range.1 hi))).1
  refine ⟨hE, ?_⟩
  unfold tabL
  rw [if_pos hE, e]
  unfold ptR
  rw [List.flatMap_map]
  have : (List.range (s.length / 8)).flatMap (fun i => entBL (entP (chunk s i))) = (List.range (s.length / 8)).flatMap (chunk s) := by
    unfold List.flatMap
    congr 1
    refine List.map_congr_left fun i hi => ?_
    exact (ent_forth (h3 i (List.mem_range.1 hi))).2
  rw [this, chunks_flat s _ (by omega), show 8 * (s.length / 8) = s.length by omega, List.take_of_length_le (Nat.le_refl _)]
theorem ptL_ok (s : List UInt8) : ∀ p ∈ ptL s, EOk p := by
  intro p hp
  unfold ptL at hp
  split at hp
  · unfold ptR at hp
    obtain ⟨i, _, rfl⟩ := List.mem_map.1 hp
    exact entP_ok _
  · cases hp
end Go.Proofs.YtngkbcaflkinhaaDoor
