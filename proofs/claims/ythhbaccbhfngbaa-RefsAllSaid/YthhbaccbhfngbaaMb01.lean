/- Entries: the plain model: what is right, the bytes of an entry, and the entry of bytes. Slices of bytes as lists. -/
import Derived.Test.YthhbaccbhfngbaaMb00
import Derived.RegionTactic
import Derived.Laws.NewBlocks
namespace Go.Proofs.Ythhbaccbhfngbaa
open Go.RowKit

/-- An entry. -/
structure EN where
  kind : Int
  st : Int
  mb : Int
  fr : Int
deriving DecidableEq
def EN.zero : EN := ⟨0, 0, 0, 0⟩
def EN.cells (p : EN) : List Value := [.int .u8 p.kind, .int .i64 p.st, .int .i64 p.mb, .int .i64 p.fr]
def EN.v (p : EN) : Value := .agg #[.int .u8 p.kind, .int .i64 p.st, .int .i64 p.mb, .int .i64 p.fr]
def PlOk (st mb : Int) : Prop := (0 ≤ st ∧ st < 2147483648) ∧ (0 ≤ mb ∧ mb < 255)
instance (a b : Int) : Decidable (PlOk a b) := by unfold PlOk; infer_instance
def EOk (p : EN) : Prop := (p.kind = 0 ∧ p.st = 0 ∧ p.mb = 0 ∧ p.fr = 0) ∨ (p.kind = 1 ∧ PlOk p.st p.mb ∧ p.fr = 0) ∨ (p.kind = 2 ∧ (1 ≤ p.fr ∧ p.fr ≤ 1073741824) ∧ p.st = 0 ∧ p.mb = 0)
instance (p : EN) : Decidable (EOk p) := by unfold EOk; infer_instance
def entE (p : EN) : Int := if EOk p then 0 else 2
/-- It has bytes. -/
def EB (p : EN) : Prop := EOk p ∧ p.kind ≠ 2
instance (p : EN) : Decidable (EB p) := by unfold EB; infer_instance
def entN (p : EN) : Nat := if p.kind = 0 then 0 else (p.st + 1).toNat + 4294967296 * p.mb.toNat
def entBE (p : EN) : Int := if EB p then 0 else 2
def entBL (p : EN) : List UInt8 := if EB p then leB 8 (entN p) else []
def ofN (n : Nat) : EN := if n = 0 then EN.zero else ⟨1, ((n % 4294967296 : Nat) : Int) - 1, ((n / 4294967296 : Nat) : Int), 0⟩
/-- These bytes are an entry's. -/
def EP (s : List UInt8) : Prop := s.length = 8 ∧ EOk (ofN (leN s))
instance (s : List UInt8) : Decidable (EP s) := by unfold EP; infer_instance
def entP (s : List UInt8) : EN := if EP s then ofN (leN s) else EN.zero
def entPE (s : List UInt8) : Int := if EP s then 0 else 6

theorem eb_cases {p : EN} (h : EB p) : p = EN.zero ∨ (p.kind = 1 ∧ PlOk p.st p.mb ∧ p.fr = 0) := by
  obtain ⟨h1, h2⟩ := h
  rcases h1 with ⟨a, b, c, d⟩ | h1 | ⟨a, _⟩
  · left; obtain ⟨k, s, m, f⟩ := p; simp_all [EN.zero]
  · exact .inr h1
  · exact absurd a h2
theorem entN_lt {p : EN} (h : EB p) : entN p < 18446744073709551616 := by
  unfold entN
  rcases eb_cases h with rfl | ⟨a, ⟨⟨b, c⟩, d, e⟩, _⟩
  · simp [EN.zero]
  · rw [if_neg (by omega)]; omega
theorem ofN_entN {p : EN} (h : EB p) : ofN (entN p) = p := by
  rcases eb_cases h with rfl | ⟨a, ⟨⟨b, c⟩, d, e⟩, f⟩
  · rfl
  · unfold ofN entN
    rw [if_neg (show ¬ p.kind = 0 by omega), if_neg (by omega)]
    obtain ⟨k, s, m, f'⟩ := p
    dsimp only at *
    subst a f
    congr 1
    · omega
    · omega
theorem eb_ofN {n : Nat} (h : EOk (ofN n)) : EB (ofN n) := by
  refine ⟨h, ?_⟩
  unfold ofN
  split
  · decide
  · exact fun e : (1 : Int) = 2 => absurd e (by decide)
theorem entN_ofN {n : Nat} (h : EOk (ofN n)) : entN (ofN n) = n := by
  by_cases h0 : n = 0
  · subst h0; rfl
  · unfold ofN entN
    rw [if_neg h0]
    dsimp only
    rw [if_neg (by omega)]
    unfold ofN at h
    rw [if_neg h0] at h
    rcases h with ⟨a, _⟩ | ⟨_, ⟨⟨a, b⟩, c, d⟩, _⟩ | ⟨a, _⟩
    · exact absurd (show (1 : Int) = _ from a) (by decide)
    · dsimp only at a b c d; omega
    · exact absurd (show (1 : Int) = _ from a) (by decide)
theorem entBL_len {p : EN} (h : EB p) : (entBL p).length = 8 := by unfold entBL; rw [if_pos h, leB_len]
/-- There and back. -/
theorem ent_back {p : EN} (h : EB p) : EP (entBL p) ∧ entP (entBL p) = p := by
  have h1 : leN (entBL p) = entN p := by unfold entBL; rw [if_pos h, leN_leB _ _ (by have := entN_lt h; exact this)]
  have h2 : EP (entBL p) := ⟨entBL_len h, by rw [h1, ofN_entN h]; exact h.1⟩
  exact ⟨h2, by unfold entP; rw [if_pos h2, h1, ofN_entN h]⟩
theorem ent_forth {s : List UInt8} (h : EP s) : EB (entP s) ∧ entBL (entP s) = s := by
  have e : entP s = ofN (leN s) := if_pos h
  have hb : EB (ofN (leN s)) := eb_ofN h.2
  rw [e]
  refine ⟨hb, ?_⟩
  unfold entBL
  rw [if_pos hb, entN_ofN h.2]
  have := leB_leN s
  rwa [h.1] at this
theorem entP_ok (s : List UInt8) : EOk (entP s) := by
  unfold entP; split
  · rename_i h; exact h.2
  · exact .inl ⟨rfl, rfl, rfl, rfl⟩

/-! ### the document's way -/
def joinK : List Int := [4, 1, 1, 1, 1]
def refN (p : EN) : List Nat := [if p.kind = 1 then (p.st + 1).toNat else 0, p.mb.toNat, 0, 0, 0]
theorem leB_app : ∀ (a b n : Nat), leB (a + b) n = leB a n ++ leB b (n / 256 ^ a)
  | 0, b, n => by simp [leB]
  | a + 1, b, n => by
    rw [show a + 1 + b = (a + b) + 1 by omega, leB, leB_app a b, leB, List.cons_append, Nat.div_div_eq_div_mul, Nat.pow_succ, Nat.mul_comm 256]
theorem leB_mod : ∀ (k n : Nat), leB k (n % 256 ^ k) = leB k n
  | 0, n => rfl
  | k + 1, n => by
    rw [leB, leB, ← leB_mod k (n / 256)]
    have e1 : UInt8.ofNat (n % 256 ^ (k + 1)) = UInt8.ofNat n := by
      apply UInt8.toNat_inj.1
      rw [UInt8.toNat_ofNat', UInt8.toNat_ofNat', Nat.mod_mod_of_dvd _ (by rw [Nat.pow_succ]; exact Nat.dvd_mul_left _ _)]
    have e2 : n % 256 ^ (k + 1) / 256 = n / 256 % 256 ^ k := by
      rw [Nat.pow_succ, Nat.mul_comm, Nat.mod_mul_right_div_self]
    rw [e1, e2]
theorem ref_join {p : EN} (h : EB p) : joinE joinK (refN p) = 0 ∧ joinS joinK (refN p) = entBL p := by
  have hn : entN p = (if p.kind = 1 then (p.st + 1).toNat else 0) + 4294967296 * p.mb.toNat ∧ (if p.kind = 1 then (p.st + 1).toNat else 0) < 4294967296 ∧ p.mb.toNat < 256 := by
    unfold entN
    rcases eb_cases h with rfl | ⟨a, ⟨⟨b, c⟩, d, e⟩, _⟩
    · decide
    · rw [if_neg (by omega), if_pos a]; omega
  obtain ⟨h1, h2, h3⟩ := hn
  unfold entBL refN
  rw [if_pos h, h1]
  generalize (if p.kind = 1 then (p.st + 1).toNat else 0) = a at *
  generalize p.mb.toNat = b at *
  have p4 : putE 4 a = 0 := putE_ok.2 ⟨by decide, by show a < 256 ^ 4; omega⟩
  have p1 : putE 1 b = 0 := putE_ok.2 ⟨by decide, by show b < 256 ^ 1; omega⟩
  have p0 : putE 1 0 = 0 := putE_ok.2 ⟨by decide, by decide⟩
  have hE : joinE joinK [a, b, 0, 0, 0] = 0 := by
    unfold joinE joinK; rw [if_pos (show [(4 : Int), 1, 1, 1, 1].length = [a, b, 0, 0, 0].length from rfl)]; simp only [joinP, p4, p1, p0, if_true]
  refine ⟨hE, ?_⟩
  unfold joinS
  rw [if_pos hE]
  unfold joinK
  simp only [joinL]
  have e1 := leB_app 4 4 (a + 4294967296 * b)
  have e2 := leB_app 1 3 b
  have e3 : (a + 4294967296 * b) / 256 ^ 4 = b := by show (a + 4294967296 * b) / 4294967296 = b; omega
  have e4 : leB 4 (a + 4294967296 * b) = leB 4 a := by rw [← leB_mod 4 (a + 4294967296 * b), ← leB_mod 4 a]; congr 1; show (a + 4294967296 * b) % 4294967296 = a % 4294967296; omega
  have e5 : b / 256 ^ 1 = 0 := by show b / 256 = 0; omega
  rw [show (8 : Nat) = 4 + 4 from rfl, e1, e3, e4, show leB 4 b = leB (1 + 3) b from rfl, e2, e5]
  rfl
def refE (s : List UInt8) : EN := if 0 < leN (s.take 4) then ⟨1, (leN (s.take 4) : Int) - 1, (leN ((s.drop 4).take 1) : Int), 0⟩ else EN.zero
theorem leN_app : ∀ (a b : List UInt8), leN (a ++ b) = leN a + 256 ^ a.length * leN b
  | [], b => by simp [leN]
  | x :: r, b => by
    rw [List.cons_append, leN, leN_app r b, leN, List.length_cons, Nat.pow_succ, Nat.mul_add, ← Nat.mul_assoc, Nat.mul_comm 256 (256 ^ r.length)]; omega
theorem ref_parts {s : List UInt8} (hs : s.length = 8) : leN s = leN (s.take 4) + 4294967296 * (leN ((s.drop 4).take 1) + 256 * leN (s.drop 5)) ∧ leN (s.take 4) < 4294967296 ∧ leN ((s.drop 4).take 1) < 256 := by
  have h1 := leN_app (s.take 4) (s.drop 4)
  have h2 := leN_app ((s.drop 4).take 1) ((s.drop 4).drop 1)
  rw [List.take_append_drop] at h1 h2
  rw [List.drop_drop] at h2
  have l1 : (s.take 4).length = 4 := by rw [List.length_take]; omega
  have l2 : ((s.drop 4).take 1).length = 1 := by rw [List.length_take, List.length_drop]; omega
  have b1 := leN_lt (s.take 4)
  have b2 := leN_lt ((s.drop 4).take 1)
  rw [l1] at h1 b1
  rw [l2] at h2 b2
  rw [h1, h2]
  exact ⟨rfl, b1, b2⟩
theorem refE_same {s : List UInt8} (hs : s.length = 8) : (EB (refE s) ∧ entBL (refE s) = s) ↔ EP s := by
  obtain ⟨h1, h2, h3⟩ := ref_parts hs
  constructor
  · rintro ⟨hb, he⟩
    rw [← he]; exact (ent_back hb).1
  · intro h
    have hk := h.2
    have : refE s = ofN (leN s) := by
      unfold refE ofN
      generalize leN (s.take 4) = a at *
      generalize leN ((s.drop 4).take 1) = b at *
      generalize leN (s.drop 5) = c at *
      by_cases h0 : leN s = 0
      · rw [if_neg (by omega), if_pos h0]
      · unfold ofN at hk
        rw [if_neg h0] at hk ⊢
        rcases hk with ⟨q, _⟩ | ⟨_, ⟨⟨q1, q2⟩, q3, q4⟩, _⟩ | ⟨q, _⟩
        · exact absurd (show (1 : Int) = _ from q) (by decide)
        · dsimp only at q1 q2 q3 q4
          rw [if_pos (by omega)]
          congr 1
          · omega
          · omega
        · exact absurd (show (1 : Int) = _ from q) (by decide)
    rw [this]
    have e : entP s = ofN (leN s) := if_pos h
    rw [← e]
    exact ent_forth h
theorem refE_val {s : List UInt8} (hs : s.length = 8) (h : EP s) : refE s = entP s := by
  have h1 := (refE_same hs).2 h
  have h2 := (ent_back h1.1).2
  rw [h1.2] at h2
  exact h2.symm

/-! ### several -/
def tabE (l : List EN) : Int := if l.length ≤ 8192 then (if ∀ p ∈ l, EB p then 0 else 2) else 7
def tabL (l : List EN) : List UInt8 := if tabE l = 0 then l.flatMap entBL else []
def chunk (s : List UInt8) (j : Nat) : List UInt8 := (s.drop (8 * j)).take 8
def ptOk (s : List UInt8) : Prop := s.length % 8 = 0 ∧ s.length / 8 ≤ 8192 ∧ ∀ j, j < s.length / 8 → EP (chunk s j)
instance (s : List UInt8) : Decidable (ptOk s) := by unfold ptOk; infer_instance
def ptE (s : List UInt8) : Int := if ptOk s then 0 else 6
def ptR (s : List UInt8) (j : Nat) : List EN := (List.range j).map fun i => entP (chunk s i)
def ptL (s : List UInt8) : List EN := if ptOk s then ptR s (s.length / 8) else []
theorem tabE_ok {l : List EN} : tabE l = 0 ↔ l.length ≤ 8192 ∧ ∀ p ∈ l, EB p := by
  unfold tabE; split
  · rename_i g; split <;> simp_all
  · rename_i g; exact ⟨fun e => absurd e (by decide), fun e => absurd e.1 g⟩
theorem flat_len : ∀ (l : List EN), (∀ p ∈ l, EB p) → (l.flatMap entBL).length = 8 * l.length
  | [], _ => rfl
  | p :: r, h => by
    rw [List.flatMap_cons, List.length_append, entBL_len (h p (List.mem_cons_self ..)), flat_len r (fun q hq => h q (List.mem_cons_of_mem _ hq)), List.length_cons]; omega
theorem flat_chunk : ∀ (l : List EN), (∀ p ∈ l, EB p) → ∀ j, j < l.length → chunk (l.flatMap entBL) j = entBL (l.getD j EN.zero)
  | p :: r, h, 0, _ => by
    have hp := entBL_len (h p (List.mem_cons_self ..))
    unfold chunk
    rw [List.flatMap_cons, Nat.mul_zero, List.drop_zero, List.take_append_of_le_length (by omega), List.take_of_length_le (by omega)]; rfl
  | p :: r, h, j + 1, hj => by
    have hp := entBL_len (h p (List.mem_cons_self ..))
    have := flat_chunk r (fun q hq => h q (List.mem_cons_of_mem _ hq)) j (by simpa using hj)
    rw [List.getD_cons_succ, ← this]
    unfold chunk
    rw [List.flatMap_cons, show 8 * (j + 1) = 8 + 8 * j by omega, ← List.drop_drop, List.drop_append_of_le_length (Nat.le_of_eq hp.symm), List.drop_of_length_le (Nat.le_of_eq hp), List.nil_append]
theorem ptR_len (s : List UInt8) (j : Nat) : (ptR s j).length = j := by unfold ptR; simp
theorem ptR_succ (s : List UInt8) (j : Nat) : ptR s (j + 1) = ptR s j ++ [entP (chunk s j)] := by unfold ptR; rw [List.range_succ, List.map_append]; rfl
theorem ptR_at (s : List UInt8) {j n : Nat} (h : j < n) : (ptR s n).getD j EN.zero = entP (chunk s j) := by
  unfold ptR; rw [List.getD, List.getElem?_map, List.getElem?_range h]; rfl
theorem tab_back {l : List EN} (h : tabE l = 0) : ptOk (tabL l) ∧ ptL (tabL l) = l ∧ (tabL l).length = 8 * l.length := by
  obtain ⟨h1, h2⟩ := tabE_ok.1 h
  have e : tabL l = l.flatMap entBL := if_pos h
  have hl := flat_len l h2
  have hq : (l.flatMap entBL).length / 8 = l.length := by omega
  have hp : ptOk (l.flatMap entBL) := by
    refine ⟨by omega, by omega, fun j hj => ?_⟩
    rw [flat_chunk l h2 j (by omega)]
    have hj' : j < l.length := by omega
    exact (ent_back (h2 _ (by rw [List.getD, List.getElem?_eq_getElem hj']; exact List.getElem_mem _))).1
  rw [e]
  refine ⟨hp, ?_, hl⟩
  unfold ptL
  rw [if_pos hp, hq]
  apply List.ext_getElem
  · rw [ptR_len]
  · intro j hj1 hj2
    have := ptR_at (l.flatMap entBL) (j := j) (n := l.length) hj2
    rw [List.getD, List.getElem?_eq_getElem (by rw [ptR_len]; exact hj2), Option.getD_some] at this
    rw [this, flat_chunk l h2 j hj2, (ent_back (h2 _ (by rw [List.getD, List.getElem?_eq_getElem hj2]; exact List.getElem_mem _))).2, List.getD, List.getElem?_eq_getElem hj2]; rfl
theorem chunks_flat (s : List UInt8) : ∀ n, 8 * n ≤ s.length → (List.range n).flatMap (chunk s) = s.take (8 * n)
  | 0, _ => by simp
  | n + 1, h => by
    rw [List.range_succ, List.flatMap_append, chunks_flat s n (by omega), List.flatMap_singleton]
    unfold chunk
    rw [show 8 * (n + 1) = 8 * n + 8 by omega, List.take_add]
theorem tab_forth {s : List UInt8} (h : ptOk s) : tabE (ptL s) = 0 ∧ tabL (ptL s) = s := by
  obtain ⟨h1, h2, h3⟩ := h
  have e : ptL s = ptR s (s.length / 8) := if_pos ⟨h1, h2, h3⟩
  have hE : tabE (ptL s) = 0 := by
    rw [e]
    refine tabE_ok.2 ⟨by rw [ptR_len]; exact h2, fun p hp => ?_⟩
    unfold ptR at hp
    obtain ⟨i, hi, rfl⟩ := List.mem_map.1 hp
    exact (ent_forth (h3 i (List.mem_range.1 hi))).1
  refine ⟨hE, ?_⟩
  unfold tabL
  rw [if_pos hE, e]
  unfold ptR
  rw [List.flatMap_map]
  have : (List.range (s.length / 8)).flatMap (fun i => entBL (entP (chunk s i))) = (List.range (s.length / 8)).flatMap (chunk s) := by
    unfold List.flatMap
    congr 1
    refine List.map_congr_left fun i hi => ?_
    exact (ent_forth (h3 i (List.mem_range.1 hi))).2
  rw [this, chunks_flat s _ (by omega), show 8 * (s.length / 8) = s.length by omega, List.take_of_length_le (Nat.le_refl _)]
theorem ptL_ok (s : List UInt8) : ∀ p ∈ ptL s, EOk p := by
  intro p hp
  unfold ptL at hp
  split at hp
  · unfold ptR at hp
    obtain ⟨i, _, rfl⟩ := List.mem_map.1 hp
    exact entP_ok _
  · cases hp
end Go.Proofs.Ythhbaccbhfngbaa
namespace Go.Proofs.Ythhbaccbhfngbaa
open Go.RowKit

theorem ofInt_u8b (x : UInt8) : BitVec.ofInt 8 (x.toNat : Int) = x.toBitVec := by
  rw [BitVec.ofInt_natCast]; exact BitVec.eq_of_toNat_eq (by rw [BitVec.toNat_ofNat]; exact Nat.mod_eq_of_lt x.toBitVec.isLt)
theorem wrap_u8b (n : BitVec 8) : IntKind.u8.wrap (n.toNat : Int) = ((UInt8.ofBitVec n).toNat : Int) := by
  rw [IntKind.wrap_u8']; have := n.isLt; show _ = (n.toNat : Int); omega
theorem u8_xorb (a b : UInt8) : bits .xor .u8 (a.toNat : Int) (b.toNat : Int) = ((a ^^^ b).toNat : Int) := by
  show IntKind.u8.wrap ((BitVec.ofInt 8 (a.toNat : Int) ^^^ BitVec.ofInt 8 (b.toNat : Int)).toNat : Int) = _
  rw [ofInt_u8b, ofInt_u8b, wrap_u8b]; rfl

/-- From place off on the bytes l lie in block b, and may be written. -/
def Row8 (w : World) (b off : Nat) (l : List UInt8) : Prop := b < w.heap.size ∧ ∀ j, j < l.length → w.cell? ⟨b, off + j, none⟩ = some (.int .u8 ((l.getD j 0).toNat : Int)) ∧ w.frozen? ⟨b, off + j, none⟩ = false
theorem Row8.drew {w : World} {b off : Nat} {l : List UInt8} (h : Row8 w b off l) : Row8 w.drew b off l := h
theorem Row8.drewN {w : World} {b off : Nat} {l : List UInt8} (h : Row8 w b off l) (n : Nat) : Row8 (w.drewN n) b off l := h
theorem Row8.below {w w' : World} {B b off : Nat} {l : List UInt8} (h : Row8 w b off l) (hb : Below B w w') (hB : b < B) : Row8 w' b off l :=
  ⟨Nat.lt_of_lt_of_le h.1 hb.size, fun j hj => ⟨(hb.cell (p := ⟨b, off + j, none⟩) hB).trans (h.2 j hj).1, (hb.frozen (p := ⟨b, off + j, none⟩) hB).trans (h.2 j hj).2⟩⟩
theorem Row8.alloc {w : World} {b off : Nat} {l : List UInt8} (h : Row8 w b off l) (o : Obj) : Row8 (w.alloc o) b off l :=
  h.below ((Below.refl w.heap.size w).alloc (Nat.le_refl _) o) h.1
theorem Row8.set {w : World} {b off : Nat} {l : List UInt8} (h : Row8 w b off l) (k : Nat) (hk : k < l.length) (x : UInt8) :
    Row8 (w.setCell ⟨b, off + k, none⟩ (.int .u8 (x.toNat : Int))) b off (l.set k x) := by
  refine ⟨by rw [World.size_setCell]; exact h.1, fun j hj => ⟨?_, ?_⟩⟩
  · rw [List.length_set] at hj
    by_cases e : j = k
    · subst e
      rw [World.cell?_setCell_same' _ _ _ (by rw [(h.2 j hj).1]; rfl)]
      simp [List.getD, hj]
    · rw [World.cell?_setCell_other _ _ _ _ (by intro e'; injection e' with _ e2; omega), (h.2 j hj).1]
      simp [List.getD, List.getElem?_set_ne (Ne.symm e)]
  · rw [List.length_set] at hj
    rw [World.frozen?_setCell]; exact (h.2 j hj).2
end Go.Proofs.Ythhbaccbhfngbaa
