/- Superblocks: the plain model: what is right, its bytes, and what bytes are. -/
import Derived.Test.YtfpnlaafefdcaaaDoorFldK
import Derived.Test.YtfpnlaafefdcaaaDoorGeoA
import Derived.Test.YtfpnlaafefdcaaaDoorCrcB
namespace Go.Proofs.YtfpnlaafefdcaaaDoor
open Go.RowKit

/-- A superblock. -/
structure SP where
  gen : Int
  s : Int
  k : Int
  m : Int
  c : Int
  len : Int
  a : Int
  b : Int
  sum : Nat
def SP.zero : SP := ⟨0, 0, 0, 0, 0, 0, 0, 0, 0⟩
def SP.cells (p : SP) : List Value := [.int .i64 p.gen, .int .i64 p.s, .int .i64 p.k, .int .i64 p.m, .int .i64 p.c, .int .i64 p.len, .int .i64 p.a, .int .i64 p.b, .int .u32 (p.sum : Int)]
def SP.v (p : SP) : Value := .agg #[.int .i64 p.gen, .int .i64 p.s, .int .i64 p.k, .int .i64 p.m, .int .i64 p.c, .int .i64 p.len, .int .i64 p.a, .int .i64 p.b, .int .u32 (p.sum : Int)]
/-- Its numbers are such as the types have. -/
structure SP.In (p : SP) : Prop where
  gen : W64 p.gen
  s : W64 p.s
  k : W64 p.k
  m : W64 p.m
  c : W64 p.c
  len : W64 p.len
  a : W64 p.a
  b : W64 p.b
  sum : p.sum < 4294967296
def SupOk (p : SP) : Prop := (1 ≤ p.gen ∧ p.gen ≤ 281474976710656) ∧ (0 ≤ p.len ∧ p.len ≤ 1048576) ∧ GeoOk p.s p.k p.m p.c ∧ (2 ≤ p.a ∧ p.a < p.c) ∧ (2 ≤ p.b ∧ p.b < p.c)
instance (p : SP) : Decidable (SupOk p) := by unfold SupOk; infer_instance
def supE (p : SP) : Int := if SupOk p then 0 else 2
def supK : List Int := [8, 1, 1, 1, 1, 4, 4]
def supNs (p : SP) : List Nat := [un p.gen, un p.s, un p.k, un p.m, 0, un p.c, un p.len]
/-- The bytes with which all begin. -/
def magicL : List UInt8 := [99, 97, 117, 108, 107, 32, 48, 49]
def supBody (p : SP) : List UInt8 := magicL ++ joinS supK (supNs p) ++ ptrS p.a p.b p.sum
def supSum (p : SP) : List UInt8 := (sumBytes (Caulk.Crc.sum (supBody p))).data.toList
def supL (p : SP) : List UInt8 := if SupOk p then supBody p ++ supSum p ++ List.replicate 468 0 else []
theorem supSum_len (p : SP) : (supSum p).length = 4 := rfl
theorem putE_le {k : Int} {n : Nat} (h : isW k = true) (hn : n < 256 ^ k.toNat) : putE k n = 0 := putE_ok.2 ⟨h, hn⟩
theorem sup_k {p : SP} (h : SupOk p) : 1 ≤ p.k ∧ p.k ≤ 255 ∧ 0 ≤ p.m ∧ p.m ≤ 255 := by
  have h1 := h.2.2.1.2.2.1
  unfold rsE at h1
  split at h1
  · omega
  · omega
theorem sup_nums {p : SP} (h : SupOk p) : (un p.gen : Int) = p.gen ∧ (un p.s : Int) = p.s ∧ (un p.k : Int) = p.k ∧ (un p.m : Int) = p.m ∧ (un p.c : Int) = p.c ∧ (un p.len : Int) = p.len ∧ (un p.a : Int) = p.a ∧ (un p.b : Int) = p.b := by
  have hk := sup_k h
  obtain ⟨h1, h2, h3, h4, h5⟩ := h
  obtain ⟨g0, g1, _, g2, g3, _⟩ := h3
  refine ⟨un_pos ?_ ?_, un_pos ?_ ?_, un_pos ?_ ?_, un_pos ?_ ?_, un_pos ?_ ?_, un_pos ?_ ?_, un_pos ?_ ?_, un_pos ?_ ?_⟩ <;> omega
theorem sup_join {p : SP} (h : SupOk p) : joinE supK (supNs p) = 0 := by
  obtain ⟨n1, n2, n3, n4, n5, n6, n7, n8⟩ := sup_nums h
  have hk := sup_k h
  obtain ⟨h1, h2, h3, h4, h5⟩ := h
  obtain ⟨g0, g1, _, g2, g3, _⟩ := h3
  have e1 : putE 8 (un p.gen) = 0 := putE_le (by decide) (by show _ < 256 ^ 8; omega)
  have e2 : putE 1 (un p.s) = 0 := putE_le (by decide) (by show _ < 256 ^ 1; omega)
  have e3 : putE 1 (un p.k) = 0 := putE_le (by decide) (by show _ < 256 ^ 1; omega)
  have e4 : putE 1 (un p.m) = 0 := putE_le (by decide) (by show _ < 256 ^ 1; omega)
  have e5 : putE 1 0 = 0 := putE_le (by decide) (by show _ < 256 ^ 1; omega)
  have e6 : putE 4 (un p.c) = 0 := putE_le (by decide) (by show _ < 256 ^ 4; omega)
  have e7 : putE 4 (un p.len) = 0 := putE_le (by decide) (by show _ < 256 ^ 4; omega)
  unfold joinE
  rw [if_pos (show supK.length = (supNs p).length from rfl)]
  unfold supK supNs
  simp only [joinP, e1, e2, e3, e4, e5, e6, e7, if_true]
theorem sup_ptr {p : SP} (hs : p.sum < 4294967296) (h : SupOk p) : ptrE p.a p.b p.sum = 0 := by
  obtain ⟨n1, n2, n3, n4, n5, n6, n7, n8⟩ := sup_nums h
  obtain ⟨h1, h2, h3, h4, h5⟩ := h
  obtain ⟨g0, g1, _, g2, g3, _⟩ := h3
  have e1 : putE 4 (un p.a) = 0 := putE_le (by decide) (by show _ < 256 ^ 4; omega)
  have e2 : putE 4 (un p.b) = 0 := putE_le (by decide) (by show _ < 256 ^ 4; omega)
  have e3 : putE 4 p.sum = 0 := putE_le (by decide) (by show _ < 256 ^ 4; omega)
  unfold ptrE joinE
  rw [if_pos (show ptrK.length = (ptrL p.a p.b p.sum).length from rfl)]
  unfold ptrK ptrL
  simp only [joinP, e1, e2, e3, if_true]
theorem supBody_len {p : SP} (hs : p.sum < 4294967296) (h : SupOk p) : (supBody p).length = 40 := by
  have h1 : joinS supK (supNs p) = joinL supK (supNs p) := (joinE_ok (sup_join h)).2.2
  have h2 : ptrS p.a p.b p.sum = joinL ptrK (ptrL p.a p.b p.sum) := (joinE_ok (sup_ptr hs h)).2.2
  unfold supBody
  rw [h1, h2]
  unfold supK supNs ptrK ptrL magicL
  simp only [joinL, List.length_append, leB_len, List.length_cons, List.length_nil]
  rfl
theorem supL_len {p : SP} (hs : p.sum < 4294967296) (h : SupOk p) : (supL p).length = 512 := by
  unfold supL
  rw [if_pos h, List.length_append, List.length_append, supBody_len hs h, supSum_len, List.length_replicate]
/-! ### what bytes are -/
def supN (l : List UInt8) (j : Nat) : Nat := (allV (l.drop 8) supK).getD j 0
def supR (l : List UInt8) : List UInt8 := allT (l.drop 8) supK
/-- A number with a sign, of one without. -/
def si (n : Nat) : Int := IntKind.i64.wrap (n : Int)
theorem si_w64 (n : Nat) : W64 (si n) := by unfold si W64; rw [IntKind.wrap_i64]; omega
theorem si_un {x : Int} (h : W64 x) : si (un x) = x := by
  unfold W64 at h
  unfold si un
  rw [IntKind.wrap_i64]; omega
/-- What the bytes say, if they are right. -/
def supD (l : List UInt8) : SP := ⟨si (supN l 0), si (supN l 1), si (supN l 2), si (supN l 3), si (supN l 5), si (supN l 6), getA (supR l) 0, getA (supR l) 1, getA (supR l) 2⟩
theorem getA_lt (s : List UInt8) (j : Nat) (hj : j < 3) : getA s j < 4294967296 := by
  by_cases h : getPE s = 0
  · obtain ⟨_, h0, h1, h2⟩ := getA_ok h
    have : j = 0 ∨ j = 1 ∨ j = 2 := by omega
    rcases this with rfl | rfl | rfl <;> assumption
  · rw [getA_no h]; omega
theorem supD_in (l : List UInt8) : (supD l).In := by
  have h0 := getA_lt (supR l) 0 (by omega)
  have h1 := getA_lt (supR l) 1 (by omega)
  have h2 := getA_lt (supR l) 2 (by omega)
  refine ⟨si_w64 _, si_w64 _, si_w64 _, si_w64 _, si_w64 _, si_w64 _, ?_, ?_, h2⟩ <;> (show W64 _; unfold W64 supD; dsimp only; omega)
/-- Are they a superblock's? -/
def SupIs (l : List UInt8) : Prop := SupOk (supD l) ∧ supL (supD l) = l
instance (l : List UInt8) : Decidable (SupIs l) := by unfold SupIs; infer_instance
def supPE (l : List UInt8) : Int := if SupIs l then 0 else 6
def supP (l : List UInt8) : SP := if SupIs l then supD l else SP.zero
theorem supIs_len {l : List UInt8} (h : SupIs l) : l.length = 512 := by
  rw [← h.2]; exact supL_len (supD_in l).sum h.1
theorem supIs_magic {l : List UInt8} (h : SupIs l) : ∃ r, l = magicL ++ r := by
  have h2 := h.2
  unfold supL supBody at h2
  rw [if_pos h.1, List.append_assoc, List.append_assoc, List.append_assoc] at h2
  exact ⟨_, h2.symm⟩
theorem supP_in (l : List UInt8) : (supP l).In := by
  unfold supP
  split
  · exact supD_in l
  · refine ⟨?_, ?_, ?_, ?_, ?_, ?_, ?_, ?_, ?_⟩ <;> simp [SP.zero, W64]
/-- There and back. -/
theorem supD_of {p : SP} (hp : p.In) (h : SupOk p) (t : List UInt8) : supD (supBody p ++ t) = p := by
  have j0 := sup_join h
  obtain ⟨i1, i2, i3⟩ := join_back j0 (ptrS p.a p.b p.sum ++ t)
  have q0 : joinE ptrK (ptrL p.a p.b p.sum) = 0 := sup_ptr hp.sum h
  obtain ⟨k1, k2, k3⟩ := join_back q0 t
  have hd : (supBody p ++ t).drop 8 = joinS supK (supNs p) ++ (ptrS p.a p.b p.sum ++ t) := by
    unfold supBody
    rw [List.append_assoc, List.append_assoc, List.drop_append_of_le_length (by decide)]
    rw [show magicL.drop 8 = [] by decide, List.nil_append]
  have hN : ∀ j, supN (supBody p ++ t) j = (supNs p).getD j 0 := fun j => by unfold supN; rw [hd, i2]
  have hR : supR (supBody p ++ t) = ptrS p.a p.b p.sum ++ t := by unfold supR; rw [hd, i3]
  have hA : ∀ j, getA (supR (supBody p ++ t)) j = (ptrL p.a p.b p.sum).getD j 0 := fun j => by unfold getA; rw [hR]; unfold ptrS; rw [k2]
  obtain ⟨n1, n2, n3, n4, n5, n6, n7, n8⟩ := sup_nums h
  obtain ⟨gen, s, k, m, c, len, a, b, sum⟩ := p
  unfold supD
  rw [hN, hN, hN, hN, hN, hN, hA, hA, hA]
  simp only [supNs, ptrL, List.getD_cons_zero, List.getD_cons_succ]
  rw [si_un hp.gen, si_un hp.s, si_un hp.k, si_un hp.m, si_un hp.c, si_un hp.len, n7, n8]
theorem supP_of {p : SP} (hp : p.In) (h : SupOk p) : SupIs (supL p) ∧ supP (supL p) = p := by
  have e : supL p = supBody p ++ (supSum p ++ List.replicate 468 0) := by unfold supL; rw [if_pos h, List.append_assoc]
  have hd : supD (supL p) = p := by rw [e]; exact supD_of hp h _
  have hi : SupIs (supL p) := by unfold SupIs; rw [hd]; exact ⟨h, rfl⟩
  exact ⟨hi, by unfold supP; rw [if_pos hi, hd]⟩
end Go.Proofs.YtfpnlaafefdcaaaDoor
