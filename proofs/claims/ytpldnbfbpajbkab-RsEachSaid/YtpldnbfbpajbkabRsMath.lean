/- A stripe's pieces, and what brings them back. Slices of strings, of bools and of pieces among the arguments. The contract of caulklaw04.lives. The contracts of caulklaw04.small, caulkref04.Same and caulklaw04.put. -/
import Derived.Test.YtpldnbfbpajbkabRsF
import Derived.Deep.Strs
import Derived.Deep.Grids
import Derived.Deep.SlicePairs
import Derived.SliceStrings
import Derived.OpenShut
import Derived.Laws.IdiomStrings
namespace Go.Proofs.Ytpldnbfbpajbkab
open Go.RowKit
open Caulk.Lin (Fn2 sx stack invM vec sx_congr sx_single inv_some)
open Caulk.Gf (mul one_mul mul_zeroR)

theorem str_ext {s t : ByteArray} {n : Nat} (hs : s.size = n) (ht : t.size = n) (h : ∀ b, b < n → byteAt s b = byteAt t b) : s = t := by
  apply ByteArray.ext
  apply Array.ext (by show s.size = t.size; omega)
  intro i h1 h2
  have hi : i < n := by have : i < s.size := h1; omega
  have := h i hi
  unfold byteAt at this
  rw [List.getD, List.getD, List.getElem?_eq_getElem (by simpa using h1), List.getElem?_eq_getElem (by simpa using h2)] at this
  simpa using this
theorem byteAt_weave {k n b : Nat} (f : Fn2) (D : List ByteArray) (i : Nat) (h : b < n) : byteAt (weaveS k n f D i) b = weaveF k f D i b := by
  unfold byteAt weaveS
  exact rowL_getD _ h
/-- All pieces of a stripe. -/
def stripeL (k m : Nat) (D : List ByteArray) : List ByteArray := D ++ parL k m D
theorem stripeL_len {k m : Nat} {D : List ByteArray} (h : D.length = k) : (stripeL k m D).length = k + m := by unfold stripeL parL; rw [List.length_append, weaveL_len, h]
theorem stripe_low {k m a : Nat} {D : List ByteArray} (h : D.length = k) (ha : a < k) : (stripeL k m D).getD a ByteArray.empty = D.getD a ByteArray.empty := by
  unfold stripeL
  rw [List.getD, List.getD, List.getElem?_append_left (by omega)]
theorem stripe_high {k m a : Nat} {D : List ByteArray} (h : D.length = k) (ha : a < m) : (stripeL k m D).getD (k + a) ByteArray.empty = weaveS k (D.getD 0 ByteArray.empty).size (cauF k) D a := by
  unfold stripeL
  rw [List.getD, List.getElem?_append_right (by omega), show k + a - D.length = a by omega]
  exact weaveL_getD _ _ ha
theorem stripe_size {k m a n : Nat} {D : List ByteArray} (h : D.length = k) (hk : 1 ≤ k) (hn : ∀ j, j < k → (D.getD j ByteArray.empty).size = n) (ha : a < k + m) : ((stripeL k m D).getD a ByteArray.empty).size = n := by
  by_cases e : a < k
  · rw [stripe_low h e, hn a e]
  · obtain ⟨c, rfl⟩ : ∃ c, a = k + c := ⟨a - k, by omega⟩
    rw [stripe_high h (by omega), weaveS_size, hn 0 (by omega)]
/-- Each piece is its row, times the data. -/
theorem stripe_row {k m a b n : Nat} {D : List ByteArray} (hkm : k + m ≤ 255) (h : D.length = k) (hk : 1 ≤ k) (hn : ∀ j, j < k → (D.getD j ByteArray.empty).size = n) (ha : a < k + m) (hb : b < n) :
    byteAt ((stripeL k m D).getD a ByteArray.empty) b = sx k (fun c => mul (stack k a c) (byteAt (D.getD c ByteArray.empty) b)) := by
  by_cases e : a < k
  · rw [stripe_low h e, sx_single (p := a) e]
    · unfold stack; rw [if_pos e, if_pos rfl, one_mul]
    · intro i _ hi
      unfold stack; rw [if_pos e, if_neg (fun q => hi q.symm), Caulk.Gf.mul_comm, mul_zeroR]
  · obtain ⟨c, rfl⟩ : ∃ c, a = k + c := ⟨a - k, by omega⟩
    rw [stripe_high h (by omega), hn 0 (by omega), byteAt_weave _ _ _ hb]
    unfold weaveF
    exact sx_congr (fun j hj => by rw [stack_cau hj (by omega)])
theorem decData_len (k : Nat) (X : Fn2) (T : List ByteArray) : (decData k X T).length = k := by unfold decData; rw [weaveL_len]
theorem decData_size {k j n : Nat} {X : Fn2} {T : List ByteArray} (hn : (T.getD 0 ByteArray.empty).size = n) (hj : j < k) : ((decData k X T).getD j ByteArray.empty).size = n := by
  unfold decData; rw [weaveL_getD _ _ hj, weaveS_size, hn]
theorem decAll_stripe {k m : Nat} (hk : 1 ≤ k) (X : Fn2) (T : List ByteArray) : decAll k m X T = stripeL k m (decData k X T) := by
  unfold decAll stripeL parL
  rw [decData_size rfl (by omega)]
theorem decData_byte {k b i n : Nat} {X : Fn2} {T : List ByteArray} (hn : (T.getD 0 ByteArray.empty).size = n) (hi : i < k) (hb : b < n) :
    byteAt ((decData k X T).getD i ByteArray.empty) b = vec k X (fun c => byteAt (T.getD c ByteArray.empty) b) i := by
  unfold decData
  rw [weaveL_getD _ _ hi, hn, byteAt_weave _ _ _ hb]
  unfold weaveF vec
  exact sx_congr (fun j hj => by
    have : (T.take k).getD j ByteArray.empty = T.getD j ByteArray.empty := by simp [List.getD, hj]
    rw [this])
theorem pick_row {k i : Nat} {l : List Nat} (hi : i < k) (hl : k ≤ l.length) (c : Nat) : pickF (stack k) ((l.take k).map fun i : Nat => (i : Int)) i c = stack k (l.getD i 0) c := by
  unfold pickF
  have h2 : i < l.length := by omega
  have e : ((l.take k).map fun i : Nat => (i : Int)).getD i 0 = ((l.getD i 0 : Nat) : Int) := by simp [List.getD, hi, h2]
  rw [e, Int.toNat_natCast]
/-- What is there comes back as it is. -/
theorem dec_there {k m n : Nat} {l : List Nat} {X : Fn2} {T : List ByteArray} (hk : 1 ≤ k) (hkm : k + m ≤ 255) (hl : k ≤ l.length) (hlt : ∀ x, x ∈ l → x < k + m) (hT : k ≤ T.length) (hn : ∀ j, j < T.length → (T.getD j ByteArray.empty).size = n)
    (hX : invM k (pickF (stack k) ((l.take k).map fun i : Nat => (i : Int))) = some X) {i : Nat} (hi : i < k) :
    (decAll k m X T).getD (l.getD i 0) ByteArray.empty = T.getD i ByteArray.empty := by
  have ha : l.getD i 0 < k + m := hlt _ (by rw [List.getD, List.getElem?_eq_getElem (by omega)]; exact List.getElem_mem _)
  have h0 : (T.getD 0 ByteArray.empty).size = n := hn 0 (by omega)
  have hs : ∀ j, j < k → ((decData k X T).getD j ByteArray.empty).size = n := fun j hj => decData_size h0 hj
  rw [decAll_stripe hk]
  refine str_ext (stripe_size (decData_len _ _ _) hk hs ha) (hn i (by omega)) (fun b hb => ?_)
  rw [stripe_row hkm (decData_len _ _ _) hk hs ha hb]
  have h := (inv_some hX (fun c => byteAt ((decData k X T).getD c ByteArray.empty) b) (fun c => byteAt (T.getD c ByteArray.empty) b)).2 (fun r hr => decData_byte h0 hr hb) i hi
  rw [h]
  unfold vec
  exact sx_congr (fun c _ => by rw [pick_row hi hl])
/-- Of a stripe's pieces all come back. -/
theorem dec_stripe {k m n : Nat} {l : List Nat} {X : Fn2} {T D : List ByteArray} (hk : 1 ≤ k) (hkm : k + m ≤ 255) (hl : k ≤ l.length) (hlt : ∀ x, x ∈ l → x < k + m) (hD : D.length = k) (hn : ∀ j, j < k → (D.getD j ByteArray.empty).size = n)
    (hT : ∀ i, i < k → T.getD i ByteArray.empty = (stripeL k m D).getD (l.getD i 0) ByteArray.empty)
    (hX : invM k (pickF (stack k) ((l.take k).map fun i : Nat => (i : Int))) = some X) : decAll k m X T = stripeL k m D := by
  have hmem : ∀ i, i < k → l.getD i 0 < k + m := fun i hi => hlt _ (by rw [List.getD, List.getElem?_eq_getElem (by omega)]; exact List.getElem_mem _)
  have h0 : (T.getD 0 ByteArray.empty).size = n := by rw [hT 0 (by omega)]; exact stripe_size hD hk hn (hmem 0 (by omega))
  rw [decAll_stripe hk]
  congr 1
  apply List.ext_getElem (by rw [decData_len, hD])
  intro i h1 h2
  have hi : i < k := by rwa [decData_len] at h1
  have e1 : (decData k X T)[i] = (decData k X T).getD i ByteArray.empty := by rw [List.getD, List.getElem?_eq_getElem h1]; rfl
  have e2 : D[i] = D.getD i ByteArray.empty := by rw [List.getD, List.getElem?_eq_getElem h2]; rfl
  rw [e1, e2]
  refine str_ext (decData_size h0 hi) (hn i hi) (fun b hb => ?_)
  rw [decData_byte h0 hi hb]
  refine ((inv_some hX (fun c => byteAt (D.getD c ByteArray.empty) b) (fun c => byteAt (T.getD c ByteArray.empty) b)).1 (fun r hr => ?_) i hi).symm
  rw [hT r hr, stripe_row hkm hD hk hn (hmem r hr) hb]
  unfold vec
  exact sx_congr (fun c _ => by rw [pick_row hr hl])
theorem alike_of {k n : Nat} {D : List ByteArray} (hD : D.length = k) (hn : ∀ j, j < k → (D.getD j ByteArray.empty).size = n) (hn2 : n ≤ 65536) : Alike D := fun j hj => by
  rw [hn j (by omega), hn 0 (by omega)]; exact ⟨rfl, hn2⟩
/-- A stripe is good. -/
theorem stripe_good {k m n : Nat} {D : List ByteArray} (hk : 1 ≤ k) (hkm : k + m ≤ 255) (hD : D.length = k) (hn : ∀ j, j < k → (D.getD j ByteArray.empty).size = n) (hn2 : n ≤ 65536) : goodB k m (stripeL k m D) = true := by
  have h0 : rsE (k : Int) (m : Int) = 0 := if_pos (by omega)
  have ht : (stripeL k m D).take k = D := by unfold stripeL; rw [← hD, List.take_left]
  have hd : (stripeL k m D).drop k = parL k m D := by unfold stripeL; rw [← hD, List.drop_left]
  have he : encE (k : Int) (m : Int) D = 0 := by
    unfold encE
    rw [if_pos h0, if_pos ⟨by omega, alikeB_true (alike_of hD hn hn2)⟩]
  unfold goodB
  rw [if_pos ⟨h0, by rw [stripeL_len hD]; omega⟩, Int.toNat_natCast, ht, hd, if_pos he]
  unfold encL
  rw [if_pos he, Int.toNat_natCast, Int.toNat_natCast]
  exact decide_eq_true rfl
end Go.Proofs.Ytpldnbfbpajbkab
namespace Go.Proofs.Ytpldnbfbpajbkab
open Go.RowKit
open Go.ChangeShapes (open_strings)
open Go.Deep (open_bools open_slice_pairs)

theorem adr_plain {w : World} {x : Addr} {v : Value} (h : w.cell? (x.add 0) = some v) : ∃ b off, x = ⟨b, off, none⟩ ∧ b < w.heap.size := by
  obtain ⟨b, off, spot⟩ := x
  have hspot : spot = none := by simpa [Addr.add] using World.cell?_spot h
  subst hspot
  exact ⟨b, off, rfl, by have := World.block_lt_of_cell? w _ h; simpa [Addr.add] using this⟩
theorem adr_add (b off j : Nat) : (⟨b, off, none⟩ : Addr).add j = ⟨b, off + j, none⟩ := by unfold Addr.add; split <;> simp_all
theorem int_of_wf {n : Int} (h : (Lit.int .i64 n).wf = true) : -9223372036854775808 ≤ n ∧ n ≤ 9223372036854775807 := by
  simp [Lit.wf, IntKind.min, IntKind.max, IntKind.signed, IntKind.bits] at h
  omega
theorem byte_of_wf {n : Int} (h : (Lit.int .u8 n).wf = true) : ∃ x : UInt8, n = (x.toNat : Int) := by
  have : 0 ≤ n ∧ n < 256 := by
    simp [Lit.wf, IntKind.min, IntKind.max, IntKind.signed, IntKind.bits] at h
    omega
  exact ⟨UInt8.ofNat n.toNat, by rw [UInt8.toNat_ofNat']; omega⟩
theorem strsS_of {H : Type} {enc : TypeId × Value → H} {P : Program} {w : World} {base : Nat} {held : Bool} {fuel t e : Nat} {A : Option Addr} {len cap : Nat} {x : DataW H × List MemPlace}
    (ht : P.underlying t = some (.slice e)) (he : P.underlying e = some .string) (hc : P.cellsOf e = 1)
    (h : DataW.trod enc P w base (fun _ => true) held fuel t (Value.slice A len cap).cells.toList = some x) : ∃ S, StrsS w (.slice A len cap) S := by
  rcases open_strings ht he hc h with ⟨hcs, _⟩ | ⟨a, len', cap', ss, hcs, _, hl, hm, hz, _, hcell, hss⟩
  · simp [Value.cells] at hcs
    obtain ⟨rfl, rfl, rfl⟩ := hcs
    exact ⟨[], strsS_nil w⟩
  · simp [Value.cells] at hcs
    obtain ⟨rfl, rfl, rfl⟩ := hcs
    simp only [if_true] at hz
    have hlen : (ss.take len).length = len := by simp; omega
    refine ⟨ss.take len, some a, cap, by rw [hlen], by simp, by rw [hlen]; exact hl, hm, fun s hs => hss s (List.mem_of_mem_take hs), ?_⟩
    by_cases h0 : len = 0
    · left; subst h0; rfl
    · right
      obtain ⟨b, off, rfl, hb⟩ := adr_plain (hcell 0 (by omega))
      refine ⟨b, off, rfl, hb, fun j hj => ?_⟩
      rw [hlen] at hj
      have hc := hcell j (by omega)
      rw [adr_add] at hc
      rw [hc, List.getD, List.getD, List.getElem?_take, if_pos hj]
/-- A slice that reads as these bools. -/
def BoolsS (w : World) (v : Value) (Q : List Bool) : Prop :=
  ∃ A cap, v = .slice A Q.length cap ∧ Q.length ≤ cap ∧ cap ≤ maxLen ∧ (Q = [] ∨ ∃ b off, A = some ⟨b, off, none⟩ ∧ b < w.heap.size ∧ ∀ j, j < Q.length → w.cell? ⟨b, off + j, none⟩ = some (.bool (Q.getD j false)))
theorem boolsS_of {H : Type} {enc : TypeId × Value → H} {P : Program} {w : World} {base : Nat} {held : Bool} {fuel t e : Nat} {A : Option Addr} {len cap : Nat} {x : DataW H × List MemPlace}
    (ht : P.underlying t = some (.slice e)) (he : P.underlying e = some .bool) (hc : P.cellsOf e = 1)
    (h : DataW.trod enc P w base (fun _ => true) held fuel t (Value.slice A len cap).cells.toList = some x) : ∃ Q, BoolsS w (.slice A len cap) Q := by
  rcases open_bools ht he hc h with ⟨hcs, _⟩ | ⟨a, len', cap', B, hcs, _, hl, hm, _, hcell⟩
  · simp [Value.cells] at hcs
    obtain ⟨rfl, rfl, rfl⟩ := hcs
    exact ⟨[], none, 0, rfl, Nat.le_refl _, Nat.zero_le _, .inl rfl⟩
  · simp [Value.cells] at hcs
    obtain ⟨rfl, rfl, rfl⟩ := hcs
    have hlen : ((List.range len).map B).length = len := by simp
    refine ⟨(List.range len).map B, some a, cap, by rw [hlen], by rw [hlen]; exact hl, hm, ?_⟩
    by_cases h0 : len = 0
    · left; subst h0; rfl
    · right
      obtain ⟨b, off, rfl, hb⟩ := adr_plain (hcell 0 (by omega))
      refine ⟨b, off, rfl, hb, fun j hj => ?_⟩
      rw [hlen] at hj
      have hc := hcell j (by omega)
      rw [adr_add] at hc
      rw [hc]
      simp [List.getD, hj]
theorem piecesS_of {H : Type} {enc : TypeId × Value → H} {P : Program} {w : World} {base : Nat} {held : Bool} {fuel t e : Nat} {f0 f1 : Field} {A : Option Addr} {len cap : Nat} {x : DataW H × List MemPlace}
    (ht : P.underlying t = some (.slice e)) (he : P.underlying e = some (.struct #[f0, f1])) (ce : P.cellsOf e = 2) (o0 : f0.offset = 0) (o1 : f1.offset = 1) (c0 : P.cellsOf f0.type = 1) (c1 : P.cellsOf f1.type = 1)
    (u0 : P.underlying f0.type = some .bool) (u1 : P.underlying f1.type = some .string)
    (h : DataW.trod enc P w base (fun _ => true) held fuel t (Value.slice A len cap).cells.toList = some x) : ∃ Q, PiecesS w (.slice A len cap) Q := by
  rcases open_slice_pairs ht he ce o0 o1 c0 c1 h with ⟨hcs, _⟩ | ⟨a, len', cap', m, n, V0, V1, D0, D1, P0, P1, hcs, _, hl, hm, hmm, _, hcell⟩
  · simp [Value.cells] at hcs
    obtain ⟨rfl, rfl, rfl⟩ := hcs
    exact ⟨[], none, 0, rfl, fun _ => rfl, Nat.le_refl _, Nat.zero_le _, fun p hp => by simp at hp, .inl rfl⟩
  · simp [Value.cells] at hcs
    obtain ⟨rfl, rfl, rfl⟩ := hcs
    simp only [if_true] at hmm
    subst hmm
    have hb : ∀ i, i < m → ∃ q : Bool × ByteArray, V0 i = .bool q.1 ∧ V1 i = .string q.2 ∧ q.2.size ≤ maxLen := fun i hi => by
      obtain ⟨_, _, g0, g1⟩ := hcell i hi
      obtain ⟨b, h1, _⟩ := DataW.trod_bool u0 g0
      obtain ⟨s, h2, _, h3⟩ := DataW.trod_string u1 g1
      exact ⟨(b, s), by simpa using h1, by simpa using h2, h3⟩
    obtain ⟨q, hq⟩ := Go.Deep.choose_lt hb
    have hlen : ((List.range len).map q).length = len := by simp
    refine ⟨(List.range len).map q, some a, m, by rw [hlen], by simp, by rw [hlen]; exact hl, hm, fun p hp => ?_, ?_⟩
    · obtain ⟨i, hi, rfl⟩ := List.mem_map.1 hp
      exact (hq i (by have := List.mem_range.1 hi; omega)).2.2
    by_cases h0 : len = 0
    · left; subst h0; rfl
    · right
      have hc0 := (hcell 0 (by omega)).1
      rw [Nat.zero_mul] at hc0
      obtain ⟨b, off, rfl, hb⟩ := adr_plain hc0
      refine ⟨b, off, rfl, hb, fun j hj => ?_⟩
      rw [hlen] at hj
      obtain ⟨g0, g1, _⟩ := hcell j (by omega)
      rw [adr_add] at g0 g1
      obtain ⟨e0, e1, _⟩ := hq j (by omega)
      rw [g0, Nat.add_assoc off, g1, e0, e1]
      have e2 : ((List.range len).map q).getD j (false, ByteArray.empty) = q j := by simp [List.getD, hj]
      rw [e2]; exact ⟨rfl, rfl⟩
end Go.Proofs.Ytpldnbfbpajbkab
namespace Go.Proofs.Ytpldnbfbpajbkab
open Go.RowKit
open Caulk.Lin (Fn2 invM)

def bS (l : List UInt8) : ByteArray := ⟨l.toArray⟩
theorem strs1 (w : World) (s : ByteArray) (h : s.size ≤ maxLen) : StrsS (w.alloc (.cells #[.string s] 9)) (.slice (some ⟨w.heap.size, 0, none⟩) 1 1) [s] := by
  refine ⟨_, 1, rfl, by simp, Nat.le_refl _, by unfold maxLen; omega, fun x hx => by simp at hx; subst hx; exact h, .inr ⟨_, 0, rfl, by simp, fun j hj => ?_⟩⟩
  rw [World.cell?_alloc_at _ _ _ _ rfl]
  have : j = 0 := by simp at hj; omega
  subst this; rfl
theorem strs2 (w : World) (s t : ByteArray) (h : s.size ≤ maxLen) (h2 : t.size ≤ maxLen) : StrsS (w.alloc (.cells #[.string s, .string t] 9)) (.slice (some ⟨w.heap.size, 0, none⟩) 2 2) [s, t] := by
  refine ⟨_, 2, rfl, by simp, Nat.le_refl _, by unfold maxLen; omega, fun x hx => ?_, .inr ⟨_, 0, rfl, by simp, fun j hj => ?_⟩⟩
  · simp at hx
    rcases hx with rfl | rfl
    · exact h
    · exact h2
  · rw [World.cell?_alloc_at _ _ _ _ rfl]
    have : j = 0 ∨ j = 1 := by simp at hj; omega
    rcases this with rfl | rfl <;> rfl
theorem pieces3 (w : World) (p q r : Bool) (s t u : ByteArray) (h : s.size ≤ maxLen) (h2 : t.size ≤ maxLen) (h3 : u.size ≤ maxLen) :
    PiecesS (w.alloc (.cells #[.bool p, .string s, .bool q, .string t, .bool r, .string u] 31)) (.slice (some ⟨w.heap.size, 0, none⟩) 3 3) [(p, s), (q, t), (r, u)] := by
  refine ⟨_, 3, rfl, by simp, Nat.le_refl _, by unfold maxLen; omega, fun x hx => ?_, .inr ⟨_, 0, rfl, by simp, fun j hj => ?_⟩⟩
  · simp at hx
    rcases hx with rfl | rfl | rfl
    · exact h
    · exact h2
    · exact h3
  · rw [World.cell?_alloc_at _ _ _ _ rfl, World.cell?_alloc_at _ _ _ _ rfl]
    have : j = 0 ∨ j = 1 ∨ j = 2 := by simp at hj; omega
    rcases this with rfl | rfl | rfl <;> exact ⟨rfl, rfl⟩
theorem k_enc1 : encE 1 2 [⟨#[97, 98]⟩] = 0 := by
  unfold encE
  rw [if_pos (by decide), if_pos ⟨rfl, alikeB_true (fun j hj => by have : j = 0 := by simp at hj; omega
                                                                   subst this; decide)⟩]
theorem k_enc1L : (encL 1 2 [⟨#[97, 98]⟩]).length = 2 := by
  unfold encL
  rw [k_enc1, if_pos rfl]
  exact weaveL_len _ _ _ _ _
theorem k_enc4 : encE 2 1 [⟨#[97]⟩] = 2 := by
  unfold encE
  rw [if_pos (by decide), if_neg (by rintro ⟨h, _⟩; simp at h)]
theorem k_enc5 : encE 0 1 [] = 1 := by
  unfold encE
  rw [if_neg (by decide)]
theorem k_good : goodB 2 1 [⟨#[97]⟩, ⟨#[98]⟩] = false := by
  unfold goodB
  rw [if_neg (by rintro ⟨_, h⟩; simp at h)]
def pcA : List (Bool × ByteArray) := [(false, ⟨#[]⟩), (true, ⟨#[120]⟩), (true, ⟨#[121]⟩)]
def pcB : List (Bool × ByteArray) := [(false, ⟨#[]⟩), (false, ⟨#[]⟩), (true, ⟨#[121]⟩)]
theorem thL_A : thL pcA = [1, 2] := by decide
theorem thL_B : thL pcB = [2] := by decide
theorem thS_A : thS pcA = [⟨#[120]⟩, ⟨#[121]⟩] := by unfold thS; rw [thL_A]; rfl
theorem thS_B : thS pcB = [⟨#[121]⟩] := by unfold thS; rw [thL_B]; rfl
theorem al_A : alikeB (thS pcA) = true := by
  rw [thS_A]
  refine alikeB_true (fun j hj => ?_)
  have : j = 0 ∨ j = 1 := by simp at hj; omega
  rcases this with rfl | rfl <;> decide
theorem al_B : alikeB (thS pcB) = true := by
  rw [thS_B]
  refine alikeB_true (fun j hj => ?_)
  have : j = 0 := by simp at hj; omega
  subst this; decide
theorem k_dec2 : decE 2 1 pcA = 0 := by
  unfold decE
  rw [if_pos (by decide), if_pos ⟨rfl, al_A⟩, if_neg (by rw [thL_A]; decide)]
theorem k_dec3 : decE 2 1 pcB = 10 := by
  unfold decE
  rw [if_pos (by decide), if_pos ⟨rfl, al_B⟩, if_pos (by rw [thL_B]; decide)]
theorem k_dec3L : decL 2 1 pcB = [] := by
  unfold decL
  rw [if_neg (by rw [k_dec3]; decide)]
theorem k_enc4L : encL 2 1 [⟨#[97]⟩] = [] := by
  unfold encL
  rw [if_neg (by rw [k_enc4]; decide)]
theorem k_enc5L : encL 0 1 [] = [] := by
  unfold encL
  rw [if_neg (by rw [k_enc5]; decide)]
theorem k_dec2L : decL 2 1 pcA = decAll 2 1 (backX 2 pcA) (thS pcA) := by
  unfold decL
  rw [if_pos k_dec2]
  rfl
theorem k_dec2n : (decL 2 1 pcA).length = 3 := by
  rw [k_dec2L, decAll_stripe (by decide), stripeL_len (decData_len _ _ _)]
theorem sz_A : ∀ j, j < (thS pcA).length → ((thS pcA).getD j ByteArray.empty).size = 1 := by
  rw [thS_A]
  intro j hj
  have : j = 0 ∨ j = 1 := by simp at hj; omega
  rcases this with rfl | rfl <;> decide
theorem k_dec2at : (decL 2 1 pcA).getD 1 ByteArray.empty = ⟨#[120]⟩ ∧ (decL 2 1 pcA).getD 2 ByteArray.empty = ⟨#[121]⟩ := by
  have hX := back_X (k := 2) (m := 1) (by decide) (P := pcA) rfl (by rw [thL_A]; decide)
  have h := fun {i : Nat} (hi : i < 2) => dec_there (k := 2) (m := 1) (n := 1) (by decide) (by decide) (by rw [thL_A]; decide) (fun x hx => thL_lt pcA x hx) (by rw [thS_A]; decide) sz_A hX hi
  rw [k_dec2L]
  refine ⟨?_, ?_⟩
  · have := h (i := 0) (by decide)
    rw [thL_A] at this
    rw [show ([1, 2] : List Nat).getD 0 0 = 1 from rfl] at this
    rw [this, thS_A]; rfl
  · have := h (i := 1) (by decide)
    rw [thL_A] at this
    rw [show ([1, 2] : List Nat).getD 1 0 = 2 from rfl] at this
    rw [this, thS_A]; rfl
theorem k_dec2g : goodB 2 1 (decL 2 1 pcA) = true := by
  rw [k_dec2L, decAll_stripe (by decide)]
  exact stripe_good (k := 2) (m := 1) (n := 1) (by decide) (by decide) (decData_len _ _ _) (fun j hj => decData_size (sz_A 0 (by rw [thS_A]; decide)) hj) (by decide)
set_option maxRecDepth 100000 in
set_option maxHeartbeats 2000000 in
theorem lives4_any (w : World) : Calls Try.prog 6 #[] w fun e w' => e = .returned (.bool true) ∧ Below w.heap.size w w' := by
  have K1 := Lib.hid k_enc1
  have K2 := Lib.hid k_enc1L
  have K3 := Lib.hid k_enc4
  have K4 := Lib.hid k_enc5
  have K5 := Lib.hid k_good
  have K6 := Lib.hid k_dec2
  have K7 := Lib.hid k_dec3
  have K8 := Lib.hid k_dec2n
  have K9 := Lib.hid k_dec2at
  have K10 := Lib.hid k_dec2g
  go_enter Try.func6, Try.ntmps6
  go_wp2_with fail
  have hS := strs1 w ⟨#[97, 98]⟩ (by decide)
  have h := encode_res (k := 1) (m := 2) hS (by omega) (by omega)
  rw [K1.out] at h
  (with_reducible refine h.mono ?_)
  rintro e w1 ⟨v1, rfl, hs, hb⟩
  clear h hS
  have hl := K2.out
  obtain ⟨a1, c1, rfl, hc1, hm1⟩ := hs.opened
  rw [hl] at hc1 ⊢
  have HB := Lib.hid ((below_alloc w (.cells #[.string ⟨#[97, 98]⟩] 9)).trans (hb.mono (by simp)))
  clear hs hb hl
  go_wp2_with fail
  have hP := pieces3 w1 false true true ⟨#[]⟩ ⟨#[120]⟩ ⟨#[121]⟩ (by decide) (by decide) (by decide)
  have hb1 := below_alloc w1 (.cells #[.bool false, .string ⟨#[]⟩, .bool true, .string ⟨#[120]⟩, .bool true, .string ⟨#[121]⟩] 31)
  have h := decode_res (k := 2) (m := 1) (P := pcA) hP (by decide) (by omega) (by omega)
  rw [K6.out] at h
  (with_reducible refine h.mono ?_)
  rintro e w2 ⟨v2, rfl, hs, hb⟩
  clear h hP
  replace HB := Lib.hid (HB.out.trans ((hb1.trans (hb.mono hb1.size)).mono HB.out.size))
  have HL := Lib.hid hs
  obtain ⟨b2, o2, c2, rfl, hc2, hm2, _⟩ := hs.reads (by rw [K8.out]; decide)
  rw [K8.out] at hc2 HL ⊢
  clear hs hb hb1
  go_wp2_with fail
  have hP := pieces3 w2 false false true ⟨#[]⟩ ⟨#[]⟩ ⟨#[121]⟩ (by decide) (by decide) (by decide)
  have hb1 := below_alloc w2 (.cells #[.bool false, .string ⟨#[]⟩, .bool false, .string ⟨#[]⟩, .bool true, .string ⟨#[121]⟩] 31)
  have h := decode_res (k := 2) (m := 1) (P := pcB) hP (by decide) (by omega) (by omega)
  rw [K7.out, k_dec3L] at h
  (with_reducible refine h.mono ?_)
  rintro e w3 ⟨v3, rfl, hs, hb⟩
  clear h hP
  have hb2 := hb1.trans (hb.mono hb1.size)
  replace HB := Lib.hid (HB.out.trans (hb2.mono HB.out.size))
  replace HL := Lib.hid (HL.out.below hb2)
  obtain ⟨a3, c3, rfl, _, _⟩ := hs.opened
  clear hs hb hb1 hb2
  go_wp2_with fail
  have hP := strs1 w3 ⟨#[97]⟩ (by decide)
  have hb1 := below_alloc w3 (.cells #[.string ⟨#[97]⟩] 9)
  have h := encode_res (k := 2) (m := 1) hP (by omega) (by omega)
  rw [K3.out, k_enc4L] at h
  (with_reducible refine h.mono ?_)
  rintro e w4 ⟨v4, rfl, hs, hb⟩
  clear h hP
  have hb2 := hb1.trans (hb.mono hb1.size)
  replace HB := Lib.hid (HB.out.trans (hb2.mono HB.out.size))
  replace HL := Lib.hid (HL.out.below hb2)
  obtain ⟨a4, c4, rfl, _, _⟩ := hs.opened
  clear hs hb hb1 hb2
  go_wp2_with fail
  have h := encode_res (k := 0) (m := 1) (strsS_nil w4) (by omega) (by omega)
  rw [K4.out, k_enc5L] at h
  (with_reducible refine h.mono ?_)
  rintro e w5 ⟨v5, rfl, hs, hb⟩
  clear h
  replace HB := Lib.hid (HB.out.trans (hb.mono HB.out.size))
  replace HL := Lib.hid (HL.out.below hb)
  obtain ⟨a5, c5, rfl, _, _⟩ := hs.opened
  clear hs hb
  have HC : Hid (w5.cell? ⟨b2, o2 + 1, none⟩ = some (.string ⟨#[120]⟩) ∧ w5.cell? ⟨b2, o2 + 2, none⟩ = some (.string ⟨#[121]⟩)) := Lib.hid (by
    obtain ⟨b', o', c', e, _, _, h⟩ := HL.out.reads (by rw [K8.out]; decide)
    injection e with e1 _ _
    injection e1 with e1
    injection e1 with e1 e2
    subst e1; subst e2
    have h1 := (h w5 (Below.refl _ _) 1 (by rw [K8.out]; decide)).1
    have h2 := (h w5 (Below.refl _ _) 2 (by rw [K8.out]; decide)).1
    rw [K9.out.1] at h1
    rw [K9.out.2] at h2
    exact ⟨h1, h2⟩)
  obtain ⟨hx1, hx2⟩ := HC.out
  go_wp2_with fail
  have h := good_any HL.out (k := 2) (m := 1) (by omega) (by omega)
  rw [K10.out] at h
  (with_reducible refine h.mono ?_)
  rintro e w6 ⟨rfl, hb⟩
  clear h HC hx1 hx2 HL
  replace HB := Lib.hid (HB.out.trans (hb.mono HB.out.size))
  clear hb
  go_wp2_with fail
  have h := rsCheck_any 1 0 (by omega) (by omega) w6
  rw [show rsE 1 0 = 0 from if_pos (by omega)] at h
  (with_reducible refine h.mono ?_)
  rintro e w7 ⟨rfl, rfl⟩
  clear h
  go_wp2_with fail
  have hP := strs2 w6 ⟨#[97]⟩ ⟨#[98]⟩ (by decide) (by decide)
  have hb1 := below_alloc w6 (.cells #[.string ⟨#[97]⟩, .string ⟨#[98]⟩] 9)
  have h := good_any hP (k := 2) (m := 1) (by omega) (by omega)
  rw [K5.out] at h
  (with_reducible refine h.mono ?_)
  rintro e w8 ⟨rfl, hb⟩
  clear h hP
  replace HB := Lib.hid (HB.out.trans ((hb1.trans (hb.mono hb1.size)).mono HB.out.size))
  clear hb hb1
  go_wp2
  go_ret
  exact ⟨rfl, HB.out⟩
end Go.Proofs.Ytpldnbfbpajbkab
namespace Go.Proofs.Ytpldnbfbpajbkab
open Go.RowKit
open Caulk.Lin (Fn2)

def RetBool (e : Ending) : Prop := ∃ r : Bool, e = .returned (.bool r)
set_option maxHeartbeats 1000000 in
theorem small4_any {w : World} {v : Value} {S : List ByteArray} {k m : Int} (h : StrsS w v S) (hkw : -9223372036854775808 ≤ k ∧ k ≤ 9223372036854775807) (hmw : -9223372036854775808 ≤ m ∧ m ≤ 9223372036854775807) :
    Calls Try.prog 7 #[.int .i64 k, .int .i64 m, v] w fun e w' => RetBool e ∧ w = w' := by
  have HD : Hid (∀ i, i < S.length → ∃ b o, (∃ c, v = .slice (some ⟨b, o, none⟩) S.length c) ∧ w.cell? ⟨b, o + i, none⟩ = some (.string (S.getD i ByteArray.empty)) ∧ (S.getD i ByteArray.empty).size ≤ 9223372036854775807) := Lib.hid (by
    intro i hi
    obtain ⟨b1, o1, k1, e1, _, _, r1⟩ := h.reads (by omega)
    have := r1 w (Below.refl _ _) i hi
    exact ⟨b1, o1, ⟨k1, e1⟩, this.1, this.2⟩)
  obtain ⟨A, c, rfl, hl, hm⟩ := h.opened
  obtain ⟨s, hs⟩ : ∃ s : Nat → ByteArray, s = fun i => S.getD i ByteArray.empty := ⟨_, rfl⟩
  have q1 : ∀ i, S.getD i ByteArray.empty = s i := fun i => by rw [hs]
  simp only [q1] at HD
  clear h hs q1
  generalize S.length = n at *
  obtain ⟨hk1, hk2⟩ := hkw
  obtain ⟨hm1, hm2⟩ := hmw
  obtain ⟨d1, hd1⟩ : ∃ d, decide (k ≤ 16) = d := ⟨_, rfl⟩
  obtain ⟨d2, hd2⟩ : ∃ d, decide (255 < k) = d := ⟨_, rfl⟩
  obtain ⟨d3, hd3⟩ : ∃ d, decide (m ≤ 16) = d := ⟨_, rfl⟩
  obtain ⟨d4, hd4⟩ : ∃ d, decide (255 < m) = d := ⟨_, rfl⟩
  go_enter Try.func7, Try.ntmps7
  go_wp2
  go_loop [7, 12] (fun a i => ∃ q x : Nat, q ≤ n ∧ i = .int .i64 q ∧ a = .int .i64 x ∧ x ≤ 32768) (fun _ i => n - (intOf i).toNat)
  case atStart => exact ⟨0, 0, by omega, rfl, rfl, by omega⟩
  case round =>
    obtain ⟨q, x, hq, rfl, rfl, hx⟩ := hrel
    by_cases hlt : q < n
    · obtain ⟨b, o, ⟨c', hv⟩, hc, hs⟩ := HD.out q hlt
      injection hv with hv1 hv2 hv3
      subst hv1
      clear hv3 hv2
      clear hd1 hd2 hd3 hd4
      by_cases h1 : q = 16
      · have e1 : ((q : Int) == 16) = true := by subst h1; rfl
        clear h1
        obtain ⟨d5, hd5⟩ : ∃ d, decide ((16384 : Int) < ((s q).size : Int)) = d := ⟨_, rfl⟩
        obtain ⟨d6, hd6⟩ : ∃ d, decide ((16384 : Int) < (x : Int)) = d := ⟨_, rfl⟩
        go_wp2
        go_ret
        exact ⟨⟨_, rfl⟩, rfl⟩
      · have e1 : ((q : Int) == 16) = false := by simp; omega
        clear h1
        by_cases h2 : 16384 < (s q).size
        · have e2 : decide ((16384 : Int) < ((s q).size : Int)) = true := by simp; omega
          clear h2
          go_wp2
          go_ret
          exact ⟨⟨_, rfl⟩, rfl⟩
        · have e2 : decide ((16384 : Int) < ((s q).size : Int)) = false := by simp; omega
          by_cases h3 : 16384 < x
          · have e3 : decide ((16384 : Int) < (x : Int)) = true := by simp; omega
            clear h3 h2
            go_wp2
            go_ret
            exact ⟨⟨_, rfl⟩, rfl⟩
          · have e3 : decide ((16384 : Int) < (x : Int)) = false := by simp; omega
            go_wp2
            go_round
            case rel => exact ⟨q + 1, x + (s q).size, by omega, by go_num, by go_num, by omega⟩
            case measure => simp [intOf]; omega
    · obtain rfl : q = n := by omega
      obtain ⟨d5, hd5⟩ : ∃ d, decide ((x : Int) ≤ 16384) = d := ⟨_, rfl⟩
      clear HD hq hlt hl hm
      cases d1 <;> cases d2 <;> cases d3 <;> cases d4 <;> cases d5 <;> (go_wp2; go_ret; exact ⟨⟨_, rfl⟩, rfl⟩)
set_option maxHeartbeats 1000000 in
theorem same4_any {w : World} {a b : Value} {S T : List ByteArray} (ha : StrsS w a S) (hb : StrsS w b T) :
    Calls Try.prog 10 #[a, b] w fun e w' => e = .returned (.bool (decide (S = T))) ∧ Below w.heap.size w w' := by
  have ha' := ha.opened
  have hb' := hb.opened
  obtain ⟨A1, c1, rfl, hl1, hm1⟩ := ha'
  obtain ⟨A2, c2, rfl, hl2, hm2⟩ := hb'
  by_cases hlen : S.length = T.length
  · have HD : Hid (∀ i, i < S.length → ∃ b1 o1 b2 o2, A1 = some ⟨b1, o1, none⟩ ∧ A2 = some ⟨b2, o2, none⟩ ∧ ∀ W, Below w.heap.size w W → W.cell? ⟨b1, o1 + i, none⟩ = some (.string (S.getD i ByteArray.empty)) ∧ W.cell? ⟨b2, o2 + i, none⟩ = some (.string (T.getD i ByteArray.empty))) := Lib.hid (by
      intro i hi
      obtain ⟨b1, o1, k1, e1, _, _, r1⟩ := ha.reads (by omega)
      obtain ⟨b2, o2, k2, e2, _, _, r2⟩ := hb.reads (by omega)
      injection e1 with e1 _ _
      injection e2 with e2 _ _
      exact ⟨b1, o1, b2, o2, e1, e2, fun W hW => ⟨(r1 W hW i hi).1, (r2 W hW i (by omega)).1⟩⟩)
    have HEQ : Hid (S = T ↔ ∀ i, i < S.length → S.getD i ByteArray.empty = T.getD i ByteArray.empty) := Lib.hid ⟨fun h => by rw [h]; simp, fun h => by
      apply List.ext_getElem hlen
      intro i h1 h2
      have := h i h1
      simpa [List.getD, h1, h2] using this⟩
    obtain ⟨E, hE⟩ : ∃ E, E = decide (S = T) := ⟨_, rfl⟩
    have HE := Lib.hid hE
    rw [← hE]
    obtain ⟨s, hs⟩ : ∃ s : Nat → ByteArray, s = fun i => S.getD i ByteArray.empty := ⟨_, rfl⟩
    obtain ⟨t, ht⟩ : ∃ t : Nat → ByteArray, t = fun i => T.getD i ByteArray.empty := ⟨_, rfl⟩
    have q1 : ∀ i, S.getD i ByteArray.empty = s i := fun i => by rw [hs]
    have q2 : ∀ i, T.getD i ByteArray.empty = t i := fun i => by rw [ht]
    simp only [q1, q2] at HD HEQ
    clear hE ha hb hs ht q1 q2
    obtain ⟨n, hn⟩ : ∃ n, n = S.length := ⟨_, rfl⟩
    rw [← hn] at hl1 HD HEQ hlen ⊢
    rw [← hlen] at hl2 ⊢
    clear hn
    have hne : ((n : Int) != (n : Int)) = false := by simp
    clear hlen
    go_enter Try.func10, Try.ntmps10
    go_wp2
    go_loopw [13] (fun i wr => ∃ k : Nat, k ≤ n ∧ i = .int .i64 k ∧ (∀ j, j < k → s j = t j) ∧ Below w.heap.size w wr) (fun i _ => n - (intOf i).toNat)
    case atStart => exact ⟨0, by omega, rfl, fun j hj => by omega, Below.refl _ _⟩
    case round =>
      obtain ⟨k, hk, rfl, hall, hbe⟩ := hrel
      have HALL := Lib.hid hall
      have HBE := Lib.hid hbe
      clear hall hbe
      by_cases hlt : k < n
      · obtain ⟨b1, o1, b2, o2, rfl, rfl, hW⟩ := HD.out k hlt
        obtain ⟨hx, hy⟩ := hW wr HBE.out
        clear hW
        by_cases hls : s k = t k
        · have HS := Lib.hid hls
          rw [hls] at hx
          clear hls
          generalize t k = X at hx hy
          go_wp2_with fail
          go_quiet (fail)
          go_wp2
          go_roundw
          case rel =>
            refine ⟨k + 1, by omega, by go_num, fun j hj => ?_, below_drewN HBE.out _⟩
            by_cases e : j = k
            · subst e; exact HS.out
            · exact HALL.out j (by omega)
          case measure => simp [intOf]; omega
        · have HS := Lib.hid hls
          have hne2 := strs_string hls
          have hno : Hid (E = false) := Lib.hid (by rw [HE.out, decide_eq_false_iff_not]; exact fun h => HS.out (HEQ.out.1 h k hlt))
          clear hls
          generalize s k = X at hx hne2
          generalize t k = Y at hy hne2
          go_wp2_with fail
          go_quiet (fail)
          go_wp2
          go_ret
          exact ⟨ret_bool hno.out.symm, below_drewN HBE.out _⟩
      · obtain rfl : k = n := by omega
        have hyes : Hid (E = true) := Lib.hid (by rw [HE.out, decide_eq_true_eq]; exact HEQ.out.2 HALL.out)
        go_wp2
        go_ret
        exact ⟨ret_bool hyes.out.symm, HBE.out⟩
  · have hno : decide (S = T) = false := by rw [decide_eq_false_iff_not]; exact fun h => hlen (by rw [h])
    have hb1 : ((S.length : Int) != (T.length : Int)) = true := by simp; omega
    have hb2 : ((S.length : Int) == (T.length : Int)) = false := by simp; omega
    rw [hno]
    clear hno ha hb
    go_enter Try.func10, Try.ntmps10
    go_wp2
    go_ret
    exact ⟨rfl, Below.refl _ _⟩
/-- Two texts of one length, put together. -/
def putS (n : Nat) (s t : ByteArray) : ByteArray := ⟨(rowL n fun b => byteAt s b ^^^ byteAt t b).toArray⟩
theorem putS_size (n : Nat) (s t : ByteArray) : (putS n s t).size = n := by
  show (rowL n _).toArray.size = n
  rw [List.size_toArray, rowL_len]
theorem row_of_string4 (w : World) (s : ByteArray) (cap : Nat) (t : TypeId) (fr : Nat) (hf : s.size ≤ fr) : Row8 (w.alloc (.cells (bytesRow s cap) t (fr, fr + 1))).drew w.heap.size 0 s.data.toList := by
  refine ⟨?_, fun j hj => ⟨?_, ?_⟩⟩
  · show _ < (w.alloc _).heap.size
    rw [World.size_alloc]; exact Nat.lt_succ_self _
  · have hj' : j < s.data.size := by simpa using hj
    show (w.alloc _).cell? _ = _
    rw [Nat.zero_add, World.cell?_alloc_mark, bytesRow_at s cap j hj', List.getD, List.getElem?_eq_getElem hj, Option.getD_some, Array.getElem_toList]
  · have hj' : j < s.size := by simpa using hj
    show (w.alloc _).frozen? _ = _
    rw [Nat.zero_add, World.frozen?_alloc_mark]
    have : ¬ fr ≤ j := by omega
    simp [this]
set_option maxHeartbeats 1000000 in
theorem put4_any {n : Nat} {s t : ByteArray} (hs : s.size = n) (ht : t.size = n) (hn : n ≤ 65536) (w : World) :
    Calls Try.prog 12 #[.string s, .string t] w fun e w' => e = .returned (.string (putS n s t)) ∧ Below w.heap.size w w' := by
  have hcv := fun w' : World => run_bytes_of_string (P := Try.prog) w' 9 38 5 s Try.underlying9 Try.underlying38 Try.underlying5
  go_enter Try.func12, Try.ntmps12
  go_wp2
  have hrow := row_of_string4 w s (grownCap w n 0 5) 5 (bytesRow s (grownCap w n 0 5)).size (by unfold bytesRow; simp)
  have hbel : Below w.heap.size w (w.alloc (.cells (bytesRow s (grownCap w n 0 5)) 5 ((bytesRow s (grownCap w n 0 5)).size, (bytesRow s (grownCap w n 0 5)).size + 1))).drew :=
    ((Below.refl _ w).alloc (Nat.le_refl _) _).drew
  generalize (w.alloc (.cells (bytesRow s (grownCap w n 0 5)) 5 ((bytesRow s (grownCap w n 0 5)).size, (bytesRow s (grownCap w n 0 5)).size + 1))).drew = W1 at *
  clear hcv
  generalize grownCap w n 0 5 = cap at *
  have hst : s.data.toList = rowL n (byteAt s) := by
    have := list_rowL s.data.toList
    rw [show s.data.toList.length = n by rw [← hs]; simp] at this
    exact this.symm
  rw [hst] at hrow
  have HR0 := Lib.hid hrow
  have HB0 := Lib.hid hbel
  clear hrow hbel hst
  go_loopw [11] (fun i wr => ∃ k : Nat, k ≤ n ∧ i = .int .i64 k ∧ Row8 wr w.heap.size 0 (rowL n (fun b => if b < k then byteAt s b ^^^ byteAt t b else byteAt s b)) ∧ Below w.heap.size w wr) (fun i _ => n - (intOf i).toNat)
  case atStart => exact ⟨0, by omega, rfl, by rw [rowL_congr (g := byteAt s) (fun b _ => if_neg (by omega))]; exact HR0.out, HB0.out⟩
  case round =>
    clear HR0 HB0
    obtain ⟨k, hk, rfl, hrow, hbe⟩ := hrel
    have HBE := Lib.hid hbe
    clear hbe
    by_cases hlt : k < n
    · have hd := hrow.2 k (by rw [rowL_len]; exact hlt)
      rw [rowL_getD _ hlt, if_neg (Nat.lt_irrefl k), Nat.zero_add] at hd
      obtain ⟨hx1, hx2⟩ := hd
      have hd2 : decide ((k : Int) < (n : Int)) = true := by simp; omega
      have hset := hrow.set k (by rw [rowL_len]; exact hlt) (byteAt s k ^^^ byteAt t k)
      rw [rowL_set _ hlt _, Nat.zero_add] at hset
      have HSET : Hid (Row8 (wr.setCell ⟨w.heap.size, k, none⟩ (.int .u8 ((byteAt s k ^^^ byteAt t k).toNat : Int))) w.heap.size 0 (rowL n (fun b => if b < k + 1 then byteAt s b ^^^ byteAt t b else byteAt s b))) := Lib.hid (by
        rw [rowL_congr (g := fun b => if b = k then byteAt s k ^^^ byteAt t k else if b < k then byteAt s b ^^^ byteAt t b else byteAt s b) (fun b _ => by
          by_cases e : b = k
          · subst e; rw [if_pos rfl, if_pos (by omega)]
          · rw [if_neg e]
            by_cases e2 : b < k
            · rw [if_pos e2, if_pos (by omega)]
            · rw [if_neg e2, if_neg (by omega)])]
        exact hset)
      have hks : k < t.size := by omega
      have hy : t[k] = byteAt t k := by
        unfold byteAt
        rw [List.getD, List.getElem?_eq_getElem (by simpa using hks), Option.getD_some, Array.getElem_toList]; rfl
      generalize byteAt s k = x at *
      generalize byteAt t k = y at *
      have h4 := u8_xorb x y
      clear hrow hset
      go_wp2
      go_region
      go_wp2
      go_roundw
      case rel => exact ⟨k + 1, by omega, by go_num, HSET.out.drew, (HBE.out.setCell (p := ⟨w.heap.size, k, none⟩) (Nat.le_refl _) _).drew⟩
      case measure => simp [intOf]; omega
    · obtain rfl : k = n := by omega
      have hcv := string_of_row (P := Try.prog) (cap := cap) k (by rw [rowL_len]) hrow 38 9 5 Try.underlying38 Try.underlying5 Try.underlying9
      rw [rowL_congr (g := fun b => byteAt s b ^^^ byteAt t b) (fun b hb => if_pos hb)] at hcv
      have hcv2 : (convert 38 9 (.slice (some ⟨w.heap.size, 0, none⟩) k cap)).run Try.prog wr = .ok (.string (putS k s t)) wr := hcv
      clear hcv hrow
      go_wp2
      go_ret
      exact ⟨rfl, HBE.out⟩
end Go.Proofs.Ytpldnbfbpajbkab
