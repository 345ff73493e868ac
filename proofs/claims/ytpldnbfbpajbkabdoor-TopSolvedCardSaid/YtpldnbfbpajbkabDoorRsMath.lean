/- A stripe's pieces, and what brings them back. Slices of strings, of bools and of pieces among the arguments. The contract of caulklaw04.lives. The contracts of caulklaw04.small, caulkref04.Same and caulklaw04.put. -/
import Derived.Test.YtpldnbfbpajbkabDoorRsF
import Derived.Deep.Strs
import Derived.Deep.Grids
import Derived.Deep.SlicePairs
import Derived.SliceStrings
import Derived.OpenShut
import Derived.Laws.IdiomStrings
namespace Go.Proofs.YtpldnbfbpajbkabDoor
open Go.RowKit
open Caulk.Lin (Fn2 sx stack invM vec sx_congr sx_single inv_some)
open Caulk.Gf (mul one_mul mul_zeroR)

theorem str_ext {s t : ByteArray} {n : Nat} (hs : s.size = n) (ht : t.size = n) (h : ∀ b, b < n → byteAt s b = byteAt t b) : s = t := by
  apply ByteArray.ext
  apply Array.ext (by show s.size = t.size; omega)
  intro i h1 h2
  have hi : i < n := by have : i < s.size := h1; omega
  have := h i hi
  unfold byteAt at this
  rw [List.getD, List.getD, List.getElem?_eq_getElem (by simpa using h1), List.getElem?_eq_getElem (by simpa using h2)] at this
  simpa using this
theorem byteAt_weave {k n b : Nat} (f : Fn2) (D : List ByteArray) (i : Nat) (h : b < n) : byteAt (weaveS k n f D i) b = weaveF k f D i b := by
  unfold byteAt weaveS
  exact rowL_getD _ h
/-- All pieces of a stripe. -/
def stripeL (k m : Nat) (D : List ByteArray) : List ByteArray := D ++ parL k m D
theorem stripeL_len {k m : Nat} {D : List ByteArray} (h : D.length = k) : (stripeL k m D).length = k + m := by unfold stripeL parL; rw [List.length_append, weaveL_len, h]
theorem stripe_low {k m a : Nat} {D : List ByteArray} (h : D.length = k) (ha : a < k) : (stripeL k m D).getD a ByteArray.empty = D.getD a ByteArray.empty := by
  unfold stripeL
  rw [List.getD, List.getD, List.getElem?_append_left (by omega)]
theorem stripe_high {k m a : Nat} {D : List ByteArray} (h : D.length = k) (ha : a < m) : (stripeL k m D).getD (k + a) ByteArray.empty = weaveS k (D.getD 0 ByteArray.empty).size (cauF k) D a := by
  unfold stripeL
  rw [List.getD, List.getElem?_append_right (by omega), show k + a - D.length = a by omega]
  exact weaveL_getD _ _ ha
theorem stripe_size {k m a n : Nat} {D : List ByteArray} (h : D.length = k) (hk : 1 ≤ k) (hn : ∀ j, j < k → (D.getD j ByteArray.empty).size = n) (ha : a < k + m) : ((stripeL k m D).getD a ByteArray.empty).size = n := by
  by_cases e : a < k
  · rw [stripe_low h e, hn a e]
  · obtain ⟨c, rfl⟩ : ∃ c, a = k + c := ⟨a - k, by omega⟩
    rw [stripe_high h (by omega), weaveS_size, hn 0 (by omega)]
/-- Each piece is its row, times the data. -/
theorem stripe_row {k m a b n : Nat} {D : List ByteArray} (hkm : k + m ≤ 255) (h : D.length = k) (hk : 1 ≤ k) (hn : ∀ j, j < k → (D.getD j ByteArray.empty).size = n) (ha : a < k + m) (hb : b < n) :
    byteAt ((stripeL k m D).getD a ByteArray.empty) b = sx k (fun c => mul (stack k a c) (byteAt (D.getD c ByteArray.empty) b)) := by
  by_cases e : a < k
  · rw [stripe_low h e, sx_single (p := a) e]
    · unfold stack; rw [if_pos e, if_pos rfl, one_mul]
    · intro i _ hi
      unfold stack; rw [if_pos e, if_neg (fun q => hi q.symm), Caulk.Gf.mul_comm, mul_zeroR]
  · obtain ⟨c, rfl⟩ : ∃ c, a = k + c := ⟨a - k, by omega⟩
    rw [stripe_high h (by omega), hn 0 (by omega), byteAt_weave _ _ _ hb]
    unfold weaveF
    exact sx_congr (fun j hj => by rw [stack_cau hj (by omega)])
theorem decData_len (k : Nat) (X : Fn2) (T : List ByteArray) : (decData k X T).length = k := by unfold decData; rw [weaveL_len]
theorem decData_size {k j n : Nat} {X : Fn2} {T : List ByteArray} (hn : (T.getD 0 ByteArray.empty).size = n) (hj : j < k) : ((decData k X T).getD j ByteArray.empty).size = n := by
  unfold decData; rw [weaveL_getD _ _ hj, weaveS_size, hn]
theorem decAll_stripe {k m : Nat} (hk : 1 ≤ k) (X : Fn2) (T : List ByteArray) : decAll k m X T = stripeL k m (decData k X T) := by
  unfold decAll stripeL parL
  rw [decData_size rfl (by omega)]
theorem decData_byte {k b i n : Nat} {X : Fn2} {T : List ByteArray} (hn : (T.getD 0 ByteArray.empty).size = n) (hi : i < k) (hb : b < n) :
    byteAt ((decData k X T).getD i ByteArray.empty) b = vec k X (fun c => byteAt (T.getD c ByteArray.empty) b) i := by
  unfold decData
  rw [weaveL_getD _ _ hi, hn, byteAt_weave _ _ _ hb]
  unfold weaveF vec
  exact sx_congr (fun j hj => by
    have : (T.take k).getD j ByteArray.empty = T.getD j ByteArray.empty := by simp [List.getD, hj]
    rw [this])
theorem pick_row {k i : Nat} {l : List Nat} (hi : i < k) (hl : k ≤ l.length) (c : Nat) : pickF (stack k) ((l.take k).map fun i : Nat => (i : Int)) i c = stack k (l.getD i 0) c := by
  unfold pickF
  have h2 : i < l.length := by omega
  have e : ((l.take k).map fun i : Nat => (i : Int)).getD i 0 = ((l.getD i 0 : Nat) : Int) := by simp [List.getD, hi, h2]
  rw [e, Int.toNat_natCast]
/-- What is there comes back as it is. -/
theorem dec_there {k m n : Nat} {l : List Nat} {X : Fn2} {T : List ByteArray} (hk : 1 ≤ k) (hkm : k + m ≤ 255) (hl : k ≤ l.length) (hlt : ∀ x, x ∈ l → x < k + m) (hT : k ≤ T.length) (hn : ∀ j, j < T.length → (T.getD j ByteArray.empty).size = n)
    (hX : invM k (pickF (stack k) ((l.take k).map fun i : Nat => (i : Int))) = some X) {i : Nat} (hi : i < k) :
    (decAll k m X T).getD (l.getD i 0) ByteArray.empty = T.getD i ByteArray.empty := by
  have ha : l.getD i 0 < k + m := hlt _ (by rw [List.getD, List.getElem?_eq_getElem (by omega)]; exact List.getElem_mem _)
  have h0 : (T.getD 0 ByteArray.empty).size = n := hn 0 (by omega)
  have hs : ∀ j, j < k → ((decData k X T).getD j ByteArray.empty).size = n := fun j hj => decData_size h0 hj
  rw [decAll_stripe hk]
  refine str_ext (stripe_size (decData_len _ _ _) hk hs ha) (hn i (by omega)) (fun b hb => ?_)
  rw [stripe_row hkm (decData_len _ _ _) hk hs ha hb]
  have h := (inv_some hX (fun c => byteAt ((decData k X T).getD c ByteArray.empty) b) (fun c => byteAt (T.getD c ByteArray.empty) b)).2 (fun r hr => decData_byte h0 hr hb) i hi
  rw [h]
  unfold vec
  exact sx_congr (fun c _ => by rw [pick_row hi hl])
/-- Of a stripe's pieces all come back. -/
theorem dec_stripe {k m n : Nat} {l : List Nat} {X : Fn2} {T D : List ByteArray} (hk : 1 ≤ k) (hkm : k + m ≤ 255) (hl : k ≤ l.length) (hlt : ∀ x, x ∈ l → x < k + m) (hD : D.length = k) (hn : ∀ j, j < k → (D.getD j ByteArray.empty).size = n)
    (hT : ∀ i, i < k → T.getD i ByteArray.empty = (stripeL k m D).getD (l.getD i 0) ByteArray.empty)
    (hX : invM k (pickF (stack k) ((l.take k).map fun i : Nat => (i : Int))) = some X) : decAll k m X T = stripeL k m D := by
  have hmem : ∀ i, i < k → l.getD i 0 < k + m := fun i hi => hlt _ (by rw [List.getD, List.getElem?_eq_getElem (by omega)]; exact List.getElem_mem _)
  have h0 : (T.getD 0 ByteArray.empty).size = n := by rw [hT 0 (by omega)]; exact stripe_size hD hk hn (hmem 0 (by omega))
  rw [decAll_stripe hk]
  congr 1
  apply List.ext_getElem (by rw [decData_len, hD])
  intro i h1 h2
  have hi : i < k := by rwa [decData_len] at h1
  have e1 : (decData k X T)[i] = (decData k X T).getD i ByteArray.empty := by rw [List.getD, List.getElem?_eq_getElem h1]; rfl
  have e2 : D[i] = D.getD i ByteArray.empty := by rw [List.getD, List.getElem?_eq_getElem h2]; rfl
  rw [e1, e2]
  refine str_ext (decData_size h0 hi) (hn i hi) (fun b hb => ?_)
  rw [decData_byte h0 hi hb]
  refine ((inv_some hX (fun c => byteAt (D.getD c ByteArray.empty) b) (fun c => byteAt (T.getD c ByteArray.empty) b)).1 (fun r hr => ?_) i hi).symm
  rw [hT r hr, stripe_row hkm hD hk hn (hmem r hr) hb]
  unfold vec
  exact sx_congr (fun c _ => by rw [pick_row hr hl])
theorem alike_of {k n : Nat} {D : List ByteArray} (hD : D.length = k) (hn : ∀ j, j < k → (D.getD j ByteArray.empty).size = n) (hn2 : n ≤ 65536) : Alike D := fun j hj => by
  rw [hn j (by omega), hn 0 (by omega)]; exact ⟨rfl, hn2⟩
/-- A stripe is good. -/
theorem stripe_good {k m n : Nat} {D : List ByteArray} (hk : 1 ≤ k) (hkm : k + m ≤ 255) (hD : D.length = k) (hn : ∀ j, j < k → (D.getD j ByteArray.empty).size = n) (hn2 : n ≤ 65536) : goodB k m (stripeL k m D) = true := by
  have h0 : rsE (k : Int) (m : Int) = 0 := if_pos (by omega)
  have ht : (stripeL k m D).take k = D := by unfold stripeL; rw [← hD, List.take_left]
  have hd : (stripeL k m D).drop k = parL k m D := by unfold stripeL; rw [← hD, List.drop_left]
  have he : encE (k : Int) (m : Int) D = 0 := by
    unfold encE
    rw [if_pos h0, if_pos ⟨by omega, alikeB_true (alike_of hD hn hn2)⟩]
  unfold goodB
  rw [if_pos ⟨h0, by rw [stripeL_len hD]; omega⟩, Int.toNat_natCast, ht, hd, if_pos he]
  unfold encL
  rw [if_pos he, Int.toNat_natCast, Int.toNat_natCast]
  exact decide_eq_true rfl
end Go.Proofs.YtpldnbfbpajbkabDoor
namespace Go.Proofs.YtpldnbfbpajbkabDoor
open Go.RowKit
open Go.ChangeShapes (open_strings)
open Go.Deep (open_bools open_slice_pairs)

theorem adr_plain {w : World} {x : Addr} {v : Value} (h : w.cell? (x.add 0) = some v) : ∃ b off, x = ⟨b, off, none⟩ ∧ b < w.heap.size := by
  obtain ⟨b, off, spot⟩ := x
  have hspot : spot = none := by simpa [Addr.add] using World.cell?_spot h
  subst hspot
  exact ⟨b, off, rfl, by have := World.block_lt_of_cell? w _ h; simpa [Addr.add] using this⟩
theorem adr_add (b off j : Nat) : (⟨b, off, none⟩ : Addr).add j = ⟨b, off + j, none⟩ := by unfold Addr.add; split <;> simp_all
theorem int_of_wf {n : Int} (h : (Lit.int .i64 n).wf = true) : -9223372036854775808 ≤ n ∧ n ≤ 9223372036854775807 := by
  simp [Lit.wf, IntKind.min, IntKind.max, IntKind.signed, IntKind.bits] at h
  omega
theorem byte_of_wf {n : Int} (h : (Lit.int .u8 n).wf = true) : ∃ x : UInt8, n = (x.toNat : Int) := by
  have : 0 ≤ n ∧ n < 256 := by
    simp [Lit.wf, IntKind.min, IntKind.max, IntKind.signed, IntKind.bits] at h
    omega
  exact ⟨UInt8.ofNat n.toNat, by rw [UInt8.toNat_ofNat']; omega⟩
theorem strsS_of {H : Type} {enc : TypeId × Value → H} {P : Program} {w : World} {base : Nat} {held : Bool} {fuel t e : Nat} {A : Option Addr} {len cap : Nat} {x : DataW H × List MemPlace}
    (ht : P.underlying t = some (.slice e)) (he : P.underlying e = some .string) (hc : P.cellsOf e = 1)
    (h : DataW.trod enc P w base (fun _ => true) held fuel t (Value.slice A len cap).cells.toList = some x) : ∃ S, StrsS w (.slice A len cap) S := by
  rcases open_strings ht he hc h with ⟨hcs, _⟩ | ⟨a, len', cap', ss, hcs, _, hl, hm, hz, _, hcell, hss⟩
  · simp [Value.cells] at hcs
    obtain ⟨rfl, rfl, rfl⟩ := hcs
    exact ⟨[], strsS_nil w⟩
  · simp [Value.cells] at hcs
    obtain ⟨rfl, rfl, rfl⟩ := hcs
    simp only [if_true] at hz
    have hlen : (ss.take len).length = len := by simp; omega
    refine ⟨ss.take len, some a, cap, by rw [hlen], by simp, by rw [hlen]; exact hl, hm, fun s hs => hss s (List.mem_of_mem_take hs), ?_⟩
    by_cases h0 : len = 0
    · left; subst h0; rfl
    · right
      obtain ⟨b, off, rfl, hb⟩ := adr_plain (hcell 0 (by omega))
      refine ⟨b, off, rfl, hb, fun j hj => ?_⟩
      rw [hlen] at hj
      have hc := hcell j (by omega)
      rw [adr_add] at hc
      rw [hc, List.getD, List.getD, List.getElem?_take, if_pos hj]
/-- A slice that reads as these bools. -/
def BoolsS (w : World) (v : Value) (Q : List Bool) : Prop :=
  ∃ A cap, v = .slice A Q.length cap ∧ Q.length ≤ cap ∧ cap ≤ maxLen ∧ (Q = [] ∨ ∃ b off, A = some ⟨b, off, none⟩ ∧ b < w.heap.size ∧ ∀ j, j < Q.length → w.cell? ⟨b, off + j, none⟩ = some (.bool (Q.getD j false)))
theorem boolsS_of {H : Type} {enc : TypeId × Value → H} {P : Program} {w : World} {base : Nat} {held : Bool} {fuel t e : Nat} {A : Option Addr} {len cap : Nat} {x : DataW H × List MemPlace}
    (ht : P.underlying t = some (.slice e)) (he : P.underlying e = some .bool) (hc : P.cellsOf e = 1)
    (h : DataW.trod enc P w base (fun _ => true) held fuel t (Value.slice A len cap).cells.toList = some x) : ∃ Q, BoolsS w (.slice A len cap) Q := by
  rcases open_bools ht he hc h with ⟨hcs, _⟩ | ⟨a, len', cap', B, hcs, _, hl, hm, _, hcell⟩
  · simp [Value.cells] at hcs
    obtain ⟨rfl, rfl, rfl⟩ := hcs
    exact ⟨[], none, 0, rfl, Nat.le_refl _, Nat.zero_le _, .inl rfl⟩
  · simp [Value.cells] at hcs
    obtain ⟨rfl, rfl, rfl⟩ := hcs
    have hlen : ((List.range len).map B).length = len := by simp
    refine ⟨(List.range len).map B, some a, cap, by rw [hlen], by rw [hlen]; exact hl, hm, ?_⟩
    by_cases h0 : len = 0
    · left; subst h0; rfl
    · right
      obtain ⟨b, off, rfl, hb⟩ := adr_plain (hcell 0 (by omega))
      refine ⟨b, off, rfl, hb, fun j hj => ?_⟩
      rw [hlen] at hj
      have hc := hcell j (by omega)
      rw [adr_add] at hc
      rw [hc]
      simp [List.getD, hj]
theorem piecesS_of {H : Type} {enc : TypeId × Value → H} {P : Program} {w : World} {base : Nat} {held : Bool} {fuel t e : Nat} {f0 f1 : Field} {A : Option Addr} {len cap : Nat} {x : DataW H × List MemPlace}
    (ht : P.underlying t = some (.slice e)) (he : P.underlying e = some (.struct #[f0, f1])) (ce : P.cellsOf e = 2) (o0 : f0.offset = 0) (o1 : f1.offset = 1) (c0 : P.cellsOf f0.type = 1) (c1 : P.cellsOf f1.type = 1)
    (u0 : P.underlying f0.type = some .bool) (u1 : P.underlying f1.type = some .string)
    (h : DataW.trod enc P w base (fun _ => true) held fuel t (Value.slice A len cap).cells.toList = some x) : ∃ Q, PiecesS w (.slice A len cap) Q := by
  rcases open_slice_pairs ht he ce o0 o1 c0 c1 h with ⟨hcs, _⟩ | ⟨a, len', cap', m, n, V0, V1, D0, D1, P0, P1, hcs, _, hl, hm, hmm, _, hcell⟩
  · simp [Value.cells] at hcs
    obtain ⟨rfl, rfl, rfl⟩ := hcs
    exact ⟨[], none, 0, rfl, fun _ => rfl, Nat.le_refl _, Nat.zero_le _, fun p hp => by simp at hp, .inl rfl⟩
  · simp [Value.cells] at hcs
    obtain ⟨rfl, rfl, rfl⟩ := hcs
    simp only [if_true] at hmm
    subst hmm
    have hb : ∀ i, i < m → ∃ q : Bool × ByteArray, V0 i = .bool q.1 ∧ V1 i = .string q.2 ∧ q.2.size ≤ maxLen := fun i hi => by
      obtain ⟨_, _, g0, g1⟩ := hcell i hi
      obtain ⟨b, h1, _⟩ := DataW.trod_bool u0 g0
      obtain ⟨s, h2, _, h3⟩ := DataW.trod_string u1 g1
      exact ⟨(b, s), by simpa using h1, by simpa using h2, h3⟩
    obtain ⟨q, hq⟩ := Go.Deep.choose_lt hb
    have hlen : ((List.range len).map q).length = len := by simp
    refine ⟨(List.range len).map q, some a, m, by rw [hlen], by simp, by rw [hlen]; exact hl, hm, fun p hp => ?_, ?_⟩
    · obtain ⟨i, hi, rfl⟩ := List.mem_map.1 hp
      exact (hq i (by have := List.mem_range.1 hi; omega)).2.2
    by_cases h0 : len = 0
    · left; subst h0; rfl
    · right
      have hc0 := (hcell 0 (by omega)).1
      rw [Nat.zero_mul] at hc0
      obtain ⟨b, off, rfl, hb⟩ := adr_plain hc0
      refine ⟨b, off, rfl, hb, fun j hj => ?_⟩
      rw [hlen] at hj
      obtain ⟨g0, g1, _⟩ := hcell j (by omega)
      rw [adr_add] at g0 g1
      obtain ⟨e0, e1, _⟩ := hq j (by omega)
      rw [g0, Nat.add_assoc off, g1, e0, e1]
      have e2 : ((List.range len).map q).getD j (false, ByteArray.empty) = q j := by simp [List.getD, hj]
      rw [e2]; exact ⟨rfl, rfl⟩
end Go.Proofs.YtpldnbfbpajbkabDoor
namespace Go.Proofs.YtpldnbfbpajbkabDoor
open Go.RowKit
open Caulk.Lin (Fn2 invM)

def bS (l : List UInt8) : ByteArray := ⟨l.toArray⟩
theorem strs1 (w : World) (s : ByteArray) (h : s.size ≤ maxLen) : StrsS (w.alloc (.cells #[.string s] 9)) (.slice (some ⟨w.heap.size, 0, none⟩) 1 1) [s] := by
  refine ⟨_, 1, rfl, by simp, Nat.le_refl _, by unfold maxLen; omega, fun x hx => by simp at hx; subst hx; exact h, .inr ⟨_, 0, rfl, by simp, fun j hj => ?_⟩⟩
  rw [World.cell?_alloc_at _ _ _ _ rfl]
  have : j = 0 := by simp at hj; omega
  subst this; rfl
theorem strs2 (w : World) (s t : ByteArray) (h : s.size ≤ maxLen) (h2 : t.size ≤ maxLen) : StrsS (w.alloc (.cells #[.string s, .string t] 9)) (.slice (some ⟨w.heap.size, 0, none⟩) 2 2) [s, t] := by
  refine ⟨_, 2, rfl, by simp, Nat.le_refl _, by unfold maxLen; omega, fun x hx => ?_, .inr ⟨_, 0, rfl, by simp, fun j hj => ?_⟩⟩
  · simp at hx
    rcases hx with rfl | rfl
    · exact h
    · exact h2
  · rw [World.cell?_alloc_at _ _ _ _ rfl]
    have : j = 0 ∨ j = 1 := by simp at hj; omega
    rcases this with rfl | rfl <;> rfl
theorem pieces3 (w : World) (p q r : Bool) (s t u : ByteArray) (h : s.size ≤ maxLen) (h2 : t.size ≤ maxLen) (h3 : u.size ≤ maxLen) :
    PiecesS (w.alloc (.cells #[.bool p, .string s, .bool q, .string t, .bool r, .string u] 36)) (.slice (some ⟨w.heap.size, 0, none⟩) 3 3) [(p, s), (q, t), (r, u)] := by
  refine ⟨_, 3, rfl, by simp, Nat.le_refl _, by unfold maxLen; omega, fun x hx => ?_, .inr ⟨_, 0, rfl, by simp, fun j hj => ?_⟩⟩
  · simp at hx
    rcases hx with rfl | rfl | rfl
    · exact h
    · exact h2
    · exact h3
  · rw [World.cell?_alloc_at _ _ _ _ rfl, World.cell?_alloc_at _ _ _ _ rfl]
    have : j = 0 ∨ j = 1 ∨ j = 2 := by simp at hj; omega
    rcases this with rfl | rfl | rfl <;> exact ⟨rfl, rfl⟩
theorem k_enc1 : encE 1 2 [⟨#[97, 98]⟩] = 0 := by
  unfold encE
  rw [if_pos (by decide), if_pos ⟨rfl, alikeB_true (fun j hj => by have : j = 0 := by simp at hj; omega
                                                                   subst this; decide)⟩]
theorem k_enc1L : (encL 1 2 [⟨#[97, 98]⟩]).length = 2 := by
  unfold encL
  rw [k_enc1, if_pos rfl]
  exact weaveL_len _ _ _ _ _
theorem k_enc4 : encE 2 1 [⟨#[97]⟩] = 2 := by
  unfold encE
  rw [if_pos (by decide), if_neg (by rintro ⟨h, _⟩; simp at h)]
theorem k_enc5 : encE 0 1 [] = 1 := by
  unfold encE
  rw [if_neg (by decide)]
theorem k_good : goodB 2 1 [⟨#[97]⟩, ⟨#[98]⟩] = false := by
  unfold goodB
  rw [if_neg (by rintro ⟨_, h⟩; simp at h)]
def pcA : List (Bool × ByteArray) := [(false, ⟨#[]⟩), (true, ⟨#[120]⟩), (true, ⟨#[121]⟩)]
def pcB : List (Bool × ByteArray) := [(false, ⟨#[]⟩), (false, ⟨#[]⟩), (true, ⟨#[121]⟩)]
theorem thL_A : thL pcA = [1, 2] := by decide
theorem thL_B : thL pcB = [2] := by decide
theorem thS_A : thS pcA = [⟨#[120]⟩, ⟨#[121]⟩] := by unfold thS; rw [thL_A]; rfl
theorem thS_B : thS pcB = [⟨#[121]⟩] := by unfold thS; rw [thL_B]; rfl
theorem al_A : alikeB (thS pcA) = true := by
  rw [thS_A]
  refine alikeB_true (fun j hj => ?_)
  have : j = 0 ∨ j = 1 := by simp at hj; omega
  rcases this with rfl | rfl <;> decide
theorem al_B : alikeB (thS pcB) = true := by
  rw [thS_B]
  refine alikeB_true (fun j hj => ?_)
  have : j = 0 := by simp at hj; omega
  subst this; decide
theorem k_dec2 : decE 2 1 pcA = 0 := by
  unfold decE
  rw [if_pos (by decide), if_pos ⟨rfl, al_A⟩, if_neg (by rw [thL_A]; decide)]
theorem k_dec3 : decE 2 1 pcB = 10 := by
  unfold decE
  rw [if_pos (by decide), if_pos ⟨rfl, al_B⟩, if_pos (by rw [thL_B]; decide)]
theorem k_dec3L : decL 2 1 pcB = [] := by
  unfold decL
  rw [if_neg (by rw [k_dec3]; decide)]
theorem k_enc4L : encL 2 1 [⟨#[97]⟩] = [] := by
  unfold encL
  rw [if_neg (by rw [k_enc4]; decide)]
theorem k_enc5L : encL 0 1 [] = [] := by
  unfold encL
  rw [if_neg (by rw [k_enc5]; decide)]
theorem k_dec2L : decL 2 1 pcA = decAll 2 1 (backX 2 pcA) (thS pcA) := by
  unfold decL
  rw [if_pos k_dec2]
  rfl
theorem k_dec2n : (decL 2 1 pcA).length = 3 := by
  rw [k_dec2L, decAll_stripe (by decide), stripeL_len (decData_len _ _ _)]
theorem sz_A : ∀ j, j < (thS pcA).length → ((thS pcA).getD j ByteArray.empty).size = 1 := by
  rw [thS_A]
  intro j hj
  have : j = 0 ∨ j = 1 := by simp at hj; omega
  rcases this with rfl | rfl <;> decide
theorem k_dec2at : (decL 2 1 pcA).getD 1 ByteArray.empty = ⟨#[120]⟩ ∧ (decL 2 1 pcA).getD 2 ByteArray.empty = ⟨#[121]⟩ := by
  have hX := back_X (k := 2) (m := 1) (by decide) (P := pcA) rfl (by rw [thL_A]; decide)
  have h := fun {i : Nat} (hi : i < 2) => dec_there (k := 2) (m := 1) (n := 1) (by decide) (by decide) (by rw [thL_A]; decide) (fun x hx => thL_lt pcA x hx) (by rw [thS_A]; decide) sz_A hX hi
  rw [k_dec2L]
  refine ⟨?_, ?_⟩
  · have := h (i := 0) (by decide)
    rw [thL_A] at this
    rw [show ([1, 2] : List Nat).getD 0 0 = 1 from rfl] at this
    rw [this, thS_A]; rfl
  · have := h (i := 1) (by decide)
    rw [thL_A] at this
    rw [show ([1, 2] : List Nat).getD 1 0 = 2 from rfl] at this
    rw [this, thS_A]; rfl
theorem k_dec2g : goodB 2 1 (decL 2 1 pcA) = true := by
  rw [k_dec2L, decAll_stripe (by decide)]
  exact stripe_good (k := 2) (m := 1) (n := 1) (by decide) (by decide) (decData_len _ _ _) (fun j hj => decData_size (sz_A 0 (by rw [thS_A]; decide)) hj) (by decide)
end Go.Proofs.YtpldnbfbpajbkabDoor
namespace Go.Proofs.YtpldnbfbpajbkabDoor
open Go.RowKit
open Caulk.Lin (Fn2)

def RetBool (e : Ending) : Prop := ∃ r : Bool, e = .returned (.bool r)
/-- Two texts of one length, put together. -/
def putS (n : Nat) (s t : ByteArray) : ByteArray := ⟨(rowL n fun b => byteAt s b ^^^ byteAt t b).toArray⟩
theorem putS_size (n : Nat) (s t : ByteArray) : (putS n s t).size = n := by
  show (rowL n _).toArray.size = n
  rw [List.size_toArray, rowL_len]
theorem row_of_string4 (w : World) (s : ByteArray) (cap : Nat) (t : TypeId) (fr : Nat) (hf : s.size ≤ fr) : Row8 (w.alloc (.cells (bytesRow s cap) t (fr, fr + 1))).drew w.heap.size 0 s.data.toList := by
  refine ⟨?_, fun j hj => ⟨?_, ?_⟩⟩
  · show _ < (w.alloc _).heap.size
    rw [World.size_alloc]; exact Nat.lt_succ_self _
  · have hj' : j < s.data.size := by simpa using hj
    show (w.alloc _).cell? _ = _
    rw [Nat.zero_add, World.cell?_alloc_mark, bytesRow_at s cap j hj', List.getD, List.getElem?_eq_getElem hj, Option.getD_some, Array.getElem_toList]
  · have hj' : j < s.size := by simpa using hj
    show (w.alloc _).frozen? _ = _
    rw [Nat.zero_add, World.frozen?_alloc_mark]
    have : ¬ fr ≤ j := by omega
    simp [this]
end Go.Proofs.YtpldnbfbpajbkabDoor
