/- A stripe's pieces, and what brings them back. -/
import Derived.Test.YtpldnbfbpajbkabRsI
namespace Go.Proofs.Ytpldnbfbpajbkab
open Go.RowKit
open Caulk.Lin (Fn2 sx stack invM vec sx_congr sx_single inv_some)
open Caulk.Gf (mul one_mul mul_zeroR)

theorem str_ext {s t : ByteArray} {n : Nat} (hs : s.size = n) (ht : t.size = n) (h : ∀ b, b < n → byteAt s b = byteAt t b) : s = t := by
  apply ByteArray.ext
  apply Array.ext (by show s.size = t.size; omega)
  intro i h1 h2
  have hi : i < n := by have : i < s.size := h1; omega
  have := h i hi
  unfold byteAt at this
  rw [List.getD, List.getD, List.getElem?_eq_getElem (by simpa using h1), List.getElem?_eq_getElem (by simpa using h2)] at this
  simpa using this
theorem byteAt_weave {k n b : Nat} (f : Fn2) (D : List ByteArray) (i : Nat) (h : b < n) : byteAt (weaveS k n f D i) b = weaveF k f D i b := by
  unfold byteAt weaveS
  exact rowL_getD _ h
/-- All pieces of a stripe. -/
def stripeL (k m : Nat) (D : List ByteArray) : List ByteArray := D ++ parL k m D
theorem stripeL_len {k m : Nat} {D : List ByteArray} (h : D.length = k) : (stripeL k m D).length = k + m := by unfold stripeL parL; rw [List.length_append, weaveL_len, h]
theorem stripe_low {k m a : Nat} {D : List ByteArray} (h : D.length = k) (ha : a < k) : (stripeL k m D).getD a ByteArray.empty = D.getD a ByteArray.empty := by
  unfold stripeL
  rw [List.getD, List.getD, List.getElem?_append_left (by omega)]
theorem stripe_high {k m a : Nat} {D : List ByteArray} (h : D.length = k) (ha : a < m) : (stripeL k m D).getD (k + a) ByteArray.empty = weaveS k (D.getD 0 ByteArray.empty).size (cauF k) D a := by
  unfold stripeL
  rw [List.getD, List.getElem?_append_right (by omega), show k + a - D.length = a by omega]
  exact weaveL_getD _ _ ha
theorem stripe_size {k m a n : Nat} {D : List ByteArray} (h : D.length = k) (hk : 1 ≤ k) (hn : ∀ j, j < k → (D.getD j ByteArray.empty).size = n) (ha : a < k + m) : ((stripeL k m D).getD a ByteArray.empty).size = n := by
  by_cases e : a < k
  · rw [stripe_low h e, hn a e]
  · obtain ⟨c, rfl⟩ : ∃ c, a = k + c := ⟨a - k, by omega⟩
    rw [stripe_high h (by omega), weaveS_size, hn 0 (by omega)]
/-- Each piece is its row, times the data. -/
theorem stripe_row {k m a b n : Nat} {D : List ByteArray} (hkm : k + m ≤ 255) (h : D.length = k) (hk : 1 ≤ k) (hn : ∀ j, j < k → (D.getD j ByteArray.empty).size = n) (ha : a < k + m) (hb : b < n) :
    byteAt ((stripeL k m D).getD a ByteArray.empty) b = sx k (fun c => mul (stack k a c) (byteAt (D.getD c ByteArray.empty) b)) := by
  by_cases e : a < k
  · rw [stripe_low h e, sx_single (p := a) e]
    · unfold stack; rw [if_pos e, if_pos rfl, one_mul]
    · intro i _ hi
      unfold stack; rw [if_pos e, if_neg (fun q => hi q.symm), Caulk.Gf.mul_comm, mul_zeroR]
  · obtain ⟨c, rfl⟩ : ∃ c, a = k + c := ⟨a - k, by omega⟩
    rw [stripe_high h (by omega), hn 0 (by omega), byteAt_weave _ _ _ hb]
    unfold weaveF
    exact sx_congr (fun j hj => by rw [stack_cau hj (by omega)])
theorem decData_len (k : Nat) (X : Fn2) (T : List ByteArray) : (decData k X T).length = k := by unfold decData; rw [weaveL_len]
theorem decData_size {k j n : Nat} {X : Fn2} {T : List ByteArray} (hn : (T.getD 0 ByteArray.empty).size = n) (hj : j < k) : ((decData k X T).getD j ByteArray.empty).size = n := by
  unfold decData; rw [weaveL_getD _ _ hj, weaveS_size, hn]
theorem decAll_stripe {k m : Nat} (hk : 1 ≤ k) (X : Fn2) (T : List ByteArray) : decAll k m X T = stripeL k m (decData k X T) := by
  unfold decAll stripeL parL
  rw [decData_size rfl (by omega)]
theorem decData_byte {k b i n : Nat} {X : Fn2} {T : List ByteArray} (hn : (T.getD 0 ByteArray.empty).size = n) (hi : i < k) (hb : b < n) :
    byteAt ((decData k X T).getD i ByteArray.empty) b = vec k X (fun c => byteAt (T.getD c ByteArray.empty) b) i := by
  unfold decData
  rw [weaveL_getD _ _ hi, hn, byteAt_weave _ _ _ hb]
  unfold weaveF vec
  exact sx_congr (fun j hj => by
    have : (T.take k).getD j ByteArray.empty = T.getD j ByteArray.empty := by simp [List.getD, hj]
    rw [this])
theorem pick_row {k i : Nat} {l : List Nat} (hi : i < k) (hl : k ≤ l.length) (c : Nat) : pickF (stack k) ((l.take k).map fun i : Nat => (i : Int)) i c = stack k (l.getD i 0) c := by
  unfold pickF
  have h2 : i < l.length := by omega
  have e : ((l.take k).map fun i : Nat => (i : Int)).getD i 0 = ((l.getD i 0 : Nat) : Int) := by simp [List.getD, hi, h2]
  rw [e, Int.toNat_natCast]
/-- What is there comes back as it is. -/
theorem dec_there {k m n : Nat} {l : List Nat} {X : Fn2} {T : List ByteArray} (hk : 1 ≤ k) (hkm : k + m ≤ 255) (hl : k ≤ l.length) (hlt : ∀ x, x ∈ l → x < k + m) (hT : k ≤ T.length) (hn : ∀ j, j < T.length → (T.getD j ByteArray.empty).size = n)
    (hX : invM k (pickF (stack k) ((l.take k).map fun i : Nat => (i : Int))) = some X) {i : Nat} (hi : i < k) :
    (decAll k m X T).getD (l.getD i 0) ByteArray.empty = T.getD i ByteArray.empty := by
  have ha : l.getD i 0 < k + m := hlt _ (by rw [List.getD, List.getElem?_eq_getElem (by omega)]; exact List.getElem_mem _)
  have h0 : (T.getD 0 ByteArray.empty).size = n := hn 0 (by omega)
  have hs : ∀ j, j < k → ((decData k X T).getD j ByteArray.empty).size = n := fun j hj => decData_size h0 hj
  rw [decAll_stripe hk]
  refine str_ext (stripe_size (decData_len _ _ _) hk hs ha) (hn i (by omega)) (fun b hb => ?_)
  rw [stripe_row hkm (decData_len _ _ _) hk hs ha hb]
  have h := (inv_some hX (fun c => byteAt ((decData k X T).getD c ByteArray.empty) b) (fun c => byteAt (T.getD c ByteArray.empty) b)).2 (fun r hr => decData_byte h0 hr hb) i hi
  rw [h]
  unfold vec
  exact sx_congr (fun c _ => by rw [pick_row hi hl])
/-- Of a stripe's pieces all come back. -/
theorem dec_stripe {k m n : Nat} {l : List Nat} {X : Fn2} {T D : List ByteArray} (hk : 1 ≤ k) (hkm : k + m ≤ 255) (hl : k ≤ l.length) (hlt : ∀ x, x ∈ l → x < k + m) (hD : D.length = k) (hn : ∀ j, j < k → (D.getD j ByteArray.empty).size = n)
    (hT : ∀ i, i < k → T.getD i ByteArray.empty = (stripeL k m D).getD (l.getD i 0) ByteArray.empty)
    (hX : invM k (pickF (stack k) ((l.take k).map fun i : Nat => (i : Int))) = some X) : decAll k m X T = stripeL k m D := by
  have hmem : ∀ i, i < k → l.getD i 0 < k + m := fun i hi => hlt _ (by rw [List.getD, List.getElem?_eq_getElem (by omega)]; exact List.getElem_mem _)
  have h0 : (T.getD 0 ByteArray.empty).size = n := by rw [hT 0 (by omega)]; exact stripe_size hD hk hn (hmem 0 (by omega))
  rw [decAll_stripe hk]
  congr 1
  apply List.ext_getElem (by rw [decData_len, hD])
  intro i h1 h2
  have hi : i < k := by rwa [decData_len] at h1
  have e1 : (decData k X T)[i] = (decData k X T).getD i ByteArray.empty := by rw [List.getD, List.getElem?_eq_getElem h1]; rfl
  have e2 : D[i] = D.getD i ByteArray.empty := by rw [List.getD, List.getElem?_eq_getElem h2]; rfl
  rw [e1, e2]
  refine str_ext (decData_size h0 hi) (hn i hi) (fun b hb => ?_)
  rw [decData_byte h0 hi hb]
  refine ((inv_some hX (fun c => byteAt (D.getD c ByteArray.empty) b) (fun c => byteAt (T.getD c ByteArray.empty) b)).1 (fun r hr => ?_) i hi).symm
  rw [hT r hr, stripe_row hkm hD hk hn (hmem r hr) hb]
  unfold vec
  exact sx_congr (fun c _ => by rw [pick_row hr hl])
theorem alike_of {k n : Nat} {D : List ByteArray} (hD : D.length = k) (hn : ∀ j, j < k → (D.getD j ByteArray.empty).size = n) (hn2 : n ≤ 65536) : Alike D := fun j hj => by
  rw [hn j (by omega), hn 0 (by omega)]; exact ⟨rfl, hn2⟩
/-- A stripe is good. -/
theorem stripe_good {k m n : Nat} {D : List ByteArray} (hk : 1 ≤ k) (hkm : k + m ≤ 255) (hD : D.length = k) (hn : ∀ j, j < k → (D.getD j ByteArray.empty).size = n) (hn2 : n ≤ 65536) : goodB k m (stripeL k m D) = true := by
  have h0 : rsE (k : Int) (m : Int) = 0 := if_pos (by omega)
  have ht : (stripeL k m D).take k = D := by unfold stripeL; rw [← hD, List.take_left]
  have hd : (stripeL k m D).drop k = parL k m D := by unfold stripeL; rw [← hD, List.drop_left]
  have he : encE (k : Int) (m : Int) D = 0 := by
    unfold encE
    rw [if_pos h0, if_pos ⟨by omega, alikeB_true (alike_of hD hn hn2)⟩]
  unfold goodB
  rw [if_pos ⟨h0, by rw [stripeL_len hD]; omega⟩, Int.toNat_natCast, ht, hd, if_pos he]
  unfold encL
  rw [if_pos he, Int.toNat_natCast, Int.toNat_natCast]
  exact decide_eq_true rfl
end Go.Proofs.Ytpldnbfbpajbkab
