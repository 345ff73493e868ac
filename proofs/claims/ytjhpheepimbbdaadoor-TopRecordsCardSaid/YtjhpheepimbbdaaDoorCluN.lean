/- Clusters: what is written is read; the plain part. -/
import Derived.Test.YtjhpheepimbbdaaDoorCluF
namespace Go.Proofs.YtjhpheepimbbdaaDoor
open Go.RowKit

def partL (t : ByteArray) (i : Nat) : List UInt8 := (partS t i).data.toList
theorem partL_eq (t : ByteArray) (i : Nat) : partL t i = (t.data.toList.drop (i * 512)).take 512 := by
  unfold partL partS
  rw [ByteArray.data_extract, Array.toList_extract, List.extract_eq_take_drop, Nat.add_sub_cancel_left]
theorem tsize (t : ByteArray) : t.data.toList.length = t.size := by simp
theorem parts_take (t : ByteArray) : ∀ j, (List.range j).flatMap (partL t) = t.data.toList.take (j * 512)
  | 0 => by simp
  | j + 1 => by
    rw [List.range_succ, List.flatMap_append, parts_take t j, List.flatMap_singleton, partL_eq, Nat.succ_mul, List.take_add]
theorem partS_size {t : ByteArray} {T i : Nat} (ht : t.size = T * 512) (hi : i < T) : (partS t i).size = 512 := by
  rw [← tsize, show (partS t i).data.toList = partL t i from rfl, partL_eq, List.length_take, List.length_drop, tsize]; omega
/-- It is up, and has no fuse. -/
def upM (M : DM) : Prop := M.down = false ∧ M.left < 0
def frW (f : Nat → Option (List UInt8)) (A : Nat) (t : ByteArray) (j i : Nat) : Option (List UInt8) := if A ≤ i ∧ i < A + j then some (partL t (i - A)) else f i
def wrM (M : DM) (A : Nat) (t : ByteArray) (j : Nat) : DM := { M with fresh := frW M.fresh A t j, writes := M.writes + j }
theorem frW_zero (f : Nat → Option (List UInt8)) (A : Nat) (t : ByteArray) : frW f A t 0 = f := by
  funext i; unfold frW; rw [if_neg (by omega)]
theorem frW_succ (f : Nat → Option (List UInt8)) (A : Nat) (t : ByteArray) (j : Nat) : upd (frW f A t j) (A + j) (some (partL t j)) = frW f A t (j + 1) := by
  funext i
  by_cases e : i = A + j
  · subst e; rw [upd_same]; unfold frW; rw [if_pos (by omega), Nat.add_sub_cancel_left]
  · rw [upd_ne _ _ e]; unfold frW
    by_cases g : A ≤ i ∧ i < A + j
    · rw [if_pos g, if_pos (by omega)]
    · rw [if_neg g, if_neg (by omega)]
theorem wrS_up {M : DM} {A T : Nat} {t : ByteArray} (hu : upM M) (hn : A + T ≤ M.n) (ht : t.size = T * 512) : ∀ j, j ≤ T → wrS M A t j = (wrM M A t j, 0)
  | 0, _ => by unfold wrS wrM; rw [frW_zero]; rfl
  | j + 1, hj => by
    rw [wrS_succ, wrS_up hu hn ht j (by omega)]
    have hE : writeE (wrM M A t j) ((A + j : Nat) : Int) (partS t j) = 0 := by
      unfold writeE
      rw [if_neg (by rw [show (wrM M A t j).down = M.down from rfl, hu.1]; simp), if_neg (by rw [show (wrM M A t j).n = M.n from rfl, show hasB M.n ((A + j : Nat) : Int) = true from decide_eq_true ⟨by omega, by omega⟩]; simp), if_neg (by rw [partS_size ht (by omega)]; omega)]
      unfold burnE
      have := hu.2
      rw [if_neg (by show ¬ M.left = 0; omega)]
    have hB : burnM (wrM M A t j) = wrM M A t j := by
      unfold burnM
      have := hu.2
      rw [if_neg (by show ¬ M.left = 0; omega), if_neg (by show ¬ 0 < M.left; omega)]
    have hM : writeM (wrM M A t j) ((A + j : Nat) : Int) (partS t j) = wrM M A t (j + 1) := by
      unfold writeM
      rw [if_pos hE, hB, Int.toNat_natCast]
      show { wrM M A t j with fresh := upd (frW M.fresh A t j) (A + j) (some (partL t j)), writes := M.writes + j + 1 } = _
      rw [frW_succ]; rfl
    unfold wrStep
    rw [if_pos rfl, hE, hM]
theorem rdS_ok {M : DM} {A T : Nat} {l : Nat → List UInt8} (h : ∀ i, i < T → readE M ((A + i : Nat) : Int) = 0 ∧ readV M ((A + i : Nat) : Int) = l i) : ∀ j, j ≤ T → rdS M A j = ((List.range j).flatMap l, 0)
  | 0, _ => rfl
  | j + 1, hj => by
    obtain ⟨h1, h2⟩ := h j (by omega)
    rw [rdS_succ, rdS_ok h j (by omega)]
    unfold rdStep
    rw [if_pos rfl, if_pos h1, h2, List.range_succ, List.flatMap_append, List.flatMap_singleton]
theorem rdS_congr {M M' : DM} {A T : Nat} (h : ∀ i, i < T → readE M ((A + i : Nat) : Int) = readE M' ((A + i : Nat) : Int) ∧ readV M ((A + i : Nat) : Int) = readV M' ((A + i : Nat) : Int)) : ∀ j, j ≤ T → rdS M A j = rdS M' A j
  | 0, _ => rfl
  | j + 1, hj => by
    obtain ⟨h1, h2⟩ := h j (by omega)
    rw [rdS_succ, rdS_succ, rdS_congr h j (by omega)]
    unfold rdStep
    rw [h1, h2]
theorem read_fresh {M : DM} (hd : M.down = false) {i : Nat} (hi : i < M.n) {l : List UInt8} (hf : M.fresh i = some l) : readE M (i : Int) = 0 ∧ readV M (i : Int) = l := by
  have h1 : readE M (i : Int) = 0 := by
    unfold readE
    rw [if_neg (by rw [hd]; simp), if_neg (by rw [show hasB M.n (i : Int) = true from decide_eq_true ⟨by omega, by omega⟩]; simp), Int.toNat_natCast, hf]
  exact ⟨h1, by unfold readV; rw [if_pos h1, Int.toNat_natCast, hf]⟩
theorem read_sure {M : DM} (hd : M.down = false) {i : Nat} (hi : i < M.n) (hf : M.fresh i = none) (hb : M.bad i = false) : readE M (i : Int) = 0 ∧ readV M (i : Int) = M.sure i := by
  have h1 : readE M (i : Int) = 0 := by
    unfold readE
    rw [if_neg (by rw [hd]; simp), if_neg (by rw [show hasB M.n (i : Int) = true from decide_eq_true ⟨by omega, by omega⟩]; simp), Int.toNat_natCast, hf]
    simp only [hb]; simp
  exact ⟨h1, by unfold readV; rw [if_pos h1, Int.toNat_natCast, hf]⟩
theorem rdS_wr {M : DM} {A T : Nat} {t : ByteArray} (hd : M.down = false) (hn : A + T ≤ M.n) (ht : t.size = T * 512) : rdS (wrM M A t T) A T = (t.data.toList, 0) := by
  rw [rdS_ok (l := partL t) (fun i hi => read_fresh (M := wrM M A t T) hd (by show A + i < M.n; omega) (by show frW M.fresh A t T (A + i) = _; unfold frW; rw [if_pos (by omega), Nat.add_sub_cancel_left])) T (Nat.le_refl _), parts_take, List.take_of_length_le (by rw [tsize]; omega)]
/-- Another cluster is as it was. -/
theorem read_apart {M : DM} {A T B i : Nat} {t : ByteArray} (h : B + T ≤ A ∨ A + T ≤ B) (hi : i < T) : readE (wrM M A t T) ((B + i : Nat) : Int) = readE M ((B + i : Nat) : Int) ∧ readV (wrM M A t T) ((B + i : Nat) : Int) = readV M ((B + i : Nat) : Int) := by
  have hf : (wrM M A t T).fresh (B + i) = M.fresh (B + i) := by show frW M.fresh A t T (B + i) = _; unfold frW; rw [if_neg (by omega)]
  have h1 : readE (wrM M A t T) ((B + i : Nat) : Int) = readE M ((B + i : Nat) : Int) := by
    unfold readE
    rw [Int.toNat_natCast, hf]; rfl
  refine ⟨h1, ?_⟩
  unfold readV
  rw [h1, Int.toNat_natCast, hf]; rfl

/-! ### with a geometry -/
section
variable {s k m c a b : Int} {M : DM} {t : ByteArray}
theorem cw_up (hu : upM M) (h : geoFe s k m c a = 0) (hn : geoSec s k m c ≤ (M.n : Int)) (ht : (t.size : Int) = geoSz s k m c) : cwR M s k m c a t = (wrM M (cluF s k m c a) t (cluT s k m c), 0) := by
  obtain ⟨n1, n2, n3, n4, n5, n6, _⟩ := clu_nums h
  unfold cwR
  rw [if_pos h, if_pos ht]
  exact wrS_up hu (by omega) (by omega) _ (Nat.le_refl _)
theorem cr_wr (hd : M.down = false) (h : geoFe s k m c a = 0) (hn : geoSec s k m c ≤ (M.n : Int)) (ht : (t.size : Int) = geoSz s k m c) : crR (wrM M (cluF s k m c a) t (cluT s k m c)) s k m c a = (t.data.toList, 0) := by
  obtain ⟨n1, n2, n3, n4, n5, n6, _⟩ := clu_nums h
  unfold crR
  rw [if_pos h]
  exact rdS_wr hd (by omega) (by omega)
theorem cr_apart (h : geoFe s k m c a = 0) (hab : b ≠ a) : crR (wrM M (cluF s k m c a) t (cluT s k m c)) s k m c b = crR M s k m c b := by
  unfold crR
  by_cases g : geoFe s k m c b = 0
  · rw [if_pos g, if_pos g]
    obtain ⟨_, _, n3, n4, _, _, n7, n8⟩ := clu_nums h
    obtain ⟨_, _, _, _, _, _, _, m8⟩ := clu_nums g
    refine rdS_congr (fun i hi => read_apart ?_ hi) _ (Nat.le_refl _)
    rcases Int.lt_or_gt_of_ne hab with q | q
    · left
      have h1 : (b + 1) * tw s ≤ a * tw s := Int.mul_le_mul_of_nonneg_right (by omega) (by omega)
      rw [Int.add_mul, Int.one_mul] at h1
      omega
    · right
      have h1 : (a + 1) * tw s ≤ b * tw s := Int.mul_le_mul_of_nonneg_right (by omega) (by omega)
      rw [Int.add_mul, Int.one_mul] at h1
      omega
  · rw [if_neg g, if_neg g]
/-- A new container reads as noughts. -/
theorem cr_new {n : Nat} (hn : geoSec s k m c ≤ (n : Int)) : (crR (newM n) s k m c b).2 = geoFe s k m c b := by
  unfold crR
  by_cases g : geoFe s k m c b = 0
  · rw [if_pos g, g]
    obtain ⟨_, _, n3, n4, n5, n6, n7, n8⟩ := clu_nums g
    rw [rdS_ok (l := fun _ => blankB) (fun i hi => read_sure (M := newM n) rfl (by show cluF s k m c b + i < n; omega) rfl rfl) _ (Nat.le_refl _)]
  · rw [if_neg g]
theorem fe_cases : geoFe s k m c a = 0 ∨ geoFe s k m c a = 1 ∨ geoFe s k m c a = 2 := by
  unfold geoFe
  split
  · split
    · exact .inl rfl
    · exact .inr (.inl rfl)
  · exact .inr (.inr rfl)
theorem fe_geo (h : GeoOk s k m c) : geoFe s k m c a = 0 ∨ geoFe s k m c a = 1 := by
  unfold geoFe
  rw [if_pos h]
  split
  · exact .inl rfl
  · exact .inr rfl
theorem fi_size (h : fiE s k m c t = 0) : ((fiV s k m c t).size : Int) = geoSz s k m c := by
  have h' := h
  unfold fiE at h
  split at h
  · rename_i g
    split at h
    · rename_i g2
      unfold fiV
      rw [if_pos h', ← tsize]
      show ((List.length (t.data.toList ++ List.replicate ((geoSz s k m c).toNat - t.size) 0) : Nat) : Int) = _
      rw [List.length_append, List.length_replicate, tsize]
      omega
    · omega
  · omega
theorem fi_no (h : fiE s k m c t ≠ 0) : fiV s k m c t = ⟨#[]⟩ := if_neg h
theorem fi_geo (h : GeoOk s k m c) : fiE s k m c t = 0 ∨ fiE s k m c t = 7 := by
  unfold fiE
  rw [if_pos h]
  split
  · exact .inl rfl
  · exact .inr rfl
theorem sz_pos (h : GeoOk s k m c) : 512 ≤ geoSz s k m c ∧ geoSz s k m c ≤ 65536 := by
  obtain ⟨h0, h7, h4, hc2, p1, p2, hM, hM0⟩ := geoOk_b h
  have : geoSz s k m c = 512 * tw s := if_pos h
  omega
end
end Go.Proofs.YtjhpheepimbbdaaDoor
