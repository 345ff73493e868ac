/- Clusters: the contracts of Fill and Read. Clusters: what is written is read; the plain part. -/
import Derived.Test.YtjhpheepimbbdaaGreatDoorCluR
import Derived.Test.YtjhpheepimbbdaaGreatDoorCrcB
namespace Go.Proofs.YtjhpheepimbbdaaGreatDoor
open Go.RowKit Go.Shelf

def fiE (s k m c : Int) (t : ByteArray) : Int := if GeoOk s k m c then (if (t.size : Int) ≤ geoSz s k m c then 0 else 7) else 2
def fiV (s k m c : Int) (t : ByteArray) : ByteArray := if fiE s k m c t = 0 then ⟨(t.data.toList ++ List.replicate ((geoSz s k m c).toNat - t.size) 0).toArray⟩ else ⟨#[]⟩
theorem rep_zero (n : Nat) : Lib.repeatL ([0] : List UInt8) n = List.replicate n 0 := by
  have h := Lib.repeatL_replicate (0 : UInt8) 1 n
  rw [Nat.mul_one] at h
  exact h
theorem cat_fill (t : ByteArray) (n : Nat) : t ++ (⟨(List.replicate n (0 : UInt8)).toArray⟩ : ByteArray) = ⟨(t.data.toList ++ List.replicate n 0).toArray⟩ := by
  apply ByteArray.ext
  rw [ByteArray.data_append]
  apply Array.ext'
  simp
theorem repNul_any (n : Nat) (h : n ≤ 65536) (w : World) : Calls Tryz.prog 38 #[.string ⟨#[0]⟩, .int .i64 (n : Int)] w fun e w' => e = .returned (.string ⟨(List.replicate n (0 : UInt8)).toArray⟩) ∧ Below w.heap.size w w' := by
  have h := Any.strings_Repeat Tryz.lays105 Tryz.Builder_Extra_105 ⟨#[0]⟩ n w (by omega) (by show 1 * n ≤ _; omega)
  rw [show (⟨#[0]⟩ : ByteArray).data.toList = [0] from rfl, rep_zero] at h
  exact h
set_option maxHeartbeats 1000000 in
theorem cluFill_any (s k m c : Int) (hk : W64 k) (hm : W64 m) (hc : W64 c) (t : ByteArray) (ht : t.size ≤ 140737488355328) (w : World) :
    Calls Tryz.prog 12 #[.agg #[.int .i64 s, .int .i64 k, .int .i64 m, .int .i64 c], .string t] w fun e w' => e = .returned (.tuple #[.string (fiV s k m c t), .int .i64 (fiE s k m c t)]) ∧ Below w.heap.size w w' := by
  have hC := geoCheck_any s k m c hk hm hc
  have hS := geoSize_any s k m c hk hm hc
  unfold geoV at hC hS
  by_cases g : GeoOk s k m c
  · have hz : geoSz s k m c = 512 * tw s := if_pos g
    obtain ⟨h0, h7, h4, hc2, p1, p2, hM, hM0⟩ := geoOk_b g
    rw [show geoE s k m c = 0 from if_pos g] at hC
    obtain ⟨z, hzz⟩ : ∃ z : Nat, geoSz s k m c = (z : Int) := ⟨(geoSz s k m c).toNat, by omega⟩
    have hz1 : z ≤ 65536 := by omega
    rw [hzz] at hS
    by_cases hle : t.size ≤ z
    · have e1 : fiE s k m c t = 0 := by unfold fiE; rw [if_pos g, if_pos (by rw [hzz]; omega)]
      have e2 : fiV s k m c t = t ++ (⟨(List.replicate (z - t.size) (0 : UInt8)).toArray⟩ : ByteArray) := by unfold fiV; rw [if_pos e1, hzz, cat_fill, Int.toNat_natCast]
      have hR := repNul_any (z - t.size) (by omega)
      obtain ⟨r, hr⟩ : ∃ r : ByteArray, r = ⟨(List.replicate (z - t.size) (0 : UInt8)).toArray⟩ := ⟨_, rfl⟩
      have hrs : r.size = z - t.size := by rw [hr]; show (List.replicate (z - t.size) (0 : UInt8)).toArray.size = _; rw [List.size_toArray, List.length_replicate]
      rw [← hr] at e2 hR
      have hsub : ((z : Int) - (t.size : Int)) = ((z - t.size : Nat) : Int) := by omega
      rw [← hsub] at hR
      have d0 : decide ((z : Int) < (t.size : Int)) = false := decide_eq_false (by omega)
      have d1 : decide (z < t.size) = false := decide_eq_false (by omega)
      have hcat : ¬ 9223372036854775807 < t.size + r.size := by omega
      rw [e1, e2]
      clear hsub hr hrs e1 e2 hz hzz g h0 h7 h4 hc2 p1 p2 hM hM0 hk hm hc hle
      go_enter Tryz.func12, Tryz.ntmps12
      go_wp2_with (first
        | (go_at_call 36; with_reducible refine (hC _).mono ?_; rintro e w1 ⟨rfl, hb1⟩; obtain ⟨hcc, hff⟩ := olds hb1; have HB1 : Hid (Below w.heap.size w w1) := Lib.hid (((Below.refl _ _).alloc (Nat.le_refl _) _).trans (hb1.mono (by simp))))
        | (go_at_call 37; with_reducible refine (hS _).mono ?_; rintro e w2 ⟨rfl, hb2⟩; have HB2 : Hid (Below w.heap.size w w2) := Lib.hid (HB1.out.trans (hb2.mono HB1.out.size)))
        | (go_at_call 38; with_reducible refine (hR _).mono ?_; rintro e w3 ⟨rfl, hb3⟩; have HB3 : Hid (Below w.heap.size w w3) := Lib.hid (HB2.out.trans (hb3.mono HB2.out.size))))
      go_ret2
      exact ⟨rfl, HB3.out⟩
    · have e1 : fiE s k m c t = 7 := by unfold fiE; rw [if_pos g, if_neg (by rw [hzz]; omega)]
      have e2 : fiV s k m c t = ⟨#[]⟩ := by unfold fiV; rw [if_neg (by omega)]
      have d0 : decide ((z : Int) < (t.size : Int)) = true := decide_eq_true (by omega)
      have d1 : decide (z < t.size) = true := decide_eq_true (by omega)
      rw [e1, e2]
      clear e1 e2 hz hzz g h0 h7 h4 hc2 p1 p2 hM hM0 hk hm hc hle
      go_enter Tryz.func12, Tryz.ntmps12
      go_wp2_with (first
        | (go_at_call 36; with_reducible refine (hC _).mono ?_; rintro e w1 ⟨rfl, hb1⟩; obtain ⟨hcc, hff⟩ := olds hb1; have HB1 : Hid (Below w.heap.size w w1) := Lib.hid (((Below.refl _ _).alloc (Nat.le_refl _) _).trans (hb1.mono (by simp))))
        | (go_at_call 37; with_reducible refine (hS _).mono ?_; rintro e w2 ⟨rfl, hb2⟩; have HB2 : Hid (Below w.heap.size w w2) := Lib.hid (HB1.out.trans (hb2.mono HB1.out.size))))
      go_ret2
      exact ⟨rfl, HB2.out⟩
  · have e1 : fiE s k m c t = 2 := if_neg g
    have e2 : fiV s k m c t = ⟨#[]⟩ := by unfold fiV; rw [if_neg (by omega)]
    rw [show geoE s k m c = 2 from if_neg g] at hC
    rw [e1, e2]
    clear e1 e2 g hS hk hm hc
    go_enter Tryz.func12, Tryz.ntmps12
    go_wp2_with (go_at_call 36; with_reducible refine (hC _).mono ?_; rintro e w1 ⟨rfl, hb1⟩; have HB1 : Hid (Below w.heap.size w w1) := Lib.hid (((Below.refl _ _).alloc (Nat.le_refl _) _).trans (hb1.mono (by simp))))
    go_ret2
    exact ⟨rfl, HB1.out⟩
/-! ### Read -/
/-- What Read answers: the bytes, and the error. -/
def crE (M : DM) (s k m c a : Int) (u : Int) : Int := if (crR M s k m c a).2 = 0 then (if U32 (Caulk.Crc.sum (crR M s k m c a).1) = u then 0 else 9) else (crR M s k m c a).2
def crV (M : DM) (s k m c a : Int) (u : Int) : List UInt8 := if crE M s k m c a u = 0 then (crR M s k m c a).1 else []
set_option maxHeartbeats 1000000 in
theorem cluRead_any {w : World} {h : DH} {M : DM} (d : DevAt w h M) (s k m c a u : Int) (hk : W64 k) (hm : W64 m) (hc : W64 c) (hT : Tab w) :
    Calls Tryz.prog 14 #[.pointer (some ⟨h.b, 0, none⟩), .agg #[.int .i64 s, .int .i64 k, .int .i64 m, .int .i64 c], .int .i64 a, .int .u32 u] w fun e w' => e = .returned (.tuple #[.string ⟨(crV M s k m c a u).toArray⟩, .int .i64 (crE M s k m c a u)]) ∧ Below w.heap.size w w' := by
  have hR := cluRaw_any (d.alloc (.cells #[.int .i64 s, .int .i64 k, .int .i64 m, .int .i64 c] 23)) s k m c a hk hm hc
  have hlen : (crR M s k m c a).1.length ≤ 65536 := by
    unfold crR
    split
    · rename_i h0
      have h1 := rdFold_len M (cluF s k m c a) (fun x => readV_len d x) (List.range (cluT s k m c)) ([], 0)
      have h2 := (clu_nums h0).2.2.2.1
      rw [List.length_range, List.length_nil] at h1
      have h3 : (rdS M (cluF s k m c a) (cluT s k m c)).1.length ≤ 512 * cluT s k m c := by unfold rdS; omega
      omega
    · simp
  have HB0 : Hid (Below w.heap.size w (w.alloc (.cells #[.int .i64 s, .int .i64 k, .int .i64 m, .int .i64 c] 23))) := Lib.hid (below1 _ _)
  have HTT := Lib.hid (hT.alloc (.cells #[.int .i64 s, .int .i64 k, .int .i64 m, .int .i64 c] 23))
  clear d hk hm hc hT
  unfold crV crE
  generalize crR M s k m c a = r at *
  obtain ⟨l, e0⟩ := r
  dsimp only at *
  by_cases h0 : e0 = 0
  · subst h0
    rw [if_pos rfl]
    obtain ⟨y, hy⟩ : ∃ y : ByteArray, y = ⟨l.toArray⟩ := ⟨_, rfl⟩
    have hyl : y.data.toList = l := by rw [hy]
    have hys : y.size ≤ maxLen := by rw [hy]; unfold maxLen; simp [ByteArray.size]; omega
    rw [← hyl]
    rw [← hy] at hR
    have hSum := fun W hW => crcSum_any y hys W hW
    obtain ⟨v, hv⟩ : ∃ v, v = U32 (Caulk.Crc.sum y.data.toList) := ⟨_, rfl⟩
    rw [← hv] at hSum ⊢
    clear hv hyl hys hlen hy
    by_cases h1 : v = u
    · rw [if_pos h1, if_pos rfl]
      have d0 : (v == u) = true := by simpa using h1
      have d1 : (v != u) = false := by simpa using h1
      clear h1
      go_enter Tryz.func14, Tryz.ntmps14
      go_wp2_with (first
        | (go_at_call 16; with_reducible refine hR.mono ?_; rintro e w1 ⟨rfl, hb1⟩; have HB1 := Lib.hid (HB0.out.trans (hb1.mono HB0.out.size)); have HT1 := Lib.hid (HTT.out.below hb1 (Nat.le_refl _)))
        | (go_at_call 15; with_reducible refine (hSum _ HT1.out).mono ?_; rintro e w2 ⟨rfl, rfl⟩))
      go_ret2
      exact ⟨rfl, HB1.out⟩
    · rw [if_neg h1, if_neg (by omega)]
      have d0 : (v == u) = false := by simpa using h1
      have d1 : (v != u) = true := by simpa using h1
      clear h1
      go_enter Tryz.func14, Tryz.ntmps14
      go_wp2_with (first
        | (go_at_call 16; with_reducible refine hR.mono ?_; rintro e w1 ⟨rfl, hb1⟩; have HB1 := Lib.hid (HB0.out.trans (hb1.mono HB0.out.size)); have HT1 := Lib.hid (HTT.out.below hb1 (Nat.le_refl _)))
        | (go_at_call 15; with_reducible refine (hSum _ HT1.out).mono ?_; rintro e w2 ⟨rfl, rfl⟩))
      go_ret2
      exact ⟨rfl, HB1.out⟩
  · rw [if_neg h0, if_neg h0]
    have d0 : (e0 == 0) = false := by simpa using h0
    have d1 : (e0 != 0) = true := by simpa using h0
    clear h0 hlen
    go_enter Tryz.func14, Tryz.ntmps14
    go_wp2_with (go_at_call 16; with_reducible refine hR.mono ?_; rintro e w1 ⟨rfl, hb1⟩; have HB1 := Lib.hid (HB0.out.trans (hb1.mono HB0.out.size)))
    go_ret2
    exact ⟨rfl, HB1.out⟩
end Go.Proofs.YtjhpheepimbbdaaGreatDoor
namespace Go.Proofs.YtjhpheepimbbdaaGreatDoor
open Go.RowKit

def partL (t : ByteArray) (i : Nat) : List UInt8 := (partS t i).data.toList
theorem partL_eq (t : ByteArray) (i : Nat) : partL t i = (t.data.toList.drop (i * 512)).take 512 := by
  unfold partL partS
  rw [ByteArray.data_extract, Array.toList_extract, List.extract_eq_take_drop, Nat.add_sub_cancel_left]
theorem tsize (t : ByteArray) : t.data.toList.length = t.size := by simp
theorem parts_take (t : ByteArray) : ∀ j, (List.range j).flatMap (partL t) = t.data.toList.take (j * 512)
  | 0 => by simp
  | j + 1 => by
    rw [List.range_succ, List.flatMap_append, parts_take t j, List.flatMap_singleton, partL_eq, Nat.succ_mul, List.take_add]
theorem partS_size {t : ByteArray} {T i : Nat} (ht : t.size = T * 512) (hi : i < T) : (partS t i).size = 512 := by
  rw [← tsize, show (partS t i).data.toList = partL t i from rfl, partL_eq, List.length_take, List.length_drop, tsize]; omega
/-- It is up, and has no fuse. -/
def upM (M : DM) : Prop := M.down = false ∧ M.left < 0
def frW (f : Nat → Option (List UInt8)) (A : Nat) (t : ByteArray) (j i : Nat) : Option (List UInt8) := if A ≤ i ∧ i < A + j then some (partL t (i - A)) else f i
def wrM (M : DM) (A : Nat) (t : ByteArray) (j : Nat) : DM := { M with fresh := frW M.fresh A t j, writes := M.writes + j }
theorem frW_zero (f : Nat → Option (List UInt8)) (A : Nat) (t : ByteArray) : frW f A t 0 = f := by
  funext i; unfold frW; rw [if_neg (by omega)]
theorem frW_succ (f : Nat → Option (List UInt8)) (A : Nat) (t : ByteArray) (j : Nat) : upd (frW f A t j) (A + j) (some (partL t j)) = frW f A t (j + 1) := by
  funext i
  by_cases e : i = A + j
  · subst e; rw [upd_same]; unfold frW; rw [if_pos (by omega), Nat.add_sub_cancel_left]
  · rw [upd_ne _ _ e]; unfold frW
    by_cases g : A ≤ i ∧ i < A + j
    · rw [if_pos g, if_pos (by omega)]
    · rw [if_neg g, if_neg (by omega)]
theorem wrS_up {M : DM} {A T : Nat} {t : ByteArray} (hu : upM M) (hn : A + T ≤ M.n) (ht : t.size = T * 512) : ∀ j, j ≤ T → wrS M A t j = (wrM M A t j, 0)
  | 0, _ => by unfold wrS wrM; rw [frW_zero]; rfl
  | j + 1, hj => by
    rw [wrS_succ, wrS_up hu hn ht j (by omega)]
    have hE : writeE (wrM M A t j) ((A + j : Nat) : Int) (partS t j) = 0 := by
      unfold writeE
      rw [if_neg (by rw [show (wrM M A t j).down = M.down from rfl, hu.1]; simp), if_neg (by rw [show (wrM M A t j).n = M.n from rfl, show hasB M.n ((A + j : Nat) : Int) = true from decide_eq_true ⟨by omega, by omega⟩]; simp), if_neg (by rw [partS_size ht (by omega)]; omega)]
      unfold burnE
      have := hu.2
      rw [if_neg (by show ¬ M.left = 0; omega)]
    have hB : burnM (wrM M A t j) = wrM M A t j := by
      unfold burnM
      have := hu.2
      rw [if_neg (by show ¬ M.left = 0; omega), if_neg (by show ¬ 0 < M.left; omega)]
    have hM : writeM (wrM M A t j) ((A + j : Nat) : Int) (partS t j) = wrM M A t (j + 1) := by
      unfold writeM
      rw [if_pos hE, hB, Int.toNat_natCast]
      show { wrM M A t j with fresh := upd (frW M.fresh A t j) (A + j) (some (partL t j)), writes := M.writes + j + 1 } = _
      rw [frW_succ]; rfl
    unfold wrStep
    rw [if_pos rfl, hE, hM]
theorem rdS_ok {M : DM} {A T : Nat} {l : Nat → List UInt8} (h : ∀ i, i < T → readE M ((A + i : Nat) : Int) = 0 ∧ readV M ((A + i : Nat) : Int) = l i) : ∀ j, j ≤ T → rdS M A j = ((List.range j).flatMap l, 0)
  | 0, _ => rfl
  | j + 1, hj => by
    obtain ⟨h1, h2⟩ := h j (by omega)
    rw [rdS_succ, rdS_ok h j (by omega)]
    unfold rdStep
    rw [if_pos rfl, if_pos h1, h2, List.range_succ, List.flatMap_append, List.flatMap_singleton]
theorem rdS_congr {M M' : DM} {A T : Nat} (h : ∀ i, i < T → readE M ((A + i : Nat) : Int) = readE M' ((A + i : Nat) : Int) ∧ readV M ((A + i : Nat) : Int) = readV M' ((A + i : Nat) : Int)) : ∀ j, j ≤ T → rdS M A j = rdS M' A j
  | 0, _ => rfl
  | j + 1, hj => by
    obtain ⟨h1, h2⟩ := h j (by omega)
    rw [rdS_succ, rdS_succ, rdS_congr h j (by omega)]
    unfold rdStep
    rw [h1, h2]
theorem read_fresh {M : DM} (hd : M.down = false) {i : Nat} (hi : i < M.n) {l : List UInt8} (hf : M.fresh i = some l) : readE M (i : Int) = 0 ∧ readV M (i : Int) = l := by
  have h1 : readE M (i : Int) = 0 := by
    unfold readE
    rw [if_neg (by rw [hd]; simp), if_neg (by rw [show hasB M.n (i : Int) = true from decide_eq_true ⟨by omega, by omega⟩]; simp), Int.toNat_natCast, hf]
  exact ⟨h1, by unfold readV; rw [if_pos h1, Int.toNat_natCast, hf]⟩
theorem read_sure {M : DM} (hd : M.down = false) {i : Nat} (hi : i < M.n) (hf : M.fresh i = none) (hb : M.bad i = false) : readE M (i : Int) = 0 ∧ readV M (i : Int) = M.sure i := by
  have h1 : readE M (i : Int) = 0 := by
    unfold readE
    rw [if_neg (by rw [hd]; simp), if_neg (by rw [show hasB M.n (i : Int) = true from decide_eq_true ⟨by omega, by omega⟩]; simp), Int.toNat_natCast, hf]
    simp only [hb]; simp
  exact ⟨h1, by unfold readV; rw [if_pos h1, Int.toNat_natCast, hf]⟩
theorem rdS_wr {M : DM} {A T : Nat} {t : ByteArray} (hd : M.down = false) (hn : A + T ≤ M.n) (ht : t.size = T * 512) : rdS (wrM M A t T) A T = (t.data.toList, 0) := by
  rw [rdS_ok (l := partL t) (fun i hi => read_fresh (M := wrM M A t T) hd (by show A + i < M.n; omega) (by show frW M.fresh A t T (A + i) = _; unfold frW; rw [if_pos (by omega), Nat.add_sub_cancel_left])) T (Nat.le_refl _), parts_take, List.take_of_length_le (by rw [tsize]; omega)]
/-- Another cluster is as it was. -/
theorem read_apart {M : DM} {A T B i : Nat} {t : ByteArray} (h : B + T ≤ A ∨ A + T ≤ B) (hi : i < T) : readE (wrM M A t T) ((B + i : Nat) : Int) = readE M ((B + i : Nat) : Int) ∧ readV (wrM M A t T) ((B + i : Nat) : Int) = readV M ((B + i : Nat) : Int) := by
  have hf : (wrM M A t T).fresh (B + i) = M.fresh (B + i) := by show frW M.fresh A t T (B + i) = _; unfold frW; rw [if_neg (by omega)]
  have h1 : readE (wrM M A t T) ((B + i : Nat) : Int) = readE M ((B + i : Nat) : Int) := by
    unfold readE
    rw [Int.toNat_natCast, hf]; rfl
  refine ⟨h1, ?_⟩
  unfold readV
  rw [h1, Int.toNat_natCast, hf]; rfl

/-! ### with a geometry -/
section
variable {s k m c a b : Int} {M : DM} {t : ByteArray}
theorem cw_up (hu : upM M) (h : geoFe s k m c a = 0) (hn : geoSec s k m c ≤ (M.n : Int)) (ht : (t.size : Int) = geoSz s k m c) : cwR M s k m c a t = (wrM M (cluF s k m c a) t (cluT s k m c), 0) := by
  obtain ⟨n1, n2, n3, n4, n5, n6, _⟩ := clu_nums h
  unfold cwR
  rw [if_pos h, if_pos ht]
  exact wrS_up hu (by omega) (by omega) _ (Nat.le_refl _)
theorem cr_wr (hd : M.down = false) (h : geoFe s k m c a = 0) (hn : geoSec s k m c ≤ (M.n : Int)) (ht : (t.size : Int) = geoSz s k m c) : crR (wrM M (cluF s k m c a) t (cluT s k m c)) s k m c a = (t.data.toList, 0) := by
  obtain ⟨n1, n2, n3, n4, n5, n6, _⟩ := clu_nums h
  unfold crR
  rw [if_pos h]
  exact rdS_wr hd (by omega) (by omega)
theorem cr_apart (h : geoFe s k m c a = 0) (hab : b ≠ a) : crR (wrM M (cluF s k m c a) t (cluT s k m c)) s k m c b = crR M s k m c b := by
  unfold crR
  by_cases g : geoFe s k m c b = 0
  · rw [if_pos g, if_pos g]
    obtain ⟨_, _, n3, n4, _, _, n7, n8⟩ := clu_nums h
    obtain ⟨_, _, _, _, _, _, _, m8⟩ := clu_nums g
    refine rdS_congr (fun i hi => read_apart ?_ hi) _ (Nat.le_refl _)
    rcases Int.lt_or_gt_of_ne hab with q | q
    · left
      have h1 : (b + 1) * tw s ≤ a * tw s := Int.mul_le_mul_of_nonneg_right (by omega) (by omega)
      rw [Int.add_mul, Int.one_mul] at h1
      omega
    · right
      have h1 : (a + 1) * tw s ≤ b * tw s := Int.mul_le_mul_of_nonneg_right (by omega) (by omega)
      rw [Int.add_mul, Int.one_mul] at h1
      omega
  · rw [if_neg g, if_neg g]
/-- A new container reads as noughts. -/
theorem cr_new {n : Nat} (hn : geoSec s k m c ≤ (n : Int)) : (crR (newM n) s k m c b).2 = geoFe s k m c b := by
  unfold crR
  by_cases g : geoFe s k m c b = 0
  · rw [if_pos g, g]
    obtain ⟨_, _, n3, n4, n5, n6, n7, n8⟩ := clu_nums g
    rw [rdS_ok (l := fun _ => blankB) (fun i hi => read_sure (M := newM n) rfl (by show cluF s k m c b + i < n; omega) rfl rfl) _ (Nat.le_refl _)]
  · rw [if_neg g]
theorem fe_cases : geoFe s k m c a = 0 ∨ geoFe s k m c a = 1 ∨ geoFe s k m c a = 2 := by
  unfold geoFe
  split
  · split
    · exact .inl rfl
    · exact .inr (.inl rfl)
  · exact .inr (.inr rfl)
theorem fe_geo (h : GeoOk s k m c) : geoFe s k m c a = 0 ∨ geoFe s k m c a = 1 := by
  unfold geoFe
  rw [if_pos h]
  split
  · exact .inl rfl
  · exact .inr rfl
theorem fi_size (h : fiE s k m c t = 0) : ((fiV s k m c t).size : Int) = geoSz s k m c := by
  have h' := h
  unfold fiE at h
  split at h
  · rename_i g
    split at h
    · rename_i g2
      unfold fiV
      rw [if_pos h', ← tsize]
      show ((List.length (t.data.toList ++ List.replicate ((geoSz s k m c).toNat - t.size) 0) : Nat) : Int) = _
      rw [List.length_append, List.length_replicate, tsize]
      omega
    · omega
  · omega
theorem fi_no (h : fiE s k m c t ≠ 0) : fiV s k m c t = ⟨#[]⟩ := if_neg h
theorem fi_geo (h : GeoOk s k m c) : fiE s k m c t = 0 ∨ fiE s k m c t = 7 := by
  unfold fiE
  rw [if_pos h]
  split
  · exact .inl rfl
  · exact .inr rfl
theorem sz_pos (h : GeoOk s k m c) : 512 ≤ geoSz s k m c ∧ geoSz s k m c ≤ 65536 := by
  obtain ⟨h0, h7, h4, hc2, p1, p2, hM, hM0⟩ := geoOk_b h
  have : geoSz s k m c = 512 * tw s := if_pos h
  omega
end
end Go.Proofs.YtjhpheepimbbdaaGreatDoor
