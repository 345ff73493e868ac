/- Clusters: the contracts of Fill and Read. -/
import Derived.Test.YtjhpheepimbbdaaDoorCluR
import Derived.Test.YtjhpheepimbbdaaDoorCrcB
namespace Go.Proofs.YtjhpheepimbbdaaDoor
open Go.RowKit Go.Shelf

def fiE (s k m c : Int) (t : ByteArray) : Int := if GeoOk s k m c then (if (t.size : Int) ≤ geoSz s k m c then 0 else 7) else 2
def fiV (s k m c : Int) (t : ByteArray) : ByteArray := if fiE s k m c t = 0 then ⟨(t.data.toList ++ List.replicate ((geoSz s k m c).toNat - t.size) 0).toArray⟩ else ⟨#[]⟩
theorem rep_zero (n : Nat) : Lib.repeatL ([0] : List UInt8) n = List.replicate n 0 := by
  have h := Lib.repeatL_replicate (0 : UInt8) 1 n
  rw [Nat.mul_one] at h
  exact h
theorem cat_fill (t : ByteArray) (n : Nat) : t ++ (⟨(List.replicate n (0 : UInt8)).toArray⟩ : ByteArray) = ⟨(t.data.toList ++ List.replicate n 0).toArray⟩ := by
  apply ByteArray.ext
  rw [ByteArray.data_append]
  apply Array.ext'
  simp
theorem repNul_any (n : Nat) (h : n ≤ 65536) (w : World) : Calls Tryd.prog 23 #[.string ⟨#[0]⟩, .int .i64 (n : Int)] w fun e w' => e = .returned (.string ⟨(List.replicate n (0 : UInt8)).toArray⟩) ∧ Below w.heap.size w w' := by
  have h := Any.strings_Repeat Tryd.lays105 Tryd.Builder_Extra_105 ⟨#[0]⟩ n w (by omega) (by show 1 * n ≤ _; omega)
  rw [show (⟨#[0]⟩ : ByteArray).data.toList = [0] from rfl, rep_zero] at h
  exact h
set_option maxHeartbeats 1000000 in
theorem cluFill_any (s k m c : Int) (hk : W64 k) (hm : W64 m) (hc : W64 c) (t : ByteArray) (ht : t.size ≤ 140737488355328) (w : World) :
    Calls Tryd.prog 8 #[.agg #[.int .i64 s, .int .i64 k, .int .i64 m, .int .i64 c], .string t] w fun e w' => e = .returned (.tuple #[.string (fiV s k m c t), .int .i64 (fiE s k m c t)]) ∧ Below w.heap.size w w' := by
  have hC := geoCheck_any s k m c hk hm hc
  have hS := geoSize_any s k m c hk hm hc
  unfold geoV at hC hS
  by_cases g : GeoOk s k m c
  · have hz : geoSz s k m c = 512 * tw s := if_pos g
    obtain ⟨h0, h7, h4, hc2, p1, p2, hM, hM0⟩ := geoOk_b g
    rw [show geoE s k m c = 0 from if_pos g] at hC
    obtain ⟨z, hzz⟩ : ∃ z : Nat, geoSz s k m c = (z : Int) := ⟨(geoSz s k m c).toNat, by omega⟩
    have hz1 : z ≤ 65536 := by omega
    rw [hzz] at hS
    by_cases hle : t.size ≤ z
    · have e1 : fiE s k m c t = 0 := by unfold fiE; rw [if_pos g, if_pos (by rw [hzz]; omega)]
      have e2 : fiV s k m c t = t ++ (⟨(List.replicate (z - t.size) (0 : UInt8)).toArray⟩ : ByteArray) := by unfold fiV; rw [if_pos e1, hzz, cat_fill, Int.toNat_natCast]
      have hR := repNul_any (z - t.size) (by omega)
      obtain ⟨r, hr⟩ : ∃ r : ByteArray, r = ⟨(List.replicate (z - t.size) (0 : UInt8)).toArray⟩ := ⟨_, rfl⟩
      have hrs : r.size = z - t.size := by rw [hr]; show (List.replicate (z - t.size) (0 : UInt8)).toArray.size = _; rw [List.size_toArray, List.length_replicate]
      rw [← hr] at e2 hR
      have hsub : ((z : Int) - (t.size : Int)) = ((z - t.size : Nat) : Int) := by omega
      rw [← hsub] at hR
      have d0 : decide ((z : Int) < (t.size : Int)) = false := decide_eq_false (by omega)
      have d1 : decide (z < t.size) = false := decide_eq_false (by omega)
      have hcat : ¬ 9223372036854775807 < t.size + r.size := by omega
      rw [e1, e2]
      clear hsub hr hrs e1 e2 hz hzz g h0 h7 h4 hc2 p1 p2 hM hM0 hk hm hc hle
      go_enter Tryd.func8, Tryd.ntmps8
      go_wp2_with (first
        | (go_at_call 21; with_reducible refine (hC _).mono ?_; rintro e w1 ⟨rfl, hb1⟩; obtain ⟨hcc, hff⟩ := olds hb1; have HB1 : Hid (Below w.heap.size w w1) := Lib.hid (((Below.refl _ _).alloc (Nat.le_refl _) _).trans (hb1.mono (by simp))))
        | (go_at_call 22; with_reducible refine (hS _).mono ?_; rintro e w2 ⟨rfl, hb2⟩; have HB2 : Hid (Below w.heap.size w w2) := Lib.hid (HB1.out.trans (hb2.mono HB1.out.size)))
        | (go_at_call 23; with_reducible refine (hR _).mono ?_; rintro e w3 ⟨rfl, hb3⟩; have HB3 : Hid (Below w.heap.size w w3) := Lib.hid (HB2.out.trans (hb3.mono HB2.out.size))))
      go_ret2
      exact ⟨rfl, HB3.out⟩
    · have e1 : fiE s k m c t = 7 := by unfold fiE; rw [if_pos g, if_neg (by rw [hzz]; omega)]
      have e2 : fiV s k m c t = ⟨#[]⟩ := by unfold fiV; rw [if_neg (by omega)]
      have d0 : decide ((z : Int) < (t.size : Int)) = true := decide_eq_true (by omega)
      have d1 : decide (z < t.size) = true := decide_eq_true (by omega)
      rw [e1, e2]
      clear e1 e2 hz hzz g h0 h7 h4 hc2 p1 p2 hM hM0 hk hm hc hle
      go_enter Tryd.func8, Tryd.ntmps8
      go_wp2_with (first
        | (go_at_call 21; with_reducible refine (hC _).mono ?_; rintro e w1 ⟨rfl, hb1⟩; obtain ⟨hcc, hff⟩ := olds hb1; have HB1 : Hid (Below w.heap.size w w1) := Lib.hid (((Below.refl _ _).alloc (Nat.le_refl _) _).trans (hb1.mono (by simp))))
        | (go_at_call 22; with_reducible refine (hS _).mono ?_; rintro e w2 ⟨rfl, hb2⟩; have HB2 : Hid (Below w.heap.size w w2) := Lib.hid (HB1.out.trans (hb2.mono HB1.out.size))))
      go_ret2
      exact ⟨rfl, HB2.out⟩
  · have e1 : fiE s k m c t = 2 := if_neg g
    have e2 : fiV s k m c t = ⟨#[]⟩ := by unfold fiV; rw [if_neg (by omega)]
    rw [show geoE s k m c = 2 from if_neg g] at hC
    rw [e1, e2]
    clear e1 e2 g hS hk hm hc
    go_enter Tryd.func8, Tryd.ntmps8
    go_wp2_with (go_at_call 21; with_reducible refine (hC _).mono ?_; rintro e w1 ⟨rfl, hb1⟩; have HB1 : Hid (Below w.heap.size w w1) := Lib.hid (((Below.refl _ _).alloc (Nat.le_refl _) _).trans (hb1.mono (by simp))))
    go_ret2
    exact ⟨rfl, HB1.out⟩
/-! ### Read -/
/-- What Read answers: the bytes, and the error. -/
def crE (M : DM) (s k m c a : Int) (u : Int) : Int := if (crR M s k m c a).2 = 0 then (if U32 (Caulk.Crc.sum (crR M s k m c a).1) = u then 0 else 9) else (crR M s k m c a).2
def crV (M : DM) (s k m c a : Int) (u : Int) : List UInt8 := if crE M s k m c a u = 0 then (crR M s k m c a).1 else []
set_option maxHeartbeats 1000000 in
theorem cluRead_any {w : World} {h : DH} {M : DM} (d : DevAt w h M) (s k m c a u : Int) (hk : W64 k) (hm : W64 m) (hc : W64 c) (hT : Tab w) :
    Calls Tryd.prog 11 #[.pointer (some ⟨h.b, 0, none⟩), .agg #[.int .i64 s, .int .i64 k, .int .i64 m, .int .i64 c], .int .i64 a, .int .u32 u] w fun e w' => e = .returned (.tuple #[.string ⟨(crV M s k m c a u).toArray⟩, .int .i64 (crE M s k m c a u)]) ∧ Below w.heap.size w w' := by
  have hR := cluRaw_any (d.alloc (.cells #[.int .i64 s, .int .i64 k, .int .i64 m, .int .i64 c] 23)) s k m c a hk hm hc
  have hlen : (crR M s k m c a).1.length ≤ 65536 := by
    unfold crR
    split
    · rename_i h0
      have h1 := rdFold_len M (cluF s k m c a) (fun x => readV_len d x) (List.range (cluT s k m c)) ([], 0)
      have h2 := (clu_nums h0).2.2.2.1
      rw [List.length_range, List.length_nil] at h1
      have h3 : (rdS M (cluF s k m c a) (cluT s k m c)).1.length ≤ 512 * cluT s k m c := by unfold rdS; omega
      omega
    · simp
  have HB0 : Hid (Below w.heap.size w (w.alloc (.cells #[.int .i64 s, .int .i64 k, .int .i64 m, .int .i64 c] 23))) := Lib.hid (below1 _ _)
  have HTT := Lib.hid (hT.alloc (.cells #[.int .i64 s, .int .i64 k, .int .i64 m, .int .i64 c] 23))
  clear d hk hm hc hT
  unfold crV crE
  generalize crR M s k m c a = r at *
  obtain ⟨l, e0⟩ := r
  dsimp only at *
  by_cases h0 : e0 = 0
  · subst h0
    rw [if_pos rfl]
    obtain ⟨y, hy⟩ : ∃ y : ByteArray, y = ⟨l.toArray⟩ := ⟨_, rfl⟩
    have hyl : y.data.toList = l := by rw [hy]
    have hys : y.size ≤ maxLen := by rw [hy]; unfold maxLen; simp [ByteArray.size]; omega
    rw [← hyl]
    rw [← hy] at hR
    have hSum := fun W hW => crcSum_any y hys W hW
    obtain ⟨v, hv⟩ : ∃ v, v = U32 (Caulk.Crc.sum y.data.toList) := ⟨_, rfl⟩
    rw [← hv] at hSum ⊢
    clear hv hyl hys hlen hy
    by_cases h1 : v = u
    · rw [if_pos h1, if_pos rfl]
      have d0 : (v == u) = true := by simpa using h1
      have d1 : (v != u) = false := by simpa using h1
      clear h1
      go_enter Tryd.func11, Tryd.ntmps11
      go_wp2_with (first
        | (go_at_call 9; with_reducible refine hR.mono ?_; rintro e w1 ⟨rfl, hb1⟩; have HB1 := Lib.hid (HB0.out.trans (hb1.mono HB0.out.size)); have HT1 := Lib.hid (HTT.out.below hb1 (Nat.le_refl _)))
        | (go_at_call 12; with_reducible refine (hSum _ HT1.out).mono ?_; rintro e w2 ⟨rfl, rfl⟩))
      go_ret2
      exact ⟨rfl, HB1.out⟩
    · rw [if_neg h1, if_neg (by omega)]
      have d0 : (v == u) = false := by simpa using h1
      have d1 : (v != u) = true := by simpa using h1
      clear h1
      go_enter Tryd.func11, Tryd.ntmps11
      go_wp2_with (first
        | (go_at_call 9; with_reducible refine hR.mono ?_; rintro e w1 ⟨rfl, hb1⟩; have HB1 := Lib.hid (HB0.out.trans (hb1.mono HB0.out.size)); have HT1 := Lib.hid (HTT.out.below hb1 (Nat.le_refl _)))
        | (go_at_call 12; with_reducible refine (hSum _ HT1.out).mono ?_; rintro e w2 ⟨rfl, rfl⟩))
      go_ret2
      exact ⟨rfl, HB1.out⟩
  · rw [if_neg h0, if_neg h0]
    have d0 : (e0 == 0) = false := by simpa using h0
    have d1 : (e0 != 0) = true := by simpa using h0
    clear h0 hlen
    go_enter Tryd.func11, Tryd.ntmps11
    go_wp2_with (go_at_call 9; with_reducible refine hR.mono ?_; rintro e w1 ⟨rfl, hb1⟩; have HB1 := Lib.hid (HB0.out.trans (hb1.mono HB0.out.size)))
    go_ret2
    exact ⟨rfl, HB1.out⟩
end Go.Proofs.YtjhpheepimbbdaaDoor
