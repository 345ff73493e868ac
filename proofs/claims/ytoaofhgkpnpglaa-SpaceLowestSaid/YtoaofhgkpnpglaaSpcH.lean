/- Uses of clusters: the answers that the statements ask for first. -/
import Derived.Test.YtoaofhgkpnpglaaSpcG
import Derived.Test.YtoaofhgkpnpglaaSpcC
import Derived.Deep.Cut
namespace Go.Proofs.Ytoaofhgkpnpglaa
open Go.RowKit

def q6 : List Bool := [true, true, false, false, false, false]
def v6 : List Bool := [true, true, true, true, false, false]
def x6 : List Bool := [true, true, false, true, false, false]
theorem q6_len : q6.length = 6 := rfl
theorem v6_len : v6.length = 6 := rfl
theorem x6_len : x6.length = 6 := rfl
theorem l_new6 (W : World) : Calls Try.prog 12 #[.int .i64 6] W fun e w' => ∃ r, e = .returned (.tuple #[r, .int .i64 0]) ∧ OwnU w' W.heap.size r q6 ∧ Below W.heap.size W w' := by
  have h := spNew_any 6 W
  rwa [show newE 6 = 0 by decide, show newU 6 = q6 by decide] at h
theorem l_new3 (W : World) : Calls Try.prog 12 #[.int .i64 3] W fun e w' => ∃ r, e = .returned (.tuple #[r, .int .i64 1]) ∧ OwnU w' W.heap.size r [] ∧ Below W.heap.size W w' := by
  have h := spNew_any 3 W
  rwa [show newE 3 = 1 by decide, show newU 3 = [] by decide] at h
theorem l_take2 {W : World} {v : Value} (h : UseS W v q6) : Calls Try.prog 10 #[v, .int .i64 2] W fun e w' => ∃ r l, e = .returned (.tuple #[r, l, .int .i64 0]) ∧ OwnU w' W.heap.size r v6 ∧ IdxS w' l [2, 3] ∧ Below W.heap.size W w' := by
  have h := spTake_any h (by rw [q6_len]; omega) 2
  rwa [show takeE q6 2 = 0 by decide, show takeU q6 2 = v6 by decide, show intsN (takeL q6 2) = [2, 3] by decide] at h
theorem l_take3 {W : World} {v : Value} (h : UseS W v v6) : Calls Try.prog 10 #[v, .int .i64 3] W fun e w' => ∃ r l, e = .returned (.tuple #[r, l, .int .i64 11]) ∧ OwnU w' W.heap.size r v6 ∧ IdxS w' l [] ∧ Below W.heap.size W w' := by
  have h := spTake_any h (by rw [v6_len]; omega) 3
  rwa [show takeE v6 3 = 11 by decide, show takeU v6 3 = v6 by decide, show intsN (takeL v6 3) = [] by decide] at h
theorem l_mark44 {W : World} {v a : Value} (h : UseS W v v6) (ha : IdxS W a [4, 4]) : Calls Try.prog 6 #[v, a] W fun e w' => ∃ r, e = .returned (.tuple #[r, .int .i64 4]) ∧ OwnU w' W.heap.size r v6 ∧ Below W.heap.size W w' := by
  have h := spMark_any h ha (by rw [v6_len]; omega) (by simp)
  rwa [show (turnF true 4 v6 [4, 4] v6).2 = 4 by decide, show (turnF true 4 v6 [4, 4] v6).1 = v6 by decide] at h
theorem l_mark2 {W : World} {v a : Value} (h : UseS W v x6) (ha : IdxS W a [2]) : Calls Try.prog 6 #[v, a] W fun e w' => ∃ r, e = .returned (.tuple #[r, .int .i64 0]) ∧ OwnU w' W.heap.size r v6 ∧ Below W.heap.size W w' := by
  have h := spMark_any h ha (by rw [x6_len]; omega) (by simp)
  rwa [show (turnF true 4 x6 [2] x6).2 = 0 by decide, show (turnF true 4 x6 [2] x6).1 = v6 by decide] at h
theorem l_give2 {W : World} {v a : Value} (h : UseS W v v6) (ha : IdxS W a [2]) : Calls Try.prog 8 #[v, a] W fun e w' => ∃ r, e = .returned (.tuple #[r, .int .i64 0]) ∧ OwnU w' W.heap.size r x6 ∧ Below W.heap.size W w' := by
  have h := spGive_any h ha (by rw [v6_len]; omega) (by simp)
  rwa [show (turnF false 3 v6 [2] v6).2 = 0 by decide, show (turnF false 3 v6 [2] v6).1 = x6 by decide] at h
theorem l_give5 {W : World} {v a : Value} (h : UseS W v v6) (ha : IdxS W a [5]) : Calls Try.prog 8 #[v, a] W fun e w' => ∃ r, e = .returned (.tuple #[r, .int .i64 3]) ∧ OwnU w' W.heap.size r v6 ∧ Below W.heap.size W w' := by
  have h := spGive_any h ha (by rw [v6_len]; omega) (by simp)
  rwa [show (turnF false 3 v6 [5] v6).2 = 3 by decide, show (turnF false 3 v6 [5] v6).1 = v6 by decide] at h
theorem l_free {W : World} {v : Value} (h : UseS W v x6) : Calls Try.prog 16 #[v] W fun e w' => e = .returned (.int .i64 3) ∧ Below W.heap.size W w' := by
  have h := free_any h (by rw [x6_len]; omega)
  rwa [show ((fr false x6).length : Int) = 3 by decide] at h
theorem l_used {W : World} {v : Value} (h : UseS W v v6) : Calls Try.prog 18 #[v] W fun e w' => ∃ r, e = .returned r ∧ IdxS w' r [0, 1, 2, 3] ∧ Below W.heap.size W w' := by
  have h := used_any h (by rw [v6_len]; omega)
  rwa [show intsN (fr true v6) = [0, 1, 2, 3] by decide] at h
theorem l_same {W : World} {u v : Value} {K : List Int} (hu : IdxS W u K) (hv : IdxS W v K) : Calls Try.prog 15 #[u, v] W fun e w' => e = .returned (.bool true) ∧ Below W.heap.size W w' := by
  have h := idxSame_any hu hv
  rwa [decide_eq_true (rfl : K = K)] at h
theorem l_sameU {W : World} {u v : Value} {K : List Bool} (hu : UseS W u K) (hv : UseS W v K) : Calls Try.prog 14 #[u, v] W fun e w' => e = .returned (.bool true) ∧ Below W.heap.size W w' := by
  have h := useSame_any hu hv
  rwa [decide_eq_true (rfl : K = K)] at h
/-- Numbers that are written out. -/
theorem idx_lit (W : World) (L : List Int) (t : TypeId) (hl : L.length ≤ 9) : IdxS (W.alloc (.cells (L.map (Value.int .i64)).toArray t)) (.slice (some ⟨W.heap.size, 0, none⟩) L.length L.length) L := by
  refine ⟨_, _, rfl, Nat.le_refl _, by unfold maxLen; omega, .inr ⟨W.heap.size, 0, rfl, by simp, fun j hj => ?_⟩⟩
  rw [Nat.zero_add, cell_of_row _ _ _ (L.map (Value.int .i64)).toArray t (0, 0) (heap_alloc_new W _)]
  simp [List.getD, hj]
theorem bl1 (W : World) (o : Obj) : Below W.heap.size W (W.alloc o) := (Below.refl _ _).alloc (Nat.le_refl _) _
set_option maxRecDepth 100000 in
set_option maxHeartbeats 4000000 in
theorem spLives_any (w : World) : Calls Try.prog 5 #[] w fun e w' => e = .returned (.bool true) ∧ Below w.heap.size w w' := by
  go_enter Try.func5, Try.ntmps5
  go_upto_region 2 with (go_at_call 12; refine (l_new6 _).mono ?_; rintro e w1 ⟨r, rfl, hO, hb⟩; have HU := Lib.hid hO.use; have HB := Lib.hid hb; obtain ⟨A1, c1, rfl, -⟩ := hO; simp only [q6_len] at HU ⊢; clear hb)
  go_upto_region 3 with (go_at_call 10; refine (l_take2 HU.out).mono ?_; rintro e w2 ⟨r, l, rfl, hO, hi, hb⟩; clear HU; have HV := Lib.hid hO.use; have HI := Lib.hid hi; replace HB := Lib.hid (HB.out.trans (hb.mono HB.out.size)); obtain ⟨A2, c2, rfl, -⟩ := hO; obtain ⟨A3, c3, rfl, -⟩ := hi; simp only [v6_len, List.length_cons, List.length_nil, Nat.reduceAdd, Nat.zero_add] at HV HI ⊢; clear hb)
  go_upto_region 4 with (go_at_call 6; refine (l_mark44 (HV.out.below (bl1 _ _) (Nat.le_refl _)) (idx_lit _ [4, 4] _ (by simp))).mono ?_; rintro e w3 ⟨r, rfl, hO, hb⟩; have hb' := (bl1 _ _).trans (hb.mono (bl1 _ _).size); replace HV := Lib.hid (HV.out.below hb' (Nat.le_refl _)); replace HI := Lib.hid (HI.out.below hb' (Nat.le_refl _)); replace HB := Lib.hid (HB.out.trans (hb'.mono HB.out.size)); obtain ⟨A4, c4, rfl, -⟩ := hO; simp only [v6_len]; clear hb hb')
  go_upto_region 5 with (go_at_call 8; refine (l_give2 (HV.out.below (bl1 _ _) (Nat.le_refl _)) (idx_lit _ [2] _ (by simp))).mono ?_; rintro e w4 ⟨r, rfl, hO, hb⟩; have hb' := (bl1 _ _).trans (hb.mono (bl1 _ _).size); replace HV := Lib.hid (HV.out.below hb' (Nat.le_refl _)); replace HI := Lib.hid (HI.out.below hb' (Nat.le_refl _)); replace HB := Lib.hid (HB.out.trans (hb'.mono HB.out.size)); have HX := Lib.hid hO.use; obtain ⟨A5, c5, rfl, -⟩ := hO; simp only [x6_len] at HX ⊢; clear hb hb')
  go_upto_region 6 with (go_at_call 10; refine (l_take3 HV.out).mono ?_; rintro e w5 ⟨r, l, rfl, hO, hi, hb⟩; replace HV := Lib.hid (HV.out.below hb (Nat.le_refl _)); replace HI := Lib.hid (HI.out.below hb (Nat.le_refl _)); replace HX := Lib.hid (HX.out.below hb (Nat.le_refl _)); replace HB := Lib.hid (HB.out.trans (hb.mono HB.out.size)); obtain ⟨A6, c6, rfl, -⟩ := hO; obtain ⟨A7, c7, rfl, -⟩ := hi; simp only [v6_len, List.length_nil]; clear hb)
  go_upto_region 7 with (go_at_call 8; refine (l_give5 (HV.out.below (bl1 _ _) (Nat.le_refl _)) (idx_lit _ [5] _ (by simp))).mono ?_; rintro e w6 ⟨r, rfl, hO, hb⟩; have hb' := (bl1 _ _).trans (hb.mono (bl1 _ _).size); replace HV := Lib.hid (HV.out.below hb' (Nat.le_refl _)); replace HI := Lib.hid (HI.out.below hb' (Nat.le_refl _)); replace HX := Lib.hid (HX.out.below hb' (Nat.le_refl _)); replace HB := Lib.hid (HB.out.trans (hb'.mono HB.out.size)); obtain ⟨A8, c8, rfl, -⟩ := hO; simp only [v6_len]; clear hb hb')
  go_upto_region 8 with (go_at_call 12; refine (l_new3 _).mono ?_; rintro e w7 ⟨r, rfl, hO, hb⟩; replace HV := Lib.hid (HV.out.below hb (Nat.le_refl _)); replace HI := Lib.hid (HI.out.below hb (Nat.le_refl _)); replace HX := Lib.hid (HX.out.below hb (Nat.le_refl _)); replace HB := Lib.hid (HB.out.trans (hb.mono HB.out.size)); obtain ⟨A9, c9, rfl, -⟩ := hO; simp only [List.length_nil]; clear hb)
  go_upto_region 9 with (go_at_call 6; refine (l_mark2 (HX.out.below (bl1 _ _) (Nat.le_refl _)) (idx_lit _ [2] _ (by simp))).mono ?_; rintro e w8 ⟨r, rfl, hO, hb⟩; have hb' := (bl1 _ _).trans (hb.mono (bl1 _ _).size); replace HV := Lib.hid (HV.out.below hb' (Nat.le_refl _)); replace HI := Lib.hid (HI.out.below hb' (Nat.le_refl _)); replace HX := Lib.hid (HX.out.below hb' (Nat.le_refl _)); replace HB := Lib.hid (HB.out.trans (hb'.mono HB.out.size)); have HY := Lib.hid hO.use; obtain ⟨A10, c10, rfl, -⟩ := hO; simp only [v6_len] at HY ⊢; clear hb hb')
  go_wp2_with (first
    | (go_at_call 15; refine (l_same (HI.out.below (bl1 _ _) (Nat.le_refl _)) (idx_lit _ [2, 3] _ (by simp))).mono ?_; rintro e w9 ⟨rfl, hb⟩; have hb' := (bl1 _ _).trans (hb.mono (bl1 _ _).size); replace HV := Lib.hid (HV.out.below hb' (Nat.le_refl _)); replace HI := Lib.hid (HI.out.below hb' (Nat.le_refl _)); replace HX := Lib.hid (HX.out.below hb' (Nat.le_refl _)); replace HY := Lib.hid (HY.out.below hb' (Nat.le_refl _)); replace HB := Lib.hid (HB.out.trans (hb'.mono HB.out.size)); clear hb hb')
    | (go_at_call 15; refine (l_same (HI.out.below (bl1 _ _) (Nat.le_refl _)) (idx_lit _ [0, 1, 2, 3] _ (by simp))).mono ?_; rintro e w10 ⟨rfl, hb⟩; replace HB := Lib.hid (HB.out.trans (((bl1 _ _).trans (hb.mono (bl1 _ _).size)).mono HB.out.size)); clear hb HI HX HV HY)
    | (go_at_call 16; refine (l_free HX.out).mono ?_; rintro e w9 ⟨rfl, hb⟩; replace HV := Lib.hid (HV.out.below hb (Nat.le_refl _)); replace HI := Lib.hid (HI.out.below hb (Nat.le_refl _)); replace HX := Lib.hid (HX.out.below hb (Nat.le_refl _)); replace HY := Lib.hid (HY.out.below hb (Nat.le_refl _)); replace HB := Lib.hid (HB.out.trans (hb.mono HB.out.size)); clear hb)
    | (go_at_call 14; refine (l_sameU HY.out HV.out).mono ?_; rintro e w9 ⟨rfl, hb⟩; replace HV := Lib.hid (HV.out.below hb (Nat.le_refl _)); replace HI := Lib.hid (HI.out.below hb (Nat.le_refl _)); replace HX := Lib.hid (HX.out.below hb (Nat.le_refl _)); replace HY := Lib.hid (HY.out.below hb (Nat.le_refl _)); replace HB := Lib.hid (HB.out.trans (hb.mono HB.out.size)); clear hb)
    | (go_at_call 18; refine (l_used HV.out).mono ?_; rintro e w9 ⟨r, rfl, hi, hb⟩; replace HI := Lib.hid hi; replace HB := Lib.hid (HB.out.trans (hb.mono HB.out.size)); obtain ⟨A11, c11, rfl, -⟩ := hi; clear hb HX; have HX := Lib.hid HB.out; simp only [List.length_cons, List.length_nil, Nat.reduceAdd, Nat.zero_add] at HI ⊢))
  go_ret
  exact ⟨rfl, HB.out⟩
end Go.Proofs.Ytoaofhgkpnpglaa
