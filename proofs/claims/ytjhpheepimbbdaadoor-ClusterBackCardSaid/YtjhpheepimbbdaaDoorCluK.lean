/- The walk of ClusterBack. -/
import Derived.Test.YtjhpheepimbbdaaDoorCluL
namespace Go.Proofs.YtjhpheepimbbdaaDoor
open Go.RowKit
open Caulk.Crc (W)

theorem below_T {w W : World} (hT : Tab w) (hb : Below w.heap.size w W) : Tab W := hT.below hb (Nat.le_refl _)
set_option maxRecDepth 100000 in
set_option maxHeartbeats 4000000 in
theorem clusterBack_far {w : World} {s k m c a b u : Int} {t : ByteArray} (hk : W64 k) (hm : W64 m) (hc : W64 c) (hT : Tab w) (hn : ¬ (1 ≤ geoSec s k m c ∧ geoSec s k m c ≤ 128)) :
    Calls Tryd.prog 3 #[.agg #[.int .i64 s, .int .i64 k, .int .i64 m, .int .i64 c], .int .i64 a, .int .i64 b, .string t, .int .u32 u] w fun e w' => e = .returned (.bool true) ∧ Below w.heap.size w w' := by
  have hS := geoSectors_any s k m c hk hm hc
  unfold geoV at hS
  generalize geoSec s k m c = n at *
  have HG0 := Lib.hid (CG.start w s k m c 23)
  have HT := Lib.hid hT
  clear hk hm hc hT
  by_cases h1 : n < 1
  · have d1 : decide (n < 1) = true := decide_eq_true h1
    clear hn h1
    go_enter Tryd.func3, Tryd.ntmps3
    go_upto_region 1 with fail
    generalize w.alloc (.cells #[.int .i64 s, .int .i64 k, .int .i64 m, .int .i64 c] 23) = W0 at HG0 ⊢
    go_wp2_with (first
      | (go_at_call 5; with_reducible refine (cluLives_any _ (below_T HT.out HG0.out.be)).mono ?_; rintro e W1 ⟨rfl, hb⟩; have HG1 := Lib.hid (HG0.out.below hb); obtain ⟨_, _, g0, g1, g2, g3⟩ := HG1.out; clear hb)
      | (go_at_call 6; with_reducible refine (hS _).mono ?_; rintro e W2 ⟨rfl, hb⟩; have HG2 := Lib.hid (HG1.out.below hb); clear hb))
    go_ret
    exact ⟨rfl, HG2.out.be⟩
  · have d1 : decide (n < 1) = false := decide_eq_false h1
    have d2 : decide (128 < n) = true := decide_eq_true (by omega)
    clear hn h1
    go_enter Tryd.func3, Tryd.ntmps3
    go_upto_region 1 with fail
    generalize w.alloc (.cells #[.int .i64 s, .int .i64 k, .int .i64 m, .int .i64 c] 23) = W0 at HG0 ⊢
    go_wp2_with (first
      | (go_at_call 5; with_reducible refine (cluLives_any _ (below_T HT.out HG0.out.be)).mono ?_; rintro e W1 ⟨rfl, hb⟩; have HG1 := Lib.hid (HG0.out.below hb); obtain ⟨_, _, g0, g1, g2, g3⟩ := HG1.out; clear hb)
      | (go_at_call 6; with_reducible refine (hS _).mono ?_; rintro e W2 ⟨rfl, hb⟩; have HG2 := Lib.hid (HG1.out.below hb); clear hb))
    go_ret
    exact ⟨rfl, HG2.out.be⟩
/-- The road up to the write. -/
theorem sec_ok {s k m c : Int} (h : 1 ≤ geoSec s k m c) : GeoOk s k m c := by
  by_cases g : GeoOk s k m c
  · exact g
  · rw [show geoSec s k m c = 0 from if_neg g] at h; omega
set_option maxRecDepth 100000 in
set_option maxHeartbeats 4000000 in
theorem clusterBack_no {w : World} {s k m c a b u : Int} {t : ByteArray} (ht : t.size ≤ 140737488355328) (hk : W64 k) (hm : W64 m) (hc : W64 c) (hT : Tab w) (n : Nat) (hn : geoSec s k m c = (n : Int)) (hn1 : 1 ≤ n) (hn2 : n ≤ 128)
    (e1 e3 : Int) (F : ByteArray) (N : DM) (he1 : fiE s k m c t = e1) (hF : fiV s k m c t = F) (hcw : cwR (newM n) s k m c a F = (N, e3)) (hor : (e1 = 7 ∧ e3 ≠ 0) ∨ (e1 = 0 ∧ e3 = 1)) :
    Calls Tryd.prog 3 #[.agg #[.int .i64 s, .int .i64 k, .int .i64 m, .int .i64 c], .int .i64 a, .int .i64 b, .string t, .int .u32 u] w fun e w' => e = .returned (.bool true) ∧ Below w.heap.size w w' := by
  have hS := geoSectors_any s k m c hk hm hc
  have hFi := cluFill_any s k m c hk hm hc t ht
  have hNew := cluNew_ex n hn1 (by omega)
  have hRaw : ∀ W h, DevAt W h (newM n) → _ := fun W h d => cluRaw_any (w := W) (h := h) d s k m c b hk hm hc
  have hWr : ∀ W h, DevAt W h (newM n) → _ := fun W h d => cluWrite_any (w := W) (h := h) d s k m c a hk hm hc F (by show 0 < _; omega)
  unfold geoV at hS
  rw [hn] at hS
  rw [he1, hF] at hFi
  rw [hcw] at hWr
  generalize crR (newM n) s k m c b = x0 at hRaw
  obtain ⟨l0, f0⟩ := x0
  dsimp only at hRaw hWr
  have HG0 := Lib.hid (CG.start w s k m c 23)
  have HT := Lib.hid hT
  have d1 : decide ((n : Int) < 1) = false := decide_eq_false (by omega)
  have d2 : decide (128 < (n : Int)) = false := decide_eq_false (by omega)
  have d3 : decide (128 < n) = false := decide_eq_false (by omega)
  have d4 : decide (n < 1) = false := decide_eq_false (by omega)
  clear hk hm hc hT he1 hF hcw hn
  rcases hor with ⟨rfl, h3⟩ | ⟨rfl, rfl⟩
  · have e30 : (e3 == 0) = false := by simpa using h3
    have e31 : (e3 != 0) = true := by simpa using h3
    go_enter Tryd.func3, Tryd.ntmps3
    go_upto_region 1 with fail
    generalize w.alloc (.cells #[.int .i64 s, .int .i64 k, .int .i64 m, .int .i64 c] 23) = W0 at HG0 ⊢
    go_wp2_with (first
      | (go_at_call 5; with_reducible refine (cluLives_any _ (below_T HT.out HG0.out.be)).mono ?_; rintro e W1 ⟨rfl, hb⟩; have HG1 := Lib.hid (HG0.out.below hb); obtain ⟨_, _, g0, g1, g2, g3⟩ := HG1.out; clear hb)
      | (go_at_call 6; with_reducible refine (hS _).mono ?_; rintro e W2 ⟨rfl, hb⟩; have HG2 := Lib.hid (HG1.out.below hb); clear hb)
      | (go_at_call 7; with_reducible refine (hNew _).mono ?_; rintro e W3 ⟨h, rfl, hd1, hab, hb1⟩; have HL := Lib.hid (HG2.out.dev hd1 hab hb1); obtain ⟨_, _, _, _, _, g0, g1, g2, g3⟩ := HL.out; clear hd1 hab hb1)
      | (go_at_call 8; with_reducible refine (hFi _).mono ?_; rintro e W4 ⟨rfl, hb⟩; have HL4 := Lib.hid (HL.out.below hb); obtain ⟨_, _, _, _, _, g0, g1, g2, g3⟩ := HL4.out; clear hb)
      | (go_at_call 9; with_reducible refine (hRaw _ _ HL4.out.d).mono ?_; rintro e W5 ⟨rfl, hb⟩; have HL5 := Lib.hid (HL4.out.below hb); obtain ⟨_, _, _, _, _, g0, g1, g2, g3⟩ := HL5.out; clear hb)
      | (go_at_call 10; with_reducible refine (hWr _ _ HL5.out.d).mono ?_; rintro e W6 ⟨rfl, hd, ha⟩; have HL6 := Lib.hid (HL5.out.dev hd ha); clear hd ha))
    go_ret
    exact ⟨rfl, HL6.out.be⟩
  · go_enter Tryd.func3, Tryd.ntmps3
    go_upto_region 1 with fail
    generalize w.alloc (.cells #[.int .i64 s, .int .i64 k, .int .i64 m, .int .i64 c] 23) = W0 at HG0 ⊢
    go_wp2_with (first
      | (go_at_call 5; with_reducible refine (cluLives_any _ (below_T HT.out HG0.out.be)).mono ?_; rintro e W1 ⟨rfl, hb⟩; have HG1 := Lib.hid (HG0.out.below hb); obtain ⟨_, _, g0, g1, g2, g3⟩ := HG1.out; clear hb)
      | (go_at_call 6; with_reducible refine (hS _).mono ?_; rintro e W2 ⟨rfl, hb⟩; have HG2 := Lib.hid (HG1.out.below hb); clear hb)
      | (go_at_call 7; with_reducible refine (hNew _).mono ?_; rintro e W3 ⟨h, rfl, hd1, hab, hb1⟩; have HL := Lib.hid (HG2.out.dev hd1 hab hb1); obtain ⟨_, _, _, _, _, g0, g1, g2, g3⟩ := HL.out; clear hd1 hab hb1)
      | (go_at_call 8; with_reducible refine (hFi _).mono ?_; rintro e W4 ⟨rfl, hb⟩; have HL4 := Lib.hid (HL.out.below hb); obtain ⟨_, _, _, _, _, g0, g1, g2, g3⟩ := HL4.out; clear hb)
      | (go_at_call 9; with_reducible refine (hRaw _ _ HL4.out.d).mono ?_; rintro e W5 ⟨rfl, hb⟩; have HL5 := Lib.hid (HL4.out.below hb); obtain ⟨_, _, _, _, _, g0, g1, g2, g3⟩ := HL5.out; clear hb)
      | (go_at_call 10; with_reducible refine (hWr _ _ HL5.out.d).mono ?_; rintro e W6 ⟨rfl, hd, ha⟩; have HL6 := Lib.hid (HL5.out.dev hd ha); clear hd ha))
    go_ret
    exact ⟨rfl, HL6.out.be⟩
/-- The main road. -/
theorem cb_parts {s k m c a b u : Int} {t : ByteArray} (hk : W64 k) (hm : W64 m) (hc : W64 c) (n : Nat) (hn : geoSec s k m c = (n : Int)) (he : fiE s k m c t = 0) (hfa : geoFe s k m c a = 0) (w : World) (hT : Tab w) :
    ∃ (F : ByteArray) (M1 : DM) (v e0 e2 : Int) (x0 x1 x2 : ByteArray), fiV s k m c t = F ∧ (b ≠ a → x1 = x0) ∧ ((v = u ∧ e2 = 0 ∧ x2 = F) ∨ (v ≠ u ∧ e2 = 9)) ∧
    (∀ W h, DevAt W h (newM n) → Calls Tryd.prog 9 #[.pointer (some ⟨h.b, 0, none⟩), .agg #[.int .i64 s, .int .i64 k, .int .i64 m, .int .i64 c], .int .i64 b] W fun e w' => e = .returned (.tuple #[.string x0, .int .i64 e0]) ∧ Below W.heap.size W w') ∧
    (∀ W h, DevAt W h M1 → Calls Tryd.prog 9 #[.pointer (some ⟨h.b, 0, none⟩), .agg #[.int .i64 s, .int .i64 k, .int .i64 m, .int .i64 c], .int .i64 b] W fun e w' => e = .returned (.tuple #[.string x1, .int .i64 e0]) ∧ Below W.heap.size W w') ∧
    (∀ W h, DevAt W h (newM n) → Calls Tryd.prog 10 #[.pointer (some ⟨h.b, 0, none⟩), .agg #[.int .i64 s, .int .i64 k, .int .i64 m, .int .i64 c], .int .i64 a, .string F] W fun e w' => e = .returned (.int .i64 0) ∧ DevAt w' h M1 ∧ Ap h.S W w') ∧
    (∀ W, Below w.heap.size w W → Calls Tryd.prog 12 #[.string F] W fun e w' => e = .returned (.int .u32 v) ∧ W = w') ∧
    (∀ W h, DevAt W h M1 → Below w.heap.size w W → Calls Tryd.prog 11 #[.pointer (some ⟨h.b, 0, none⟩), .agg #[.int .i64 s, .int .i64 k, .int .i64 m, .int .i64 c], .int .i64 a, .int .u32 v] W fun e w' => e = .returned (.tuple #[.string F, .int .i64 0]) ∧ Below W.heap.size W w') ∧
    (∀ W h, DevAt W h M1 → Below w.heap.size w W → Calls Tryd.prog 11 #[.pointer (some ⟨h.b, 0, none⟩), .agg #[.int .i64 s, .int .i64 k, .int .i64 m, .int .i64 c], .int .i64 a, .int .u32 u] W fun e w' => e = .returned (.tuple #[.string x2, .int .i64 e2]) ∧ Below W.heap.size W w') := by
  have g := (clu_ok hfa).1
  obtain ⟨F, hF⟩ : ∃ F, F = fiV s k m c t := ⟨_, rfl⟩
  have hsz : (F.size : Int) = geoSz s k m c := by rw [hF]; exact fi_size he
  have hszb := sz_pos g
  obtain ⟨M1, hM⟩ : ∃ M1, M1 = wrM (newM n) (cluF s k m c a) F (cluT s k m c) := ⟨_, rfl⟩
  have hle : geoSec s k m c ≤ ((newM n).n : Int) := by rw [hn]; show (n : Int) ≤ ((n : Nat) : Int); omega
  have hcw : cwR (newM n) s k m c a F = (M1, 0) := by rw [hM]; exact cw_up ⟨rfl, by show (-1 : Int) < 0; omega⟩ hfa hle hsz
  have hcr : crR M1 s k m c a = (F.data.toList, 0) := by rw [hM]; exact cr_wr rfl hfa hle hsz
  have h20 : (crR (newM n) s k m c b).2 = geoFe s k m c b := cr_new (by rw [hn]; omega)
  have h21 : (crR M1 s k m c b).2 = (crR (newM n) s k m c b).2 := by
    by_cases e : b = a
    · rw [e] at h20 ⊢; rw [hcr, h20, hfa]
    · rw [hM, cr_apart hfa e]
  obtain ⟨v, hv⟩ : ∃ v, v = U32 (Caulk.Crc.sum F.data.toList) := ⟨_, rfl⟩
  have eE : ∀ y, crE M1 s k m c a y = if v = y then 0 else 9 := fun y => by unfold crE; rw [hcr]; simp only; rw [if_pos trivial, ← hv]
  have eV : ∀ y, v = y → (⟨(crV M1 s k m c a y).toArray⟩ : ByteArray) = F := fun y hy => by unfold crV; rw [if_pos (by rw [eE, if_pos hy]), hcr]
  refine ⟨F, M1, v, (crR (newM n) s k m c b).2, crE M1 s k m c a u, ⟨(crR (newM n) s k m c b).1.toArray⟩, ⟨(crR M1 s k m c b).1.toArray⟩, ⟨(crV M1 s k m c a u).toArray⟩, hF.symm, fun e => by rw [hM, cr_apart hfa e], ?_, fun W h d => cluRaw_any d s k m c b hk hm hc, fun W h d => ?_, fun W h d => ?_, fun W hW => ?_, fun W h d hW => ?_, fun W h d hW => cluRead_any d s k m c a u hk hm hc (below_T hT hW)⟩
  · by_cases e : v = u
    · exact .inl ⟨e, by rw [eE, if_pos e], eV u e⟩
    · exact .inr ⟨e, by rw [eE, if_neg e]⟩
  · have := cluRaw_any d s k m c b hk hm hc
    rw [h21] at this
    exact this
  · have := cluWrite_any d s k m c a hk hm hc F (by show 0 < _; omega)
    rw [hcw] at this
    exact this
  · have := crcSum_any F (by unfold maxLen; omega) W (below_T hT hW)
    rw [← hv] at this
    exact this
  · have := cluRead_any d s k m c a v hk hm hc (below_T hT hW)
    rw [eV v rfl, eE, if_pos rfl] at this
    exact this
set_option maxRecDepth 100000 in
set_option maxHeartbeats 8000000 in
theorem clusterBack_ok {w : World} {s k m c a b u : Int} {t : ByteArray} (ht : t.size ≤ 140737488355328) (hk : W64 k) (hm : W64 m) (hc : W64 c) (hT : Tab w) (n : Nat) (hn : geoSec s k m c = (n : Int)) (hn1 : 1 ≤ n) (hn2 : n ≤ 128) (he : fiE s k m c t = 0) (hfa : geoFe s k m c a = 0) :
    Calls Tryd.prog 3 #[.agg #[.int .i64 s, .int .i64 k, .int .i64 m, .int .i64 c], .int .i64 a, .int .i64 b, .string t, .int .u32 u] w fun e w' => e = .returned (.bool true) ∧ Below w.heap.size w w' := by
  obtain ⟨F, M1, v, e0, e2, x0, x1, x2, hF, hx, hvu, c1, c2, c3, c4, c5, c6⟩ := cb_parts (b := b) (u := u) hk hm hc n hn he hfa w hT
  have hS := geoSectors_any s k m c hk hm hc
  have hFi := cluFill_any s k m c hk hm hc t ht
  have hNew := cluNew_ex n hn1 (by omega)
  unfold geoV at hS
  rw [hn] at hS
  rw [he, hF] at hFi
  have HG0 := Lib.hid (CG.start w s k m c 23)
  have HT := Lib.hid hT
  have d1 : decide ((n : Int) < 1) = false := decide_eq_false (by omega)
  have d2 : decide (128 < (n : Int)) = false := decide_eq_false (by omega)
  have d3 : decide (128 < n) = false := decide_eq_false (by omega)
  have d4 : decide (n < 1) = false := decide_eq_false (by omega)
  have HX := Lib.hid hx
  have HVU := Lib.hid hvu
  clear hk hm hc hT hF hn he hfa hx hvu
  go_enter Tryd.func3, Tryd.ntmps3
  go_upto_region 1 with fail
  generalize w.alloc (.cells #[.int .i64 s, .int .i64 k, .int .i64 m, .int .i64 c] 23) = W0 at HG0 ⊢
  go_upto_region 14 with (first
    | (go_at_call 5; with_reducible refine (cluLives_any _ (below_T HT.out HG0.out.be)).mono ?_; rintro e W1 ⟨rfl, hb⟩; have HG1 := Lib.hid (HG0.out.below hb); obtain ⟨_, _, g0, g1, g2, g3⟩ := HG1.out; clear hb)
    | (go_at_call 6; with_reducible refine (hS _).mono ?_; rintro e W2 ⟨rfl, hb⟩; have HG2 := Lib.hid (HG1.out.below hb); clear hb)
    | (go_at_call 7; with_reducible refine (hNew _).mono ?_; rintro e W3 ⟨h, rfl, hd1, hab, hb1⟩; have HL := Lib.hid (HG2.out.dev hd1 hab hb1); obtain ⟨_, _, _, _, _, g0, g1, g2, g3⟩ := HL.out; clear hd1 hab hb1)
    | (go_at_call 8; with_reducible refine (hFi _).mono ?_; rintro e W4 ⟨rfl, hb⟩; have HL4 := Lib.hid (HL.out.below hb); obtain ⟨_, _, _, _, _, g0, g1, g2, g3⟩ := HL4.out; clear hb)
    | (go_at_call 9; with_reducible refine (c1 _ _ HL4.out.d).mono ?_; rintro e W5 ⟨rfl, hb⟩; have HL5 := Lib.hid (HL4.out.below hb); obtain ⟨_, _, _, _, _, g0, g1, g2, g3⟩ := HL5.out; clear hb)
    | (go_at_call 10; with_reducible refine (c3 _ _ HL5.out.d).mono ?_; rintro e W6 ⟨rfl, hd, ha⟩; have HL6 := Lib.hid (HL5.out.dev hd ha); clear hd ha))
  have gd := HL6.out.drew
  have z0 : ∀ p : Wk (fun W => CL w W h M1 w.heap.size s k m c), p.W.cell? ⟨w.heap.size, 0, none⟩ = some (.int .i64 s) := fun p => p.h.g0
  have z1 : ∀ p : Wk (fun W => CL w W h M1 w.heap.size s k m c), p.W.cell? ⟨w.heap.size, 1, none⟩ = some (.int .i64 k) := fun p => p.h.g1
  have z2 : ∀ p : Wk (fun W => CL w W h M1 w.heap.size s k m c), p.W.cell? ⟨w.heap.size, 2, none⟩ = some (.int .i64 m) := fun p => p.h.g2
  have z3 : ∀ p : Wk (fun W => CL w W h M1 w.heap.size s k m c), p.W.cell? ⟨w.heap.size, 3, none⟩ = some (.int .i64 c) := fun p => p.h.g3
  refine wp_region_wk (fun W => CL w W h M1 w.heap.size s k m c) (by kernel_rfl) (by kernel_rfl) gd ?_
  have ne : Nonempty (Wk (fun W => CL w W h M1 w.heap.size s k m c)) := ⟨⟨_, gd⟩⟩
  clear gd
  repeat (refine wpQuiet_step (fun K hK => ?_); go_simp; first
    | (refine hK _ ?_; clear hK K)
    | (apply Exists.intro
       refine ⟨fun p => ?_, hK _ ?_⟩
       (first
        | (go_at_call 12; exact (c4 _ p.h.be).mono fun _ _ h => ⟨h.1, ⟨_, h.2 ▸ p.h⟩, rfl⟩)
        | (go_at_call 11; exact (c5 _ _ p.h.d p.h.be).mono fun _ _ h => ⟨h.1, ⟨_, CL.below p.h h.2⟩, rfl⟩))
       clear hK K))
  refine wpQuiet_nil ?_
  intro p
  have HL7 : Hid (CL w p.W h M1 w.heap.size s k m c) := Lib.hid p.h
  generalize p.W = W7 at HL7 ⊢
  clear z0 z1 z2 z3 ne p
  obtain ⟨_, _, _, _, _, g0, g1, g2, g3⟩ := HL7.out
  go_upto_region 17 with (first
    | (go_at_call 11; with_reducible refine (c6 _ _ HL7.out.d HL7.out.be).mono ?_; rintro e W8 ⟨rfl, hb⟩; have HL8 := Lib.hid (HL7.out.below hb); obtain ⟨_, _, _, _, _, g0, g1, g2, g3⟩ := HL8.out; clear hb)
    | (go_at_call 9; with_reducible refine (c2 _ _ HL8.out.d).mono ?_; rintro e W9 ⟨rfl, hb⟩; have HL9 := Lib.hid (HL8.out.below hb); clear hb))
  rcases HVU.out with ⟨rfl, rfl, rfl⟩ | ⟨hv, rfl⟩
  · by_cases hba : b = a
    · subst hba
      go_wp2_with (go_at_call 12; with_reducible refine (c4 _ HL9.out.be).mono ?_; rintro e w10 ⟨rfl, rfl⟩)
      go_ret
      exact ⟨rfl, HL9.out.be⟩
    · obtain rfl := HX.out hba
      have q1 : (b == a) = false := by simpa using hba
      go_wp2_with (go_at_call 12; with_reducible refine (c4 _ HL9.out.be).mono ?_; rintro e w10 ⟨rfl, rfl⟩)
      go_ret
      exact ⟨rfl, HL9.out.be⟩
  · have q2 : (u == v) = false := by simpa using fun e => hv e.symm
    have q3 : (v == u) = false := by simpa using hv
    have q4 : ¬ u = v := fun e => hv e.symm
    by_cases hba : b = a
    · subst hba
      go_wp2_with (go_at_call 12; with_reducible refine (c4 _ HL9.out.be).mono ?_; rintro e w10 ⟨rfl, rfl⟩)
      go_ret
      exact ⟨rfl, HL9.out.be⟩
    · obtain rfl := HX.out hba
      have q1 : (b == a) = false := by simpa using hba
      go_wp2_with (go_at_call 12; with_reducible refine (c4 _ HL9.out.be).mono ?_; rintro e w10 ⟨rfl, rfl⟩)
      go_ret
      exact ⟨rfl, HL9.out.be⟩
theorem clusterBack_walk {w : World} {s k m c a b u : Int} {t : ByteArray} (ht : t.size ≤ 140737488355328) (hk : W64 k) (hm : W64 m) (hc : W64 c) (hT : Tab w) :
    Calls Tryd.prog 3 #[.agg #[.int .i64 s, .int .i64 k, .int .i64 m, .int .i64 c], .int .i64 a, .int .i64 b, .string t, .int .u32 u] w fun e w' => e = .returned (.bool true) ∧ Below w.heap.size w w' := by
  by_cases hn : 1 ≤ geoSec s k m c ∧ geoSec s k m c ≤ 128
  · have g := sec_ok hn.1
    obtain ⟨n, hnn⟩ : ∃ n : Nat, geoSec s k m c = (n : Int) := ⟨(geoSec s k m c).toNat, by omega⟩
    rcases fi_geo (t := t) g with h1 | h1
    · rcases fe_geo (a := a) g with h2 | h2
      · exact clusterBack_ok ht hk hm hc hT n hnn (by omega) (by omega) h1 h2
      · refine clusterBack_no ht hk hm hc hT n hnn (by omega) (by omega) 0 1 _ (newM n) h1 rfl ?_ (.inr ⟨rfl, rfl⟩)
        unfold cwR
        rw [if_neg (by omega), h2]
    · obtain ⟨N, e3, hcw⟩ : ∃ N e3, cwR (newM n) s k m c a ⟨#[]⟩ = (N, e3) := ⟨_, _, rfl⟩
      refine clusterBack_no ht hk hm hc hT n hnn (by omega) (by omega) 7 e3 ⟨#[]⟩ N h1 (fi_no (by omega)) hcw (.inl ⟨rfl, ?_⟩)
      have hp := sz_pos g
      have e0 : (cwR (newM n) s k m c a ⟨#[]⟩).2 ≠ 0 := by
        unfold cwR
        by_cases h2 : geoFe s k m c a = 0
        · rw [if_pos h2, if_neg (by show ¬ ((0 : Nat) : Int) = _; omega)]; show (2 : Int) ≠ 0; omega
        · rw [if_neg h2]; exact h2
      rw [hcw] at e0
      exact e0
  · exact clusterBack_far hk hm hc hT hn
end Go.Proofs.YtjhpheepimbbdaaDoor
