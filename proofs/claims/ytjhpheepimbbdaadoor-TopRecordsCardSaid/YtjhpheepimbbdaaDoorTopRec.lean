/- The walk of TopRecords. -/
import Derived.Test.YtjhpheepimbbdaaDoorCluG
import Derived.Test.YtjhpheepimbbdaaDoorCluL
import Derived.Test.YtjhpheepimbbdaaDoorFldI
import Derived.Test.YtjhpheepimbbdaaDoorTopBeg
namespace Go.Proofs.YtjhpheepimbbdaaDoor
open Go.RowKit
open Caulk.Crc (W)

theorem tr_T {w W : World} (hT : Tab w) (hb : Below w.heap.size w W) : Tab W := hT.below hb (Nat.le_refl _)
theorem tr_sec {s k m c : Int} (h : 1 ≤ geoSec s k m c) : GeoOk s k m c := by
  by_cases g : GeoOk s k m c
  · exact g
  · rw [show geoSec s k m c = 0 from if_neg g] at h; omega
theorem joinS_sz (ks : List Int) (ns : List Nat) (h : ks.length ≤ 60) : (⟨(joinS ks ns).toArray⟩ : ByteArray).size ≤ 512 := by
  show (joinS ks ns).toArray.size ≤ 512
  rw [List.size_toArray]
  unfold joinS
  split
  · rename_i h0; have := joinL_len _ _ (joinE_ok h0).2.1; omega
  · simp
set_option maxRecDepth 100000 in
set_option maxHeartbeats 4000000 in
theorem topRecords_far {w : World} {s k m c a off : Int} {y : Nat} {A1 A2 : Option Addr} {p1 p2 : Nat} {ks : List Int} {ns : List Nat} (hk : W64 k) (hm : W64 m) (hc : W64 c) (hT : Tab w) (hn : ¬ (1 ≤ geoSec s k m c ∧ geoSec s k m c ≤ 256 ∧ ks.length ≤ 60)) :
    Calls Tryd.prog 4 #[.agg #[.int .i64 s, .int .i64 k, .int .i64 m, .int .i64 c], .int .i64 a, .slice A1 ks.length p1, .slice A2 ns.length p2, .int .i64 off, .int .u32 (y : Int)] w fun e w' => e = .returned (.bool true) ∧ Below w.heap.size w w' := by
  have hS := geoSectors_any s k m c hk hm hc
  unfold geoV at hS
  generalize geoSec s k m c = n at *
  have HG0 := Lib.hid (CG.start w s k m c 23)
  have HT := Lib.hid hT
  clear hk hm hc hT
  have q : (decide (n < 1) = true) ∨ (decide (n < 1) = false ∧ decide (256 < n) = true) ∨ (decide (n < 1) = false ∧ decide (256 < n) = false ∧ decide ((60 : Int) < (ks.length : Int)) = true ∧ decide (60 < ks.length) = true) := by
    by_cases h1 : n < 1
    · exact .inl (decide_eq_true h1)
    · by_cases h2 : 256 < n
      · exact .inr (.inl ⟨decide_eq_false h1, decide_eq_true h2⟩)
      · exact .inr (.inr ⟨decide_eq_false h1, decide_eq_false h2, decide_eq_true (by omega), decide_eq_true (by omega)⟩)
  clear hn
  go_enter Tryd.func4, Tryd.ntmps4
  go_upto_region 1 with fail
  generalize w.alloc (.cells #[.int .i64 s, .int .i64 k, .int .i64 m, .int .i64 c] 23) = W0 at HG0 ⊢
  rcases q with d1 | ⟨d1, d2⟩ | ⟨d1, d2, d3, d4⟩
  all_goals go_wp2_with (first
    | (go_at_call 13; with_reducible refine (begins_any2 _ (tr_T HT.out HG0.out.be)).mono ?_; rintro e W1 ⟨rfl, rfl⟩; obtain ⟨_, _, g0, g1, g2, g3⟩ := HG0.out)
    | (go_at_call 6; with_reducible refine (hS _).mono ?_; rintro e W2 ⟨rfl, hb⟩; have HG2 := Lib.hid (HG0.out.below hb); clear hb))
  all_goals go_ret
  all_goals exact ⟨rfl, HG2.out.be⟩
set_option maxRecDepth 100000 in
set_option maxHeartbeats 4000000 in
/-- The numbers have no bytes. -/
theorem topRecords_none {w : World} {s k m c a off : Int} {y : Nat} {A1 A2 : Option Addr} {p1 p2 : Nat} {ks : List Int} {ns : List Nat} (hk : W64 k) (hm : W64 m) (hc : W64 c) (hT : Tab w) (n : Nat) (hn : geoSec s k m c = (n : Int)) (hn1 : 1 ≤ n) (hn2 : n ≤ 256) (hlen : ks.length ≤ 60) (hkv : NumV w (.slice A1 ks.length p1) (i64s ks)) (huv : NumV w (.slice A2 ns.length p2) (u64s ns)) (hj : joinE ks ns ≠ 0) :
    Calls Tryd.prog 4 #[.agg #[.int .i64 s, .int .i64 k, .int .i64 m, .int .i64 c], .int .i64 a, .slice A1 ks.length p1, .slice A2 ns.length p2, .int .i64 off, .int .u32 (y : Int)] w fun e w' => e = .returned (.bool true) ∧ Below w.heap.size w w' := by
  have hS := geoSectors_any s k m c hk hm hc
  unfold geoV at hS
  have hNew := cluNew_ex n hn1 (by omega)
  have hJ : ∀ W, NumV W (.slice A1 ks.length p1) (i64s ks) → NumV W (.slice A2 ns.length p2) (u64s ns) → _ := fun W h1 h2 => fldJoin_any ks ns _ _ W h1 h2 (by omega)
  rw [hn] at hS
  have HG0 := Lib.hid (CG.start w s k m c 23)
  have HT := Lib.hid hT
  have HKV := Lib.hid hkv
  have HUV := Lib.hid huv
  have d1 : decide ((n : Int) < 1) = false := decide_eq_false (by omega)
  have d2 : decide (256 < (n : Int)) = false := decide_eq_false (by omega)
  have d3 : decide (256 < n) = false := decide_eq_false (by omega)
  have d4 : decide (n < 1) = false := decide_eq_false (by omega)
  have d5 : decide ((60 : Int) < (ks.length : Int)) = false := decide_eq_false (by omega)
  have d6 : decide (60 < ks.length) = false := decide_eq_false (by omega)
  have hjs : joinS ks ns = [] := if_neg hj
  rw [hjs] at hJ
  have hFi := cluFill_any s k m c hk hm hc ⟨#[]⟩ (by show 0 ≤ _; omega)
  have g := tr_sec (s := s) (k := k) (m := m) (c := c) (by rw [hn]; omega)
  have e0 : fiE s k m c ⟨#[]⟩ = 0 := by unfold fiE; rw [if_pos g, if_pos (by have := sz_pos g; show ((0 : Nat) : Int) ≤ _; omega)]
  rw [e0] at hFi
  generalize fiV s k m c ⟨#[]⟩ = F at hFi
  generalize joinE ks ns = z at *
  have j0 : (z == 0) = false := by simpa using hj
  have j1 : (z != 0) = true := by simpa using hj
  clear hk hm hc hT hn g e0 hj hlen hkv huv hjs
  go_enter Tryd.func4, Tryd.ntmps4
  go_upto_region 1 with fail
  generalize w.alloc (.cells #[.int .i64 s, .int .i64 k, .int .i64 m, .int .i64 c] 23) = W0 at HG0 ⊢
  go_wp2_with (first
    | (go_at_call 13; with_reducible refine (begins_any2 _ (tr_T HT.out HG0.out.be)).mono ?_; rintro e W1 ⟨rfl, rfl⟩; obtain ⟨_, _, g0, g1, g2, g3⟩ := HG0.out)
    | (go_at_call 6; with_reducible refine (hS _).mono ?_; rintro e W2 ⟨rfl, hb⟩; have HG2 := Lib.hid (HG0.out.below hb); clear hb)
    | (go_at_call 14; with_reducible refine (hJ _ (HKV.out.below HG2.out.be (Nat.le_refl _)) (HUV.out.below HG2.out.be (Nat.le_refl _))).mono ?_; rintro e W3 ⟨rfl, hb⟩; have HG3 := Lib.hid (HG2.out.below hb); obtain ⟨_, _, g0, g1, g2, g3⟩ := HG3.out; clear hb)
    | (go_at_call 8; with_reducible refine (hFi _).mono ?_; rintro e W4 ⟨rfl, hb⟩; have HG4 := Lib.hid (HG3.out.below hb); clear hb)
    | (go_at_call 7; with_reducible refine (hNew _).mono ?_; rintro e W5 ⟨h, rfl, hd1, hab, hb1⟩; have HL := Lib.hid (HG4.out.dev hd1 hab hb1); obtain ⟨_, _, _, _, _, g0, g1, g2, g3⟩ := HL.out; clear hd1 hab hb1))
  go_ret
  exact ⟨rfl, HL.out.be⟩
set_option maxRecDepth 100000 in
set_option maxHeartbeats 4000000 in
/-- There is no such cluster. -/
theorem topRecords_out {w : World} {s k m c a off : Int} {y : Nat} {A1 A2 : Option Addr} {p1 p2 : Nat} {ks : List Int} {ns : List Nat} (hk : W64 k) (hm : W64 m) (hc : W64 c) (hT : Tab w) (n : Nat) (hn : geoSec s k m c = (n : Int)) (hn1 : 1 ≤ n) (hn2 : n ≤ 256) (hlen : ks.length ≤ 60) (hkv : NumV w (.slice A1 ks.length p1) (i64s ks)) (huv : NumV w (.slice A2 ns.length p2) (u64s ns)) (hj : joinE ks ns = 0) (hfe : geoFe s k m c a = 1) :
    Calls Tryd.prog 4 #[.agg #[.int .i64 s, .int .i64 k, .int .i64 m, .int .i64 c], .int .i64 a, .slice A1 ks.length p1, .slice A2 ns.length p2, .int .i64 off, .int .u32 (y : Int)] w fun e w' => e = .returned (.bool true) ∧ Below w.heap.size w w' := by
  have hS := geoSectors_any s k m c hk hm hc
  unfold geoV at hS
  have hNew := cluNew_ex n hn1 (by omega)
  have hJ : ∀ W, NumV W (.slice A1 ks.length p1) (i64s ks) → NumV W (.slice A2 ns.length p2) (u64s ns) → _ := fun W h1 h2 => fldJoin_any ks ns _ _ W h1 h2 (by omega)
  rw [hn] at hS
  have HG0 := Lib.hid (CG.start w s k m c 23)
  have HT := Lib.hid hT
  have HKV := Lib.hid hkv
  have HUV := Lib.hid huv
  have d1 : decide ((n : Int) < 1) = false := decide_eq_false (by omega)
  have d2 : decide (256 < (n : Int)) = false := decide_eq_false (by omega)
  have d3 : decide (256 < n) = false := decide_eq_false (by omega)
  have d4 : decide (n < 1) = false := decide_eq_false (by omega)
  have d5 : decide ((60 : Int) < (ks.length : Int)) = false := decide_eq_false (by omega)
  have d6 : decide (60 < ks.length) = false := decide_eq_false (by omega)
  have hsz := joinS_sz ks ns hlen
  obtain ⟨J, hJJ⟩ : ∃ J : ByteArray, J = ⟨(joinS ks ns).toArray⟩ := ⟨_, rfl⟩
  rw [← hJJ] at hJ hsz
  rw [hj] at hJ
  have hFi := cluFill_any s k m c hk hm hc J (by omega)
  have g := tr_sec (s := s) (k := k) (m := m) (c := c) (by rw [hn]; omega)
  have e0 : fiE s k m c J = 0 := by unfold fiE; rw [if_pos g, if_pos (by have := sz_pos g; omega)]
  rw [e0] at hFi
  generalize fiV s k m c J = F at hFi
  have hWr : ∀ W h, DevAt W h (newM n) → _ := fun W h d => cluWrite_any (w := W) (h := h) d s k m c a hk hm hc F (by show 0 < _; omega)
  have ecw : cwR (newM n) s k m c a F = (newM n, 1) := by unfold cwR; rw [if_neg (by omega), hfe]
  rw [ecw] at hWr
  dsimp only at hWr
  clear hk hm hc hT hn g e0 hj hlen hkv huv hsz hJJ ecw hfe
  go_enter Tryd.func4, Tryd.ntmps4
  go_upto_region 1 with fail
  generalize w.alloc (.cells #[.int .i64 s, .int .i64 k, .int .i64 m, .int .i64 c] 23) = W0 at HG0 ⊢
  go_wp2_with (first
    | (go_at_call 13; with_reducible refine (begins_any2 _ (tr_T HT.out HG0.out.be)).mono ?_; rintro e W1 ⟨rfl, rfl⟩; obtain ⟨_, _, g0, g1, g2, g3⟩ := HG0.out)
    | (go_at_call 6; with_reducible refine (hS _).mono ?_; rintro e W2 ⟨rfl, hb⟩; have HG2 := Lib.hid (HG0.out.below hb); clear hb)
    | (go_at_call 14; with_reducible refine (hJ _ (HKV.out.below HG2.out.be (Nat.le_refl _)) (HUV.out.below HG2.out.be (Nat.le_refl _))).mono ?_; rintro e W3 ⟨rfl, hb⟩; have HG3 := Lib.hid (HG2.out.below hb); obtain ⟨_, _, g0, g1, g2, g3⟩ := HG3.out; clear hb)
    | (go_at_call 8; with_reducible refine (hFi _).mono ?_; rintro e W4 ⟨rfl, hb⟩; have HG4 := Lib.hid (HG3.out.below hb); clear hb)
    | (go_at_call 7; with_reducible refine (hNew _).mono ?_; rintro e W5 ⟨h, rfl, hd1, hab, hb1⟩; have HL := Lib.hid (HG4.out.dev hd1 hab hb1); obtain ⟨_, _, _, _, _, g0, g1, g2, g3⟩ := HL.out; clear hd1 hab hb1)
    | (go_at_call 10; with_reducible refine (hWr _ _ HL.out.d).mono ?_; rintro e W6 ⟨rfl, hd, ha⟩; have HL6 := Lib.hid (HL.out.dev hd ha); obtain ⟨_, _, _, _, _, g0, g1, g2, g3⟩ := HL6.out; clear hd ha))
  go_ret
  exact ⟨rfl, HL6.out.be⟩
/-- The main road's parts. -/
theorem tr_parts {s k m c a off : Int} {y : Nat} {ks : List Int} {ns : List Nat} (hk : W64 k) (hm : W64 m) (hc : W64 c) (n : Nat) (hn : geoSec s k m c = (n : Int)) (hlen : ks.length ≤ 60) (hj : joinE ks ns = 0) (hfa : geoFe s k m c a = 0) (hy : y < 4294967296) (w : World) (hT : Tab w) :
    ∃ (J F : ByteArray) (M1 M2 M3 : DM) (v gv e6 : Int) (A : Nat) (r x6 : ByteArray), J = ⟨(joinS ks ns).toArray⟩ ∧ ((gv = 0 ∧ 0 ≤ off ∧ off ≤ 508) ∨ (gv = 1 ∧ ¬ (0 ≤ off ∧ off ≤ 508))) ∧ (gv = 0 → ((y = 0 ∧ e6 = 0) ∨ (y ≠ 0 ∧ e6 = 9))) ∧
    (∀ W, Calls Tryd.prog 8 #[.agg #[.int .i64 s, .int .i64 k, .int .i64 m, .int .i64 c], .string J] W fun e w' => e = .returned (.tuple #[.string F, .int .i64 0]) ∧ Below W.heap.size W w') ∧
    (∀ W h, DevAt W h (newM n) → Calls Tryd.prog 10 #[.pointer (some ⟨h.b, 0, none⟩), .agg #[.int .i64 s, .int .i64 k, .int .i64 m, .int .i64 c], .int .i64 a, .string F] W fun e w' => e = .returned (.int .i64 0) ∧ DevAt w' h M1 ∧ Ap h.S W w') ∧
    (∀ W h, DevAt W h M1 → Calls Tryd.prog 15 #[.pointer (some ⟨h.b, 0, none⟩)] W fun e w' => e = .returned (.int .i64 0) ∧ DevAt w' h M2 ∧ Ap h.S W w') ∧
    (∀ W, Below w.heap.size w W → Calls Tryd.prog 12 #[.string F] W fun e w' => e = .returned (.int .u32 v) ∧ W = w') ∧
    (∀ W h, DevAt W h M2 → Below w.heap.size w W → Calls Tryd.prog 11 #[.pointer (some ⟨h.b, 0, none⟩), .agg #[.int .i64 s, .int .i64 k, .int .i64 m, .int .i64 c], .int .i64 a, .int .u32 v] W fun e w' => e = .returned (.tuple #[.string F, .int .i64 0]) ∧ Below W.heap.size W w') ∧
    (∀ W x, NumV W x (i64s ks) → Calls Tryd.prog 16 #[.string F, x] W fun e w' => (∃ x, e = .returned (.tuple #[x, .string r, .int .i64 0]) ∧ OwnN w' W.heap.size x ns) ∧ Below W.heap.size W w') ∧
    (∀ W, Calls Tryd.prog 18 #[.agg #[.int .i64 s, .int .i64 k, .int .i64 m, .int .i64 c], .int .i64 a] W fun e w' => e = .returned (.tuple #[.int .i64 (A : Int), .int .i64 0]) ∧ Below W.heap.size W w') ∧
    (∀ W h, DevAt W h M2 → Calls Tryd.prog 19 #[.pointer (some ⟨h.b, 0, none⟩), .int .i64 (A : Int), .int .i64 off, .int .u32 (y : Int)] W fun e w' => e = .returned (.int .i64 gv) ∧ DevAt w' h M3 ∧ Ap h.S W w') ∧
    (∀ W h, DevAt W h M3 → Below w.heap.size w W → Calls Tryd.prog 11 #[.pointer (some ⟨h.b, 0, none⟩), .agg #[.int .i64 s, .int .i64 k, .int .i64 m, .int .i64 c], .int .i64 a, .int .u32 v] W fun e w' => e = .returned (.tuple #[.string x6, .int .i64 e6]) ∧ Below W.heap.size W w') := by
  have g := (clu_ok hfa).1
  have hszb := sz_pos g
  obtain ⟨n1, n2, n3, n4, n5, n6, n7, n8⟩ := clu_nums hfa
  have hjsz := joinS_sz ks ns hlen
  obtain ⟨J, hJ⟩ : ∃ J : ByteArray, J = ⟨(joinS ks ns).toArray⟩ := ⟨_, rfl⟩
  rw [← hJ] at hjsz
  have hJl : J.data.toList = joinS ks ns := by rw [hJ]
  have e0 : fiE s k m c J = 0 := by unfold fiE; rw [if_pos g, if_pos (by omega)]
  obtain ⟨F, hF⟩ : ∃ F, F = fiV s k m c J := ⟨_, rfl⟩
  have hFs : (F.size : Int) = geoSz s k m c := by rw [hF]; exact fi_size e0
  have hFl : F.data.toList = joinS ks ns ++ List.replicate ((geoSz s k m c).toNat - J.size) 0 := by rw [hF]; unfold fiV; rw [if_pos e0, hJl]
  have hFT : F.size = cluT s k m c * 512 := by omega
  have hle : geoSec s k m c ≤ ((newM n).n : Int) := by rw [hn]; show (n : Int) ≤ ((n : Nat) : Int); omega
  have hup : upM (newM n) := ⟨rfl, by show (-1 : Int) < 0; omega⟩
  have hAT : cluF s k m c a + cluT s k m c ≤ (newM n).n := by omega
  have hcw : cwR (newM n) s k m c a F = (wrM (newM n) (cluF s k m c a) F (cluT s k m c), 0) := cw_up hup hfa hle hFs
  obtain ⟨f1, f2⟩ := flush_wr (M := newM n) (A := cluF s k m c a) (T := cluT s k m c) (t := F) hup
  have hr2 : crR (landM (wrM (newM n) (cluF s k m c a) F (cluT s k m c))) s k m c a = (F.data.toList, 0) := by
    unfold crR
    rw [if_pos hfa, rdS_ok (l := partL F) (fun i hi => land_read rfl rfl hAT hi) _ (Nat.le_refl _), parts_take, List.take_of_length_le (by rw [tsize]; omega)]
  obtain ⟨v, hv⟩ : ∃ v, v = U32 (Caulk.Crc.sum F.data.toList) := ⟨_, rfl⟩
  have hp0 : (partL F 0).length = 512 := by rw [partL_eq, List.length_take, List.length_drop, tsize]; omega
  have hF0 : F.data.toList = partL F 0 ++ F.data.toList.drop 512 := by
    rw [partL_eq, Nat.zero_mul, List.drop_zero, List.take_append_drop]
  obtain ⟨b1, b2, b3⟩ := join_back hj (List.replicate ((geoSz s k m c).toNat - J.size) 0)
  rw [← hFl] at b1 b2 b3
  refine ⟨J, F, wrM (newM n) (cluF s k m c a) F (cluT s k m c), landM (wrM (newM n) (cluF s k m c a) F (cluT s k m c)), garM (landM (wrM (newM n) (cluF s k m c a) F (cluT s k m c))) (cluF s k m c a : Int) off (y : Int), v, garE (landM (wrM (newM n) (cluF s k m c a) F (cluT s k m c))) (cluF s k m c a : Int) off,
    crE (garM (landM (wrM (newM n) (cluF s k m c a) F (cluT s k m c))) (cluF s k m c a : Int) off (y : Int)) s k m c a v, cluF s k m c a, ⟨(allT F.data.toList ks).toArray⟩, ⟨(crV (garM (landM (wrM (newM n) (cluF s k m c a) F (cluT s k m c))) (cluF s k m c a : Int) off (y : Int)) s k m c a v).toArray⟩,
    hJ, ?_, fun hg => ?_, fun W => ?_, fun W h d => ?_, fun W h d => ?_, fun W hW => ?_, fun W h d hW => ?_, fun W x hx => ?_, fun W => ?_, fun W h d => devGarble_any d _ off (y : Int) (by omega) (by omega), fun W h d hW => cluRead_any d s k m c a v hk hm hc (tr_T hT hW)⟩
  · have hin : hasB (landM (wrM (newM n) (cluF s k m c a) F (cluT s k m c))).n (cluF s k m c a : Int) = true := by
      show hasB n (cluF s k m c a : Int) = true
      exact decide_eq_true ⟨by omega, by omega⟩
    unfold garE
    by_cases h : 0 ≤ off ∧ off ≤ 508
    · exact .inl ⟨if_pos ⟨hin, h⟩, h⟩
    · exact .inr ⟨if_neg (fun q => h q.2), h⟩
  · have ho : 0 ≤ off ∧ off ≤ 508 := by
      unfold garE at hg
      split at hg
      · rename_i q; exact q.2
      · omega
    have hr3 : crR (garM (landM (wrM (newM n) (cluF s k m c a) F (cluT s k m c))) (cluF s k m c a : Int) off (y : Int)) s k m c a = (garL (partL F 0) off.toNat (y : Int) 4 ++ F.data.toList.drop 512, 0) := by
      unfold crR
      rw [if_pos hfa, rdS_ok (l := fun i => if i = 0 then garL (partL F 0) off.toNat (y : Int) 4 else partL F i) (fun i hi => gar_read rfl rfl hAT off (y : Int) hg hi) _ (Nat.le_refl _), flat_head _ _ _ n3, hp0, parts_take, List.take_of_length_le (l := F.data.toList) (by rw [tsize]; omega)]
    have hiff := sum_garL (partL F 0) (F.data.toList.drop 512) off.toNat (by omega) y hy
    rw [← hF0] at hiff
    have hE : crE (garM (landM (wrM (newM n) (cluF s k m c a) F (cluT s k m c))) (cluF s k m c a : Int) off (y : Int)) s k m c a v = if y = 0 then 0 else 9 := by
      unfold crE
      rw [hr3]
      dsimp only
      rw [if_pos rfl, hv]
      by_cases q : y = 0
      · rw [if_pos q, if_pos (by rw [hiff.2 q])]
      · rw [if_neg q, if_neg (fun e => q (hiff.1 (u32_inj e)))]
    rw [hE]
    by_cases q : y = 0
    · exact .inl ⟨q, if_pos q⟩
    · exact .inr ⟨q, if_neg q⟩
  · have := cluFill_any s k m c hk hm hc J (by omega) W
    rw [e0, ← hF] at this
    exact this
  · have := cluWrite_any d s k m c a hk hm hc F (by show 0 < _; omega)
    rw [hcw] at this
    exact this
  · have := devFlush_any d
    rw [f1, f2] at this
    exact this
  · have := crcSum_any F (by unfold maxLen; omega) W (tr_T hT hW)
    rw [← hv] at this
    exact this
  · have := cluRead_any d s k m c a v hk hm hc (tr_T hT hW)
    have eE : crE (landM (wrM (newM n) (cluF s k m c a) F (cluT s k m c))) s k m c a v = 0 := by unfold crE; rw [hr2]; dsimp only; rw [if_pos rfl, if_pos hv.symm]
    have eV : (⟨(crV (landM (wrM (newM n) (cluF s k m c a) F (cluT s k m c))) s k m c a v).toArray⟩ : ByteArray) = F := by unfold crV; rw [if_pos eE, hr2]
    rw [eV, eE] at this
    exact this
  · have := fldAll_any F ks x W hx (by omega)
    rw [b1, b2] at this
    exact this
  · have := geoFirst_any s k m c a hk hm hc W
    unfold geoV at this
    rw [n1, hfa] at this
    exact this
set_option maxRecDepth 100000 in
set_option maxHeartbeats 8000000 in
theorem topRecords_ok {w : World} {s k m c a off : Int} {y : Nat} {A1 A2 : Option Addr} {p1 p2 : Nat} {ks : List Int} {ns : List Nat} (hk : W64 k) (hm : W64 m) (hc : W64 c) (hT : Tab w) (n : Nat) (hn : geoSec s k m c = (n : Int)) (hn1 : 1 ≤ n) (hn2 : n ≤ 256) (hlen : ks.length ≤ 60) (hkv : NumV w (.slice A1 ks.length p1) (i64s ks)) (huv : NumV w (.slice A2 ns.length p2) (u64s ns)) (hy : y < 4294967296) (hj : joinE ks ns = 0) (hfa : geoFe s k m c a = 0) :
    Calls Tryd.prog 4 #[.agg #[.int .i64 s, .int .i64 k, .int .i64 m, .int .i64 c], .int .i64 a, .slice A1 ks.length p1, .slice A2 ns.length p2, .int .i64 off, .int .u32 (y : Int)] w fun e w' => e = .returned (.bool true) ∧ Below w.heap.size w w' := by
  have hS := geoSectors_any s k m c hk hm hc
  unfold geoV at hS
  have hNew := cluNew_ex n hn1 (by omega)
  have hJ : ∀ W, NumV W (.slice A1 ks.length p1) (i64s ks) → NumV W (.slice A2 ns.length p2) (u64s ns) → _ := fun W h1 h2 => fldJoin_any ks ns _ _ W h1 h2 (by omega)
  rw [hn] at hS
  have HG0 := Lib.hid (CG.start w s k m c 23)
  have HT := Lib.hid hT
  have HKV := Lib.hid hkv
  have HUV := Lib.hid huv
  have d1 : decide ((n : Int) < 1) = false := decide_eq_false (by omega)
  have d2 : decide (256 < (n : Int)) = false := decide_eq_false (by omega)
  have d3 : decide (256 < n) = false := decide_eq_false (by omega)
  have d4 : decide (n < 1) = false := decide_eq_false (by omega)
  have d5 : decide ((60 : Int) < (ks.length : Int)) = false := decide_eq_false (by omega)
  have d6 : decide (60 < ks.length) = false := decide_eq_false (by omega)
  obtain ⟨J, F, M1, M2, M3, v, gv, e6, A, r, x6, hJJ, hgv, he6, hFi, hWr, c3, c4, c5, c6, c7, c8, c9⟩ := tr_parts (off := off) hk hm hc n hn hlen hj hfa hy w hT
  rw [← hJJ, hj] at hJ
  have hSm : ∀ W x, NumV W x (u64s ns) → NumV W (.slice A2 ns.length p2) (u64s ns) → Calls Tryd.prog 17 #[x, .slice A2 ns.length p2] W fun e w' => e = .returned (.bool true) ∧ Below W.heap.size W w' := fun W x h1 h2 => by
    have := fldSame_any h1 h2
    rw [decide_eq_true rfl] at this
    exact this
  have HGV := Lib.hid hgv
  have HE6 := Lib.hid he6
  clear hk hm hc hT hn hj hlen hkv huv hJJ hfa hgv he6
  go_enter Tryd.func4, Tryd.ntmps4
  go_upto_region 1 with fail
  generalize w.alloc (.cells #[.int .i64 s, .int .i64 k, .int .i64 m, .int .i64 c] 23) = W0 at HG0 ⊢
  go_upto_region 15 with (first
    | (go_at_call 13; with_reducible refine (begins_any2 _ (tr_T HT.out HG0.out.be)).mono ?_; rintro e W1 ⟨rfl, rfl⟩; obtain ⟨_, _, g0, g1, g2, g3⟩ := HG0.out)
    | (go_at_call 6; with_reducible refine (hS _).mono ?_; rintro e W2 ⟨rfl, hb⟩; have HG2 := Lib.hid (HG0.out.below hb); clear hb)
    | (go_at_call 14; with_reducible refine (hJ _ (HKV.out.below HG2.out.be (Nat.le_refl _)) (HUV.out.below HG2.out.be (Nat.le_refl _))).mono ?_; rintro e W3 ⟨rfl, hb⟩; have HG3 := Lib.hid (HG2.out.below hb); obtain ⟨_, _, g0, g1, g2, g3⟩ := HG3.out; clear hb)
    | (go_at_call 8; with_reducible refine (hFi _).mono ?_; rintro e W4 ⟨rfl, hb⟩; have HG4 := Lib.hid (HG3.out.below hb); clear hb)
    | (go_at_call 7; with_reducible refine (hNew _).mono ?_; rintro e W5 ⟨h, rfl, hd1, hab, hb1⟩; have HL := Lib.hid (HG4.out.dev hd1 hab hb1); obtain ⟨_, _, _, _, _, g0, g1, g2, g3⟩ := HL.out; clear hd1 hab hb1)
    | (go_at_call 10; with_reducible refine (hWr _ _ HL.out.d).mono ?_; rintro e W6 ⟨rfl, hd, ha⟩; have HL6 := Lib.hid (HL.out.dev hd ha); obtain ⟨_, _, _, _, _, g0, g1, g2, g3⟩ := HL6.out; clear hd ha)
    | (go_at_call 15; with_reducible refine (c3 _ _ HL6.out.d).mono ?_; rintro e W7 ⟨rfl, hd, ha⟩; have HL7 := Lib.hid (HL6.out.dev hd ha); clear hd ha))
  have gd := HL7.out.drew
  have z0 : ∀ p : Wk (fun W => CL w W h M2 w.heap.size s k m c), p.W.cell? ⟨w.heap.size, 0, none⟩ = some (.int .i64 s) := fun p => p.h.g0
  have z1 : ∀ p : Wk (fun W => CL w W h M2 w.heap.size s k m c), p.W.cell? ⟨w.heap.size, 1, none⟩ = some (.int .i64 k) := fun p => p.h.g1
  have z2 : ∀ p : Wk (fun W => CL w W h M2 w.heap.size s k m c), p.W.cell? ⟨w.heap.size, 2, none⟩ = some (.int .i64 m) := fun p => p.h.g2
  have z3 : ∀ p : Wk (fun W => CL w W h M2 w.heap.size s k m c), p.W.cell? ⟨w.heap.size, 3, none⟩ = some (.int .i64 c) := fun p => p.h.g3
  refine wp_region_wk (fun W => CL w W h M2 w.heap.size s k m c) (by kernel_rfl) (by kernel_rfl) gd ?_
  have ne : Nonempty (Wk (fun W => CL w W h M2 w.heap.size s k m c)) := ⟨⟨_, gd⟩⟩
  clear gd
  repeat (refine wpQuiet_step (fun K hK => ?_); go_simp; first
    | (refine hK _ ?_; clear hK K)
    | (apply Exists.intro
       refine ⟨fun p => ?_, hK _ ?_⟩
       (first
        | (go_at_call 12; exact (c4 _ p.h.be).mono fun _ _ h => ⟨h.1, ⟨_, h.2 ▸ p.h⟩, rfl⟩)
        | (go_at_call 11; exact (c5 _ _ p.h.d p.h.be).mono fun _ _ h => ⟨h.1, ⟨_, CL.below p.h h.2⟩, rfl⟩))
       clear hK K))
  refine wpQuiet_nil ?_
  intro p
  have HL8 : Hid (CL w p.W h M2 w.heap.size s k m c) := Lib.hid p.h
  generalize p.W = W8 at HL8 ⊢
  clear z0 z1 z2 z3 ne p
  obtain ⟨_, _, _, _, _, g0, g1, g2, g3⟩ := HL8.out
  go_upto_region 19 with (first
    | (go_at_call 16; with_reducible refine (c6 _ _ (HKV.out.below HL8.out.be (Nat.le_refl _))).mono ?_; rintro e W9 ⟨⟨x9, rfl, hx9⟩, hb⟩; have HX9 := Lib.hid hx9.num; have HL9 := Lib.hid (HL8.out.below hb); clear hb hx9)
    | (go_at_call 17; with_reducible refine (hSm _ _ HX9.out (HUV.out.below HL9.out.be (Nat.le_refl _))).mono ?_; rintro e W10 ⟨rfl, hb⟩; have HL10 := Lib.hid (HL9.out.below hb); obtain ⟨_, _, _, _, _, g0, g1, g2, g3⟩ := HL10.out; clear hb))
  rcases HGV.out with ⟨rfl, o1, o2⟩ | ⟨rfl, o1⟩
  · go_upto_region 22 with (first
      | (go_at_call 18; with_reducible refine (c7 _).mono ?_; rintro e W11 ⟨rfl, hb⟩; have HL11 := Lib.hid (HL10.out.below hb); clear hb)
      | (go_at_call 19; with_reducible refine (c8 _ _ HL11.out.d).mono ?_; rintro e W12 ⟨rfl, hd, ha⟩; have HL12 := Lib.hid (HL11.out.dev hd ha); clear hd ha))
    have gd := HL12.out.drew
    have z0 : ∀ p : Wk (fun W => CL w W h M3 w.heap.size s k m c), p.W.cell? ⟨w.heap.size, 0, none⟩ = some (.int .i64 s) := fun p => p.h.g0
    have z1 : ∀ p : Wk (fun W => CL w W h M3 w.heap.size s k m c), p.W.cell? ⟨w.heap.size, 1, none⟩ = some (.int .i64 k) := fun p => p.h.g1
    have z2 : ∀ p : Wk (fun W => CL w W h M3 w.heap.size s k m c), p.W.cell? ⟨w.heap.size, 2, none⟩ = some (.int .i64 m) := fun p => p.h.g2
    have z3 : ∀ p : Wk (fun W => CL w W h M3 w.heap.size s k m c), p.W.cell? ⟨w.heap.size, 3, none⟩ = some (.int .i64 c) := fun p => p.h.g3
    refine wp_region_wk (fun W => CL w W h M3 w.heap.size s k m c) (by kernel_rfl) (by kernel_rfl) gd ?_
    have ne : Nonempty (Wk (fun W => CL w W h M3 w.heap.size s k m c)) := ⟨⟨_, gd⟩⟩
    clear gd
    repeat (refine wpQuiet_step (fun K hK => ?_); go_simp; first
      | (refine hK _ ?_; clear hK K)
      | (apply Exists.intro
         refine ⟨fun p => ?_, hK _ ?_⟩
         (first
          | (go_at_call 12; exact (c4 _ p.h.be).mono fun _ _ h => ⟨h.1, ⟨_, h.2 ▸ p.h⟩, rfl⟩)
          | (go_at_call 11; exact (c9 _ _ p.h.d p.h.be).mono fun _ _ h => ⟨h.1, ⟨_, CL.below p.h h.2⟩, rfl⟩))
         clear hK K))
    refine wpQuiet_nil ?_
    intro p
    have HL13 : Hid (CL w p.W h M3 w.heap.size s k m c) := Lib.hid p.h
    generalize p.W = W13 at HL13 ⊢
    clear z0 z1 z2 z3 ne p
    obtain ⟨_, _, _, _, _, g0, g1, g2, g3⟩ := HL13.out
    rcases HE6.out (by simp) with ⟨rfl, rfl⟩ | ⟨hy0, rfl⟩
    · go_wp2
      go_ret
      exact ⟨rfl, HL13.out.be⟩
    · have y0 : ((y : Int) == 0) = false := by rw [beq_eq_false_iff_ne]; omega
      have y1 : ¬ (y : Int) = 0 := by omega
      have y2 : (y == 0) = false := by simpa using hy0
      go_wp2
      go_ret
      exact ⟨rfl, HL13.out.be⟩
  · have o3 : (decide (off < 0) = true) ∨ (decide (off < 0) = false ∧ decide (508 < off) = true) := by
      by_cases q : off < 0
      · exact .inl (decide_eq_true q)
      · exact .inr ⟨decide_eq_false q, decide_eq_true (by omega)⟩
    clear o1
    rcases o3 with o3 | ⟨o3, o4⟩
    all_goals go_wp2_with (first
      | (go_at_call 18; with_reducible refine (c7 _).mono ?_; rintro e W11 ⟨rfl, hb⟩; have HL11 := Lib.hid (HL10.out.below hb); clear hb)
      | (go_at_call 19; with_reducible refine (c8 _ _ HL11.out.d).mono ?_; rintro e W12 ⟨rfl, hd, ha⟩; have HL12 := Lib.hid (HL11.out.dev hd ha); clear hd ha))
    all_goals go_ret
    all_goals exact ⟨rfl, HL12.out.be⟩
theorem topRecords_walk {w : World} {s k m c a off : Int} {y : Nat} {v u : Value} {ks : List Int} {ns : List Nat} (hk : W64 k) (hm : W64 m) (hc : W64 c) (hT : Tab w) (hkv : NumV w v (i64s ks)) (huv : NumV w u (u64s ns)) (hy : y < 4294967296) :
    Calls Tryd.prog 4 #[.agg #[.int .i64 s, .int .i64 k, .int .i64 m, .int .i64 c], .int .i64 a, v, u, .int .i64 off, .int .u32 (y : Int)] w fun e w' => e = .returned (.bool true) ∧ Below w.heap.size w w' := by
  have hkv' := hkv
  have huv' := huv
  obtain ⟨A1, p1, rfl, _, _, _⟩ := hkv
  obtain ⟨A2, p2, rfl, _, _, _⟩ := huv
  rw [i64s_len] at hkv' ⊢
  rw [u64s_len] at huv' ⊢
  by_cases hn : 1 ≤ geoSec s k m c ∧ geoSec s k m c ≤ 256 ∧ ks.length ≤ 60
  · have g := tr_sec hn.1
    obtain ⟨n, hnn⟩ : ∃ n : Nat, geoSec s k m c = (n : Int) := ⟨(geoSec s k m c).toNat, by omega⟩
    by_cases hj : joinE ks ns = 0
    · rcases fe_geo (a := a) g with h2 | h2
      · exact topRecords_ok hk hm hc hT n hnn (by omega) (by omega) hn.2.2 hkv' huv' hy hj h2
      · exact topRecords_out hk hm hc hT n hnn (by omega) (by omega) hn.2.2 hkv' huv' hj h2
    · exact topRecords_none hk hm hc hT n hnn (by omega) (by omega) hn.2.2 hkv' huv' hj
  · exact topRecords_far hk hm hc hT hn
end Go.Proofs.YtjhpheepimbbdaaDoor
