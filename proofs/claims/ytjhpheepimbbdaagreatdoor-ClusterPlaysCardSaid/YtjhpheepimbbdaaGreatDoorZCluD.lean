/- Clusters: the document's answers; Fill, Raw and Read. Clusters: the document's answers; Raw and Read. -/
import Derived.Test.YtjhpheepimbbdaaGreatDoorZCluF
import Derived.Test.YtjhpheepimbbdaaGreatDoorGeoD
import Derived.Test.YtjhpheepimbbdaaGreatDoorZRdA
import Derived.Test.YtjhpheepimbbdaaGreatDoorCrcD
namespace Go.Proofs.YtjhpheepimbbdaaGreatDoor
open Go.RowKit Go.Maps

set_option maxHeartbeats 1000000 in
theorem refFill_any (s k m c : Int) (hk : W64 k) (hm : W64 m) (t : ByteArray) (ht : t.size ≤ 140737488355328) (w : World) :
    Calls Tryz.prog 17 #[.agg #[.int .i64 s, .int .i64 k, .int .i64 m, .int .i64 c], .string t] w fun e w' => e = .returned (.tuple #[.string (fiV s k m c t), .int .i64 (fiE s k m c t)]) ∧ Below w.heap.size w w' := by
  have hC := refGeoCheck_any s k m c hk hm
  have hS := refSize_any s k m c hk hm
  by_cases g : GeoOk s k m c
  · have hz : geoSz s k m c = 512 * tw s := if_pos g
    obtain ⟨h0, h7, h4, hc2, p1, p2, hM, hM0⟩ := geoOk_b g
    rw [show geoE s k m c = 0 from if_pos g] at hC
    obtain ⟨z, hzz⟩ : ∃ z : Nat, geoSz s k m c = (z : Int) := ⟨(geoSz s k m c).toNat, by omega⟩
    have hz1 : z ≤ 65536 := by omega
    rw [hzz] at hS
    by_cases hle : t.size ≤ z
    · have e1 : fiE s k m c t = 0 := by unfold fiE; rw [if_pos g, if_pos (by rw [hzz]; omega)]
      have e2 : fiV s k m c t = t ++ (⟨(List.replicate (z - t.size) (0 : UInt8)).toArray⟩ : ByteArray) := by unfold fiV; rw [if_pos e1, hzz, cat_fill, Int.toNat_natCast]
      obtain ⟨N, hN⟩ : ∃ N : Nat, N = z - t.size := ⟨_, rfl⟩
      have hmk : ∀ w : World, (Instr.makeSlice 56 (.int .i64 (N : Int)) (.int .i64 (N : Int))).run Tryz.prog w = .ok (.slice (some ⟨w.heap.size, 0, none⟩) N N) (w.alloc (.cells (madeCells #[.int .u8 0] N) 5)) :=
        fun w => run_make_row' 56 5 (.int .u8 0) 1 Tryz.underlying56 infoU8 rfl .i64 .i64 N (by omega) (by omega) w
      obtain ⟨r, hr⟩ : ∃ r : ByteArray, r = ⟨(List.replicate N (0 : UInt8)).toArray⟩ := ⟨_, rfl⟩
      have hcz : ∀ W : World, (convert 56 9 (.slice (some ⟨W.heap.size, 0, none⟩) N N)).run Tryz.prog (W.alloc (.cells (madeCells #[.int .u8 0] N) 5)) = .ok (.string r) (W.alloc (.cells (madeCells #[.int .u8 0] N) 5)) := fun W => by
        rw [hr]; exact string_of_row N List.length_replicate.symm (row_made W N 5) 56 9 5 Tryz.underlying56 Tryz.underlying5 Tryz.underlying9
      have hrs : r.size = N := by rw [hr]; show (List.replicate N (0 : UInt8)).toArray.size = _; rw [List.size_toArray, List.length_replicate]
      rw [← hN, ← hr] at e2
      have hsub : ((z : Int) - (t.size : Int)) = (N : Int) := by omega
      have d0 : decide ((z : Int) < (t.size : Int)) = false := decide_eq_false (by omega)
      have d1 : decide (z < t.size) = false := decide_eq_false (by omega)
      have hcat : ¬ 9223372036854775807 < t.size + r.size := by omega
      have hN1 : N ≤ 65536 := by omega
      rw [e1, e2]
      clear hr hrs e1 e2 hz hzz g h0 h7 h4 hc2 p1 p2 hM hM0 hk hm hN
      go_enter Tryz.func17, Tryz.ntmps17
      go_wp2_with (first
        | (go_at_call 47; with_reducible refine (hC _).mono ?_; rintro e w1 ⟨rfl, hb1⟩; have HB1 : Hid (Below w.heap.size w w1) := Lib.hid (((Below.refl _ _).alloc (Nat.le_refl _) _).trans (hb1.mono (by simp))); have HG1 := Lib.hid ((Bx.new w (.int .i64 s) (.int .i64 k) (.int .i64 m) (.int .i64 c) 23).below hb1); obtain ⟨_, x0, x1, x2, x3, _, _, _, _⟩ := HG1.out; clear hb1)
        | (go_at_call 48; with_reducible refine (hS _).mono ?_; (first | (rintro e w2 ⟨rfl, hb2⟩; have HB2 : Hid (Below w.heap.size w w2) := Lib.hid (HB1.out.trans (hb2.mono HB1.out.size)); have HG2 := Lib.hid (HG1.out.below hb2); clear HB1 HG1; obtain ⟨_, y0, y1, y2, y3, _, _, _, _⟩ := HG2.out; clear hb2 x0 x1 x2 x3) | (rintro e w3 ⟨rfl, hb3⟩; have HB3 : Hid (Below w.heap.size w w3) := Lib.hid (HB2.out.trans (hb3.mono HB2.out.size)); clear hb3 y0 y1 y2 y3))))
      go_ret2
      exact ⟨rfl, HB3.out.alloc HB3.out.size _⟩
    · have e1 : fiE s k m c t = 7 := by unfold fiE; rw [if_pos g, if_neg (by rw [hzz]; omega)]
      have e2 : fiV s k m c t = ⟨#[]⟩ := by unfold fiV; rw [if_neg (by omega)]
      have d0 : decide ((z : Int) < (t.size : Int)) = true := decide_eq_true (by omega)
      have d1 : decide (z < t.size) = true := decide_eq_true (by omega)
      rw [e1, e2]
      clear e1 e2 hz hzz g h0 h7 h4 hc2 p1 p2 hM hM0 hk hm hle
      go_enter Tryz.func17, Tryz.ntmps17
      go_wp2_with (first
        | (go_at_call 47; with_reducible refine (hC _).mono ?_; rintro e w1 ⟨rfl, hb1⟩; obtain ⟨hcc, hff⟩ := olds hb1; have HB1 : Hid (Below w.heap.size w w1) := Lib.hid (((Below.refl _ _).alloc (Nat.le_refl _) _).trans (hb1.mono (by simp))))
        | (go_at_call 48; with_reducible refine (hS _).mono ?_; rintro e w2 ⟨rfl, hb2⟩; have HB2 : Hid (Below w.heap.size w w2) := Lib.hid (HB1.out.trans (hb2.mono HB1.out.size))))
      go_ret2
      exact ⟨rfl, HB2.out⟩
  · have e1 : fiE s k m c t = 2 := if_neg g
    have e2 : fiV s k m c t = ⟨#[]⟩ := by unfold fiV; rw [if_neg (by omega)]
    rw [show geoE s k m c = 2 from if_neg g] at hC
    rw [e1, e2]
    clear e1 e2 g hS hk hm
    go_enter Tryz.func17, Tryz.ntmps17
    go_wp2_with (go_at_call 47; with_reducible refine (hC _).mono ?_; rintro e w1 ⟨rfl, hb1⟩; have HB1 : Hid (Below w.heap.size w w1) := Lib.hid (((Below.refl _ _).alloc (Nat.le_refl _) _).trans (hb1.mono (by simp))))
    go_ret2
    exact ⟨rfl, HB1.out⟩
end Go.Proofs.YtjhpheepimbbdaaGreatDoor
namespace Go.Proofs.YtjhpheepimbbdaaGreatDoor
open Go.RowKit Go.Maps

/-- The places at the start. -/
structure RK (w W : World) (v0 v1 v2 v3 : Value) (M : DM) (s k m c : Int) : Prop where
  r : RefAt W (.agg #[v0, v1, v2, v3]) M
  bd : Bx W w.heap.size v0 v1 v2 v3
  bg : Bx W (w.heap.size + 1) (.int .i64 s) (.int .i64 k) (.int .i64 m) (.int .i64 c)
  a : Below w.heap.size w W
theorem RK.start {w : World} {v0 v1 v2 v3 : Value} {M : DM} (r : RefAt w (.agg #[v0, v1, v2, v3]) M) (s k m c : Int) (t1 t2 : Nat) :
    RK w ((w.alloc (.cells #[v0, v1, v2, v3] t1)).alloc (.cells #[.int .i64 s, .int .i64 k, .int .i64 m, .int .i64 c] t2)) v0 v1 v2 v3 M s k m c := by
  have B1 := below1 w (.cells #[v0, v1, v2, v3] t1)
  have B2 := below1 (w.alloc (.cells #[v0, v1, v2, v3] t1)) (.cells #[.int .i64 s, .int .i64 k, .int .i64 m, .int .i64 c] t2)
  have h1 := Bx.new (w.alloc (.cells #[v0, v1, v2, v3] t1)) (.int .i64 s) (.int .i64 k) (.int .i64 m) (.int .i64 c) t2
  rw [show (w.alloc (.cells #[v0, v1, v2, v3] t1)).heap.size = w.heap.size + 1 by simp] at h1
  exact ⟨r.below (B1.trans (B2.mono (by simp))), (Bx.new w v0 v1 v2 v3 _).below B2, h1, B1.trans (B2.mono (by simp))⟩
theorem RK.below {w W W' : World} {v0 v1 v2 v3 : Value} {M : DM} {s k m c : Int} (z : RK w W v0 v1 v2 v3 M s k m c) (hb : Below W.heap.size W W') : RK w W' v0 v1 v2 v3 M s k m c :=
  ⟨z.r.below hb, z.bd.below hb, z.bg.below hb, z.a.trans (hb.mono z.a.size)⟩
theorem rdS_len {M : DM} (hV : ∀ x, (readV M x).length ≤ 512) (A j : Nat) : (rdS M A j).1.length ≤ 512 * j := by
  have h1 := rdFold_len M A hV (List.range j) ([], 0)
  rw [List.length_range, List.length_nil] at h1
  unfold rdS; omega
theorem cat_lists (l k : List UInt8) : (⟨l.toArray⟩ : ByteArray) ++ ⟨k.toArray⟩ = ⟨(l ++ k).toArray⟩ := by
  apply ByteArray.ext
  rw [ByteArray.data_append]
  simp
set_option maxRecDepth 10000 in
set_option maxHeartbeats 1000000 in
theorem refRaw_ok {w : World} {v : Value} {M : DM} (r : RefAt w v M) (s k m c a : Int) (A T : Nat) (z : Nat) (hFi : ∀ W, Calls Tryz.prog 49 #[.agg #[.int .i64 s, .int .i64 k, .int .i64 m, .int .i64 c], .int .i64 a] W fun e w' => e = .returned (.tuple #[.int .i64 (A : Int), .int .i64 0]) ∧ Below W.heap.size W w')
    (hSz : ∀ W, Calls Tryz.prog 48 #[.agg #[.int .i64 s, .int .i64 k, .int .i64 m, .int .i64 c]] W fun e w' => e = .returned (.int .i64 (z : Int)) ∧ Below W.heap.size W w')
    (hz : z = T * 512) (hT : T ≤ 128) (hA : A ≤ 1000000) (hV : ∀ x, (readV M x).length ≤ 512) :
    Calls Tryz.prog 20 #[v, .agg #[.int .i64 s, .int .i64 k, .int .i64 m, .int .i64 c], .int .i64 a] w fun e w' => e = .returned (.tuple #[.string ⟨(rdS M A T).1.toArray⟩, .int .i64 (rdS M A T).2]) ∧ Below w.heap.size w w' := by
  have r' := r
  obtain ⟨b, cap, rfl, h1, h2, h3⟩ := r'
  have hRS := RK.start r s k m c 32 23
  generalize Value.slice (some ⟨b, 0, none⟩) M.n cap = v0 at *
  generalize Value.bool M.down = v1 at *
  generalize Value.int IntKind.i64 M.left = v2 at *
  generalize Value.int IntKind.i64 (M.writes : Int) = v3 at *
  obtain ⟨W0, hW⟩ : ∃ W0 : World, W0 = (w.alloc (.cells #[v0, v1, v2, v3] 32)).alloc (.cells #[.int .i64 s, .int .i64 k, .int .i64 m, .int .i64 c] 23) := ⟨_, rfl⟩
  rw [← hW] at hRS
  have HR0 := Lib.hid hRS
  have HRd : Hid (∀ W (x : Int), RefAt W (.agg #[v0, v1, v2, v3]) M → Calls Tryz.prog 52 #[.agg #[v0, v1, v2, v3], .int .i64 x] W fun e w' => e = .returned (.tuple #[.string ⟨(readV M x).toArray⟩, .int .i64 (readE M x)]) ∧ Below W.heap.size W w') := Lib.hid (fun W x hr => refRead_any hr x)
  have HSt : Hid (∀ j, rdS M A (j + 1) = rdStep M A (rdS M A j) j) := Lib.hid (rdS_succ M A)
  have HSp : Hid (∀ j, (rdS M A j).2 ≠ 0 → j ≤ T → rdS M A T = rdS M A j) := Lib.hid (fun j h hj => rdS_stop M A h hj)
  have HLn : Hid (∀ j, (rdS M A j).1.length ≤ 512 * j) := Lib.hid (fun j => rdS_len hV A j)
  have HVL := Lib.hid hV
  have hq : ((z : Int)).tdiv 512 = (T : Int) := by rw [Int.tdiv_eq_ediv_of_nonneg (by omega)]; omega
  have hz1 : z ≤ 65536 := by omega
  clear r h1 h2 h3 hRS hV
  go_enter Tryz.func20, Tryz.ntmps20
  go_upto_region 1 with fail
  rw [← hW]
  clear hW
  obtain ⟨_, y0, y1, y2, y3, _, _, _, _⟩ := HR0.out.bg
  go_upto_region 6 with (go_at_call 49; with_reducible refine (hFi _).mono ?_; rintro e w1 ⟨rfl, hb1⟩; have HR1 := Lib.hid (HR0.out.below hb1); clear hb1)
  clear y0 y1 y2 y3 HR0
  go_loopw [10, 11] (fun sx ix wr => ∃ j : Nat, j ≤ T ∧ ix = .int .i64 (j : Int) ∧ sx = .string ⟨(rdS M A j).1.toArray⟩ ∧ (rdS M A j).2 = 0 ∧ RK w wr v0 v1 v2 v3 M s k m c) (fun _ ix _ => T - (intOf ix).toNat)
  case atStart => exact ⟨0, Nat.zero_le _, rfl, rfl, rfl, HR1.out⟩
  case round =>
    obtain ⟨j, hj, rfl, rfl, he, hk⟩ := hrel
    have HK := Lib.hid hk
    obtain ⟨_, x0, x1, x2, x3, _, _, _, _⟩ := HK.out.bd
    obtain ⟨_, y0, y1, y2, y3, _, _, _, _⟩ := HK.out.bg
    clear hk
    by_cases hlt : j < T
    · have d0 : decide ((j : Int) < (T : Int)) = true := decide_eq_true (by omega)
      have hsj := HSt.out j
      have hst : rdStep M A (rdS M A j) j = (if readE M ((A + j : Nat) : Int) = 0 then ((rdS M A j).1 ++ readV M ((A + j : Nat) : Int), 0) else ([], readE M ((A + j : Nat) : Int))) := if_pos he
      rw [hst] at hsj
      clear hst
      obtain ⟨q, hqj⟩ : ∃ q : Nat, q = A + j := ⟨_, rfl⟩
      have haj : ((A : Int) + (j : Int)) = (q : Int) := by omega
      rw [← hqj] at hsj
      have hq1 : q ≤ 1000128 := by omega
      clear hqj
      have hln := HLn.out j
      have hvl := HVL.out (q : Int)
      have hRd := fun W hr => HRd.out W (q : Int) hr
      have hspp := Lib.hid (HSp.out (j + 1))
      generalize (rdS M A j).1 = l at *
      generalize readV M (q : Int) = l2 at *
      generalize readE M (q : Int) = e2 at *
      by_cases h0 : e2 = 0
      · subst h0
        rw [if_pos rfl] at hsj
        have HSJ := Lib.hid hsj
        clear hsj
        go_wp2_with (first
          | (go_at_call 48; with_reducible refine (hSz _).mono ?_; rintro e w2 ⟨rfl, hb2⟩; have HK2 := Lib.hid (HK.out.below hb2); obtain ⟨_, x0, x1, x2, x3, _, _, _, _⟩ := HK2.out.bd; clear hb2)
          | (go_at_call 52; with_reducible refine (hRd _ HK2.out.r).mono ?_; rintro e w3 ⟨rfl, hb3⟩; have HK3 := Lib.hid (HK2.out.below hb3); clear hb3))
        refine ⟨⟨j + 1, by omega, by go_num, ?_, by rw [HSJ.out], HK3.out⟩, by simp [intOf]; omega⟩
        rw [HSJ.out, cat_lists]
      · rw [if_neg h0] at hsj
        have d1 : (e2 == 0) = false := by simpa using h0
        have d2 : (e2 != 0) = true := by simpa using h0
        have HEnd : Hid (rdS M A T = ([], e2)) := Lib.hid (by rw [hspp.out (by rw [hsj]; exact h0) (by omega), hsj])
        clear hsj hspp
        go_wp2_with (first
          | (go_at_call 48; with_reducible refine (hSz _).mono ?_; rintro e w2 ⟨rfl, hb2⟩; have HK2 := Lib.hid (HK.out.below hb2); obtain ⟨_, x0, x1, x2, x3, _, _, _, _⟩ := HK2.out.bd; clear hb2)
          | (go_at_call 52; with_reducible refine (hRd _ HK2.out.r).mono ?_; rintro e w3 ⟨rfl, hb3⟩; have HK3 := Lib.hid (HK2.out.below hb3); clear hb3))
        go_ret2
        exact ⟨by rw [HEnd.out]; rfl, HK3.out.a⟩
    · obtain rfl : j = T := by omega
      have d0 : decide ((j : Int) < (j : Int)) = false := decide_eq_false (by omega)
      have HHe := Lib.hid he
      clear he hlt hj
      go_wp2_with (go_at_call 48; with_reducible refine (hSz _).mono ?_; rintro e w2 ⟨rfl, hb2⟩; have HK2 := Lib.hid (HK.out.below hb2); clear hb2)
      go_ret2
      exact ⟨by rw [HHe.out]; rfl, HK2.out.a⟩
/-- The contract's other half: no such cluster. -/
theorem refRaw_no {w : World} {v : Value} {M : DM} (r : RefAt w v M) (s k m c a f e : Int) (he : e ≠ 0) (hFi : ∀ W, Calls Tryz.prog 49 #[.agg #[.int .i64 s, .int .i64 k, .int .i64 m, .int .i64 c], .int .i64 a] W fun e' w' => e' = .returned (.tuple #[.int .i64 f, .int .i64 e]) ∧ Below W.heap.size W w') :
    Calls Tryz.prog 20 #[v, .agg #[.int .i64 s, .int .i64 k, .int .i64 m, .int .i64 c], .int .i64 a] w fun e' w' => e' = .returned (.tuple #[.string ⟨#[]⟩, .int .i64 e]) ∧ Below w.heap.size w w' := by
  obtain ⟨b, cap, rfl, h1, h2, h3⟩ := r
  have d1 : (e == 0) = false := by simpa using he
  have d2 : (e != 0) = true := by simpa using he
  clear h1 h2 h3
  generalize Value.slice (some ⟨b, 0, none⟩) M.n cap = v0 at *
  generalize Value.bool M.down = v1 at *
  generalize Value.int IntKind.i64 M.left = v2 at *
  generalize Value.int IntKind.i64 (M.writes : Int) = v3 at *
  have HB0 : Hid (Below w.heap.size w ((w.alloc (.cells #[v0, v1, v2, v3] 32)).alloc (.cells #[.int .i64 s, .int .i64 k, .int .i64 m, .int .i64 c] 23))) := Lib.hid (((Below.refl _ _).alloc (Nat.le_refl _) _).alloc (by simp) _)
  go_enter Tryz.func20, Tryz.ntmps20
  go_wp2_with (go_at_call 49; with_reducible refine (hFi _).mono ?_; rintro e w1 ⟨rfl, hb1⟩)
  go_ret2
  exact ⟨rfl, HB0.out.trans (hb1.mono HB0.out.size)⟩
theorem refRaw_any {w : World} {v : Value} {M : DM} (r : RefAt w v M) (s k m c a : Int) (hk : W64 k) (hm : W64 m) (hV : ∀ x, (readV M x).length ≤ 512) :
    Calls Tryz.prog 20 #[v, .agg #[.int .i64 s, .int .i64 k, .int .i64 m, .int .i64 c], .int .i64 a] w fun e w' => e = .returned (.tuple #[.string ⟨(crR M s k m c a).1.toArray⟩, .int .i64 (crR M s k m c a).2]) ∧ Below w.heap.size w w' := by
  have hF := refFirst_any s k m c a hk hm
  have hS := refSize_any s k m c hk hm
  unfold crR
  by_cases h0 : geoFe s k m c a = 0
  · obtain ⟨n1, n2, n3, n4, n5, n6, _⟩ := clu_nums h0
    rw [if_pos h0]
    rw [h0, n1] at hF
    obtain ⟨z, hz⟩ : ∃ z : Nat, z = cluT s k m c * 512 := ⟨_, rfl⟩
    rw [n2, show (cluT s k m c : Int) * 512 = (z : Int) by omega] at hS
    exact refRaw_ok r s k m c a (cluF s k m c a) (cluT s k m c) z hF hS hz n4 (by omega) hV
  · rw [if_neg h0]
    exact refRaw_no r s k m c a _ _ h0 hF
theorem crR_len {M : DM} (hV : ∀ x, (readV M x).length ≤ 512) (s k m c a : Int) : (crR M s k m c a).1.length ≤ 65536 := by
  unfold crR
  split
  · rename_i h0
    have h2 := (clu_nums h0).2.2.2.1
    have h3 := rdS_len hV (cluF s k m c a) (cluT s k m c)
    omega
  · simp
set_option maxHeartbeats 1000000 in
theorem refRead8_any {w : World} {v : Value} {M : DM} (r : RefAt w v M) (s k m c a u : Int) (hk : W64 k) (hm : W64 m) (hV : ∀ x, (readV M x).length ≤ 512) :
    Calls Tryz.prog 19 #[v, .agg #[.int .i64 s, .int .i64 k, .int .i64 m, .int .i64 c], .int .i64 a, .int .u32 u] w fun e w' => e = .returned (.tuple #[.string ⟨(crV M s k m c a u).toArray⟩, .int .i64 (crE M s k m c a u)]) ∧ Below w.heap.size w w' := by
  have r' := r
  obtain ⟨b, cap, rfl, h1, h2, h3⟩ := r'
  have hlen := crR_len hV s k m c a
  have hRS := RK.start r s k m c 32 23
  generalize Value.slice (some ⟨b, 0, none⟩) M.n cap = v0 at *
  generalize Value.bool M.down = v1 at *
  generalize Value.int IntKind.i64 M.left = v2 at *
  generalize Value.int IntKind.i64 (M.writes : Int) = v3 at *
  have hR := fun W hr => refRaw_any (w := W) (v := .agg #[v0, v1, v2, v3]) (M := M) hr s k m c a hk hm hV
  have HR0 := Lib.hid hRS
  clear hRS r h1 h2 h3 hk hm hV
  unfold crV crE
  generalize crR M s k m c a = q at *
  obtain ⟨l, e0⟩ := q
  dsimp only at *
  have hR1 := hR _ HR0.out.r
  clear hR
  by_cases h0 : e0 = 0
  · subst h0
    rw [if_pos rfl]
    obtain ⟨y, hy⟩ : ∃ y : ByteArray, y = ⟨l.toArray⟩ := ⟨_, rfl⟩
    have hyl : y.data.toList = l := by rw [hy]
    have hys : y.size ≤ maxLen := by rw [hy]; unfold maxLen; simp [ByteArray.size]; omega
    rw [← hyl]
    rw [← hy] at hR1
    have hSum := fun W => refSum_any y hys W
    generalize U32 (Caulk.Crc.sum y.data.toList) = q at *
    have hyy : (⟨y.data.toList.toArray⟩ : ByteArray) = y := by rw [Array.toArray_toList]
    by_cases hqu : q = u
    · subst hqu
      rw [if_pos rfl, if_pos rfl, hyy]
      clear hy hyl hys hlen hyy
      go_enter Tryz.func19, Tryz.ntmps19
      go_wp2_with (first
        | (go_at_call 20; with_reducible refine hR1.mono ?_; rintro e w1 ⟨rfl, hb1⟩; have HB1 := Lib.hid (HR0.out.a.trans (hb1.mono HR0.out.a.size)); clear hb1)
        | (go_at_call 51; with_reducible refine (hSum _).mono ?_; rintro e w2 ⟨rfl, rfl⟩))
      go_ret2
      exact ⟨rfl, HB1.out⟩
    · rw [if_neg hqu, if_neg (by decide)]
      have d1 : (q == u) = false := by simpa using hqu
      have d2 : (q != u) = true := by simpa using hqu
      clear hy hyl hys hlen hyy
      go_enter Tryz.func19, Tryz.ntmps19
      go_wp2_with (first
        | (go_at_call 20; with_reducible refine hR1.mono ?_; rintro e w1 ⟨rfl, hb1⟩; have HB1 := Lib.hid (HR0.out.a.trans (hb1.mono HR0.out.a.size)); clear hb1)
        | (go_at_call 51; with_reducible refine (hSum _).mono ?_; rintro e w2 ⟨rfl, rfl⟩))
      go_ret2
      exact ⟨rfl, HB1.out⟩
  · rw [if_neg h0, if_neg h0]
    have d1 : (e0 == 0) = false := by simpa using h0
    have d2 : (e0 != 0) = true := by simpa using h0
    generalize (⟨l.toArray⟩ : ByteArray) = y at hR1
    clear hlen
    go_enter Tryz.func19, Tryz.ntmps19
    go_wp2_with (go_at_call 20; with_reducible refine hR1.mono ?_; rintro e w1 ⟨rfl, hb1⟩; have HB1 := Lib.hid (HR0.out.a.trans (hb1.mono HR0.out.a.size)); clear hb1)
    go_ret2
    exact ⟨rfl, HB1.out⟩
end Go.Proofs.YtjhpheepimbbdaaGreatDoor
