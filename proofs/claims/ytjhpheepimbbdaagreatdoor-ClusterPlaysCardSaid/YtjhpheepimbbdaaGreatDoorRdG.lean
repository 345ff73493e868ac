/- The document's answers for devices: Garble. -/
import Derived.Test.YtjhpheepimbbdaaGreatDoorRdF
import Derived.StillTailTactics
import Derived.Lib.ConvBytes
namespace Go.Proofs.YtjhpheepimbbdaaGreatDoor
open Go.RowKit Go.Maps

theorem bytes_below (W : World) (s : ByteArray) : Below W.heap.size W (Go.Lib.bytesWorld W 5 s) :=
  ⟨rfl, rfl, rfl, by rw [Go.Lib.bytesWorld_size]; omega, fun k hk => Go.Lib.bytesWorld_at_old W _ s k hk⟩
theorem bytes_row (W : World) (s : ByteArray) : Row8 (Go.Lib.bytesWorld W 5 s) W.heap.size 0 s.data.toList := by
  refine ⟨by rw [Go.Lib.bytesWorld_size]; omega, fun j hj => ?_⟩
  have hj' : j < s.size := hj
  rw [Nat.zero_add]
  refine ⟨Go.Lib.bytesWorld_cell W _ s j hj', ?_⟩
  have hlt : j < (Go.Lib.bytesCells W 5 s).size := by
    unfold Go.Lib.bytesCells
    rw [Array.size_append, Array.size_map]
    show j < s.size + _
    omega
  simp only [World.frozen?, Go.Lib.bytesWorld_at_new]
  simp; omega
set_option maxRecDepth 10000 in
set_option maxHeartbeats 2000000 in
theorem refGarble_any {w : World} {v : Value} {M : DM} (k : RefAt w v M) (hN : Nrm M) (hlen : ∀ i, i < M.n → (M.sure i).length = 512) (a off : Int) (x : Int) (_hx0 : 0 ≤ x) (_hx1 : x < 4294967296) :
    Calls Tryz.prog 23 #[v, .int .i64 a, .int .i64 off, .int .u32 x] w fun e w' => ∃ v', e = .returned (.tuple #[v', .int .i64 (garE M a off)]) ∧ RefAt w' v' (garM M a off x) ∧ Below w.heap.size w w' := by
  obtain ⟨n, su, fr, bd, ct, dn, lf⟩ := M
  obtain ⟨b, cap, rfl, h1, h2, h3⟩ := k
  obtain ⟨n1, n2, l1, l2⟩ := hN
  dsimp only at n1 n2 l1 l2 h1 h3
  have hblt := h3.1
  obtain ⟨W0, hW, hX, hR, hB⟩ := start2 w (.slice (some ⟨b, 0, none⟩) n cap) (.bool dn) (.int .i64 lf) (.int .i64 (ct : Int)) 32
  have HL := Lib.hid (h3.below hB)
  have HB := Lib.hid hB
  have HX := Lib.hid hX
  have HR := Lib.hid hR
  have HNE : Hid (b < w.heap.size) := Lib.hid hblt
  clear h3 hB hblt
  obtain ⟨_, x0, x1, x2, x3, fx0, fx1, fx2, fx3⟩ := hX
  obtain ⟨_, r0, r1, r2, r3, f0, f1, f2, f3⟩ := hR
  have hH := fun W => refHas_any (w := W) (A := some ⟨b, 0, none⟩) (n := n) (cap := cap) (off := dn) (left := lf) (wr := (ct : Int)) a
  dsimp only at hlen
  by_cases hok : hasB n a = true ∧ 0 ≤ off ∧ off ≤ 508
  case neg =>
    have q1 : garE ⟨n, su, fr, bd, ct, dn, lf⟩ a off = 1 := if_neg hok
    have q2 : garM ⟨n, su, fr, bd, ct, dn, lf⟩ a off x = ⟨n, su, fr, bd, ct, dn, lf⟩ := by unfold garM; rw [q1, if_neg (by omega)]
    rw [q1, q2]
    clear q1 q2 hlen
    by_cases e1 : hasB n a = false
    · rw [e1] at hH
      clear hok e1
      go_enter Tryz.func23, Tryz.ntmps23
      go_upto_region 1 with fail
      rw [← hW]
      clear hW
      go_wp2_with (go_at_call 53; refine (hH _).mono ?_; rintro e w1 ⟨rfl, hb1⟩; have HX1 := Lib.hid (HX.out.below hb1); have HR1 := Lib.hid (HR.out.below hb1); have HL1 := Lib.hid (HL.out.below hb1); have HB1 := Lib.hid (HB.out.trans (hb1.mono HB.out.size)); obtain ⟨_, p0, p1, p2, p3, _, g1, g2, g3⟩ := HX1.out; obtain ⟨_, t0, t1, t2, t3, k0, k1, k2, k3⟩ := HR1.out; clear hb1)
      obtain ⟨y0, y1, y2, y3, hG, hBB⟩ := stored HR1.out HB1.out (by omega) HL1.out (by have := HNE.out; omega) (.slice (some ⟨b, 0, none⟩) n cap) (.bool dn) (.int .i64 lf) (.int .i64 (ct : Int))
      refine bodyPost_ret (v := .tuple #[.agg #[.slice (some ⟨b, 0, none⟩) n cap, .bool dn, .int .i64 lf, .int .i64 (ct : Int)], .int .i64 1]) (by simp [results, Tryz.results23, go_sem, y0, y1, y2, y3]) rfl ?_
      exact ⟨_, rfl, ⟨b, cap, rfl, h1, h2, hG⟩, hBB⟩
    have e1' : hasB n a = true := by simpa using e1
    rw [e1'] at hH
    by_cases e2 : off < 0
    · have d2 : decide (off < 0) = true := decide_eq_true e2
      clear hok e1 e1'
      go_enter Tryz.func23, Tryz.ntmps23
      go_upto_region 1 with fail
      rw [← hW]
      clear hW
      go_wp2_with (go_at_call 53; refine (hH _).mono ?_; rintro e w1 ⟨rfl, hb1⟩; have HX1 := Lib.hid (HX.out.below hb1); have HR1 := Lib.hid (HR.out.below hb1); have HL1 := Lib.hid (HL.out.below hb1); have HB1 := Lib.hid (HB.out.trans (hb1.mono HB.out.size)); obtain ⟨_, p0, p1, p2, p3, _, g1, g2, g3⟩ := HX1.out; obtain ⟨_, t0, t1, t2, t3, k0, k1, k2, k3⟩ := HR1.out; clear hb1)
      obtain ⟨y0, y1, y2, y3, hG, hBB⟩ := stored HR1.out HB1.out (by omega) HL1.out (by have := HNE.out; omega) (.slice (some ⟨b, 0, none⟩) n cap) (.bool dn) (.int .i64 lf) (.int .i64 (ct : Int))
      refine bodyPost_ret (v := .tuple #[.agg #[.slice (some ⟨b, 0, none⟩) n cap, .bool dn, .int .i64 lf, .int .i64 (ct : Int)], .int .i64 1]) (by simp [results, Tryz.results23, go_sem, y0, y1, y2, y3]) rfl ?_
      exact ⟨_, rfl, ⟨b, cap, rfl, h1, h2, hG⟩, hBB⟩
    · have d2 : decide (off < 0) = false := decide_eq_false e2
      have d3 : decide (508 < off) = true := decide_eq_true (by have : ¬ (0 ≤ off ∧ off ≤ 508) := fun h => hok ⟨e1', h⟩; omega)
      clear hok e1 e1'
      go_enter Tryz.func23, Tryz.ntmps23
      go_upto_region 1 with fail
      rw [← hW]
      clear hW
      go_wp2_with (go_at_call 53; refine (hH _).mono ?_; rintro e w1 ⟨rfl, hb1⟩; have HX1 := Lib.hid (HX.out.below hb1); have HR1 := Lib.hid (HR.out.below hb1); have HL1 := Lib.hid (HL.out.below hb1); have HB1 := Lib.hid (HB.out.trans (hb1.mono HB.out.size)); obtain ⟨_, p0, p1, p2, p3, _, g1, g2, g3⟩ := HX1.out; obtain ⟨_, t0, t1, t2, t3, k0, k1, k2, k3⟩ := HR1.out; clear hb1)
      obtain ⟨y0, y1, y2, y3, hG, hBB⟩ := stored HR1.out HB1.out (by omega) HL1.out (by have := HNE.out; omega) (.slice (some ⟨b, 0, none⟩) n cap) (.bool dn) (.int .i64 lf) (.int .i64 (ct : Int))
      refine bodyPost_ret (v := .tuple #[.agg #[.slice (some ⟨b, 0, none⟩) n cap, .bool dn, .int .i64 lf, .int .i64 (ct : Int)], .int .i64 1]) (by simp [results, Tryz.results23, go_sem, y0, y1, y2, y3]) rfl ?_
      exact ⟨_, rfl, ⟨b, cap, rfl, h1, h2, hG⟩, hBB⟩
  case pos =>
  have q1 : garE ⟨n, su, fr, bd, ct, dn, lf⟩ a off = 0 := if_pos hok
  have q2 : garM ⟨n, su, fr, bd, ct, dn, lf⟩ a off x = ⟨n, upd su a.toNat (garL (su a.toNat) off.toNat x 4), fr, bd, ct, dn, lf⟩ := by unfold garM; rw [if_pos q1]
  rw [q1, q2]
  obtain ⟨e1, e2, e3⟩ := hok
  rw [e1] at hH
  obtain ⟨i, hi, rfl⟩ : ∃ i : Nat, i < n ∧ a = (i : Int) := by
    unfold hasB at e1
    have h := of_decide_eq_true e1
    exact ⟨a.toNat, by omega, by omega⟩
  obtain ⟨z, rfl⟩ : ∃ z : Nat, off = (z : Int) := ⟨off.toNat, by omega⟩
  rw [Int.toNat_natCast, Int.toNat_natCast]
  have hz : z ≤ 508 := by omega
  have d2 : decide ((z : Int) < 0) = false := decide_eq_false (by omega)
  have d3 : decide (508 < (z : Int)) = false := decide_eq_false (by omega)
  have hl5 := hlen i hi
  have HM : Hid (∀ j, j < n → sM ⟨n, upd su i (garL (su i) z x 4), fr, bd, ct, dn, lf⟩ j = upd (sM ⟨n, su, fr, bd, ct, dn, lf⟩) i ⟨⟨(garL (su i) z x 4).toArray⟩, ⟨((fr i).getD []).toArray⟩, (fr i).isSome, bd i⟩ j) := Lib.hid (by
    intro j _
    unfold upd sM
    by_cases e : j = i
    · subst e; simp
    · simp [e])
  have HI := Lib.hid hi
  clear q1 q2 e1 e2 e3 hi hlen
  go_enter Tryz.func23, Tryz.ntmps23
  go_upto_region 1 with fail
  rw [← hW]
  clear hW
  go_upto_region 3 with (go_at_call 53; refine (hH _).mono ?_; rintro e w1 ⟨rfl, hb1⟩; have HX1 := Lib.hid (HX.out.below hb1); have HR1 := Lib.hid (HR.out.below hb1); have HL1 := Lib.hid (HL.out.below hb1); have HB1 := Lib.hid (HB.out.trans (hb1.mono HB.out.size)); obtain ⟨_, p0, p1, p2, p3, _, g1, g2, g3⟩ := HX1.out; obtain ⟨_, t0, t1, t2, t3, k0, k1, k2, k3⟩ := HR1.out; clear hb1)
  have hi := HI.out
  obtain ⟨g0, g1, g2, g3⟩ := HL1.out.2.1 i hi
  dsimp only [sM] at g0 g1 g2 g3
  clear x0 x1 x2 x3 fx0 fx1 fx2 fx3 r0 r1 r2 r3 f0 f1 f2 f3 HX HR HL HB t0 t1 t2 t3 k0 k1 k2 k3
  go_upto_region 4 with fail
  have A1 := below1 w1 (.cells #[.string ⟨(su i).toArray⟩, .string ⟨((fr i).getD []).toArray⟩, .bool (fr i).isSome, .bool (bd i)] 58)
  have HX4 := Lib.hid (HX1.out.below A1)
  have HR4 := Lib.hid (HR1.out.below A1)
  have HB4 := Lib.hid (HB1.out.trans (A1.mono HB1.out.size))
  have HL4 := Lib.hid (HL1.out.below A1)
  have HS4 := Lib.hid (Bx.new w1 (.string ⟨(su i).toArray⟩) (.string ⟨((fr i).getD []).toArray⟩) (.bool (fr i).isSome) (.bool (bd i)) 58)
  have HS0 : Hid (w.heap.size + 1 < w1.heap.size) := Lib.hid HR1.out.lt
  clear A1 HX1 HR1 HL1 HB1 p0 p1 p2 p3 g0 g1 g2 g3
  generalize w1.alloc (.cells #[.string ⟨(su i).toArray⟩, .string ⟨((fr i).getD []).toArray⟩, .bool (fr i).isSome, .bool (bd i)] 58) = w4 at HX4 HR4 HB4 HL4 HS4 ⊢
  generalize w1.heap.size = bs at HS0 HS4 ⊢
  obtain ⟨_, s0, s1, s2, s3, _, _, _, _⟩ := HS4.out
  have hcv : ∀ W, (convert 9 56 (.string ⟨(su i).toArray⟩)).run Tryz.prog W = .ok (.slice (some ⟨W.heap.size, 0, none⟩) 512 (grownCap W 512 0 5)) (Go.Lib.bytesWorld W 5 ⟨(su i).toArray⟩) := fun W => by
    have h := Go.Lib.run_convert_string_bytes (P := Tryz.prog) W 9 56 5 ⟨(su i).toArray⟩ Tryz.underlying9 Tryz.underlying56 Tryz.underlying5
    have e : ByteArray.size ⟨(su i).toArray⟩ = 512 := by show (su i).toArray.size = 512; rw [List.size_toArray, hl5]
    rw [e] at h
    exact h
  go_upto_region 6 with fail
  have A5 := bytes_below w4 ⟨(su i).toArray⟩
  have HX5 := Lib.hid (HX4.out.below A5)
  have HR5 := Lib.hid (HR4.out.below A5)
  have HB5 := Lib.hid (HB4.out.trans (A5.mono HB4.out.size))
  have HL5 := Lib.hid (HL4.out.below A5)
  have HS5 := Lib.hid (HS4.out.below A5)
  have HW5 := Lib.hid (bytes_row w4 ⟨(su i).toArray⟩)
  have HBB : Hid (bs < w4.heap.size) := Lib.hid HS4.out.lt
  clear A5 HX4 HR4 HB4 HL4 HS4 s0 s1 s2 s3 hcv
  generalize Go.Lib.bytesWorld w4 5 ⟨(su i).toArray⟩ = w5 at HX5 HR5 HB5 HL5 HS5 HW5 ⊢
  generalize grownCap w4 512 0 5 = cc
  generalize w4.heap.size = bb at HBB HW5 ⊢
  obtain ⟨l0, hl0⟩ : ∃ l0, l0 = su i := ⟨_, rfl⟩
  rw [← hl0] at hl5
  have HW5' : Hid (Row8 w5 bb 0 l0) := Lib.hid (by rw [hl0]; exact HW5.out)
  have HL0 := Lib.hid hl0
  clear hl0 HW5
  go_loopw [12] (fun ix wr => ∃ k : Nat, k ≤ 4 ∧ ix = .int .i64 (k : Int) ∧ Row8 wr bb 0 (garL l0 z x k) ∧ Ap (fun q => q = bb) w5 wr) (fun ix _ => 4 - (intOf ix).toNat)
  case atStart => exact ⟨0, by omega, rfl, HW5'.out, Ap.refl _⟩
  case round =>
    obtain ⟨k, hk, rfl, hrow, hap⟩ := hrel
    have HROW := Lib.hid hrow
    have HAP := Lib.hid hap
    clear hrow hap
    by_cases hlt : k < 4
    · obtain ⟨l, hl⟩ : ∃ l, l = garL l0 z x k := ⟨_, rfl⟩
      have hrow := HROW.out
      have hlen : l.length = 512 := by rw [hl, garL_len]; exact hl5
      rw [← hl] at hrow
      obtain ⟨y, hy⟩ : ∃ y, y = l.getD (z + k) 0 := ⟨_, rfl⟩
      have hcell := (hrow.2 (z + k) (by omega)).1
      rw [← hy, Nat.zero_add] at hcell
      have hfz := (hrow.2 (z + k) (by omega)).2
      rw [Nat.zero_add] at hfz
      have ho0 : (0 : Int) ≤ (z : Int) + (k : Int) := by omega
      have ho1 : (z : Int) + (k : Int) < 512 := by omega
      have HNEW : Hid (Row8 (wr.setCell ⟨bb, z + k, none⟩ (.int .u8 ((y ^^^ garB x k).toNat : Int))) bb 0 (garL l0 z x (k + 1))) := Lib.hid (by
        have h := hrow.set (z + k) (by omega) (y ^^^ garB x k)
        rw [Nat.zero_add] at h
        have e : l.set (z + k) (y ^^^ garB x k) = garL l0 z x (k + 1) := by rw [hy, hl]; rfl
        rw [e] at h
        exact h)
      have w1 : IntKind.i64.wrap ((z : Int) + (k : Int)) = (z : Int) + (k : Int) := IntWalk.i64_in _ (by omega)
      have w2 : IntKind.i64.wrap (8 * (k : Int)) = 8 * (k : Int) := IntWalk.i64_in _ (by omega)
      have w3 : ((z : Int) + (k : Int)).toNat = z + k := by omega
      have w4 : (8 * (k : Int)).toNat = 8 * k := by omega
      have w5 : (0 : Int) ≤ 8 * (k : Int) := by omega
      have w6 : IntKind.u8.wrap (x / 2 ^ (8 * k)) = ((garB x k).toNat : Int) := by
        rw [IntKind.wrap_u8']
        unfold garB
        rw [UInt8.toNat_ofNat']
        omega
      have w7 := u8_xorb y (garB x k)
      generalize (garB x k) = yy at w6 w7 HNEW
      clear hl hrow hlen hy
      go_wp2_with fail
      refine wp_region_still_tail 13 (by kernel_rfl) (by kernel_rfl) ?_
      simp only [List.take_succ_cons, List.take_zero, List.drop_succ_cons, List.drop_zero]
      iterate 13 still_step
      refine wpStill_nil ?_
      clear w1 w2 w3 w4 w5
      go_wp2
      go_roundw
      case rel => exact ⟨k + 1, by omega, by go_num, HNEW.out.drew, (HAP.out.setCell (p := ⟨bb, z + k, none⟩) (.inl rfl) _).drew⟩
      case measure => simp [intOf]; omega
    · obtain rfl : k = 4 := by omega
      have HS0' := HS0.out
      have HBB' := HBB.out
      have HX6 := Lib.hid (HX5.out.ap HAP.out (fun e => by omega))
      have HR6 := Lib.hid (HR5.out.ap HAP.out (fun e => by omega))
      have HL6 := Lib.hid (HL5.out.ap HAP.out (fun e => by have := HNE.out; omega))
      have HS6 := Lib.hid (HS5.out.ap HAP.out (fun e => by omega))
      have HB6 := Lib.hid (HB5.out.trans (HAP.out.below HB5.out.size (fun q e => by omega)))
      obtain ⟨S, hS⟩ : ∃ S : ByteArray, S = ⟨(garL l0 z x 4).toArray⟩ := ⟨_, rfl⟩
      have hcv2 : (convert 56 9 (.slice (some ⟨bb, 0, none⟩) 512 cc)).run Tryz.prog wr = .ok (.string S) wr := by
        rw [hS]; exact string_of_row 512 (by rw [garL_len]; exact hl5.symm) HROW.out 56 9 5 Tryz.underlying56 Tryz.underlying5 Tryz.underlying9
      have HSS : Hid (S = ⟨(garL (su i) z x 4).toArray⟩) := Lib.hid (by rw [hS, HL0.out])
      obtain ⟨_, s0, s1, s2, s3, v0, v1, v2, v3⟩ := HS6.out
      clear hS HX5 HR5 HB5 HL5 HS5 HW5' hk hlt
      go_upto_region 10 with fail
      have A7 := ap_put wr bs 0 (.string S)
      have HX7 := Lib.hid (HX6.out.ap A7 (fun e => by omega))
      have HR7 := Lib.hid (HR6.out.ap A7 (fun e => by omega))
      have HL7 := Lib.hid (HL6.out.ap A7 (fun e => by have := HNE.out; omega))
      have HS7 := Lib.hid (HS6.out.set0 (.string S))
      have HB7 := Lib.hid (HB6.out.trans (A7.below HB6.out.size (fun q e => by omega)))
      clear A7 HX6 HR6 HL6 HS6 HB6 s0 s1 s2 s3 v0 v1 v2 v3 hcv2
      generalize wr.setCell ⟨bs, 0, none⟩ (.string S) = w7 at HX7 HR7 HL7 HS7 HB7 ⊢
      have HK7 : Hid (RG w7 (.agg #[.slice (some ⟨b, 0, none⟩) n cap, .bool dn, .int .i64 lf, .int .i64 (ct : Int)]) n (sM ⟨n, su, fr, bd, ct, dn, lf⟩) dn lf ct) := Lib.hid ⟨b, cap, rfl, h1, h2, HL7.out⟩
      obtain ⟨_, p0, p1, p2, p3, _, _, _, _⟩ := HX7.out
      obtain ⟨_, s0, s1, s2, s3, _, _, _, _⟩ := HS7.out
      go_wp2_with (go_at_call 54; refine (refWith_any HK7.out n2 i HI.out ⟨S, ⟨((fr i).getD []).toArray⟩, (fr i).isSome, bd i⟩).mono ?_; rintro e w8 ⟨v8, rfl, hk8, hb8⟩; obtain ⟨g, c, rfl, hgc, hcm, hgb, hG8⟩ := hk8; have HGB := Lib.hid hgb; clear hgb; have HG8 := Lib.hid hG8; have HR8 := Lib.hid (HR7.out.below hb8); have HB8 := Lib.hid (HB7.out.trans (hb8.mono HB7.out.size)); obtain ⟨_, t0, t1, t2, t3, k0, k1, k2, k3⟩ := HR8.out; clear hb8 hG8)
      have hgne : g ≠ w.heap.size + 1 := fun e => by have h1 := HGB.out; have h2 := HR7.out.lt; omega
      rw [HSS.out] at HG8
      obtain ⟨y0, y1, y2, y3, hG, hBB⟩ := stored HR8.out HB8.out (by omega) HG8.out hgne (.slice (some ⟨g, 0, none⟩) n c) (.bool dn) (.int .i64 lf) (.int .i64 (ct : Int))
      refine bodyPost_ret (v := .tuple #[.agg #[.slice (some ⟨g, 0, none⟩) n c, .bool dn, .int .i64 lf, .int .i64 (ct : Int)], .int .i64 0]) (by simp [results, Tryz.results23, go_sem, y0, y1, y2, y3]) rfl ?_
      exact ⟨_, rfl, RG.congr ⟨g, c, rfl, hgc, hcm, hG⟩ HM.out, hBB⟩
end Go.Proofs.YtjhpheepimbbdaaGreatDoor
