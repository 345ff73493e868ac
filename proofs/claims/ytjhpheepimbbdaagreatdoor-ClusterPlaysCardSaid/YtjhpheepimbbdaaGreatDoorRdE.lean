/- The document's answers for devices: Flush. -/
import Derived.Test.YtjhpheepimbbdaaGreatDoorZRdD
import Derived.Deep.RegionHeld3
namespace Go.Proofs.YtjhpheepimbbdaaGreatDoor
open Go.RowKit Go.Maps

def lnd (s : SM) : SM := ⟨s.fr, ⟨#[]⟩, false, false⟩
/-- Behind j rounds of a flush. -/
def fS (f : Nat → SM) (j i : Nat) : SM := if i < j ∧ (f i).wt = true then lnd (f i) else f i
theorem fS_zero (f : Nat → SM) : fS f 0 = f := by funext i; unfold fS; rw [if_neg (by omega)]
theorem fS_self (f : Nat → SM) (j : Nat) : fS f j j = f j := by unfold fS; rw [if_neg (by omega)]
theorem fS_land (f : Nat → SM) (j : Nat) (h : (f j).wt = true) : upd (fS f j) j (lnd (f j)) = fS f (j + 1) := by
  funext i
  unfold upd fS
  by_cases e : i = j
  · subst e; rw [if_pos rfl, if_pos ⟨by omega, h⟩]
  · rw [if_neg e]
    by_cases g : i < j
    · simp [g, show i < j + 1 by omega]
    · simp [g, show ¬ i < j + 1 by omega]
theorem fS_keep (f : Nat → SM) (j : Nat) (h : (f j).wt = false) : fS f (j + 1) = fS f j := by
  funext i
  unfold fS
  by_cases e : i = j
  · subst e; simp [h]
  · by_cases g : i < j
    · simp [g, show i < j + 1 by omega]
    · simp [g, show ¬ i < j + 1 by omega]
theorem fS_end (M : DM) (i : Nat) (hi : i < M.n) : sM (landM M) i = fS (sM M) M.n i := by
  unfold fS sM landM lnd
  cases h : M.fresh i with
  | none => simp [h]
  | some l => simp [h, hi]
set_option maxRecDepth 10000 in
set_option maxHeartbeats 2000000 in
theorem refFlush_any {w : World} {v : Value} {M : DM} (k : RefAt w v M) (hN : Nrm M) :
    Calls Tryz.prog 25 #[v] w fun e w' => ∃ v', e = .returned (.tuple #[v', .int .i64 (flushE M)]) ∧ RefAt w' v' (flushM M) ∧ Below w.heap.size w w' := by
  obtain ⟨n, su, fr, bd, ct, dn, lf⟩ := M
  obtain ⟨b, cap, rfl, h1, h2, h3⟩ := k
  obtain ⟨n1, n2, l1, l2⟩ := hN
  dsimp only at n1 n2 l1 l2 h1 h3
  have hblt := h3.1
  obtain ⟨W0, hW, hX, hR, hB⟩ := start2 w (.slice (some ⟨b, 0, none⟩) n cap) (.bool dn) (.int .i64 lf) (.int .i64 (ct : Int)) 32
  have HL := Lib.hid (h3.below hB)
  have HB := Lib.hid hB
  have HX := Lib.hid hX
  have HR := Lib.hid hR
  have HNE : Hid (b < w.heap.size) := Lib.hid hblt
  clear h3 hB hblt
  obtain ⟨_, x0, x1, x2, x3, fx0, fx1, fx2, fx3⟩ := hX
  obtain ⟨_, r0, r1, r2, r3, f0, f1, f2, f3⟩ := hR
  by_cases e1 : dn = true
  · subst e1
    have q1 : flushE ⟨n, su, fr, bd, ct, true, lf⟩ = 12 := rfl
    have q2 : flushM ⟨n, su, fr, bd, ct, true, lf⟩ = ⟨n, su, fr, bd, ct, true, lf⟩ := rfl
    rw [q1, q2]
    go_enter Tryz.func25, Tryz.ntmps25
    go_upto_region 1 with fail
    rw [← hW]
    clear hW
    go_wp2_with fail
    obtain ⟨y0, y1, y2, y3, hG, hBB⟩ := stored HR.out HB.out (by omega) HL.out (by have := HNE.out; omega) (.slice (some ⟨b, 0, none⟩) n cap) (.bool true) (.int .i64 lf) (.int .i64 (ct : Int))
    refine bodyPost_ret (v := .tuple #[.agg #[.slice (some ⟨b, 0, none⟩) n cap, .bool true, .int .i64 lf, .int .i64 (ct : Int)], .int .i64 12]) (by simp [results, Tryz.results25, go_sem, y0, y1, y2, y3]) rfl ?_
    exact ⟨_, rfl, ⟨b, cap, rfl, h1, h2, hG⟩, hBB⟩
  have e1' : dn = false := by simpa using e1
  subst e1'
  clear e1
  by_cases e4 : lf = 0
  · subst e4
    have q1 : flushE ⟨n, su, fr, bd, ct, false, 0⟩ = 12 := rfl
    have q2 : flushM ⟨n, su, fr, bd, ct, false, 0⟩ = ⟨n, su, fr, bd, ct, true, 0⟩ := rfl
    rw [q1, q2]
    go_enter Tryz.func25, Tryz.ntmps25
    go_upto_region 1 with fail
    rw [← hW]
    clear hW
    go_upto_region 5 with fail
    have HX2 := Lib.hid (HX.out.set1 (.bool true))
    have A2 := ap_put W0 w.heap.size 1 (.bool true)
    have HR2 := Lib.hid (HR.out.ap A2 (fun e => by omega))
    have HL2 := Lib.hid (HL.out.ap A2 (fun e => by have := HNE.out; omega))
    have HB2 := Lib.hid (HB.out.trans (A2.below (B := w.heap.size) HB.out.size (fun k e => by omega)))
    clear A2 x0 x1 x2 x3 fx0 fx1 fx2 fx3 r0 r1 r2 r3 f0 f1 f2 f3
    generalize W0.setCell ⟨w.heap.size, 1, none⟩ (.bool true) = w2 at HX2 HR2 HL2 HB2 ⊢
    obtain ⟨_, p0, p1, p2, p3, _, _, _, _⟩ := HX2.out
    obtain ⟨_, t0, t1, t2, t3, k0, k1, k2, k3⟩ := HR2.out
    go_wp2_with fail
    obtain ⟨y0, y1, y2, y3, hG, hBB⟩ := stored HR2.out HB2.out (by omega) HL2.out (by have := HNE.out; omega) (.slice (some ⟨b, 0, none⟩) n cap) (.bool true) (.int .i64 0) (.int .i64 (ct : Int))
    refine bodyPost_ret (v := .tuple #[.agg #[.slice (some ⟨b, 0, none⟩) n cap, .bool true, .int .i64 0, .int .i64 (ct : Int)], .int .i64 12]) (by simp [results, Tryz.results25, go_sem, y0, y1, y2, y3]) rfl ?_
    exact ⟨_, rfl, ⟨b, cap, rfl, h1, h2, hG⟩, hBB⟩
  have hd4 : (lf == 0) = false := beq_eq_false_iff_ne.2 e4
  have q0 : burnE ⟨n, su, fr, bd, ct, false, lf⟩ = 0 := by unfold burnE; rw [if_neg e4]
  have q1 : flushE ⟨n, su, fr, bd, ct, false, lf⟩ = 0 := by unfold flushE; rw [if_neg (by simp), q0]
  have q2 : flushM ⟨n, su, fr, bd, ct, false, lf⟩ = landM (burnM ⟨n, su, fr, bd, ct, false, lf⟩) := by unfold flushM; rw [if_neg (by simp), if_pos q0]
  rw [q1, q2]
  obtain ⟨f, hf⟩ : ∃ f, f = sM ⟨n, su, fr, bd, ct, false, lf⟩ := ⟨_, rfl⟩
  rw [← hf] at HL
  have HN1 := Lib.hid n1
  clear q0 q1 q2
  by_cases e5 : 0 < lf
  · have q3 : burnM ⟨n, su, fr, bd, ct, false, lf⟩ = ⟨n, su, fr, bd, ct, false, lf - 1⟩ := by unfold burnM; rw [if_neg e4, if_pos e5]
    rw [q3]
    have HEND : Hid (∀ W V, RG W V n (fS f n) false (lf - 1) ct → RefAt W V (landM ⟨n, su, fr, bd, ct, false, lf - 1⟩)) := Lib.hid (fun W V h => RG.congr h (fun i hi => by rw [hf]; exact fS_end ⟨n, su, fr, bd, ct, false, lf - 1⟩ i hi))
    have d5 : decide (0 < lf) = true := decide_eq_true e5
    have hl1 : -9223372036854775808 ≤ lf - 1 ∧ lf - 1 ≤ 9223372036854775807 := by omega
    clear q3 e4 e5 hf
    go_enter Tryz.func25, Tryz.ntmps25
    go_upto_region 1 with fail
    rw [← hW]
    clear hW
    go_upto_region 8 with fail
    have HX2 := Lib.hid (HX.out.set2 (.int .i64 (lf - 1)))
    have A2 := ap_put W0 w.heap.size 2 (.int .i64 (lf - 1))
    have HR2 := Lib.hid (HR.out.ap A2 (fun e => by omega))
    have HL2 := Lib.hid (HL.out.ap A2 (fun e => by have := HNE.out; omega))
    have HB2 := Lib.hid (HB.out.trans (A2.below (B := w.heap.size) HB.out.size (fun k e => by omega)))
    clear A2 x0 x1 x2 x3 fx0 fx1 fx2 fx3 r0 r1 r2 r3 f0 f1 f2 f3 HX HR HL HB
    generalize W0.setCell ⟨w.heap.size, 2, none⟩ (.int .i64 (lf - 1)) = w2 at HX2 HR2 HL2 HB2 ⊢
    have HL3 := Lib.hid (HL2.out.below (below1 w2 (.cells #[] 58)))
    have q0 := (HX2.out.below (below1 w2 (.cells #[] 58))).c0
    go_upto_region 9 with (at_builtin; refine wpList_app_sects rfl (.tmp 21) (.tmp 23) rfl rfl rfl rfl HL3.out n2 HN1.out ?_; intro g c w3 hgc hcm hgs hR3 hb3; have HG := Lib.hid hR3; have HX3 := Lib.hid (HX2.out.below hb3); have HR3 := Lib.hid (HR2.out.below hb3); have HB3 := Lib.hid (HB2.out.trans (hb3.mono HB2.out.size)); have HGS := Lib.hid hgs; have q1 := HX3.out.c0; have q2 := HX3.out.f0; clear hR3 hb3 hgs)
    clear q0 q1 q2
    have HGB : Hid (w.heap.size + 1 < g) := Lib.hid (by have h1 := HGS.out; have h2 := HR2.out.lt; omega)
    have HX4 := Lib.hid (HX3.out.set0 (.slice (some ⟨g, 0, none⟩) n c))
    have A4 := ap_put w3 w.heap.size 0 (.slice (some ⟨g, 0, none⟩) n c)
    have HR4 := Lib.hid (HR3.out.ap A4 (fun e => by omega))
    have HG4 := Lib.hid (HG.out.ap A4 (fun e => by have h2 := HGB.out; omega))
    have HB4 := Lib.hid (HB3.out.trans (A4.below (B := w.heap.size) HB3.out.size (fun k e => by omega)))
    clear A4 HX3 HR3 HG HB3 HX2 HR2 HL2 HB2 HL3
    generalize w3.setCell ⟨w.heap.size, 0, none⟩ (.slice (some ⟨g, 0, none⟩) n c) = w4 at HX4 HR4 HG4 HB4 ⊢
    have xs0 := HX4.out.c0
    go_upto_region 10 with fail
    clear xs0
    go_loopw [29] (fun ix wr => ∃ j : Nat, j ≤ n ∧ ix = .int .i64 (j : Int) ∧ Bx wr w.heap.size (.slice (some ⟨g, 0, none⟩) n c) (.bool false) (.int .i64 (lf - 1)) (.int .i64 (ct : Int)) ∧ Bx wr (w.heap.size + 1) (.slice none 0 0) (.bool false) (.int .i64 0) (.int .i64 0) ∧ RowS wr g n (fS f j) ∧ Below w.heap.size w wr) (fun ix _ => n - (intOf ix).toNat)
    case atStart => exact ⟨0, Nat.zero_le _, rfl, HX4.out, HR4.out, by rw [fS_zero]; exact HG4.out, HB4.out⟩
    case round =>
      obtain ⟨j, hj, rfl, hx, hr, hg, hb⟩ := hrel
      have HX5 := Lib.hid hx
      have HR5 := Lib.hid hr
      have HG5 := Lib.hid hg
      have HB5 := Lib.hid hb
      clear hx hr hg hb HX4 HR4 HG4 HB4
      by_cases hlt : j < n
      · obtain ⟨g0, g1, g2, g3⟩ := HG5.out.2.1 j hlt
        rw [fS_self] at g0 g1 g2 g3
        cases hw : (f j).wt with
        | false =>
          rw [hw] at g2
          have HF := Lib.hid (fS_keep f j hw)
          have HA := Lib.hid (below1 wr (.cells #[.string (f j).su, .string (f j).fr, .bool false, .bool (f j).bd] 58))
          clear hw
          go_wp2_with fail
          go_roundw
          case rel => exact ⟨j + 1, by omega, by go_num, HX5.out.below HA.out, HR5.out.below HA.out, by rw [HF.out]; exact HG5.out.below HA.out, HB5.out.trans (HA.out.mono HB5.out.size)⟩
          case measure => simp [intOf]; omega
        | true =>
          rw [hw] at g2
          have HF := Lib.hid (fS_land f j hw)
          have hLd : ∀ W, Calls Tryz.prog 56 #[.agg #[.string (f j).su, .string (f j).fr, .bool true, .bool (f j).bd]] W fun e w' => e = .returned (.agg #[.string (f j).fr, .string ⟨#[]⟩, .bool false, .bool false]) ∧ Below W.heap.size W w' := fun W => refLanded_any ⟨(f j).su, (f j).fr, true, (f j).bd⟩
          go_upto_region 13 with fail
          have HA := Lib.hid (below1 wr (.cells #[.string (f j).su, .string (f j).fr, .bool true, .bool (f j).bd] 58))
          have HX6 := Lib.hid (HX5.out.below HA.out)
          have HR6 := Lib.hid (HR5.out.below HA.out)
          have HG6 := Lib.hid (HG5.out.below HA.out)
          have HB6 := Lib.hid (HB5.out.trans (HA.out.mono HB5.out.size))
          have HS6 := Lib.hid (Bx.new wr (.string (f j).su) (.string (f j).fr) (.bool true) (.bool (f j).bd) 58)
          have HN6 : Hid (wr.heap.size ≠ g) := Lib.hid (fun e => by have := HG5.out.1; omega)
          clear hw HA HX5 HR5 HG5 HB5 g0 g1 g2 g3
          generalize wr.alloc (.cells #[.string (f j).su, .string (f j).fr, .bool true, .bool (f j).bd] 58) = w6 at HX6 HR6 HG6 HB6 HS6 ⊢
          generalize wr.heap.size = bs at HS6 HN6 ⊢
          have HL0 := Lib.hid hlt
          have HT6 : Hid (w6.cell? ⟨w.heap.size, 0, none⟩ = some (.slice (some ⟨g, 0, none⟩) n c) ∧ w6.cell? ⟨bs, 0, none⟩ = some (.string (f j).su) ∧ w6.cell? ⟨bs, 1, none⟩ = some (.string (f j).fr) ∧ w6.cell? ⟨bs, 2, none⟩ = some (.bool true) ∧ w6.cell? ⟨bs, 3, none⟩ = some (.bool (f j).bd)) := Lib.hid ⟨HX6.out.c0, HS6.out.c0, HS6.out.c1, HS6.out.c2, HS6.out.c3⟩
          go_region_held3 (fun w' => w'.cell? ⟨w.heap.size, 0, none⟩ = some (.slice (some ⟨g, 0, none⟩) n c) ∧ w'.cell? ⟨bs, 0, none⟩ = some (.string (f j).su) ∧ w'.cell? ⟨bs, 1, none⟩ = some (.string (f j).fr) ∧ w'.cell? ⟨bs, 2, none⟩ = some (.bool true) ∧ w'.cell? ⟨bs, 3, none⟩ = some (.bool (f j).bd)) (first | exact HT6.out | exact HT7.out | exact HT8.out)
            (first
              | (go_at_call 56; refine (hLd _).mono ?_; rintro e w7 ⟨rfl, hb7⟩; have HX7 := Lib.hid (HX6.out.drew.below hb7); have HR7 := Lib.hid (HR6.out.drew.below hb7); have HG7 := Lib.hid (HG6.out.drew.below hb7); have HB7 := Lib.hid (HB6.out.drew.trans (hb7.mono HB6.out.size)); have HS7 := Lib.hid (HS6.out.drew.below hb7)
                 have HX8 := Lib.hid (HX7.out.ap (ap_putS w7 g (j * 4) (lnd (f j))) (fun e => by have := HGB.out; omega)); have HS8 := Lib.hid (HS7.out.ap (ap_putS w7 g (j * 4) (lnd (f j))) (fun e => HN6.out e))
                 have HT7 : Hid (w7.cell? ⟨w.heap.size, 0, none⟩ = some (.slice (some ⟨g, 0, none⟩) n c) ∧ w7.cell? ⟨bs, 0, none⟩ = some (.string (f j).su) ∧ w7.cell? ⟨bs, 1, none⟩ = some (.string (f j).fr) ∧ w7.cell? ⟨bs, 2, none⟩ = some (.bool true) ∧ w7.cell? ⟨bs, 3, none⟩ = some (.bool (f j).bd)) := Lib.hid ⟨HX7.out.c0, HS7.out.c0, HS7.out.c1, HS7.out.c2, HS7.out.c3⟩
                 have HT8 : Hid ((putS w7 g (j * 4) (lnd (f j))).cell? ⟨w.heap.size, 0, none⟩ = some (.slice (some ⟨g, 0, none⟩) n c) ∧ (putS w7 g (j * 4) (lnd (f j))).cell? ⟨bs, 0, none⟩ = some (.string (f j).su) ∧ (putS w7 g (j * 4) (lnd (f j))).cell? ⟨bs, 1, none⟩ = some (.string (f j).fr) ∧ (putS w7 g (j * 4) (lnd (f j))).cell? ⟨bs, 2, none⟩ = some (.bool true) ∧ (putS w7 g (j * 4) (lnd (f j))).cell? ⟨bs, 3, none⟩ = some (.bool (f j).bd)) := Lib.hid ⟨HX8.out.c0, HS8.out.c0, HS8.out.c1, HS8.out.c2, HS8.out.c3⟩
                 obtain ⟨g0, g1, g2, g3⟩ := HG7.out.2.1 j HL0.out; have z0 := HG7.out.2.2 (j * 4) (by have := HL0.out; omega); have z1 := HG7.out.2.2 (j * 4 + 1) (by have := HL0.out; omega); have z2 := HG7.out.2.2 (j * 4 + 2) (by have := HL0.out; omega); have z3 := HG7.out.2.2 (j * 4 + 3) (by have := HL0.out; omega); clear hb7))
          go_wp2_with fail
          go_roundw
          case rel => exact ⟨j + 1, by omega, by go_num, HX8.out, HR7.out.ap (ap_putS w7 g (j * 4) (lnd (f j))) (fun e => by have := HGB.out; omega), by rw [← HF.out]; exact HG7.out.put j HL0.out (lnd (f j)), HB7.out.trans ((ap_putS w7 g (j * 4) (lnd (f j))).below HB7.out.size (fun k e => by have := HGB.out; omega))⟩
          case measure => simp [intOf]; omega
      · obtain rfl : j = n := by omega
        obtain ⟨_, p0, p1, p2, p3, _, _, _, _⟩ := HX5.out
        obtain ⟨_, t0, t1, t2, t3, k0, k1, k2, k3⟩ := HR5.out
        clear hj hlt
        go_wp2_with fail
        have hgne : g ≠ w.heap.size + 1 := fun e => by have := HGB.out; omega
        obtain ⟨y0, y1, y2, y3, hG, hBB⟩ := stored HR5.out HB5.out (by omega) HG5.out hgne (.slice (some ⟨g, 0, none⟩) j c) (.bool false) (.int .i64 (lf - 1)) (.int .i64 (ct : Int))
        refine bodyPost_ret (v := .tuple #[.agg #[.slice (some ⟨g, 0, none⟩) j c, .bool false, .int .i64 (lf - 1), .int .i64 (ct : Int)], .int .i64 0]) (by simp [results, Tryz.results25, go_sem, y0, y1, y2, y3]) rfl ?_
        exact ⟨_, rfl, HEND.out _ _ ⟨g, c, rfl, hgc, hcm, hG⟩, hBB⟩
  · have q3 : burnM ⟨n, su, fr, bd, ct, false, lf⟩ = ⟨n, su, fr, bd, ct, false, lf⟩ := by unfold burnM; rw [if_neg e4, if_neg e5]
    rw [q3]
    have HEND : Hid (∀ W V, RG W V n (fS f n) false lf ct → RefAt W V (landM ⟨n, su, fr, bd, ct, false, lf⟩)) := Lib.hid (fun W V h => RG.congr h (fun i hi => by rw [hf]; exact fS_end ⟨n, su, fr, bd, ct, false, lf⟩ i hi))
    have d5 : decide (0 < lf) = false := decide_eq_false e5
    clear q3 e4 e5 hf
    go_enter Tryz.func25, Tryz.ntmps25
    go_upto_region 1 with fail
    rw [← hW]
    clear hW
    go_upto_region 8 with fail
    have HX2 := HX
    have HR2 := HR
    have HL2 := HL
    have HB2 := HB
    clear x0 x1 x2 x3 fx0 fx1 fx2 fx3 r0 r1 r2 r3 f0 f1 f2 f3 HX HR HL HB
    generalize W0 = w2 at HX2 HR2 HL2 HB2 ⊢
    have HL3 := Lib.hid (HL2.out.below (below1 w2 (.cells #[] 58)))
    have q0 := (HX2.out.below (below1 w2 (.cells #[] 58))).c0
    go_upto_region 9 with (at_builtin; refine wpList_app_sects rfl (.tmp 21) (.tmp 23) rfl rfl rfl rfl HL3.out n2 HN1.out ?_; intro g c w3 hgc hcm hgs hR3 hb3; have HG := Lib.hid hR3; have HX3 := Lib.hid (HX2.out.below hb3); have HR3 := Lib.hid (HR2.out.below hb3); have HB3 := Lib.hid (HB2.out.trans (hb3.mono HB2.out.size)); have HGS := Lib.hid hgs; have q1 := HX3.out.c0; have q2 := HX3.out.f0; clear hR3 hb3 hgs)
    clear q0 q1 q2
    have HGB : Hid (w.heap.size + 1 < g) := Lib.hid (by have h1 := HGS.out; have h2 := HR2.out.lt; omega)
    have HX4 := Lib.hid (HX3.out.set0 (.slice (some ⟨g, 0, none⟩) n c))
    have A4 := ap_put w3 w.heap.size 0 (.slice (some ⟨g, 0, none⟩) n c)
    have HR4 := Lib.hid (HR3.out.ap A4 (fun e => by omega))
    have HG4 := Lib.hid (HG.out.ap A4 (fun e => by have h2 := HGB.out; omega))
    have HB4 := Lib.hid (HB3.out.trans (A4.below (B := w.heap.size) HB3.out.size (fun k e => by omega)))
    clear A4 HX3 HR3 HG HB3 HX2 HR2 HL2 HB2 HL3
    generalize w3.setCell ⟨w.heap.size, 0, none⟩ (.slice (some ⟨g, 0, none⟩) n c) = w4 at HX4 HR4 HG4 HB4 ⊢
    have xs0 := HX4.out.c0
    go_upto_region 10 with fail
    clear xs0
    go_loopw [29] (fun ix wr => ∃ j : Nat, j ≤ n ∧ ix = .int .i64 (j : Int) ∧ Bx wr w.heap.size (.slice (some ⟨g, 0, none⟩) n c) (.bool false) (.int .i64 (lf)) (.int .i64 (ct : Int)) ∧ Bx wr (w.heap.size + 1) (.slice none 0 0) (.bool false) (.int .i64 0) (.int .i64 0) ∧ RowS wr g n (fS f j) ∧ Below w.heap.size w wr) (fun ix _ => n - (intOf ix).toNat)
    case atStart => exact ⟨0, Nat.zero_le _, rfl, HX4.out, HR4.out, by rw [fS_zero]; exact HG4.out, HB4.out⟩
    case round =>
      obtain ⟨j, hj, rfl, hx, hr, hg, hb⟩ := hrel
      have HX5 := Lib.hid hx
      have HR5 := Lib.hid hr
      have HG5 := Lib.hid hg
      have HB5 := Lib.hid hb
      clear hx hr hg hb HX4 HR4 HG4 HB4
      by_cases hlt : j < n
      · obtain ⟨g0, g1, g2, g3⟩ := HG5.out.2.1 j hlt
        rw [fS_self] at g0 g1 g2 g3
        cases hw : (f j).wt with
        | false =>
          rw [hw] at g2
          have HF := Lib.hid (fS_keep f j hw)
          have HA := Lib.hid (below1 wr (.cells #[.string (f j).su, .string (f j).fr, .bool false, .bool (f j).bd] 58))
          clear hw
          go_wp2_with fail
          go_roundw
          case rel => exact ⟨j + 1, by omega, by go_num, HX5.out.below HA.out, HR5.out.below HA.out, by rw [HF.out]; exact HG5.out.below HA.out, HB5.out.trans (HA.out.mono HB5.out.size)⟩
          case measure => simp [intOf]; omega
        | true =>
          rw [hw] at g2
          have HF := Lib.hid (fS_land f j hw)
          have hLd : ∀ W, Calls Tryz.prog 56 #[.agg #[.string (f j).su, .string (f j).fr, .bool true, .bool (f j).bd]] W fun e w' => e = .returned (.agg #[.string (f j).fr, .string ⟨#[]⟩, .bool false, .bool false]) ∧ Below W.heap.size W w' := fun W => refLanded_any ⟨(f j).su, (f j).fr, true, (f j).bd⟩
          go_upto_region 13 with fail
          have HA := Lib.hid (below1 wr (.cells #[.string (f j).su, .string (f j).fr, .bool true, .bool (f j).bd] 58))
          have HX6 := Lib.hid (HX5.out.below HA.out)
          have HR6 := Lib.hid (HR5.out.below HA.out)
          have HG6 := Lib.hid (HG5.out.below HA.out)
          have HB6 := Lib.hid (HB5.out.trans (HA.out.mono HB5.out.size))
          have HS6 := Lib.hid (Bx.new wr (.string (f j).su) (.string (f j).fr) (.bool true) (.bool (f j).bd) 58)
          have HN6 : Hid (wr.heap.size ≠ g) := Lib.hid (fun e => by have := HG5.out.1; omega)
          clear hw HA HX5 HR5 HG5 HB5 g0 g1 g2 g3
          generalize wr.alloc (.cells #[.string (f j).su, .string (f j).fr, .bool true, .bool (f j).bd] 58) = w6 at HX6 HR6 HG6 HB6 HS6 ⊢
          generalize wr.heap.size = bs at HS6 HN6 ⊢
          have HL0 := Lib.hid hlt
          have HT6 : Hid (w6.cell? ⟨w.heap.size, 0, none⟩ = some (.slice (some ⟨g, 0, none⟩) n c) ∧ w6.cell? ⟨bs, 0, none⟩ = some (.string (f j).su) ∧ w6.cell? ⟨bs, 1, none⟩ = some (.string (f j).fr) ∧ w6.cell? ⟨bs, 2, none⟩ = some (.bool true) ∧ w6.cell? ⟨bs, 3, none⟩ = some (.bool (f j).bd)) := Lib.hid ⟨HX6.out.c0, HS6.out.c0, HS6.out.c1, HS6.out.c2, HS6.out.c3⟩
          go_region_held3 (fun w' => w'.cell? ⟨w.heap.size, 0, none⟩ = some (.slice (some ⟨g, 0, none⟩) n c) ∧ w'.cell? ⟨bs, 0, none⟩ = some (.string (f j).su) ∧ w'.cell? ⟨bs, 1, none⟩ = some (.string (f j).fr) ∧ w'.cell? ⟨bs, 2, none⟩ = some (.bool true) ∧ w'.cell? ⟨bs, 3, none⟩ = some (.bool (f j).bd)) (first | exact HT6.out | exact HT7.out | exact HT8.out)
            (first
              | (go_at_call 56; refine (hLd _).mono ?_; rintro e w7 ⟨rfl, hb7⟩; have HX7 := Lib.hid (HX6.out.drew.below hb7); have HR7 := Lib.hid (HR6.out.drew.below hb7); have HG7 := Lib.hid (HG6.out.drew.below hb7); have HB7 := Lib.hid (HB6.out.drew.trans (hb7.mono HB6.out.size)); have HS7 := Lib.hid (HS6.out.drew.below hb7)
                 have HX8 := Lib.hid (HX7.out.ap (ap_putS w7 g (j * 4) (lnd (f j))) (fun e => by have := HGB.out; omega)); have HS8 := Lib.hid (HS7.out.ap (ap_putS w7 g (j * 4) (lnd (f j))) (fun e => HN6.out e))
                 have HT7 : Hid (w7.cell? ⟨w.heap.size, 0, none⟩ = some (.slice (some ⟨g, 0, none⟩) n c) ∧ w7.cell? ⟨bs, 0, none⟩ = some (.string (f j).su) ∧ w7.cell? ⟨bs, 1, none⟩ = some (.string (f j).fr) ∧ w7.cell? ⟨bs, 2, none⟩ = some (.bool true) ∧ w7.cell? ⟨bs, 3, none⟩ = some (.bool (f j).bd)) := Lib.hid ⟨HX7.out.c0, HS7.out.c0, HS7.out.c1, HS7.out.c2, HS7.out.c3⟩
                 have HT8 : Hid ((putS w7 g (j * 4) (lnd (f j))).cell? ⟨w.heap.size, 0, none⟩ = some (.slice (some ⟨g, 0, none⟩) n c) ∧ (putS w7 g (j * 4) (lnd (f j))).cell? ⟨bs, 0, none⟩ = some (.string (f j).su) ∧ (putS w7 g (j * 4) (lnd (f j))).cell? ⟨bs, 1, none⟩ = some (.string (f j).fr) ∧ (putS w7 g (j * 4) (lnd (f j))).cell? ⟨bs, 2, none⟩ = some (.bool true) ∧ (putS w7 g (j * 4) (lnd (f j))).cell? ⟨bs, 3, none⟩ = some (.bool (f j).bd)) := Lib.hid ⟨HX8.out.c0, HS8.out.c0, HS8.out.c1, HS8.out.c2, HS8.out.c3⟩
                 obtain ⟨g0, g1, g2, g3⟩ := HG7.out.2.1 j HL0.out; have z0 := HG7.out.2.2 (j * 4) (by have := HL0.out; omega); have z1 := HG7.out.2.2 (j * 4 + 1) (by have := HL0.out; omega); have z2 := HG7.out.2.2 (j * 4 + 2) (by have := HL0.out; omega); have z3 := HG7.out.2.2 (j * 4 + 3) (by have := HL0.out; omega); clear hb7))
          go_wp2_with fail
          go_roundw
          case rel => exact ⟨j + 1, by omega, by go_num, HX8.out, HR7.out.ap (ap_putS w7 g (j * 4) (lnd (f j))) (fun e => by have := HGB.out; omega), by rw [← HF.out]; exact HG7.out.put j HL0.out (lnd (f j)), HB7.out.trans ((ap_putS w7 g (j * 4) (lnd (f j))).below HB7.out.size (fun k e => by have := HGB.out; omega))⟩
          case measure => simp [intOf]; omega
      · obtain rfl : j = n := by omega
        obtain ⟨_, p0, p1, p2, p3, _, _, _, _⟩ := HX5.out
        obtain ⟨_, t0, t1, t2, t3, k0, k1, k2, k3⟩ := HR5.out
        clear hj hlt
        go_wp2_with fail
        have hgne : g ≠ w.heap.size + 1 := fun e => by have := HGB.out; omega
        obtain ⟨y0, y1, y2, y3, hG, hBB⟩ := stored HR5.out HB5.out (by omega) HG5.out hgne (.slice (some ⟨g, 0, none⟩) j c) (.bool false) (.int .i64 (lf)) (.int .i64 (ct : Int))
        refine bodyPost_ret (v := .tuple #[.agg #[.slice (some ⟨g, 0, none⟩) j c, .bool false, .int .i64 (lf), .int .i64 (ct : Int)], .int .i64 0]) (by simp [results, Tryz.results25, go_sem, y0, y1, y2, y3]) rfl ?_
        exact ⟨_, rfl, HEND.out _ _ ⟨g, c, rfl, hgc, hcm, hG⟩, hBB⟩
end Go.Proofs.YtjhpheepimbbdaaGreatDoor
