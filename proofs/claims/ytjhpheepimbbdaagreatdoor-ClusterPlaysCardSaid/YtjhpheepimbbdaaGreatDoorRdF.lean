/- The document's answers for devices: Crash. -/
import Derived.Test.YtjhpheepimbbdaaGreatDoorRdE
namespace Go.Proofs.YtjhpheepimbbdaaGreatDoor
open Go.RowKit Go.Maps

def ktB (p : Nat → Bool) (Q : List Bool) (i : Nat) : Bool := decide ((fl p i).length < Q.length) && Q.getD (fl p i).length false
def gone (s : SM) : SM := ⟨s.su, ⟨#[]⟩, false, s.bd⟩
/-- Behind j rounds of a crash. -/
def cS (f : Nat → SM) (p : Nat → Bool) (Q : List Bool) (j i : Nat) : SM := if i < j ∧ p i = true then (if ktB p Q i = true then lnd (f i) else gone (f i)) else f i
theorem cS_zero (f : Nat → SM) (p : Nat → Bool) (Q : List Bool) : cS f p Q 0 = f := by funext i; unfold cS; rw [if_neg (by omega)]
theorem cS_self (f : Nat → SM) (p : Nat → Bool) (Q : List Bool) (j : Nat) : cS f p Q j j = f j := by unfold cS; rw [if_neg (by omega)]
theorem cS_step (f : Nat → SM) (p : Nat → Bool) (Q : List Bool) (j : Nat) (h : p j = true) : upd (cS f p Q j) j (if ktB p Q j = true then lnd (f j) else gone (f j)) = cS f p Q (j + 1) := by
  funext i
  unfold upd cS
  by_cases e : i = j
  · subst e; simp [h]
  · rw [if_neg e]
    by_cases g : i < j
    · simp [g, show i < j + 1 by omega]
    · simp [g, show ¬ i < j + 1 by omega]
theorem cS_keep (f : Nat → SM) (p : Nat → Bool) (Q : List Bool) (j : Nat) (h : p j = false) : cS f p Q (j + 1) = cS f p Q j := by
  funext i
  unfold cS
  by_cases e : i = j
  · subst e; simp [h]
  · by_cases g : i < j
    · simp [g, show i < j + 1 by omega]
    · simp [g, show ¬ i < j + 1 by omega]
theorem cS_end (M : DM) (Q : List Bool) (i : Nat) (hi : i < M.n) : sM (crashM M Q) i = cS (sM M) (fun i => (sM M i).wt) Q M.n i := by
  have hw : waitL M = fl (fun i => (sM M i).wt) M.n := rfl
  have e : sM (crashM M Q) i = ⟨⟨(if keptB (waitL M) Q i = true then (M.fresh i).getD [] else M.sure i).toArray⟩, ⟨#[]⟩, false, M.bad i && !keptB (waitL M) Q i⟩ := rfl
  rw [e, hw]
  unfold cS
  cases h : M.fresh i with
  | none =>
    have hp : ¬ (sM M i).wt = true := by unfold sM; simp [h]
    rw [kept_none (fun hm => hp (fl_lt hm).2), if_neg (show ¬ (i < M.n ∧ (sM M i).wt = true) from fun hc => hp hc.2)]
    unfold sM
    simp [h]
  | some l =>
    have hp : (sM M i).wt = true := by unfold sM; simp [h]
    rw [kept_fl (p := fun i => (sM M i).wt) hp M.n hi, if_pos (show i < M.n ∧ (sM M i).wt = true from ⟨hi, hp⟩)]
    unfold ktB
    generalize (decide ((fl (fun i => (sM M i).wt) i).length < Q.length) && Q.getD (fl (fun i => (sM M i).wt) i).length false) = z
    cases z <;> simp [lnd, gone, sM, h]
set_option maxRecDepth 10000 in
set_option maxHeartbeats 2000000 in
theorem refCrash_any {w : World} {v vk : Value} {M : DM} {Q : List Bool} (k : RefAt w v M) (hN : Nrm M) (hQ : BoolsS w vk Q) :
    Calls Tryz.prog 29 #[v, vk] w fun e w' => ∃ v', e = .returned v' ∧ RefAt w' v' (crashM M Q) ∧ Below w.heap.size w w' := by
  obtain ⟨n, su, fr, bd, ct, dn, lf⟩ := M
  obtain ⟨b, cap, rfl, h1, h2, h3⟩ := k
  obtain ⟨n1, n2, l1, l2⟩ := hN
  dsimp only at n1 n2 l1 l2 h1 h3
  have hblt := h3.1
  obtain ⟨W0, hW, hX, hR, hB⟩ := start2 w (.slice (some ⟨b, 0, none⟩) n cap) (.bool dn) (.int .i64 lf) (.int .i64 (ct : Int)) 32
  have HL := Lib.hid (h3.below hB)
  have HB := Lib.hid hB
  have HX := Lib.hid hX
  have HR := Lib.hid hR
  have HNE : Hid (b < w.heap.size) := Lib.hid hblt
  clear h3 hB hblt
  obtain ⟨_, x0, x1, x2, x3, fx0, fx1, fx2, fx3⟩ := hX
  obtain ⟨_, r0, r1, r2, r3, f0, f1, f2, f3⟩ := hR
  obtain ⟨AQ, cQ, rfl, hlQ, hmQ, hq3⟩ := hQ
  have HQ3 := Lib.hid hq3
  clear hq3
  obtain ⟨f, hf⟩ : ∃ f, f = sM ⟨n, su, fr, bd, ct, dn, lf⟩ := ⟨_, rfl⟩
  obtain ⟨p, hp⟩ : ∃ p : Nat → Bool, p = fun i => (f i).wt := ⟨_, rfl⟩
  have HEND : Hid (∀ W V, RG W V n (cS f p Q n) false (-1) ct → RefAt W V (crashM ⟨n, su, fr, bd, ct, dn, lf⟩ Q)) := Lib.hid (fun W V h => RG.congr h (fun i hi => by rw [hp, hf]; exact cS_end ⟨n, su, fr, bd, ct, dn, lf⟩ Q i hi))
  rw [← hf] at HL
  have HP := Lib.hid hp
  have HN1 := Lib.hid n1
  clear hf hp
  go_enter Tryz.func29, Tryz.ntmps29
  go_upto_region 1 with fail
  rw [← hW]
  clear hW
  have HL3 := Lib.hid (HL.out.below (below1 W0 (.cells #[] 58)))
  have q0 := (HX.out.below (below1 W0 (.cells #[] 58))).c0
  clear x0 x1 x2 x3 fx0 fx1 fx2 fx3 r0 r1 r2 r3 f0 f1 f2 f3
  go_upto_region 2 with (at_builtin; refine wpList_app_sects rfl (.tmp 8) (.tmp 10) rfl rfl rfl rfl HL3.out n2 HN1.out ?_; intro g c w3 hgc hcm hgs hR3 hb3; have HG := Lib.hid hR3; have HX3 := Lib.hid (HX.out.below hb3); have HR3 := Lib.hid (HR.out.below hb3); have HB3 := Lib.hid (HB.out.trans (hb3.mono HB.out.size)); have HGS := Lib.hid hgs; have q1 := HX3.out.c0; have q2 := HX3.out.f0; clear hR3 hb3 hgs)
  clear q0 q1 q2
  have HGB : Hid (w.heap.size + 1 < g) := Lib.hid (by have h1 := HGS.out; have h2 := HR.out.lt; omega)
  have HX4 := Lib.hid (HX3.out.set0 (.slice (some ⟨g, 0, none⟩) n c))
  have A4 := ap_put w3 w.heap.size 0 (.slice (some ⟨g, 0, none⟩) n c)
  have HR4 := Lib.hid (HR3.out.ap A4 (fun e => by omega))
  have HG4 := Lib.hid (HG.out.ap A4 (fun e => by have h2 := HGB.out; omega))
  have HB4 := Lib.hid (HB3.out.trans (A4.below (B := w.heap.size) HB3.out.size (fun k e => by omega)))
  clear A4 HX3 HR3 HG HB3 HX HR HL HB HL3
  generalize w3.setCell ⟨w.heap.size, 0, none⟩ (.slice (some ⟨g, 0, none⟩) n c) = w4 at HX4 HR4 HG4 HB4 ⊢
  have xs0 := HX4.out.c0
  go_upto_region 4 with fail
  clear xs0
  go_loopw [5, 16] (fun kx ix wr => ∃ j : Nat, j ≤ n ∧ ix = .int .i64 (j : Int) ∧ kx = .int .i64 ((fl p j).length : Int) ∧ Bx wr w.heap.size (.slice (some ⟨g, 0, none⟩) n c) (.bool dn) (.int .i64 lf) (.int .i64 (ct : Int)) ∧ Bx wr (w.heap.size + 1) (.slice none 0 0) (.bool false) (.int .i64 0) (.int .i64 0) ∧ RowS wr g n (cS f p Q j) ∧ Below w.heap.size w wr) (fun _ ix _ => n - (intOf ix).toNat)
  case atStart => exact ⟨0, Nat.zero_le _, rfl, rfl, HX4.out, HR4.out, by rw [cS_zero]; exact HG4.out, HB4.out⟩
  case round =>
    obtain ⟨j, hj, rfl, rfl, hx, hr, hg, hb⟩ := hrel
    have HX5 := Lib.hid hx
    have HR5 := Lib.hid hr
    have HG5 := Lib.hid hg
    have HB5 := Lib.hid hb
    clear hx hr hg hb HX4 HR4 HG4 HB4
    by_cases hlt : j < n
    · obtain ⟨g0, g1, g2, g3⟩ := HG5.out.2.1 j hlt
      rw [cS_self] at g0 g1 g2 g3
      have hpe : p j = (f j).wt := by rw [HP.out]
      cases hw : (f j).wt with
      | false =>
        rw [hw] at g2 hpe
        have HF := Lib.hid (cS_keep f p Q j hpe)
        have HK : Hid (fl p (j + 1) = fl p j) := Lib.hid (by rw [fl_succ, hpe]; simp)
        have HA := Lib.hid (below1 wr (.cells #[.string (f j).su, .string (f j).fr, .bool false, .bool (f j).bd] 58))
        clear hw hpe
        go_wp2_with fail
        go_roundw
        case rel => exact ⟨j + 1, by omega, by go_num, by rw [HK.out], HX5.out.below HA.out, HR5.out.below HA.out, by rw [HF.out]; exact HG5.out.below HA.out, HB5.out.trans (HA.out.mono HB5.out.size)⟩
        case measure => simp [intOf]; omega
      | true =>
        rw [hw] at g2 hpe
        have HF := Lib.hid (cS_step f p Q j hpe)
        have HK : Hid ((fl p (j + 1)).length = (fl p j).length + 1) := Lib.hid (by rw [fl_succ, hpe]; simp)
        have HKN : Hid ((fl p j).length ≤ 256) := Lib.hid (by have := fl_len p j; omega)
        unfold ktB at HF
        generalize (fl p j).length = kk at HF HK HKN ⊢
        clear hpe
        go_upto_region 7 with fail
        have HA := Lib.hid (below1 wr (.cells #[.string (f j).su, .string (f j).fr, .bool true, .bool (f j).bd] 58))
        have HX6 := Lib.hid (HX5.out.below HA.out)
        have HR6 := Lib.hid (HR5.out.below HA.out)
        have HG6 := Lib.hid (HG5.out.below HA.out)
        have HB6 := Lib.hid (HB5.out.trans (HA.out.mono HB5.out.size))
        have HS6 := Lib.hid (Bx.new wr (.string (f j).su) (.string (f j).fr) (.bool true) (.bool (f j).bd) 58)
        have HN6 : Hid (wr.heap.size ≠ g) := Lib.hid (fun e => by have := HG5.out.1; omega)
        clear hw HA HX5 HR5 HG5 HB5 g0 g1 g2 g3
        generalize wr.alloc (.cells #[.string (f j).su, .string (f j).fr, .bool true, .bool (f j).bd] 58) = w6 at HX6 HR6 HG6 HB6 HS6 ⊢
        generalize wr.heap.size = bs at HS6 HN6 ⊢
        have HL0 := Lib.hid hlt
        have xs0 := HX6.out.c0
        obtain ⟨_, s0, s1, s2, s3, _, _, _, _⟩ := HS6.out
        obtain ⟨g0, g1, g2, g3⟩ := HG6.out.2.1 j hlt
        have z0 := HG6.out.2.2 (j * 4) (by omega)
        have z1 := HG6.out.2.2 (j * 4 + 1) (by omega)
        have z2 := HG6.out.2.2 (j * 4 + 2) (by omega)
        have z3 := HG6.out.2.2 (j * 4 + 3) (by omega)
        go_upto_region 8 with fail
        have A7 := ap_putS w6 g (j * 4) (gone (f j))
        have HX7 := Lib.hid (HX6.out.ap A7 (fun e => by have := HGB.out; omega))
        have HR7 := Lib.hid (HR6.out.ap A7 (fun e => by have := HGB.out; omega))
        have HS7 := Lib.hid (HS6.out.ap A7 (fun e => HN6.out e))
        have HG7 := Lib.hid (HG6.out.put j hlt (gone (f j)))
        have HB7 := Lib.hid (HB6.out.trans (A7.below HB6.out.size (fun k e => by have := HGB.out; omega)))
        unfold putS gone at HX7 HR7 HS7 HG7 HB7
        clear A7 xs0 s0 s1 s2 s3 g0 g1 g2 g3 z0 z1 z2 z3 HX6 HR6 HG6 HB6 HS6
        generalize (((w6.setCell ⟨g, j * 4, none⟩ (.string (f j).su)).setCell ⟨g, j * 4 + 1, none⟩ (.string ⟨#[]⟩)).setCell ⟨g, j * 4 + 2, none⟩ (.bool false)).setCell ⟨g, j * 4 + 3, none⟩ (.bool (f j).bd) = w7 at HX7 HR7 HS7 HG7 HB7 ⊢
        have hF := HF.out
        have hkk : kk ≤ 256 := HKN.out
        by_cases hkQ : kk < Q.length
        · have e2 : decide ((kk : Int) < (Q.length : Int)) = true := decide_eq_true (by omega)
          obtain ⟨b2, off2, rfl, hbl2, hcq⟩ := HQ3.out.resolve_left (by intro e; rw [e] at hkQ; simp at hkQ)
          have hc2 := (HB7.out.cell (p := ⟨b2, off2 + kk, none⟩) hbl2).trans (hcq kk hkQ)
          rw [decide_eq_true hkQ, Bool.true_and] at hF
          clear hcq HF
          cases hz : Q.getD kk false with
          | true =>
            rw [hz] at hc2 hF
            rw [if_pos rfl] at hF
            have HF := Lib.hid hF
            clear hF hz
            have hLd : ∀ W, Calls Tryz.prog 56 #[.agg #[.string (f j).su, .string (f j).fr, .bool true, .bool (f j).bd]] W fun e w' => e = .returned (.agg #[.string (f j).fr, .string ⟨#[]⟩, .bool false, .bool false]) ∧ Below W.heap.size W w' := fun W => refLanded_any ⟨(f j).su, (f j).fr, true, (f j).bd⟩
            go_upto_region 9 with fail
            clear hc2
            have HT7 : Hid (w7.cell? ⟨w.heap.size, 0, none⟩ = some (.slice (some ⟨g, 0, none⟩) n c) ∧ w7.cell? ⟨bs, 0, none⟩ = some (.string (f j).su) ∧ w7.cell? ⟨bs, 1, none⟩ = some (.string (f j).fr) ∧ w7.cell? ⟨bs, 2, none⟩ = some (.bool true) ∧ w7.cell? ⟨bs, 3, none⟩ = some (.bool (f j).bd)) := Lib.hid ⟨HX7.out.c0, HS7.out.c0, HS7.out.c1, HS7.out.c2, HS7.out.c3⟩
            go_region_held3 (fun w' => w'.cell? ⟨w.heap.size, 0, none⟩ = some (.slice (some ⟨g, 0, none⟩) n c) ∧ w'.cell? ⟨bs, 0, none⟩ = some (.string (f j).su) ∧ w'.cell? ⟨bs, 1, none⟩ = some (.string (f j).fr) ∧ w'.cell? ⟨bs, 2, none⟩ = some (.bool true) ∧ w'.cell? ⟨bs, 3, none⟩ = some (.bool (f j).bd)) (first | exact HT7.out | exact HT8.out | exact HT9.out)
              (first
                | (go_at_call 56; refine (hLd _).mono ?_; rintro e w8 ⟨rfl, hb8⟩; have HX8 := Lib.hid (HX7.out.drew.below hb8); have HR8 := Lib.hid (HR7.out.drew.below hb8); have HG8 := Lib.hid (HG7.out.drew.below hb8); have HB8 := Lib.hid (HB7.out.drew.trans (hb8.mono HB7.out.size)); have HS8 := Lib.hid (HS7.out.drew.below hb8)
                   have HX9 := Lib.hid (HX8.out.ap (ap_putS w8 g (j * 4) (lnd (f j))) (fun e => by have := HGB.out; omega)); have HS9 := Lib.hid (HS8.out.ap (ap_putS w8 g (j * 4) (lnd (f j))) (fun e => HN6.out e))
                   have HT8 : Hid (w8.cell? ⟨w.heap.size, 0, none⟩ = some (.slice (some ⟨g, 0, none⟩) n c) ∧ w8.cell? ⟨bs, 0, none⟩ = some (.string (f j).su) ∧ w8.cell? ⟨bs, 1, none⟩ = some (.string (f j).fr) ∧ w8.cell? ⟨bs, 2, none⟩ = some (.bool true) ∧ w8.cell? ⟨bs, 3, none⟩ = some (.bool (f j).bd)) := Lib.hid ⟨HX8.out.c0, HS8.out.c0, HS8.out.c1, HS8.out.c2, HS8.out.c3⟩
                   have HT9 : Hid ((putS w8 g (j * 4) (lnd (f j))).cell? ⟨w.heap.size, 0, none⟩ = some (.slice (some ⟨g, 0, none⟩) n c) ∧ (putS w8 g (j * 4) (lnd (f j))).cell? ⟨bs, 0, none⟩ = some (.string (f j).su) ∧ (putS w8 g (j * 4) (lnd (f j))).cell? ⟨bs, 1, none⟩ = some (.string (f j).fr) ∧ (putS w8 g (j * 4) (lnd (f j))).cell? ⟨bs, 2, none⟩ = some (.bool true) ∧ (putS w8 g (j * 4) (lnd (f j))).cell? ⟨bs, 3, none⟩ = some (.bool (f j).bd)) := Lib.hid ⟨HX9.out.c0, HS9.out.c0, HS9.out.c1, HS9.out.c2, HS9.out.c3⟩
                   obtain ⟨g0, g1, g2, g3⟩ := HG8.out.2.1 j HL0.out; rw [upd_same] at g0 g1 g2 g3; have z0 := HG8.out.2.2 (j * 4) (by have := HL0.out; omega); have z1 := HG8.out.2.2 (j * 4 + 1) (by have := HL0.out; omega); have z2 := HG8.out.2.2 (j * 4 + 2) (by have := HL0.out; omega); have z3 := HG8.out.2.2 (j * 4 + 3) (by have := HL0.out; omega); clear hb8))
            go_wp2_with fail
            go_roundw
            case rel => exact ⟨j + 1, by omega, by go_num, by rw [HK.out]; go_num, HX9.out, HR8.out.ap (ap_putS w8 g (j * 4) (lnd (f j))) (fun e => by have := HGB.out; omega), by rw [← HF.out, ← upd_upd (cS f p Q j) j ⟨(f j).su, ⟨#[]⟩, false, (f j).bd⟩ (lnd (f j))]; exact HG8.out.put j HL0.out (lnd (f j)), HB8.out.trans ((ap_putS w8 g (j * 4) (lnd (f j))).below HB8.out.size (fun k e => by have := HGB.out; omega))⟩
            case measure => simp [intOf]; omega
          | false =>
            rw [hz] at hc2 hF
            rw [if_neg (by simp)] at hF
            have HF := Lib.hid hF
            clear hF hz
            go_wp2_with fail
            go_roundw
            case rel => exact ⟨j + 1, by omega, by go_num, by rw [HK.out]; go_num, HX7.out, HR7.out, by rw [← HF.out]; exact HG7.out, HB7.out⟩
            case measure => simp [intOf]; omega
        · have e2 : decide ((kk : Int) < (Q.length : Int)) = false := decide_eq_false (by omega)
          rw [decide_eq_false hkQ, Bool.false_and, if_neg (by simp)] at hF
          clear HF
          have HF := Lib.hid hF
          clear hF
          go_wp2_with fail
          go_roundw
          case rel => exact ⟨j + 1, by omega, by go_num, by rw [HK.out]; go_num, HX7.out, HR7.out, by rw [← HF.out]; exact HG7.out, HB7.out⟩
          case measure => simp [intOf]; omega
    · obtain rfl : j = n := by omega
      obtain ⟨_, p0, p1, p2, p3, u0, u1, u2, u3⟩ := HX5.out
      clear hj hlt
      go_upto_region 13 with fail
      have HX6 := Lib.hid (HX5.out.set1 (.bool false))
      have A6 := ap_put wr w.heap.size 1 (.bool false)
      have HR6 := Lib.hid (HR5.out.ap A6 (fun e => by omega))
      have HG6 := Lib.hid (HG5.out.ap A6 (fun e => by have := HGB.out; omega))
      have HB6 := Lib.hid (HB5.out.trans (A6.below (B := w.heap.size) HB5.out.size (fun k e => by omega)))
      clear A6 p0 p1 p2 p3 u0 u1 u2 u3 HX5 HR5 HG5 HB5
      generalize wr.setCell ⟨w.heap.size, 1, none⟩ (.bool false) = w6 at HX6 HR6 HG6 HB6 ⊢
      obtain ⟨_, p0, p1, p2, p3, u0, u1, u2, u3⟩ := HX6.out
      go_upto_region 14 with fail
      have HX7 := Lib.hid (HX6.out.set2 (.int .i64 (-1)))
      have A7 := ap_put w6 w.heap.size 2 (.int .i64 (-1))
      have HR7 := Lib.hid (HR6.out.ap A7 (fun e => by omega))
      have HG7 := Lib.hid (HG6.out.ap A7 (fun e => by have := HGB.out; omega))
      have HB7 := Lib.hid (HB6.out.trans (A7.below (B := w.heap.size) HB6.out.size (fun k e => by omega)))
      clear A7 p0 p1 p2 p3 u0 u1 u2 u3 HX6 HR6 HG6 HB6
      generalize w6.setCell ⟨w.heap.size, 2, none⟩ (.int .i64 (-1)) = w7 at HX7 HR7 HG7 HB7 ⊢
      obtain ⟨_, p0, p1, p2, p3, _, _, _, _⟩ := HX7.out
      obtain ⟨_, t0, t1, t2, t3, k0, k1, k2, k3⟩ := HR7.out
      go_wp2_with fail
      have hgne : g ≠ w.heap.size + 1 := fun e => by have := HGB.out; omega
      obtain ⟨y0, y1, y2, y3, hG, hBB⟩ := stored HR7.out HB7.out (by omega) HG7.out hgne (.slice (some ⟨g, 0, none⟩) j c) (.bool false) (.int .i64 (-1)) (.int .i64 (ct : Int))
      refine bodyPost_ret (v := .agg #[.slice (some ⟨g, 0, none⟩) j c, .bool false, .int .i64 (-1), .int .i64 (ct : Int)]) (by simp [results, Tryz.results29, go_sem, y0, y1, y2, y3]) rfl ?_
      exact ⟨_, rfl, HEND.out _ _ ⟨g, c, rfl, hgc, hcm, hG⟩, hBB⟩
end Go.Proofs.YtjhpheepimbbdaaGreatDoor
