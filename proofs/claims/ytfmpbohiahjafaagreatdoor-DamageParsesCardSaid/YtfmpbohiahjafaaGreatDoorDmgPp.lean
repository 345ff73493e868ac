/- Reports of damage: the document's reading of a text. -/
import Derived.Test.YtfmpbohiahjafaaGreatDoorDmgPl
import Derived.Test.YtfmpbohiahjafaaGreatDoorDmgT
namespace Go.Proofs.YtfmpbohiahjafaaGreatDoor
open Go.RowKit Go.Lib Go.Shelf Go.Sort

theorem rpw_yes {l : List UInt8} (hl : l.length ≤ 1000000) (w : World) {x : WD} (h : rW l = some x) : Calls Tryz.prog 41 #[.string ⟨l.toArray⟩] w fun e w' => e = .returned (.tuple #[.agg x.enc.toArray, .bool true]) ∧ Below w.heap.size w w' := by
  refine (refPW_any hl w).mono ?_
  rintro e w' ⟨⟨y, b, he, h1, h2⟩, hb⟩
  cases b
  · rw [h2 rfl] at h; cases h
  · have := h1 rfl; rw [h] at this; injection this with this; rw [this]; exact ⟨he, hb⟩
theorem rpw_no {l : List UInt8} (hl : l.length ≤ 1000000) (w : World) (h : rW l = none) : Calls Tryz.prog 41 #[.string ⟨l.toArray⟩] w fun e w' => ∃ (k id ix pl : Int) (hl : Bool), e = .returned (.tuple #[.agg #[.int .u8 k, .int .i64 id, .int .i64 ix, .int .i64 pl, .bool hl], .bool false]) ∧ Below w.heap.size w w' := by
  refine (refPW_any hl w).mono ?_
  rintro e w' ⟨⟨y, b, he, h1, h2⟩, hb⟩
  cases b
  · exact ⟨_, _, _, _, _, he, hb⟩
  · rw [h1 rfl] at h; cases h
theorem rpl_yes {l : List UInt8} (hl : l.length ≤ 1000000) (w : World) {x : LO} (h : rL l = some x) : Calls Tryz.prog 42 #[.string ⟨l.toArray⟩] w fun e w' => e = .returned (.tuple #[.agg x.enc.toArray, .bool true]) ∧ Below w.heap.size w w' := by
  refine (refPL_any hl w).mono ?_
  rintro e w' ⟨⟨y, b, he, h1, h2⟩, hb⟩
  cases b
  · rw [h2 rfl] at h; cases h
  · have := h1 rfl; rw [h] at this; injection this with this; rw [this]; exact ⟨he, hb⟩
theorem rpl_no {l : List UInt8} (hl : l.length ≤ 1000000) (w : World) (h : rL l = none) : Calls Tryz.prog 42 #[.string ⟨l.toArray⟩] w fun e w' => ∃ c f t : Int, e = .returned (.tuple #[.agg #[.int .i64 c, .int .i64 f, .int .i64 t], .bool false]) ∧ Below w.heap.size w w' := by
  refine (refPL_any hl w).mono ?_
  rintro e w' ⟨⟨y, b, he, h1, h2⟩, hb⟩
  cases b
  · exact ⟨_, _, _, he, hb⟩
  · rw [h1 rfl] at h; cases h
/-- Where the walk over the bytes stands. -/
def NInv (T : List UInt8) (f i : Nat) : Prop := f ≤ i ∧ i ≤ T.length ∧ (10 : UInt8) ∉ (T.drop f).take (i - f)
theorem ninv_on {T : List UInt8} {f i : Nat} (h : NInv T f i) (hi : i < T.length) (hc : T[i] ≠ 10) : NInv T f (i + 1) := by
  obtain ⟨h1, h2, h3⟩ := h
  refine ⟨by omega, hi, ?_⟩
  have e : (T.drop f).take (i + 1 - f) = (T.drop f).take (i - f) ++ [T[i]] := by
    have hlt : i - f < (T.drop f).length := by rw [List.length_drop]; omega
    rw [show i + 1 - f = (i - f) + 1 by omega, List.take_succ_eq_append_getElem hlt, List.getElem_drop]
    congr 3
    omega
  rw [e]
  intro hm
  rcases List.mem_append.1 hm with hm | hm
  · exact h3 hm
  · rw [List.mem_singleton] at hm; exact hc hm.symm
theorem ninv_cut {T : List UInt8} {f i : Nat} (h : NInv T f i) (hi : i < T.length) (hc : T[i] = 10) : spl 10 (T.drop f) = (T.drop f).take (i - f) :: spl 10 (T.drop (i + 1)) := by
  obtain ⟨h1, h2, h3⟩ := h
  conv => lhs; rw [take_mid T h1 hi, hc]
  exact spl_app _ h3
theorem ninv_end {T : List UInt8} {f : Nat} (h : NInv T f T.length) : (10 : UInt8) ∉ T.drop f := by
  obtain ⟨h1, h2, h3⟩ := h
  rwa [List.take_of_length_le (by simp)] at h3
set_option maxHeartbeats 16000000 in
set_option maxRecDepth 100000 in
theorem refDPs_any (s : ByteArray) (hT : s.size ≤ 500000) (w : World) :
    Calls Tryz.prog 19 #[.string s] w fun e w' => PAns w' e (prsT s.data.toList) ∧ Below w.heap.size w w' := by
  obtain ⟨T, hTT⟩ : ∃ T, T = s.data.toList := ⟨_, rfl⟩
  have hsz : s.size = T.length := by rw [hTT]; simp
  have HT := Lib.hid hTT
  have HSZ := Lib.hid hsz
  rw [← hTT]
  obtain ⟨n, hn⟩ : ∃ n, n = s.size := ⟨_, rfl⟩
  have HN := Lib.hid hn
  have HN1 : Hid (n ≤ 500000) := Lib.hid (by omega)
  have hsz2 : (s.size : Int) = (n : Int) := by rw [hn]
  obtain ⟨w1, hw1⟩ : ∃ w1, w1 = w.alloc (.cells #[.slice none 0 0, .slice none 0 0] 25) := ⟨_, rfl⟩
  have HB1 : Hid (Below w.heap.size w w1) := Lib.hid (by rw [hw1]; exact below_new w _)
  have HZ1 : Hid (N2 w1 w.heap.size) := Lib.hid (by rw [hw1]; exact N2.new w _)
  have HS1 : Hid (w1.heap.size = w.heap.size + 1) := Lib.hid (by rw [hw1]; simp)
  have HW1 := Lib.hid hw1
  have hR := RP.new w1 25
  have HB2 := Lib.hid (below_new w1 (.cells #[.slice none 0 0, .slice none 0 0] 25))
  have HBw : Hid (∀ V, Below w1.heap.size w1 V → Below w.heap.size w V ∧ N2 V w.heap.size) := Lib.hid (fun V hb => ⟨HB1.out.trans (hb.mono HB1.out.size), HZ1.out.below hb (by rw [HS1.out]; omega)⟩)
  obtain ⟨iW, hiW0, hiW1, hiW2, hiW3⟩ := wdInf
  obtain ⟨iL, hiL0, hiL1, hiL2, hiL3⟩ := loInf
  clear hw1 hTT hsz hn hT
  go_enter Tryz.func19, Tryz.ntmps19
  go_upto_region 1 with fail
  rw [← HW1.out]
  go_upto_region 2 with fail
  generalize w1.alloc (.cells #[.slice none 0 0, .slice none 0 0] 25) = w2 at hR HB2 ⊢
  have HR2 := Lib.hid hR
  clear hR
  go_wp2
  go_loopw [6, 7, 8] (fun kx fx ix wr => ∃ (f i k : Nat) (u v : Value) (Ws : List WD) (Ls : List LO), kx = .int .i64 (k : Int) ∧ fx = .int .i64 (f : Int) ∧ ix = .int .i64 (i : Int) ∧ NInv T f i ∧ prsT T = prs (spl 10 (T.drop f)) Ws Ls k ∧ 1 ≤ k ∧ k ≤ f + 1 ∧ Ws.length ≤ k ∧ Ls.length ≤ k ∧ RP w1.heap.size wr w1.heap.size u v Ws Ls ∧ Below w1.heap.size w1 wr) (fun _ _ ix _ => n - (RowKit.intOf ix).toNat)
  case atStart => exact ⟨0, 0, 1, _, _, [], [], rfl, rfl, rfl, ⟨Nat.le_refl _, Nat.zero_le _, by simp⟩, rfl, Nat.le_refl _, Nat.le_refl _, Nat.zero_le _, Nat.zero_le _, HR2.out, HB2.out⟩
  case round =>
    obtain ⟨f, i, k, u, v, Ws, Ls, rfl, rfl, rfl, hinv, heq, hk1, hk, hWl, hLl, hr, hbl⟩ := hrel
    have HB := Lib.hid hbl
    have HR := Lib.hid hr
    have HE := Lib.hid heq
    have HI := Lib.hid hinv
    have HWS : Hid (w1.heap.size ≤ wr.heap.size) := Lib.hid hbl.size
    have HBND : Hid (1 ≤ k ∧ k ≤ f + 1 ∧ Ws.length ≤ k ∧ Ls.length ≤ k ∧ k ≤ 500001) := Lib.hid ⟨hk1, hk, hWl, hLl, by have h1 := hinv.1; have h2 := hinv.2.1; have h3 := HN1.out; have h4 := HN.out; have h5 := HSZ.out; omega⟩
    have HWK : Hid (wrap64 ((i : Int) + 1) = (i : Int) + 1 ∧ wrap64 ((k : Int) + 1) = (k : Int) + 1) := Lib.hid (by have := HN1.out; have := HN.out; have := HSZ.out; have := HBND.out; have := hinv.2.1; unfold wrap64; constructor <;> omega)
    have HIL : Hid (i ≤ n) := Lib.hid (by have := HN.out; have := HSZ.out; have := hinv.2.1; omega)
    have HFL : Hid (f ≤ n) := Lib.hid (by have := HIL.out; have := hinv.1; omega)
    clear hbl hr heq hk1 hk hWl hLl hinv
    by_cases hlt : i < n
    case neg =>
      have hie : i = T.length := by have := HN.out; have := HSZ.out; have := HIL.out; omega
      have HEN : Hid ((10 : UInt8) ∉ T.drop f) := Lib.hid (ninv_end (by rw [← hie]; exact HI.out))
      have k1 : decide ((i : Int) < (n : Int)) = false := decide_eq_false (by omega)
      have k1n : ¬ (i : Int) < (n : Int) := by omega
      clear hie
      by_cases hf : f = n
      · have k2 : ((f : Int) != (n : Int)) = false := by rw [bne_eq_false_iff_eq]; omega
        have k3 : ((f : Int) == (n : Int)) = true := by rw [beq_iff_eq]; omega
        have hnil : T.drop f = [] := List.drop_eq_nil_of_le (by rw [hf, HN.out, HSZ.out]; exact Nat.le_refl _)
        rw [hnil, prs_end] at HE
        clear hf hlt hnil
        obtain ⟨A1, c1, hu, _⟩ := ownS_form HR.out.ow
        obtain ⟨A2, c2, hv, _⟩ := ownS_form HR.out.ol
        subst hu
        subst hv
        have y0 := HR.out.c0
        have y1 := HR.out.c1
        obtain ⟨x0, x1, f0, f1⟩ := (HBw.out wr HB.out).2
        have HZ := Lib.hid (HBw.out wr HB.out)
        go_wp2
        obtain ⟨z0, z1⟩ := HZ.out.2.put (.slice A1 Ws.length c1) (.slice A2 Ls.length c2)
        refine bodyPost_ret (v := .tuple #[.agg #[.slice A1 Ws.length c1, .slice A2 Ls.length c2], .int .i64 0, .int .i64 0]) (by simp [results, Tryz.results19, go_sem, z0, z1]) rfl ?_
        refine ⟨?_, below_set (below_set HZ.out.1 (Nat.le_refl _)) (Nat.le_refl _)⟩
        rw [HE.out]
        exact ⟨_, _, rfl, st_setD2 WD.enc_len HR.out.ow (by rw [HS1.out]; omega), st_setD2 LO.enc_len HR.out.ol (by rw [HS1.out]; omega)⟩
      · have k2 : ((f : Int) != (n : Int)) = true := by rw [bne_iff_ne]; omega
        have k3 : ((f : Int) == (n : Int)) = false := by rw [beq_eq_false_iff_ne]; omega
        have hne : T.drop f ≠ [] := by
          intro h
          have := congrArg List.length h
          rw [List.length_drop] at this
          have := HN.out; have := HSZ.out; have := HFL.out
          simp at *
          omega
        rw [prs_open hne HEN.out] at HE
        clear hf hlt hne
        obtain ⟨x0, x1, f0, f1⟩ := (HBw.out wr HB.out).2
        have HZ := Lib.hid (HBw.out wr HB.out)
        go_wp2
        obtain ⟨z0, z1⟩ := HZ.out.2.put (.slice none 0 0) (.slice none 0 0)
        refine bodyPost_ret (v := .tuple #[.agg #[.slice none 0 0, .slice none 0 0], .int .i64 (k : Int), .int .i64 6]) (by simp [results, Tryz.results19, go_sem, z0, z1]) rfl ?_
        refine ⟨?_, below_set (below_set HZ.out.1 (Nat.le_refl _)) (Nat.le_refl _)⟩
        rw [HE.out]
        exact ⟨_, _, rfl, StS.nil _, StS.nil _⟩
    have k1 : decide ((i : Int) < (n : Int)) = true := decide_eq_true (by omega)
    have k3 : (i : Int) < (n : Int) := by omega
    have hsi : i < s.size := by have := HN.out; omega
    have hli : i < T.length := by rw [← HSZ.out]; exact hsi
    have hel : T[i] = s[i] := by
      have := HT.out
      subst this
      simp [ByteArray.getElem_eq_getElem_data]
    by_cases hc : s[i] = 10
    case neg =>
      have k4 : (((s[i]).toNat : Int) == 10) = false := by
        rw [beq_eq_false_iff_ne]; intro e; exact hc (UInt8.toNat_inj.1 (by have : (10 : UInt8).toNat = 10 := rfl; omega))
      have k5 : (((s[i]).toNat : Int) != 10) = true := by
        rw [bne_iff_ne]; intro e; exact hc (UInt8.toNat_inj.1 (by have : (10 : UInt8).toNat = 10 := rfl; omega))
      have HI2 := Lib.hid (ninv_on HI.out hli (fun e => hc (hel.symm.trans e)))
      have HBND2 := HBND.out
      have HME : Hid (n - (i + 1) < n - i) := Lib.hid (by omega)
      clear hel hc hli
      go_wp2
      (try rw [HWK.out.1])
      go_roundw
      case rel => exact ⟨f, i + 1, k, u, v, Ws, Ls, rfl, rfl, by go_num, HI2.out, HE.out, HBND2.1, HBND2.2.1, HBND2.2.2.1, HBND2.2.2.2.1, HR.out, HB.out⟩
      case measure => simp only [RowKit.intOf]; omega
    have k4 : (((s[i]).toNat : Int) == 10) = true := by rw [hc]; rfl
    have k5 : (((s[i]).toNat : Int) != 10) = false := by rw [hc]; rfl
    obtain ⟨one, hone⟩ : ∃ one, one = (T.drop f).take (i - f) := ⟨_, rfl⟩
    have HEX : Hid (s.extract f i = ⟨one.toArray⟩) := Lib.hid (by rw [hone, HT.out]; exact ext_piece s f i)
    have hol : one.length ≤ 1000000 := by
      rw [hone]
      have h1 := HSZ.out; have h2 := HN.out; have h3 := HN1.out
      rw [List.length_take, List.length_drop]
      omega
    rw [ninv_cut HI.out hli (hel.trans hc), ← hone] at HE
    have HI2 : Hid (NInv T (i + 1) (i + 1)) := Lib.hid ⟨Nat.le_refl _, hli, by simp⟩
    have k6 : (f : Int) ≤ (i : Int) := by have := HI.out.1; omega
    have k7 : (i : Int) ≤ (s.size : Int) := by omega
    have k8 : (0 : Int) ≤ (f : Int) := by omega
    have HFI : Hid (f ≤ i) := Lib.hid HI.out.1
    have k9 : f ≤ i := HI.out.1
    have k10 : i ≤ n := HIL.out
    have k11 : (i : Int) ≤ (n : Int) := by omega
    have k12 : i ≤ s.size := by omega
    clear hel hc hli hone
    have HSPN := spl_ne 10 (T.drop (i + 1))
    obtain ⟨R, hRE⟩ : ∃ R, R = spl 10 (T.drop (i + 1)) := ⟨_, rfl⟩
    have HRE := Lib.hid hRE
    rw [← hRE] at HE HSPN
    clear hRE
    cases hL : rL one with
    | some x =>
      have hW := rW_noneL hL
      have hPW := fun V => rpw_no hol V hW
      have hPL := fun V => rpl_yes hol V hL
      have HXO := Lib.hid (LO.enc_one x)
      obtain ⟨c, lf, lt⟩ := x
      unfold LO.enc at hPL HXO
      dsimp only at hPL HXO
      by_cases hk : 16384 < k
      · have g1 : decide ((16384 : Int) < (k : Int)) = true := decide_eq_true (by omega)
        rw [prs_long HSPN hk (.inl ⟨_, hL⟩)] at HE
        clear hk hL hW hol
        go_upto_region 9 with (go_at_call 41; rw [HEX.out]; (with_reducible refine (hPW _).mono ?_); rintro e w4 ⟨k1w, k2w, k3w, k4w, k5w, rfl, hb4⟩; have HB4 := Lib.hid hb4; clear hb4)
        have HC4 : Hid (Below w1.heap.size w1 (w4.alloc (.cells #[.int .u8 k1w, .int .i64 k2w, .int .i64 k3w, .int .i64 k4w, .bool k5w] 42))) := Lib.hid ((HB.out.trans (HB4.out.mono HWS.out)).alloc (Nat.le_trans HWS.out HB4.out.size) _)
        have HR4 := Lib.hid ((HR.out.below HB4.out).below (below_new w4 (.cells #[.int .u8 k1w, .int .i64 k2w, .int .i64 k3w, .int .i64 k4w, .bool k5w] 42)))
        have hlt4 : w4.heap.size < (w4.alloc (.cells #[.int .u8 k1w, .int .i64 k2w, .int .i64 k3w, .int .i64 k4w, .bool k5w] 42)).heap.size := by simp
        obtain ⟨bw, hbw⟩ : ∃ bw, bw = w4.heap.size := ⟨_, rfl⟩
        generalize w4.alloc (.cells #[.int .u8 k1w, .int .i64 k2w, .int .i64 k3w, .int .i64 k4w, .bool k5w] 42) = w6 at *
        rw [← hbw] at *
        have HBWLT := Lib.hid hlt4
        clear hbw hlt4
        go_upto_region 10 with (go_at_call 42; rw [HEX.out]; (with_reducible refine (hPL _).mono ?_); rintro e w5 ⟨rfl, hb5⟩; have HB5 := Lib.hid hb5; clear hb5)
        have HC5 : Hid (Below w1.heap.size w1 (w5.alloc (.cells #[.int .i64 c, .int .i64 lf, .int .i64 lt] 46))) := Lib.hid ((HC4.out.trans (HB5.out.mono HC4.out.size)).alloc (Nat.le_trans HC4.out.size HB5.out.size) _)
        have HR5 := Lib.hid ((HR4.out.below HB5.out).below (below_new w5 (.cells #[.int .i64 c, .int .i64 lf, .int .i64 lt] 46)))
        obtain ⟨v0, v1, v2⟩ := new3 w5 (.int .i64 c) (.int .i64 lf) (.int .i64 lt) 46
        obtain ⟨bl, hbl⟩ : ∃ bl, bl = w5.heap.size := ⟨_, rfl⟩
        generalize w5.alloc (.cells #[.int .i64 c, .int .i64 lf, .int .i64 lt] 46) = w7 at *
        rw [← hbl] at *
        clear hbl HBWLT HB4 HB5 HC4 HR4 hPW hPL HR HB HWS HEX k6 k7 k8 k9 k10 k11 k12 k4 k5 k1
        obtain ⟨x0, x1, f0, f1⟩ := (HBw.out w7 HC5.out).2
        have HZ := Lib.hid (HBw.out w7 HC5.out)
        go_wp2
        obtain ⟨z0, z1⟩ := HZ.out.2.put (.slice none 0 0) (.slice none 0 0)
        refine bodyPost_ret (v := .tuple #[.agg #[.slice none 0 0, .slice none 0 0], .int .i64 (k : Int), .int .i64 7]) (by simp [results, Tryz.results19, go_sem, z0, z1]) rfl ?_
        refine ⟨?_, below_set (below_set HZ.out.1 (Nat.le_refl _)) (Nat.le_refl _)⟩
        rw [HE.out]
        exact ⟨_, _, rfl, StS.nil _, StS.nil _⟩
      · have g1 : decide ((16384 : Int) < (k : Int)) = false := decide_eq_false (by omega)
        rw [prs_lost HSPN hk hL] at HE
        have HK : Hid (k + 1 ≤ i + 1 + 1 ∧ Ws.length ≤ k + 1 ∧ (Ls ++ [(⟨c, lf, lt⟩ : LO)]).length ≤ k + 1) := Lib.hid (by have := HBND.out; have := HFI.out; refine ⟨by omega, by omega, by simp; omega⟩)
        clear hk hL hW hol
        go_upto_region 9 with (go_at_call 41; rw [HEX.out]; (with_reducible refine (hPW _).mono ?_); rintro e w4 ⟨k1w, k2w, k3w, k4w, k5w, rfl, hb4⟩; have HB4 := Lib.hid hb4; clear hb4)
        have HC4 : Hid (Below w1.heap.size w1 (w4.alloc (.cells #[.int .u8 k1w, .int .i64 k2w, .int .i64 k3w, .int .i64 k4w, .bool k5w] 42))) := Lib.hid ((HB.out.trans (HB4.out.mono HWS.out)).alloc (Nat.le_trans HWS.out HB4.out.size) _)
        have HR4 := Lib.hid ((HR.out.below HB4.out).below (below_new w4 (.cells #[.int .u8 k1w, .int .i64 k2w, .int .i64 k3w, .int .i64 k4w, .bool k5w] 42)))
        have hlt4 : w4.heap.size < (w4.alloc (.cells #[.int .u8 k1w, .int .i64 k2w, .int .i64 k3w, .int .i64 k4w, .bool k5w] 42)).heap.size := by simp
        obtain ⟨bw, hbw⟩ : ∃ bw, bw = w4.heap.size := ⟨_, rfl⟩
        generalize w4.alloc (.cells #[.int .u8 k1w, .int .i64 k2w, .int .i64 k3w, .int .i64 k4w, .bool k5w] 42) = w6 at *
        rw [← hbw] at *
        have HBWLT := Lib.hid hlt4
        clear hbw hlt4
        go_upto_region 10 with (go_at_call 42; rw [HEX.out]; (with_reducible refine (hPL _).mono ?_); rintro e w5 ⟨rfl, hb5⟩; have HB5 := Lib.hid hb5; clear hb5)
        have HC5 : Hid (Below w1.heap.size w1 (w5.alloc (.cells #[.int .i64 c, .int .i64 lf, .int .i64 lt] 46))) := Lib.hid ((HC4.out.trans (HB5.out.mono HC4.out.size)).alloc (Nat.le_trans HC4.out.size HB5.out.size) _)
        have HR5 := Lib.hid ((HR4.out.below HB5.out).below (below_new w5 (.cells #[.int .i64 c, .int .i64 lf, .int .i64 lt] 46)))
        obtain ⟨v0, v1, v2⟩ := new3 w5 (.int .i64 c) (.int .i64 lf) (.int .i64 lt) 46
        obtain ⟨bl, hbl⟩ : ∃ bl, bl = w5.heap.size := ⟨_, rfl⟩
        generalize w5.alloc (.cells #[.int .i64 c, .int .i64 lf, .int .i64 lt] 46) = w7 at *
        rw [← hbl] at *
        clear hbl HBWLT HB4 HB5 HC4 HR4 hPW hPL HR HB HWS HEX k6 k7 k8 k9 k10 k11 k12 k4 k5 k1
        obtain ⟨A1, q1, hu, _⟩ := ownS_form HR5.out.ow
        obtain ⟨A2, q2, hv, _⟩ := ownS_form HR5.out.ol
        subst hu
        subst hv
        have d0 := HR5.out.c0
        have d1 := HR5.out.c1
        have df0 := HR5.out.f0
        have df1 := HR5.out.f1
        have HRV : Hid (RP w1.heap.size (w7.alloc (.cells #[.int .i64 c, .int .i64 lf, .int .i64 lt] 46)) w1.heap.size _ _ Ws Ls) := Lib.hid (HR5.out.below (below_new w7 _))
        have HNV : Hid (∀ j q, ([.int .i64 c, .int .i64 lf, .int .i64 lt] : List Value)[j]? = some q → (w7.alloc (.cells #[.int .i64 c, .int .i64 lf, .int .i64 lt] 46)).cell? ((⟨w7.heap.size, 0, none⟩ : Addr).add j) = some q) := Lib.hid (new_cells w7 _ _)
        have HBV : Hid (Below w1.heap.size w1 (w7.alloc (.cells #[.int .i64 c, .int .i64 lf, .int .i64 lt] 46))) := Lib.hid (HC5.out.alloc HC5.out.size _)
        have HLN : Hid (Ls.length + 1 ≤ maxLen ∧ (Ls.length + 1) * 24 ≤ 140737488355328) := Lib.hid (by have := HBND.out; unfold maxLen; constructor <;> omega)
        go_wp2_with (at_builtin; (refine wpList_append_own_at _ rfl (.tmp 59) (.tmp 61) 23 rfl w1.heap.size 46 iL _ 3 24 Tryz.underlying23 hiL0 hiL1 hiL2 hiL3 rfl (by decide) (.slice A2 Ls.length q2) Ls.length (Ls.flatMap LO.enc) rfl HRV.out.ol ⟨w7.heap.size, 0, none⟩ 1 1 [.int .i64 c, .int .i64 lf, .int .i64 lt] rfl rfl HNV.out HXO.out HLN.out.1 HLN.out.2 HBV.out.size ?_); intro v' w8 ho8 hg8 _ hat8; obtain ⟨g8, c8, rfl⟩ := ownsRow_succ ho8; have s0 := kept_cell hg8 HRV.out.lt (fun e => HRV.out.nv e.symm) HRV.out.c1; have s1 := kept_fz hg8 HRV.out.lt (fun e => HRV.out.nv e.symm) HRV.out.f1; have s2 := kept_cell hg8 HRV.out.lt (fun e => HRV.out.nv e.symm) HRV.out.c0; have HA := Lib.hid (HRV.out.appL (x := ⟨c, lf, lt⟩) ho8 hg8 hat8); have HB8 : Hid (Below w1.heap.size w1 w8) := Lib.hid (HBV.out.grown hg8 HBV.out.size (fun g hg => (World.ownsRow.lt HRV.out.ol g hg).1)); clear ho8 hg8 hat8)
        (try rw [HWK.out.2])
        (try rw [HWK.out.1])
        (try rw [HWK.out.1])
        go_roundw
        case rel => exact ⟨i + 1, i + 1, k + 1, _, _, Ws, Ls ++ [⟨c, lf, lt⟩], by go_num, by go_num, by go_num, HI2.out, HE.out.trans (by rw [HRE.out]), by omega, HK.out.1, HK.out.2.1, HK.out.2.2, HA.out, below_set HB8.out (Nat.le_refl _)⟩
        case measure => simp only [RowKit.intOf]; omega
    | none =>
      have hPL := fun V => rpl_no hol V hL
      cases hW : rW one with
      | none =>
        have hPW := fun V => rpw_no hol V hW
        rw [prs_bad HSPN hL (.inl hW)] at HE
        clear hL hW hol
        go_upto_region 9 with (go_at_call 41; rw [HEX.out]; (with_reducible refine (hPW _).mono ?_); rintro e w4 ⟨k1w, k2w, k3w, k4w, k5w, rfl, hb4⟩; have HB4 := Lib.hid hb4; clear hb4)
        have HC4 : Hid (Below w1.heap.size w1 (w4.alloc (.cells #[.int .u8 k1w, .int .i64 k2w, .int .i64 k3w, .int .i64 k4w, .bool k5w] 42))) := Lib.hid ((HB.out.trans (HB4.out.mono HWS.out)).alloc (Nat.le_trans HWS.out HB4.out.size) _)
        have HR4 := Lib.hid ((HR.out.below HB4.out).below (below_new w4 (.cells #[.int .u8 k1w, .int .i64 k2w, .int .i64 k3w, .int .i64 k4w, .bool k5w] 42)))
        have hlt4 : w4.heap.size < (w4.alloc (.cells #[.int .u8 k1w, .int .i64 k2w, .int .i64 k3w, .int .i64 k4w, .bool k5w] 42)).heap.size := by simp
        obtain ⟨bw, hbw⟩ : ∃ bw, bw = w4.heap.size := ⟨_, rfl⟩
        generalize w4.alloc (.cells #[.int .u8 k1w, .int .i64 k2w, .int .i64 k3w, .int .i64 k4w, .bool k5w] 42) = w6 at *
        rw [← hbw] at *
        have HBWLT := Lib.hid hlt4
        clear hbw hlt4
        go_upto_region 10 with (go_at_call 42; rw [HEX.out]; (with_reducible refine (hPL _).mono ?_); rintro e w5 ⟨c1l, c2l, c3l, rfl, hb5⟩; have HB5 := Lib.hid hb5; clear hb5)
        have HC5 : Hid (Below w1.heap.size w1 (w5.alloc (.cells #[.int .i64 c1l, .int .i64 c2l, .int .i64 c3l] 46))) := Lib.hid ((HC4.out.trans (HB5.out.mono HC4.out.size)).alloc (Nat.le_trans HC4.out.size HB5.out.size) _)
        have HR5 := Lib.hid ((HR4.out.below HB5.out).below (below_new w5 (.cells #[.int .i64 c1l, .int .i64 c2l, .int .i64 c3l] 46)))
        obtain ⟨bl, hbl⟩ : ∃ bl, bl = w5.heap.size := ⟨_, rfl⟩
        generalize w5.alloc (.cells #[.int .i64 c1l, .int .i64 c2l, .int .i64 c3l] 46) = w7 at *
        rw [← hbl] at *
        clear hbl HBWLT HB4 HB5 HC4 HR4 hPW hPL HR HB HWS HEX k6 k7 k8 k9 k10 k11 k12 k4 k5 k1
        obtain ⟨x0, x1, f0, f1⟩ := (HBw.out w7 HC5.out).2
        have HZ := Lib.hid (HBw.out w7 HC5.out)
        go_wp2
        obtain ⟨z0, z1⟩ := HZ.out.2.put (.slice none 0 0) (.slice none 0 0)
        refine bodyPost_ret (v := .tuple #[.agg #[.slice none 0 0, .slice none 0 0], .int .i64 (k : Int), .int .i64 6]) (by simp [results, Tryz.results19, go_sem, z0, z1]) rfl ?_
        refine ⟨?_, below_set (below_set HZ.out.1 (Nat.le_refl _)) (Nat.le_refl _)⟩
        rw [HE.out]
        exact ⟨_, _, rfl, StS.nil _, StS.nil _⟩
      | some x =>
        have hPW := fun V => rpw_yes hol V hW
        have HXO := Lib.hid (WD.enc_one x)
        obtain ⟨k0, id, ix, pl, hl2⟩ := x
        obtain ⟨hl, rfl⟩ : ∃ hl, hl = hl2 := ⟨_, rfl⟩
        unfold WD.enc at hPW HXO
        dsimp only at hPW HXO
        by_cases hLs : Ls = []
        case neg =>
          rw [prs_bad HSPN hL (.inr hLs)] at HE
          have g2 : decide ((0 : Int) < (Ls.length : Int)) = true := decide_eq_true (by cases Ls with | nil => exact absurd rfl hLs | cons a r => simp)
          have g3 : 0 < Ls.length := by cases Ls with | nil => exact absurd rfl hLs | cons a r => simp
          have g4 : decide (0 < Ls.length) = true := decide_eq_true g3
          have g5 : (0 : Int) < (Ls.length : Int) := by omega
          have g6 : (Ls.length == 0) = false := by rw [beq_eq_false_iff_ne]; omega
          clear hL hW hol hLs
          go_upto_region 9 with (go_at_call 41; rw [HEX.out]; (with_reducible refine (hPW _).mono ?_); rintro e w4 ⟨rfl, hb4⟩; have HB4 := Lib.hid hb4; clear hb4)
          have HC4 : Hid (Below w1.heap.size w1 (w4.alloc (.cells #[.int .u8 k0, .int .i64 id, .int .i64 ix, .int .i64 pl, .bool hl] 42))) := Lib.hid ((HB.out.trans (HB4.out.mono HWS.out)).alloc (Nat.le_trans HWS.out HB4.out.size) _)
          have HR4 := Lib.hid ((HR.out.below HB4.out).below (below_new w4 (.cells #[.int .u8 k0, .int .i64 id, .int .i64 ix, .int .i64 pl, .bool hl] 42)))
          obtain ⟨y0, y1, y2, y3, y4⟩ := new5 w4 (.int .u8 k0) (.int .i64 id) (.int .i64 ix) (.int .i64 pl) (.bool hl) 42
          have hlt4 : w4.heap.size < (w4.alloc (.cells #[.int .u8 k0, .int .i64 id, .int .i64 ix, .int .i64 pl, .bool hl] 42)).heap.size := by simp
          obtain ⟨bw, hbw⟩ : ∃ bw, bw = w4.heap.size := ⟨_, rfl⟩
          generalize w4.alloc (.cells #[.int .u8 k0, .int .i64 id, .int .i64 ix, .int .i64 pl, .bool hl] 42) = w6 at *
          rw [← hbw] at *
          have HBWLT := Lib.hid hlt4
          clear hbw hlt4
          go_upto_region 10 with (go_at_call 42; rw [HEX.out]; (with_reducible refine (hPL _).mono ?_); rintro e w5 ⟨c1l, c2l, c3l, rfl, hb5⟩; have HB5 := Lib.hid hb5; clear hb5)
          have HC5 : Hid (Below w1.heap.size w1 (w5.alloc (.cells #[.int .i64 c1l, .int .i64 c2l, .int .i64 c3l] 46))) := Lib.hid ((HC4.out.trans (HB5.out.mono HC4.out.size)).alloc (Nat.le_trans HC4.out.size HB5.out.size) _)
          have HR5 := Lib.hid ((HR4.out.below HB5.out).below (below_new w5 (.cells #[.int .i64 c1l, .int .i64 c2l, .int .i64 c3l] 46)))
          have hbn := HB5.out.trans ((below_new w5 (.cells #[.int .i64 c1l, .int .i64 c2l, .int .i64 c3l] 46)).mono HB5.out.size)
          replace y0 := cell_keep hbn y0
          replace y1 := cell_keep hbn y1
          replace y2 := cell_keep hbn y2
          replace y3 := cell_keep hbn y3
          replace y4 := cell_keep hbn y4
          clear hbn
          obtain ⟨bl, hbl⟩ : ∃ bl, bl = w5.heap.size := ⟨_, rfl⟩
          generalize w5.alloc (.cells #[.int .i64 c1l, .int .i64 c2l, .int .i64 c3l] 46) = w7 at *
          rw [← hbl] at *
          clear hbl HBWLT HB4 HB5 HC4 HR4 hPW hPL HR HB HWS HEX k6 k7 k8 k9 k10 k11 k12 k4 k5 k1
          obtain ⟨A1, q1, hu, _⟩ := ownS_form HR5.out.ow
          obtain ⟨A2, q2, hv, _⟩ := ownS_form HR5.out.ol
          subst hu
          subst hv
          have d0 := HR5.out.c0
          have d1 := HR5.out.c1
          have df0 := HR5.out.f0
          have df1 := HR5.out.f1
          obtain ⟨x0, x1, f0, f1⟩ := (HBw.out w7 HC5.out).2
          have HZ := Lib.hid (HBw.out w7 HC5.out)
          go_wp2
          obtain ⟨z0, z1⟩ := HZ.out.2.put (.slice none 0 0) (.slice none 0 0)
          refine bodyPost_ret (v := .tuple #[.agg #[.slice none 0 0, .slice none 0 0], .int .i64 (k : Int), .int .i64 6]) (by simp [results, Tryz.results19, go_sem, z0, z1]) rfl ?_
          refine ⟨?_, below_set (below_set HZ.out.1 (Nat.le_refl _)) (Nat.le_refl _)⟩
          rw [HE.out]
          exact ⟨_, _, rfl, StS.nil _, StS.nil _⟩
        subst hLs
        by_cases hk : 16384 < k
        · have g1 : decide ((16384 : Int) < (k : Int)) = true := decide_eq_true (by omega)
          rw [prs_long HSPN hk (.inr ⟨rfl, _, hW⟩)] at HE
          clear hk hL hW hol
          go_upto_region 9 with (go_at_call 41; rw [HEX.out]; (with_reducible refine (hPW _).mono ?_); rintro e w4 ⟨rfl, hb4⟩; have HB4 := Lib.hid hb4; clear hb4)
          have HC4 : Hid (Below w1.heap.size w1 (w4.alloc (.cells #[.int .u8 k0, .int .i64 id, .int .i64 ix, .int .i64 pl, .bool hl] 42))) := Lib.hid ((HB.out.trans (HB4.out.mono HWS.out)).alloc (Nat.le_trans HWS.out HB4.out.size) _)
          have HR4 := Lib.hid ((HR.out.below HB4.out).below (below_new w4 (.cells #[.int .u8 k0, .int .i64 id, .int .i64 ix, .int .i64 pl, .bool hl] 42)))
          obtain ⟨y0, y1, y2, y3, y4⟩ := new5 w4 (.int .u8 k0) (.int .i64 id) (.int .i64 ix) (.int .i64 pl) (.bool hl) 42
          have hlt4 : w4.heap.size < (w4.alloc (.cells #[.int .u8 k0, .int .i64 id, .int .i64 ix, .int .i64 pl, .bool hl] 42)).heap.size := by simp
          obtain ⟨bw, hbw⟩ : ∃ bw, bw = w4.heap.size := ⟨_, rfl⟩
          generalize w4.alloc (.cells #[.int .u8 k0, .int .i64 id, .int .i64 ix, .int .i64 pl, .bool hl] 42) = w6 at *
          rw [← hbw] at *
          have HBWLT := Lib.hid hlt4
          clear hbw hlt4
          go_upto_region 10 with (go_at_call 42; rw [HEX.out]; (with_reducible refine (hPL _).mono ?_); rintro e w5 ⟨c1l, c2l, c3l, rfl, hb5⟩; have HB5 := Lib.hid hb5; clear hb5)
          have HC5 : Hid (Below w1.heap.size w1 (w5.alloc (.cells #[.int .i64 c1l, .int .i64 c2l, .int .i64 c3l] 46))) := Lib.hid ((HC4.out.trans (HB5.out.mono HC4.out.size)).alloc (Nat.le_trans HC4.out.size HB5.out.size) _)
          have HR5 := Lib.hid ((HR4.out.below HB5.out).below (below_new w5 (.cells #[.int .i64 c1l, .int .i64 c2l, .int .i64 c3l] 46)))
          have hbn := HB5.out.trans ((below_new w5 (.cells #[.int .i64 c1l, .int .i64 c2l, .int .i64 c3l] 46)).mono HB5.out.size)
          replace y0 := cell_keep hbn y0
          replace y1 := cell_keep hbn y1
          replace y2 := cell_keep hbn y2
          replace y3 := cell_keep hbn y3
          replace y4 := cell_keep hbn y4
          clear hbn
          obtain ⟨bl, hbl⟩ : ∃ bl, bl = w5.heap.size := ⟨_, rfl⟩
          generalize w5.alloc (.cells #[.int .i64 c1l, .int .i64 c2l, .int .i64 c3l] 46) = w7 at *
          rw [← hbl] at *
          clear hbl HBWLT HB4 HB5 HC4 HR4 hPW hPL HR HB HWS HEX k6 k7 k8 k9 k10 k11 k12 k4 k5 k1
          obtain ⟨A1, q1, hu, _⟩ := ownS_form HR5.out.ow
          obtain ⟨A2, q2, hv, _⟩ := ownS_form HR5.out.ol
          subst hu
          subst hv
          have d0 := HR5.out.c0
          have d1 := HR5.out.c1
          have df0 := HR5.out.f0
          have df1 := HR5.out.f1
          obtain ⟨x0, x1, f0, f1⟩ := (HBw.out w7 HC5.out).2
          have HZ := Lib.hid (HBw.out w7 HC5.out)
          go_wp2
          obtain ⟨z0, z1⟩ := HZ.out.2.put (.slice none 0 0) (.slice none 0 0)
          refine bodyPost_ret (v := .tuple #[.agg #[.slice none 0 0, .slice none 0 0], .int .i64 (k : Int), .int .i64 7]) (by simp [results, Tryz.results19, go_sem, z0, z1]) rfl ?_
          refine ⟨?_, below_set (below_set HZ.out.1 (Nat.le_refl _)) (Nat.le_refl _)⟩
          rw [HE.out]
          exact ⟨_, _, rfl, StS.nil _, StS.nil _⟩
        · have g1 : decide ((16384 : Int) < (k : Int)) = false := decide_eq_false (by omega)
          rw [prs_wound HSPN hk hW] at HE
          have HK : Hid (k + 1 ≤ i + 1 + 1 ∧ (Ws ++ [(⟨k0, id, ix, pl, hl⟩ : WD)]).length ≤ k + 1 ∧ ([] : List LO).length ≤ k + 1) := Lib.hid (by have := HBND.out; have := HFI.out; refine ⟨by omega, by simp; omega, by simp⟩)
          clear hk hL hW hol
          go_upto_region 9 with (go_at_call 41; rw [HEX.out]; (with_reducible refine (hPW _).mono ?_); rintro e w4 ⟨rfl, hb4⟩; have HB4 := Lib.hid hb4; clear hb4)
          have HC4 : Hid (Below w1.heap.size w1 (w4.alloc (.cells #[.int .u8 k0, .int .i64 id, .int .i64 ix, .int .i64 pl, .bool hl] 42))) := Lib.hid ((HB.out.trans (HB4.out.mono HWS.out)).alloc (Nat.le_trans HWS.out HB4.out.size) _)
          have HR4 := Lib.hid ((HR.out.below HB4.out).below (below_new w4 (.cells #[.int .u8 k0, .int .i64 id, .int .i64 ix, .int .i64 pl, .bool hl] 42)))
          obtain ⟨y0, y1, y2, y3, y4⟩ := new5 w4 (.int .u8 k0) (.int .i64 id) (.int .i64 ix) (.int .i64 pl) (.bool hl) 42
          have hlt4 : w4.heap.size < (w4.alloc (.cells #[.int .u8 k0, .int .i64 id, .int .i64 ix, .int .i64 pl, .bool hl] 42)).heap.size := by simp
          obtain ⟨bw, hbw⟩ : ∃ bw, bw = w4.heap.size := ⟨_, rfl⟩
          generalize w4.alloc (.cells #[.int .u8 k0, .int .i64 id, .int .i64 ix, .int .i64 pl, .bool hl] 42) = w6 at *
          rw [← hbw] at *
          have HBWLT := Lib.hid hlt4
          clear hbw hlt4
          go_upto_region 10 with (go_at_call 42; rw [HEX.out]; (with_reducible refine (hPL _).mono ?_); rintro e w5 ⟨c1l, c2l, c3l, rfl, hb5⟩; have HB5 := Lib.hid hb5; clear hb5)
          have HC5 : Hid (Below w1.heap.size w1 (w5.alloc (.cells #[.int .i64 c1l, .int .i64 c2l, .int .i64 c3l] 46))) := Lib.hid ((HC4.out.trans (HB5.out.mono HC4.out.size)).alloc (Nat.le_trans HC4.out.size HB5.out.size) _)
          have HR5 := Lib.hid ((HR4.out.below HB5.out).below (below_new w5 (.cells #[.int .i64 c1l, .int .i64 c2l, .int .i64 c3l] 46)))
          have hbn := HB5.out.trans ((below_new w5 (.cells #[.int .i64 c1l, .int .i64 c2l, .int .i64 c3l] 46)).mono HB5.out.size)
          replace y0 := cell_keep hbn y0
          replace y1 := cell_keep hbn y1
          replace y2 := cell_keep hbn y2
          replace y3 := cell_keep hbn y3
          replace y4 := cell_keep hbn y4
          clear hbn
          obtain ⟨bl, hbl⟩ : ∃ bl, bl = w5.heap.size := ⟨_, rfl⟩
          generalize w5.alloc (.cells #[.int .i64 c1l, .int .i64 c2l, .int .i64 c3l] 46) = w7 at *
          rw [← hbl] at *
          clear hbl HBWLT HB4 HB5 HC4 HR4 hPW hPL HR HB HWS HEX k6 k7 k8 k9 k10 k11 k12 k4 k5 k1
          obtain ⟨A1, q1, hu, _⟩ := ownS_form HR5.out.ow
          obtain ⟨A2, q2, hv, _⟩ := ownS_form HR5.out.ol
          subst hu
          subst hv
          have d0 := HR5.out.c0
          have d1 := HR5.out.c1
          have df0 := HR5.out.f0
          have df1 := HR5.out.f1
          have HRV : Hid (RP w1.heap.size (w7.alloc (.cells #[.int .u8 k0, .int .i64 id, .int .i64 ix, .int .i64 pl, .bool hl] 42)) w1.heap.size _ _ Ws []) := Lib.hid (HR5.out.below (below_new w7 _))
          have HNV : Hid (∀ j q, ([.int .u8 k0, .int .i64 id, .int .i64 ix, .int .i64 pl, .bool hl] : List Value)[j]? = some q → (w7.alloc (.cells #[.int .u8 k0, .int .i64 id, .int .i64 ix, .int .i64 pl, .bool hl] 42)).cell? ((⟨w7.heap.size, 0, none⟩ : Addr).add j) = some q) := Lib.hid (new_cells w7 _ _)
          have HBV : Hid (Below w1.heap.size w1 (w7.alloc (.cells #[.int .u8 k0, .int .i64 id, .int .i64 ix, .int .i64 pl, .bool hl] 42))) := Lib.hid (HC5.out.alloc HC5.out.size _)
          have HLN : Hid (Ws.length + 1 ≤ maxLen ∧ (Ws.length + 1) * 40 ≤ 140737488355328) := Lib.hid (by have := HBND.out; unfold maxLen; constructor <;> omega)
          go_wp2_with (at_builtin; (refine wpList_append_own_at _ rfl (.tmp 65) (.tmp 67) 22 rfl w1.heap.size 42 iW _ 5 40 Tryz.underlying22 hiW0 hiW1 hiW2 hiW3 rfl (by decide) (.slice A1 Ws.length q1) Ws.length (Ws.flatMap WD.enc) rfl HRV.out.ow ⟨w7.heap.size, 0, none⟩ 1 1 [.int .u8 k0, .int .i64 id, .int .i64 ix, .int .i64 pl, .bool hl] rfl rfl HNV.out HXO.out HLN.out.1 HLN.out.2 HBV.out.size ?_); intro v' w8 ho8 hg8 _ hat8; obtain ⟨g8, c8, rfl⟩ := ownsRow_succ ho8; have s0 := kept_cell hg8 HRV.out.lt (fun e => HRV.out.nu e.symm) HRV.out.c0; have s1 := kept_fz hg8 HRV.out.lt (fun e => HRV.out.nu e.symm) HRV.out.f0; have s2 := kept_cell hg8 HRV.out.lt (fun e => HRV.out.nu e.symm) HRV.out.c1; have HA := Lib.hid (HRV.out.appW (x := ⟨k0, id, ix, pl, hl⟩) ho8 hg8 hat8); have HB8 : Hid (Below w1.heap.size w1 w8) := Lib.hid (HBV.out.grown hg8 HBV.out.size (fun g hg => (World.ownsRow.lt HRV.out.ow g hg).1)); clear ho8 hg8 hat8)
          (try rw [HWK.out.2])
          (try rw [HWK.out.1])
          (try rw [HWK.out.1])
          go_roundw
          case rel => exact ⟨i + 1, i + 1, k + 1, _, _, Ws ++ [⟨k0, id, ix, pl, hl⟩], [], by go_num, by go_num, by go_num, HI2.out, HE.out.trans (by rw [HRE.out]), by omega, HK.out.1, HK.out.2.1, HK.out.2.2, HA.out, below_set HB8.out (Nat.le_refl _)⟩
          case measure => simp only [RowKit.intOf]; omega
end Go.Proofs.YtfmpbohiahjafaaGreatDoor
