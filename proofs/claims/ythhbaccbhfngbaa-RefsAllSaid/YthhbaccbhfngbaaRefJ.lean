/- References: the document's Count, walked. -/
import Derived.Test.YthhbaccbhfngbaaMc06
import Derived.Deep.RegionHeld3
namespace Go.Proofs.Ythhbaccbhfngbaa
open Go.RowKit

theorem own_frozen {W : World} {base e s n cap g : Nat} {xs : List Value} (h : W.ownsRow base e s (.slice (some ⟨g, 0, none⟩) n cap) n xs) (o : Nat) : W.frozen? ⟨g, o, none⟩ = false := by
  rcases h.2 with ⟨h', _⟩ | ⟨g', cap', cur, h', hb, hg, _⟩
  · simp at h'
  · simp only [Value.slice.injEq, Option.some.injEq, Addr.mk.injEq, and_true, true_and] at h'
    obtain ⟨rfl, rfl⟩ := h'
    exact frozen_of_row _ _ _ _ _ hg
/-- What the first of the three appends leaves alone. -/
theorem app_below {w w2 : World} {uL v1 : Value} {A : List RF} (hL : SrcS RF.enc w uL A) (hL2 : ∀ a c n, uL = .slice (some a) n c → a.block < w.heap.size) (hl : A.length ≤ 100000)
    (hr : (Builtin.append_ #[25, 25] 25 #[.slice (some ⟨w.heap.size, 0, none⟩) 0 0, uL]).run Try.prog (w.alloc (.cells #[] 52)) = .ok v1 w2) : Below w.heap.size w w2 := by
  obtain ⟨i0, hi, hz0, hz1, hz2⟩ := rfInfo
  have b1 : Below w.heap.size w (w.alloc (.cells #[] 52)) := below_new w _
  have hE : (w.alloc (.cells #[] 52)).ownsRow w.heap.size 52 3 (.slice (some ⟨w.heap.size, 0, none⟩) 0 0) ([] : List RF).length (([] : List RF).flatMap RF.enc) := ⟨by simp, .inr ⟨w.heap.size, 0, #[], rfl, Nat.le_refl _, heap_alloc_new w _, Nat.le_refl _, Nat.zero_le _, by simp, by simp⟩⟩
  obtain ⟨v', w', r', _, B', _⟩ := app_src Try.underlying25 hi hz0 hz1 hz2 rfl (by decide) RF.enc_len RF.enc_one hE (src_keep hL hL2 b1) (by simp; unfold maxLen; omega) (by simp; omega) (by simp)
  rw [hr] at r'
  injection r' with e1 e2
  rw [e2]; exact b1.trans B'
set_option maxHeartbeats 8000000 in
set_option maxRecDepth 100000 in
theorem docCount_any {w : World} {e : Int} {v : Value} {C : List CH} (hv : ChsS w v C) (hC : FewC C) :
    Calls Try.prog 9 #[.int .i64 e, v] w fun e' w' => ∃ x, e' = .returned (.tuple #[x, .int .i64 (if rfOk e C = true then 0 else 2)]) ∧ RefS w' x (cntU (rfEnts e C)) ∧ Below w.heap.size w w' := by
  have hA := docAll_any (e := e) hv hC
  obtain ⟨A, c1, rfl, -⟩ := hv
  have HLN := Lib.hid (rfEnts_len (e := e) hC)
  have HNil : Hid (rfOk e C = false → rfEnts e C = []) := Lib.hid (fun h => by unfold rfEnts; rw [h, if_neg (by decide)])
  clear hC
  generalize rfEnts e C = L at hA HLN HNil ⊢
  cases hok : rfOk e C with
  | false =>
    rw [hok] at hA HNil
    have hL := HNil.out rfl
    subst hL
    clear hok
    go_enter Try.func9, Try.ntmps9
    go_wp2_with (go_at_call 26; (with_reducible refine hA.mono ?_); rintro e' w1 ⟨x, rfl, hes, hb1⟩; obtain ⟨xA, xc, rfl, -⟩ := hes; have HB1 := Lib.hid hb1; clear hb1)
    go_ret2
    exact ⟨_, rfl, ⟨none, 0, rfl, Nat.le_refl _, Nat.zero_le _, .inl rfl⟩, HB1.out⟩
  | true =>
    rw [hok] at hA
    clear hok HNil
    obtain ⟨N, hN⟩ : ∃ N, N = L.length := ⟨_, rfl⟩
    have HN := Lib.hid hN
    have hN36 : N ≤ 3600 := by rw [hN]; exact HLN.out
    have HN36 := Lib.hid hN36
    clear hN hN36
    go_enter Try.func9, Try.ntmps9
    go_wp2_with (go_at_call 26; (with_reducible refine hA.mono ?_); rintro e' w1 ⟨x, rfl, hes, hb1⟩; obtain ⟨xA, xc, rfl, hx1, hx2, hx3⟩ := hes; have HK := Lib.hid hx3; have HB1 := Lib.hid hb1; rw [← HN.out]; clear hb1 hx3 hx1 hx2)
    go_loopw [8, 23] (fun vx ix wr => ∃ (j : Nat) (z : Value), j ≤ N ∧ ix = .int .i64 (j : Int) ∧ z = vx ∧ wr.ownsRow w1.heap.size 52 3 z ((L.take j).foldl cntS []).length (((L.take j).foldl cntS []).flatMap RF.enc) ∧ Below w1.heap.size w1 wr) (fun _ ix _ => N - idxOf ix)
    case atStart => exact ⟨0, _, Nat.zero_le _, rfl, rfl, World.ownsRow_nil _ _ _ _, Below.refl _ _⟩
    case round =>
      obtain ⟨j, z, hj, rfl, rfl, ho, hb⟩ := hrel
      have HB := Lib.hid hb
      have HO := Lib.hid ho
      clear hb ho
      by_cases hlt : j < N
      · obtain ⟨g, o, rfl, hglt, hk⟩ := HK.out.resolve_left (by intro e; have := HN.out; rw [e] at this; simp at this; omega)
        have hjL : j < L.length := by rw [← HN.out]; exact hlt
        obtain ⟨c0, c1', c2, c3⟩ := (hk j hjL).below HB.out hglt
        have HNX := Lib.hid (cntU_snoc hjL)
        have hdl : ((L.take j).foldl cntS []).length ≤ 3600 := by
          have h1 := cntU_len (L.take j) []
          have h2 : (L.take j).length ≤ j := List.length_take_le ..
          have := HN36.out
          simp at h1
          omega
        generalize L.getD j EN.zero = y at c0 c1' c2 c3 HNX
        obtain ⟨k, st, mb, fr⟩ := y
        dsimp only at c0 c1' c2 c3
        generalize (L.take j).foldl cntS [] = D at HO HNX hdl ⊢
        have HDL := Lib.hid hdl
        have hi0 : (0 : Int) ≤ (j : Int) := by omega
        have hi1 : (j : Int) < (N : Int) := by omega
        have HJ : Hid (j + 1 ≤ N ∧ N - (j + 1) < N - j) := Lib.hid ⟨hlt, by omega⟩
        have HW := Lib.hid (nextR (j := j) (n := 4000) (by have := HN36.out; omega) (by unfold maxLen; omega))
        obtain ⟨BX, hBX⟩ : ∃ BX, BX = wr.alloc (.cells #[.int .u8 k, .int .i64 st, .int .i64 mb, .int .i64 fr] 50) := ⟨_, rfl⟩
        have hh := heap_alloc_new wr (.cells #[.int .u8 k, .int .i64 st, .int .i64 mb, .int .i64 fr] 50)
        rw [← hBX] at hh
        have hbx : Below wr.heap.size wr BX := by rw [hBX]; exact below_new wr _
        have hszb : wr.heap.size < BX.heap.size := by rw [hBX]; simp
        have x0 : BX.cell? ⟨wr.heap.size, 0, none⟩ = some (.int .u8 k) := by rw [cell_of_row _ _ _ _ _ (0, 0) hh]; rfl
        have x1 : BX.cell? ⟨wr.heap.size, 1, none⟩ = some (.int .i64 st) := by rw [cell_of_row _ _ _ _ _ (0, 0) hh]; rfl
        have x2 : BX.cell? ⟨wr.heap.size, 2, none⟩ = some (.int .i64 mb) := by rw [cell_of_row _ _ _ _ _ (0, 0) hh]; rfl
        have HXX : Hid (∀ W, Below BX.heap.size BX W → W.cell? ⟨wr.heap.size, 1, none⟩ = some (.int .i64 st) ∧ W.cell? ⟨wr.heap.size, 2, none⟩ = some (.int .i64 mb)) := Lib.hid (fun W hb => ⟨(hb.cell (p := ⟨wr.heap.size, 1, none⟩) hszb).trans x1, (hb.cell (p := ⟨wr.heap.size, 2, none⟩) hszb).trans x2⟩)
        have HBX := Lib.hid (HB.out.trans (hbx.mono HB.out.size))
        have HOX := Lib.hid (ownS_keep HO.out hbx)
        obtain ⟨dA, dc, rfl, -, -⟩ := ownS_form HO.out
        clear hk hjL hglt hh hbx hdl x1 x2 hszb
        go_upto_region 8 with fail
        rw [← hBX]
        clear hBX c0 c1' c2 c3
        generalize wr.heap.size = bx at x0 HXX ⊢
        by_cases hk1 : k = 1
        · have hb1 : (k != 1) = false := by rw [hk1]; rfl
          have HK1 := Lib.hid hk1
          clear hk1
          go_wp2
          clear x0 hb1
          go_loopw [11] (fun ix wi => ∃ i : Nat, i ≤ D.length ∧ ix = .int .i64 (i : Int) ∧ (∀ q, q < i → aheadB (D.getD q RF.zero).s (D.getD q RF.zero).m st mb = true) ∧ Below BX.heap.size BX wi) (fun ix _ => D.length - idxOf ix)
          case atStart => exact ⟨0, Nat.zero_le _, rfl, fun q hq => absurd hq (by omega), Below.refl _ _⟩
          case round =>
            obtain ⟨i, hiD, rfl, hlow, hwi⟩ := hrel
            have HLOW := Lib.hid hlow
            have HWI := Lib.hid hwi
            clear hlow hwi
            by_cases hlt2 : i < D.length
            · rcases own_src RF.enc_len HOX.out with ⟨_, h0⟩ | ⟨gd, cap, hz, hgl, hgb, hcap1, hcap2, hcd⟩
              · rw [h0] at hlt2; simp at hlt2
              injection hz with e1 e2 e3
              subst e1
              subst e3
              clear e2
              have HFL : Hid (∀ W, Below BX.heap.size BX W → ∀ q u, (D.flatMap RF.enc)[q]? = some u → W.cell? ⟨gd, q, none⟩ = some u) := Lib.hid (fun W hb q u hu => (hb.cell (p := ⟨gd, q, none⟩) hgl).trans (hcd q u hu))
              have HR0 := Lib.hid (flat_at (z := RF.zero) RF.enc_len D i hlt2)
              have HGL : Hid (gd < BX.heap.size ∧ w1.heap.size ≤ gd ∧ D.length ≤ dc ∧ dc ≤ maxLen) := Lib.hid ⟨hgl, hgb, hcap1, hcap2⟩
              have HI : Hid (i + 1 ≤ D.length ∧ D.length - (i + 1) < D.length - i) := Lib.hid ⟨hlt2, by omega⟩
              have HW2 := Lib.hid (nextR (j := i) (n := 4000) (by have := HDL.out; omega) (by unfold maxLen; omega))
              obtain ⟨p, hp⟩ : ∃ p, p = D.getD i RF.zero := ⟨_, rfl⟩
              have HPD := Lib.hid hp
              rw [← hp] at HR0
              clear hp hcd hgl hgb
              obtain ⟨s1, m1, n1⟩ := p
              have HS : Hid (∀ W, Below BX.heap.size BX W → W.cell? ⟨gd, i * 3, none⟩ = some (.int .i64 s1) ∧ W.cell? ⟨gd, i * 3 + 1, none⟩ = some (.int .i64 m1) ∧ W.cell? ⟨bx, 1, none⟩ = some (.int .i64 st) ∧ W.cell? ⟨bx, 2, none⟩ = some (.int .i64 mb)) := Lib.hid (fun W hb => ⟨HFL.out W hb _ _ (HR0.out 0 (by decide)), HFL.out W hb _ _ (HR0.out 1 (by decide)), (HXX.out W hb).1, (HXX.out W hb).2⟩)
              have HSN : Hid (∀ W, Below BX.heap.size BX W → W.cell? ⟨gd, i * 3 + 2, none⟩ = some (.int .i64 n1)) := Lib.hid (fun W hb => HFL.out W hb _ _ (HR0.out 2 (by decide)))
              have hAh := fun W => docAhead_any s1 m1 st mb W
              have d0 : decide ((i : Int) < (D.length : Int)) = true := decide_eq_true (by omega)
              have d0' : decide (i < D.length) = true := decide_eq_true hlt2
              have hi0' : (0 : Int) ≤ (i : Int) := by omega
              have hi1' : (i : Int) < (D.length : Int) := by omega
              have HAB : Hid (∀ b, b = aheadB s1 m1 st mb → aheadB (D.getD i RF.zero).s (D.getD i RF.zero).m st mb = b) := Lib.hid (fun b hb => by rw [hb, ← HPD.out])
              obtain ⟨e0, e1, e2, e3⟩ := HS.out _ HWI.out
              cases hab : aheadB s1 m1 st mb with
              | true =>
                rw [hab] at hAh HAB
                have HL2 : Hid (∀ q, q < i + 1 → aheadB (D.getD q RF.zero).s (D.getD q RF.zero).m st mb = true) := Lib.hid (fun q hq => by
                  by_cases e : q = i
                  · rw [e]; exact HAB.out _ rfl
                  · exact HLOW.out q (by omega))
                clear hab hlt2
                go_upto_region 10 with fail
                go_cut [43] (fun s43 wx => s43 = .bool true ∧ Below BX.heap.size BX wx)
                case first =>
                  go_region_held3 (fun W => W.cell? ⟨gd, i * 3, none⟩ = some (.int .i64 s1) ∧ W.cell? ⟨gd, i * 3 + 1, none⟩ = some (.int .i64 m1) ∧ W.cell? ⟨bx, 1, none⟩ = some (.int .i64 st) ∧ W.cell? ⟨bx, 2, none⟩ = some (.int .i64 mb)) (first | with_reducible exact HS.out _ HWI.out | with_reducible exact HS.out _ HWI.out.drew | with_reducible exact HS.out _ HB5.out | with_reducible exact HS.out _ HB5.out.drew) (first | (go_at_call 27; (with_reducible refine (hAh _).mono ?_); rintro e w5 ⟨rfl, hb5⟩; have HB5 : Hid (Below BX.heap.size BX w5) := Lib.hid (by first | exact HWI.out.trans (hb5.mono HWI.out.size) | exact HWI.out.drew.trans (hb5.mono HWI.out.size)); clear hb5))
                  all_goals go_wp2_with fail
                  all_goals go_meet
                  all_goals exact ⟨rfl, HB5.out⟩
                case rest =>
                  obtain ⟨rfl, hwx⟩ := hcut
                  have HWX := Lib.hid hwx
                  obtain ⟨hw1, hw2⟩ := HW2.out
                  clear hwx hAh e0 e1 e2 e3 d0
                  go_wp2
                  go_roundw
                  case rel => exact ⟨i + 1, HI.out.1, by go_num, HL2.out, HWX.out⟩
                  case measure => have h := HI.out.2; clear hw1 hw2; simp only [idxOf]; omega
              | false =>
                rw [hab] at hAh HAB
                have HP : Hid (posR D st mb = i) := Lib.hid (tw_len (fun r : RF => aheadB r.s r.m st mb) RF.zero D i hiD HLOW.out (fun _ => HAB.out _ rfl))
                clear hab
                go_upto_region 10 with fail
                go_cut [43] (fun s43 wx => s43 = .bool false ∧ Below BX.heap.size BX wx)
                case first =>
                  go_region_held3 (fun W => W.cell? ⟨gd, i * 3, none⟩ = some (.int .i64 s1) ∧ W.cell? ⟨gd, i * 3 + 1, none⟩ = some (.int .i64 m1) ∧ W.cell? ⟨bx, 1, none⟩ = some (.int .i64 st) ∧ W.cell? ⟨bx, 2, none⟩ = some (.int .i64 mb)) (first | with_reducible exact HS.out _ HWI.out | with_reducible exact HS.out _ HWI.out.drew | with_reducible exact HS.out _ HB5.out | with_reducible exact HS.out _ HB5.out.drew) (first | (go_at_call 27; (with_reducible refine (hAh _).mono ?_); rintro e w5 ⟨rfl, hb5⟩; have HB5 : Hid (Below BX.heap.size BX w5) := Lib.hid (by first | exact HWI.out.trans (hb5.mono HWI.out.size) | exact HWI.out.drew.trans (hb5.mono HWI.out.size)); clear hb5))
                  all_goals go_wp2_with fail
                  all_goals go_meet
                  all_goals exact ⟨rfl, HB5.out⟩
                case rest =>
                  obtain ⟨rfl, hwx⟩ := hcut
                  have HWX := Lib.hid hwx
                  clear hwx hAh e0 e1 e2 e3
                  obtain ⟨e0, e1, e2, e3⟩ := HS.out _ HWX.out
                  have e4 := HSN.out _ HWX.out
                  by_cases heq : s1 = st ∧ m1 = mb
                  · obtain ⟨rfl, rfl⟩ := heq
                    have HE : Hid (cntS D ⟨k, s1, m1, fr⟩ = D.set i ⟨s1, m1, wrap64 (n1 + 1)⟩) := Lib.hid (cntS_hit HK1.out HP.out hlt2 HPD.out.symm)
                    have HFS := Lib.hid (flat_setN D i s1 m1 n1 (wrap64 (n1 + 1)) hlt2 HPD.out.symm)
                    clear hlt2
                    go_upto_region 12 with fail
                    go_quiet (fail)
                    obtain ⟨hw1, hw2⟩ := HW.out
                    have HOW := Lib.hid (ownS_keep HOX.out HWX.out)
                    have hfz := own_frozen HOW.out (i * 3 + 2)
                    clear d0 d0' e0 e1 e2 e3
                    go_wp2
                    go_roundw
                    case measure => have h := HJ.out.2; clear hw1 hw2; simp only [idxOf]; omega
                    case rel =>
                      refine ⟨j + 1, _, HJ.out.1, by go_num, rfl, ?_, ?_⟩
                      · rw [HNX.out, HE.out, List.length_set, HFS.out]
                        exact ((ownS_keep HOX.out (below_drewN HWX.out _)).stored _ _).1
                      · exact (HBX.out.trans ((below_drewN HWX.out _).mono HBX.out.size)).grown ((ownS_keep HOX.out (below_drewN HWX.out _)).stored _ _).2 (Nat.le_trans HBX.out.size (below_drewN HWX.out _).size) (fun k hk => by injection hk with e; rw [← e]; exact HGL.out.2.1)
                  · have HE : Hid (cntS D ⟨k, st, mb, fr⟩ = D.take i ++ [⟨st, mb, 1⟩] ++ D.drop i) := Lib.hid (cntS_lay HK1.out HP.out (fun _ h => heq (by rw [← HPD.out] at h; exact h)))
                    clear hlt2
                    go_upto_region 12 with fail
                    go_cut [59] (fun s59 wx => s59 = .bool false ∧ Below BX.heap.size BX wx)
                    case first =>
                      by_cases hps : s1 = st
                      · subst hps
                        have hpm : (m1 == mb) = false := by rw [beq_eq_false_iff_ne]; exact fun e => heq ⟨rfl, e⟩
                        clear heq
                        go_quiet (fail)
                        go_wp2_with fail
                        go_meet
                        exact ⟨rfl, below_drewN HWX.out _⟩
                      · have hpm : (s1 == st) = false := by rw [beq_eq_false_iff_ne]; exact hps
                        clear heq hps
                        go_quiet (fail)
                        go_wp2_with fail
                        go_meet
                        exact ⟨rfl, below_drewN HWX.out _⟩
                    case rest =>
                      obtain ⟨rfl, hwy⟩ := hcut
                      have HWY := Lib.hid hwy
                      clear hwy e0 e1 e2 e3 e4 d0 d0' heq
                      obtain ⟨v1, w4, r1, v2, w5, r2, v3, w6, r3, hn6, hb6⟩ := ins_rf (uL := .slice (some ⟨gd, 0, none⟩) i dc) (uR := .slice (some ⟨gd, i * 3, none⟩) (D.length - i) (dc - i)) st mb 1 (src_take hiD (HFL.out _ HWY.out)) (fun a c n h => by injection h with h1 _ _; injection h1 with h1; rw [← h1]; exact Nat.lt_of_lt_of_le HGL.out.1 HWY.out.size) (src_drop RF.enc_len hiD (HFL.out _ HWY.out)) (fun a c n h => by injection h with h1 _ _; injection h1 with h1; rw [← h1]; exact Nat.lt_of_lt_of_le HGL.out.1 HWY.out.size) (by rw [List.length_take, List.length_drop, Nat.min_eq_left hiD]; have := HDL.out; omega)
                      obtain ⟨y0, y1⟩ := HXX.out _ (HWY.out.trans ((app_below (uL := .slice (some ⟨gd, 0, none⟩) i dc) (src_take hiD (HFL.out _ HWY.out)) (fun a c n h => by injection h with h1 _ _; injection h1 with h1; rw [← h1]; exact Nat.lt_of_lt_of_le HGL.out.1 HWY.out.size) (by rw [List.length_take, Nat.min_eq_left hiD]; have := HDL.out; omega) r1).mono HWY.out.size))
                      have HR1 := Lib.hid r1
                      have HR2 := Lib.hid r2
                      have HR3 := Lib.hid r3
                      have HSY : Hid (w1.heap.size ≤ _) := Lib.hid (Nat.le_trans HBX.out.size HWY.out.size)
                      have HN6 := Lib.hid (own_lowS hn6 HSY.out)
                      have HB6 : Hid (Below w1.heap.size w1 w6) := Lib.hid ((HBX.out.trans (HWY.out.mono HBX.out.size)).trans (hb6.mono HSY.out))
                      clear r1 r2 r3 hn6 hb6
                      obtain ⟨hw1, hw2⟩ := HW.out
                      obtain ⟨_, _, hc1, hc2⟩ := HGL.out
                      go_wp2_with (first
                        | (at_builtin; (refine Lib.wpList_append_run _ rfl (.tmp 68) (.tmp 71) 25 25 rfl _ _ rfl rfl _ _ HR1.out ?_))
                        | (at_builtin; (refine Lib.wpList_append_run _ rfl (.tmp 73) (.tmp 77) 25 25 rfl _ _ rfl rfl _ _ HR2.out ?_))
                        | (at_builtin; (refine Lib.wpList_append_run _ rfl (.tmp 79) (.tmp 82) 25 25 rfl _ _ rfl rfl _ _ HR3.out ?_)))
                      go_roundw
                      case rel => exact ⟨j + 1, v3, HJ.out.1, by go_num, rfl, by rw [HNX.out, HE.out]; exact HN6.out, HB6.out⟩
                      case measure => have h := HJ.out.2; clear hw1 hw2; simp only [idxOf]; omega
            · obtain rfl : i = D.length := by omega
              have HP : Hid (posR D st mb = D.length) := Lib.hid (tw_len (fun r : RF => aheadB r.s r.m st mb) RF.zero D D.length (Nat.le_refl _) HLOW.out (fun h => absurd h (Nat.lt_irrefl _)))
              have HE : Hid (cntS D ⟨k, st, mb, fr⟩ = D ++ [⟨st, mb, 1⟩] ++ []) := Lib.hid (by rw [cntS_lay HK1.out HP.out (fun h => absurd h (Nat.lt_irrefl _)), List.take_length, List.drop_length])
              have d0 : decide ((D.length : Int) < (D.length : Int)) = false := decide_eq_false (by omega)
              clear hlt2 hiD
              go_upto_region 10 with fail
              go_cut [43] (fun s43 wx => s43 = .bool false ∧ Below BX.heap.size BX wx)
              case first =>
                go_quiet (fail)
                go_wp2_with fail
                go_meet
                exact ⟨rfl, below_drewN HWI.out _⟩
              case rest =>
              obtain ⟨rfl, hwx⟩ := hcut
              have HWX := Lib.hid hwx
              clear hwx
              go_upto_region 12 with fail
              go_cut [59] (fun s59 wx => s59 = .bool false ∧ Below BX.heap.size BX wx)
              case first =>
                go_quiet (fail)
                go_wp2_with fail
                go_meet
                exact ⟨rfl, below_drewN HWX.out _⟩
              case rest =>
              obtain ⟨rfl, hwy⟩ := hcut
              have HWY := Lib.hid hwy
              clear hwy d0
              rcases own_src RF.enc_len HOX.out with ⟨hz, hD⟩ | ⟨gd, cap, hz, hgl, hgb, hcap1, hcap2, hcd⟩
              · injection hz with e1 _ e3
                subst e1
                subst e3
                subst hD
                have sL : SrcS RF.enc wc (.slice none 0 0) ([] : List RF) := (.inl ⟨⟨0, rfl⟩, rfl⟩)
                have lL : ∀ a c n, (.slice none 0 0 : Value) = .slice (some a) n c → a.block < wc.heap.size := (fun a c n h => by cases h)
                have sR : SrcS RF.enc wc (.slice none 0 0) ([] : List RF) := (.inl ⟨⟨0, rfl⟩, rfl⟩)
                have lR : ∀ a c n, (.slice none 0 0 : Value) = .slice (some a) n c → a.block < wc.heap.size := (fun a c n h => by cases h)
                obtain ⟨v1, w4, r1, v2, w5, r2, v3, w6, r3, hn6, hb6⟩ := ins_rf st mb 1 sL lL sR lR (by simp)
                obtain ⟨y0, y1⟩ := HXX.out _ (HWY.out.trans ((app_below sL lL (by simp) r1).mono HWY.out.size))
                have HR1 := Lib.hid r1
                have HR2 := Lib.hid r2
                have HR3 := Lib.hid r3
                have HSY := Lib.hid (Nat.le_trans HBX.out.size HWY.out.size)
                have HN6 := Lib.hid (own_lowS hn6 HSY.out)
                have HB6 : Hid (Below w1.heap.size w1 w6) := Lib.hid ((HBX.out.trans (HWY.out.mono HBX.out.size)).trans (hb6.mono HSY.out))
                clear r1 r2 r3 hn6 hb6 sL lL sR lR
                obtain ⟨hw1, hw2⟩ := HW.out
                go_wp2_with (first
                  | (at_builtin; (refine Lib.wpList_append_run _ rfl (.tmp 68) (.tmp 71) 25 25 rfl _ _ rfl rfl _ _ HR1.out ?_))
                  | (at_builtin; (refine Lib.wpList_append_run _ rfl (.tmp 73) (.tmp 77) 25 25 rfl _ _ rfl rfl _ _ HR2.out ?_))
                  | (at_builtin; (refine Lib.wpList_append_run _ rfl (.tmp 79) (.tmp 82) 25 25 rfl _ _ rfl rfl _ _ HR3.out ?_)))
                go_roundw
                case rel => exact ⟨j + 1, v3, HJ.out.1, by go_num, rfl, by rw [HNX.out, HE.out]; exact HN6.out, HB6.out⟩
                case measure => have h := HJ.out.2; clear hw1 hw2; simp only [idxOf]; omega
              · injection hz with e1 _ e3
                subst e1
                subst e3
                have HFL : Hid (∀ W, Below BX.heap.size BX W → ∀ q u, (D.flatMap RF.enc)[q]? = some u → W.cell? ⟨gd, q, none⟩ = some u) := Lib.hid (fun W hb q u hu => (hb.cell (p := ⟨gd, q, none⟩) hgl).trans (hcd q u hu))
                have HGL := Lib.hid hgl
                clear hcd hgl hgb
                by_cases hic : D.length < dc
                · have dc1 : decide (D.length < dc) = true := decide_eq_true hic
                  have dc2 : (dc == D.length) = false := by rw [beq_eq_false_iff_ne]; omega
                  have dc3 : ¬ dc = D.length := by omega
                  have sL : SrcS RF.enc wc (.slice (some ⟨gd, 0, none⟩) D.length dc) D := (by have h := src_take (c := dc) (Nat.le_refl D.length) (HFL.out _ HWY.out); rw [List.take_length] at h; exact h)
                  have lL : ∀ a c n, (.slice (some ⟨gd, 0, none⟩) D.length dc : Value) = .slice (some a) n c → a.block < wc.heap.size := (fun a c n h => by injection h with h1 _ _; injection h1 with h1; rw [← h1]; exact Nat.lt_of_lt_of_le HGL.out HWY.out.size)
                  have sR : SrcS RF.enc wc (.slice (some ⟨gd, D.length * 3, none⟩) 0 (dc - D.length)) ([] : List RF) := src_none
                  have lR : ∀ a c n, (.slice (some ⟨gd, D.length * 3, none⟩) 0 (dc - D.length) : Value) = .slice (some a) n c → a.block < wc.heap.size := (fun a c n h => by injection h with h1 _ _; injection h1 with h1; rw [← h1]; exact Nat.lt_of_lt_of_le HGL.out HWY.out.size)
                  obtain ⟨v1, w4, r1, v2, w5, r2, v3, w6, r3, hn6, hb6⟩ := ins_rf st mb 1 sL lL sR lR (by have := HDL.out; simp; omega)
                  obtain ⟨y0, y1⟩ := HXX.out _ (HWY.out.trans ((app_below sL lL (by have := HDL.out; simp; omega) r1).mono HWY.out.size))
                  have HR1 := Lib.hid r1
                  have HR2 := Lib.hid r2
                  have HR3 := Lib.hid r3
                  have HSY := Lib.hid (Nat.le_trans HBX.out.size HWY.out.size)
                  have HN6 := Lib.hid (own_lowS hn6 HSY.out)
                  have HB6 : Hid (Below w1.heap.size w1 w6) := Lib.hid ((HBX.out.trans (HWY.out.mono HBX.out.size)).trans (hb6.mono HSY.out))
                  clear r1 r2 r3 hn6 hb6 sL lL sR lR
                  obtain ⟨hw1, hw2⟩ := HW.out
                  go_wp2_with (first
                    | (at_builtin; (refine Lib.wpList_append_run _ rfl (.tmp 68) (.tmp 71) 25 25 rfl _ _ rfl rfl _ _ HR1.out ?_))
                    | (at_builtin; (refine Lib.wpList_append_run _ rfl (.tmp 73) (.tmp 77) 25 25 rfl _ _ rfl rfl _ _ HR2.out ?_))
                    | (at_builtin; (refine Lib.wpList_append_run _ rfl (.tmp 79) (.tmp 82) 25 25 rfl _ _ rfl rfl _ _ HR3.out ?_)))
                  go_roundw
                  case rel => exact ⟨j + 1, v3, HJ.out.1, by go_num, rfl, by rw [HNX.out, HE.out]; exact HN6.out, HB6.out⟩
                  case measure => have h := HJ.out.2; clear hw1 hw2; simp only [idxOf]; omega
                · obtain rfl : dc = D.length := by omega
                  clear hic hcap1
                  have sL : SrcS RF.enc wc (.slice (some ⟨gd, 0, none⟩) D.length D.length) D := (by have h := src_take (c := D.length) (Nat.le_refl D.length) (HFL.out _ HWY.out); rw [List.take_length] at h; exact h)
                  have lL : ∀ a c n, (.slice (some ⟨gd, 0, none⟩) D.length D.length : Value) = .slice (some a) n c → a.block < wc.heap.size := (fun a c n h => by injection h with h1 _ _; injection h1 with h1; rw [← h1]; exact Nat.lt_of_lt_of_le HGL.out HWY.out.size)
                  have sR : SrcS RF.enc wc (.slice (some ⟨gd, 0, none⟩) 0 0) ([] : List RF) := src_none
                  have lR : ∀ a c n, (.slice (some ⟨gd, 0, none⟩) 0 0 : Value) = .slice (some a) n c → a.block < wc.heap.size := (fun a c n h => by injection h with h1 _ _; injection h1 with h1; rw [← h1]; exact Nat.lt_of_lt_of_le HGL.out HWY.out.size)
                  obtain ⟨v1, w4, r1, v2, w5, r2, v3, w6, r3, hn6, hb6⟩ := ins_rf st mb 1 sL lL sR lR (by have := HDL.out; simp; omega)
                  obtain ⟨y0, y1⟩ := HXX.out _ (HWY.out.trans ((app_below sL lL (by have := HDL.out; simp; omega) r1).mono HWY.out.size))
                  have HR1 := Lib.hid r1
                  have HR2 := Lib.hid r2
                  have HR3 := Lib.hid r3
                  have HSY := Lib.hid (Nat.le_trans HBX.out.size HWY.out.size)
                  have HN6 := Lib.hid (own_lowS hn6 HSY.out)
                  have HB6 : Hid (Below w1.heap.size w1 w6) := Lib.hid ((HBX.out.trans (HWY.out.mono HBX.out.size)).trans (hb6.mono HSY.out))
                  clear r1 r2 r3 hn6 hb6 sL lL sR lR
                  obtain ⟨hw1, hw2⟩ := HW.out
                  go_wp2_with (first
                    | (at_builtin; (refine Lib.wpList_append_run _ rfl (.tmp 68) (.tmp 71) 25 25 rfl _ _ rfl rfl _ _ HR1.out ?_))
                    | (at_builtin; (refine Lib.wpList_append_run _ rfl (.tmp 73) (.tmp 77) 25 25 rfl _ _ rfl rfl _ _ HR2.out ?_))
                    | (at_builtin; (refine Lib.wpList_append_run _ rfl (.tmp 79) (.tmp 82) 25 25 rfl _ _ rfl rfl _ _ HR3.out ?_)))
                  go_roundw
                  case rel => exact ⟨j + 1, v3, HJ.out.1, by go_num, rfl, by rw [HNX.out, HE.out]; exact HN6.out, HB6.out⟩
                  case measure => have h := HJ.out.2; clear hw1 hw2; simp only [idxOf]; omega
        · have hb1 : (k != 1) = true := by rw [bne_iff_ne]; exact hk1
          have HE : Hid (cntS D ⟨k, st, mb, fr⟩ = D) := Lib.hid (cntS_no hk1)
          clear hk1
          obtain ⟨hw1, hw2⟩ := HW.out
          go_wp2
          go_roundw
          case rel => exact ⟨j + 1, _, HJ.out.1, by go_num, rfl, by rw [HNX.out, HE.out]; exact HOX.out, HBX.out⟩
          case measure => have h := HJ.out.2; clear hw1 hw2; simp only [idxOf]; omega
      · obtain rfl : j = N := by omega
        have hno : ¬ ((j : Int) < (j : Int)) := by omega
        have e1 : L.take j = L := by rw [HN.out, List.take_length]
        rw [e1] at HO
        have HR : Hid (RefS wr z (cntU L)) := Lib.hid (StS.of_own RF.enc_len HO.out)
        have HR2 := Lib.hid (ownS_form HO.out)
        clear e1
        go_wp2
        go_ret2
        exact ⟨_, rfl, HR.out, HB1.out.trans (HB.out.mono HB1.out.size)⟩
end Go.Proofs.Ythhbaccbhfngbaa
