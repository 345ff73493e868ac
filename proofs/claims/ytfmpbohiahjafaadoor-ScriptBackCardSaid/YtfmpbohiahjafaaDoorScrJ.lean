/- Scripts: the program's line of a setup. -/
import Derived.Test.YtfmpbohiahjafaaDoorScrH
import Derived.Test.YtfmpbohiahjafaaDoorScrI
namespace Go.Proofs.YtfmpbohiahjafaaDoor
open Go.RowKit Go.Lib Go.Shelf Go.Sort

def SUok (c : SU) : Prop := I6 c.s ∧ I6 c.k ∧ I6 c.m ∧ I6 c.c ∧ I6 c.l
def SU.nums (c : SU) : List Int := [c.s, c.k, c.m, c.c, c.l]
theorem suIdx (n0 n1 n2 n3 n4 : Int) (i : Nat) (hi : i < 5) (W : World) : (Instr.index 97 (.agg #[.int .i64 n0, .int .i64 n1, .int .i64 n2, .int .i64 n3, .int .i64 n4]) (.int .i64 (i : Int))).run Tryd.prog W = .ok (.int .i64 ([n0, n1, n2, n3, n4].getD i 0)) W := by
  match i, hi with
  | 0, _ => show _ = _; kernel_rfl
  | 1, _ => show _ = _; kernel_rfl
  | 2, _ => show _ = _; kernel_rfl
  | 3, _ => show _ = _; kernel_rfl
  | 4, _ => show _ = _; kernel_rfl
theorem suT_len {c : SU} (h : SUok c) : (suT c).length ≤ 1000 := by
  have hb : ∀ n, I6 n → (itoa n).length ≤ 21 := fun n hn => Lib.itoa_length_le _ hn.1 hn.2
  have := jn_len 32 21 (suW c) (by
    intro a ha
    unfold suW at ha
    simp only [List.map_cons, List.map_nil, List.mem_cons, List.not_mem_nil, or_false] at ha
    rcases ha with rfl | rfl | rfl | rfl | rfl | rfl
    · decide
    · exact hb _ h.1
    · exact hb _ h.2.1
    · exact hb _ h.2.2.1
    · exact hb _ h.2.2.2.1
    · exact hb _ h.2.2.2.2)
  have e : (suW c).length = 6 := rfl
  rw [e] at this
  unfold suT
  omega
/-- What setupLine answers. -/
def LSAns (c : SU) (e : Ending) : Prop := (∃ l, lnS c = some l ∧ e = .returned (.tuple #[Bs l, .int .i64 0])) ∨ lnS c = none ∧ e = .returned (.tuple #[Bs [], .int .i64 2])
set_option maxHeartbeats 16000000 in
set_option maxRecDepth 100000 in
theorem setupLine_any {c : SU} (hok : SUok c) {w : World} (hD : ScW w) :
    Calls Tryd.prog 46 #[.agg c.enc.toArray] w fun e w' => LSAns c e ∧ Below w.heap.size w w' := by
  obtain ⟨n0, n1, n2, n3, n4⟩ := c
  obtain ⟨C, hCC⟩ : ∃ C : SU, C = ⟨n0, n1, n2, n3, n4⟩ := ⟨_, rfl⟩
  obtain ⟨w1, hw1⟩ : ∃ w1, w1 = w.alloc (.cells #[.int .i64 n0, .int .i64 n1, .int .i64 n2, .int .i64 n3, .int .i64 n4] 35) := ⟨_, rfl⟩
  have HB1 : Hid (Below w.heap.size w w1) := Lib.hid (by rw [hw1]; exact below_new w _)
  obtain ⟨x0, x1, x2, x3, x4⟩ := new5 w (.int .i64 n0) (.int .i64 n1) (.int .i64 n2) (.int .i64 n3) (.int .i64 n4) 35
  rw [← hw1] at x0 x1 x2 x3 x4
  have HD := Lib.hid (hD.below HB1.out)
  have HW1 := Lib.hid hw1
  have HSM : Hid (∀ i, i < 5 → I6 ([n0, n1, n2, n3, n4].getD i 0)) := Lib.hid (fun i hi => by
    match i, hi with
    | 0, _ => exact hok.1
    | 1, _ => exact hok.2.1
    | 2, _ => exact hok.2.2.1
    | 3, _ => exact hok.2.2.2.1
    | 4, _ => exact hok.2.2.2.2)
  have HLT : Hid (suT C = jn 32 (imgW :: [n0, n1, n2, n3, n4].map itoa) ∧ (suT C).length ≤ 1000) := Lib.hid ⟨by rw [hCC]; rfl, by rw [hCC]; exact suT_len hok⟩
  have HLS : Hid (lnS C = if (psS (suT C)).isSome = true then some (suT C) else none) := Lib.hid rfl
  change Calls _ _ #[.agg #[.int .i64 n0, .int .i64 n1, .int .i64 n2, .int .i64 n3, .int .i64 n4]] _ (fun e w' => LSAns ⟨n0, n1, n2, n3, n4⟩ e ∧ Below w.heap.size w w')
  rw [← hCC]
  have HIX := Lib.hid (suIdx n0 n1 n2 n3 n4)
  clear hw1 hD hok hCC
  go_enter Tryd.func46, Tryd.ntmps46
  go_upto_region 1 with fail
  rw [← HW1.out]
  go_upto_region 2 with fail
  have HO2 : Hid ((w1.alloc (.cells #[Bs imgW] 9)).ownsRow w1.heap.size 9 1 (.slice (some ⟨w1.heap.size, 0, none⟩) 1 1) [imgW].length ([imgW].flatMap encB)) := Lib.hid (World.ownsRow_lit w1 #[Bs imgW] 1 (Nat.le_refl _) (by unfold maxLen; omega) rfl)
  have HB2 := Lib.hid (below_new w1 (.cells #[Bs imgW] 9))
  replace x0 := cell_keep HB2.out x0
  replace x1 := cell_keep HB2.out x1
  replace x2 := cell_keep HB2.out x2
  replace x3 := cell_keep HB2.out x3
  replace x4 := cell_keep HB2.out x4
  change Hid ((w1.alloc (.cells #[.string ⟨#[105, 109, 97, 103, 101]⟩] 9)).ownsRow w1.heap.size 9 1 (.slice (some ⟨w1.heap.size, 0, none⟩) 1 1) [imgW].length ([imgW].flatMap encB)) at HO2
  change Hid (Below w1.heap.size w1 (w1.alloc (.cells #[.string ⟨#[105, 109, 97, 103, 101]⟩] 9))) at HB2
  change (w1.alloc (.cells #[.string ⟨#[105, 109, 97, 103, 101]⟩] 9)).cell? _ = _ at x0 x1 x2 x3 x4
  generalize w1.alloc (.cells #[.string ⟨#[105, 109, 97, 103, 101]⟩] 9) = w2 at HO2 HB2 x0 x1 x2 x3 x4 ⊢
  go_upto_region 3 with fail
  clear x0 x1 x2 x3 x4
  obtain ⟨A, hA⟩ : ∃ A : Array Value, A = #[.int .i64 n0, .int .i64 n1, .int .i64 n2, .int .i64 n3, .int .i64 n4] := ⟨_, rfl⟩
  obtain ⟨N, hN⟩ : ∃ N : List Int, N = [n0, n1, n2, n3, n4] := ⟨_, rfl⟩
  have HNL : Hid (N.length = 5) := Lib.hid (by rw [hN]; rfl)
  rw [← hA, ← hN] at HIX
  rw [← hN] at HSM HLT
  rw [← hA]
  clear hA hN
  go_loopw [4, 6, 26] (fun vx _ ix wr => ∃ (j : Nat) (z : Value), ix = .int .i64 (j : Int) ∧ z = vx ∧ j ≤ 5 ∧ wr.ownsRow w1.heap.size 9 1 z (imgW :: (N.take j).map itoa).length ((imgW :: (N.take j).map itoa).flatMap encB) ∧ Below w1.heap.size w1 wr) (fun _ _ ix _ => 5 - (RowKit.intOf ix).toNat)
  case atStart => exact ⟨0, _, rfl, rfl, by omega, HO2.out, HB2.out⟩
  case round =>
    obtain ⟨j, z, rfl, rfl, hj, ho, hb⟩ := hrel
    have HO := Lib.hid ho
    have HB := Lib.hid hb
    clear ho hb
    by_cases hlt : j < 5
    · have k1 : decide ((j : Int) < 5) = true := decide_eq_true (by omega)
      have k2 : (j : Int) < 5 := by omega
      have hix := HIX.out j hlt
      have hte := itoaI_any (HSM.out j hlt) (HD.out.below HB.out)
      obtain ⟨P, hP⟩ : ∃ P, P = imgW :: (N.take j).map itoa := ⟨_, rfl⟩
      have HPN : Hid (P.length = j + 1 ∧ imgW :: (N.take (j + 1)).map itoa = P ++ [itoa (N.getD j 0)]) := Lib.hid (by
        rw [hP]
        have hl := HNL.out
        refine ⟨by rw [List.length_cons, List.length_map, List.length_take]; omega, ?_⟩
        rw [List.take_succ_eq_append_getElem (by omega), List.map_append, List.getD, List.getElem?_eq_getElem (by omega)]
        rfl)
      rw [← hP] at HO
      generalize N.getD j 0 = xj at hte hix HPN
      obtain ⟨wd, hwd⟩ : ∃ wd, wd = itoa xj := ⟨_, rfl⟩
      rw [← hwd] at hte HPN
      have hw1 : wrap64 ((j : Int) + 1) = (j : Int) + 1 := by unfold wrap64; omega
      have HW1' := Lib.hid hw1
      have HJ := Lib.hid hlt
      have HLN : Hid (P.length + 1 ≤ maxLen ∧ (P.length + 1) * 16 ≤ 140737488355328) := Lib.hid (by rw [HPN.out.1]; unfold maxLen; omega)
      have HBW : Hid (w1.heap.size ≤ wr.heap.size) := Lib.hid HB.out.size
      obtain ⟨i0, z0, hi0, hz0, hz1, hz2⟩ := strInf
      clear hP hwd hw1
      go_wp2_with (first
        | (go_at_call 35; (with_reducible refine hte.mono ?_); rintro e w6 ⟨rfl, hb6⟩; have HB6 : Hid (Below w1.heap.size w1 (w6.alloc (.cells #[Bs wd] 9))) := Lib.hid ((HB.out.trans (hb6.mono HBW.out)).alloc (Nat.le_trans HBW.out hb6.size) _); have HO6 := Lib.hid (ownS_keep (ownS_keep HO.out hb6) (below_new w6 (.cells #[Bs wd] 9))); clear hb6)
        | (at_builtin; (refine wpList_append_own_at _ rfl _ _ 47 rfl w1.heap.size 9 i0 _ 1 16 Tryd.underlying47 hi0 hz0 hz1 hz2 rfl (by decide) z P.length (P.flatMap encB) rfl HO6.out ⟨w6.heap.size, 0, none⟩ 1 1 [Bs wd] rfl rfl (new_cells w6 [Bs wd] _) (one_str _) HLN.out.1 HLN.out.2 HB6.out.size ?_); intro v' w7 ho7 hg7 _ hat7; have HB7 : Hid (Below w1.heap.size w1 w7) := Lib.hid (HB6.out.grown hg7 HB6.out.size (fun g hg => (World.ownsRow.lt HO6.out g hg).1)); have HO7 := Lib.hid ho7; clear ho7 hg7 hat7))
      (try rw [HW1'.out])
      go_roundw
      case rel =>
        refine ⟨j + 1, _, by go_num, rfl, HJ.out, ?_, HB7.out⟩
        rw [HPN.out.2, List.length_append, List.length_singleton, flat_snocB]
        exact HO7.out
      case measure => simp only [RowKit.intOf]; have := HJ.out; omega
    · have k1 : decide ((j : Int) < 5) = false := decide_eq_false (by omega)
      have k1n : ¬ (j : Int) < 5 := by omega
      have htk : N.take j = N := List.take_of_length_le (by rw [HNL.out]; omega)
      rw [htk] at HO
      obtain ⟨P, hP⟩ : ∃ P, P = imgW :: N.map itoa := ⟨_, rfl⟩
      rw [← hP] at HO HLT
      obtain ⟨g, cap, hzv, hws, hc1, hc2⟩ := ws_own HO.out (by rw [hP]; simp)
      have hPl : P.length = 6 := by rw [hP, List.length_cons, List.length_map, HNL.out]
      have hj := join_any (n := P.length) (c := cap) rfl (by omega) hc1 (by have := HLT.out.2; rw [HLT.out.1] at this; omega) hws
      rw [← HLT.out.1] at hj
      subst hzv
      have HSA : Hid (∀ W, Below wr.heap.size wr W → _) := Lib.hid (fun W hb => toSetup_any (l := suT C) (by have := HLT.out.2; omega) (w := W) ((HD.out.below HB.out).below hb))
      obtain ⟨L, hL⟩ : ∃ L, L = suT C := ⟨_, rfl⟩
      rw [← hL] at hj HSA HLS
      have HBW : Hid (w1.heap.size ≤ wr.heap.size) := Lib.hid HB.out.size
      unfold SAns at HSA
      clear hL hP htk hPl hws hc1 hc2
      cases hps : psS L with
      | none =>
        rw [hps, if_neg (by decide)] at HLS
        have HPB : Hid (∀ W, Below wr.heap.size wr W → Calls Tryd.prog 31 #[.string ⟨L.toArray⟩] W fun e w' => e = .returned (.tuple #[.agg #[.int .i64 0, .int .i64 0, .int .i64 0, .int .i64 0, .int .i64 0], .bool false]) ∧ Below W.heap.size W w') := Lib.hid (fun W hb => (HSA.out W hb).mono (fun e w' h => by
          rcases h with ⟨⟨d, h1, _⟩ | ⟨_, h2⟩, h3⟩
          · rw [hps] at h1; cases h1
          · exact ⟨h2, h3⟩))
        clear HSA hps
        go_wp2_with (first
          | (go_at_call 18; (with_reducible refine hj.mono ?_); rintro e w6 ⟨rfl, hb6⟩; have hPx := HPB.out w6 hb6; have HB6 : Hid (Below w1.heap.size w1 w6) := Lib.hid (HB.out.trans (hb6.mono HBW.out)); clear hb6)
          | (go_at_call 31; (with_reducible refine hPx.mono ?_); rintro e w7 ⟨rfl, hb7⟩; have HB7 : Hid (Below w1.heap.size w1 w7) := Lib.hid (HB6.out.trans (hb7.mono HB6.out.size)); clear hb7))
        go_ret2
        exact ⟨.inr ⟨HLS.out, rfl⟩, HB1.out.trans ((HB7.out.alloc HB7.out.size _).mono HB1.out.size)⟩
      | some d2 =>
        rw [hps, if_pos (show (some d2).isSome = true from rfl)] at HLS
        have HPB : Hid (∀ W, Below wr.heap.size wr W → Calls Tryd.prog 31 #[.string ⟨L.toArray⟩] W fun e w' => e = .returned (.tuple #[.agg d2.enc.toArray, .bool true]) ∧ Below W.heap.size W w') := Lib.hid (fun W hb => (HSA.out W hb).mono (fun e w' h => by
          rcases h with ⟨⟨d, h1, h2⟩ | ⟨h1, _⟩, h3⟩
          · rw [hps] at h1; injection h1 with h1; subst h1; exact ⟨h2, h3⟩
          · rw [hps] at h1; cases h1))
        clear HSA hps
        unfold SU.enc at HPB
        (try dsimp only at HPB)
        go_wp2_with (first
          | (go_at_call 18; (with_reducible refine hj.mono ?_); rintro e w6 ⟨rfl, hb6⟩; have hPx := HPB.out w6 hb6; have HB6 : Hid (Below w1.heap.size w1 w6) := Lib.hid (HB.out.trans (hb6.mono HBW.out)); clear hb6)
          | (go_at_call 31; (with_reducible refine hPx.mono ?_); rintro e w7 ⟨rfl, hb7⟩; have HB7 : Hid (Below w1.heap.size w1 w7) := Lib.hid (HB6.out.trans (hb7.mono HB6.out.size)); clear hb7))
        go_ret2
        exact ⟨.inl ⟨L, HLS.out, rfl⟩, HB1.out.trans ((HB7.out.alloc HB7.out.size _).mono HB1.out.size)⟩
end Go.Proofs.YtfmpbohiahjafaaDoor
