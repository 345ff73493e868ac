/- Scripts: the program's line of a deed. -/
import Derived.Test.YtfmpbohiahjafaaDoorScrG
import Derived.Test.YtfmpbohiahjafaaDoorIns
namespace Go.Proofs.YtfmpbohiahjafaaDoor
open Go.RowKit Go.Lib Go.Shelf Go.Sort

def encB (x : List UInt8) : List Value := [Bs x]
theorem encB_len (x : List UInt8) : (encB x).length = 1 := rfl
theorem strInf : ∃ i z, Tryd.prog.info? 9 = some i ∧ i.zero = some (.string z) ∧ i.size = 1 ∧ i.bytes = 16 := by
  have e : (Tryd.prog.info? 9).map (fun i => (i.zero, i.size, i.bytes)) = some (some (.string ByteArray.empty), 1, 16) := by kernel_rfl
  obtain ⟨i, hi, hz⟩ := Option.map_eq_some_iff.1 e
  simp only [Prod.mk.injEq] at hz
  exact ⟨i, _, hi, hz.1, hz.2.1, hz.2.2⟩
theorem flat_snocB (P : List (List UInt8)) (x : List UInt8) : (P ++ [x]).flatMap encB = P.flatMap encB ++ [Bs x] := flat_snoc P x
theorem one_str (s : List UInt8) : ∀ u ∈ ([Bs s] : List Value), u.oneCell' = true := by
  intro u hu
  rw [List.mem_singleton] at hu
  rw [hu]; rfl
/-- Words in a row of a call's own. -/
theorem ws_own {W : World} {B t : Nat} {v : Value} {P : List (List UInt8)} (h : W.ownsRow B t 1 v P.length (P.flatMap encB)) (hP : P ≠ []) : ∃ g cap, v = .slice (some ⟨g, 0, none⟩) P.length cap ∧ WsAt W g P ∧ P.length ≤ cap ∧ cap ≤ maxLen := by
  rcases own_src encB_len h with ⟨_, h⟩ | ⟨g, cap, hv, hgl, hgb, hc1, hc2, hcd⟩
  · exact absurd h hP
  · refine ⟨g, cap, hv, ⟨hgl, fun j hj => hcd j _ ?_⟩, hc1, hc2⟩
    clear hcd hv h hP hc1
    induction P generalizing j with
    | nil => simp at hj
    | cons a r ih =>
      cases j with
      | zero => rfl
      | succ j => exact ih j (by simpa using hj)
theorem kWd_len : ∀ k, k < 19 → (kWd k).length ≤ 8 := by decide
theorem tellW_len {d : DD} (hok : DDok d) (ht : d.t.length ≤ 8192) (x : Int) : (tellW d x).length ≤ 16384 := by
  obtain ⟨_, _, ha, hb, hn⟩ := hok
  unfold tellW
  split
  · have := Lib.itoa_length_le _ ha.1 ha.2; omega
  split
  · have := Lib.itoa_length_le _ hb.1 hb.2; omega
  split
  · have := Lib.itoa_length_le _ hn.1 hn.2; omega
  · unfold texW
    split
    · simp
    · rw [hexW_len]; omega
theorem jn_len (c : UInt8) (M : Nat) : ∀ (L : List (List UInt8)), (∀ a ∈ L, a.length ≤ M) → (jn c L).length ≤ L.length * (M + 1)
  | [], _ => by simp [jn]
  | [a], h => by
    have := h a (List.mem_cons_self ..)
    rw [jn_one, List.length_singleton, Nat.one_mul]; omega
  | a :: b :: r, h => by
    have h1 := h a (List.mem_cons_self ..)
    have ih := jn_len c M (b :: r) (fun x hx => h x (List.mem_cons_of_mem _ hx))
    rw [jn_cons, List.length_append, List.length_cons, List.length_cons, Nat.succ_mul]
    omega
theorem lnT_len {d : DD} (hok : DDok d) (hk : d.k < 19) (ht : d.t.length ≤ 8192) : (lnT d).length ≤ 100000 := by
  have hk2 : d.k.toNat < 19 := by have := hok.1; omega
  have h := jn_len 32 16384 (kWd d.k.toNat :: (kTl d.k.toNat).map (tellW d)) (by
    intro a ha
    rcases List.mem_cons.1 ha with rfl | ha
    · have := kWd_len _ hk2; omega
    · obtain ⟨x, _, rfl⟩ := List.mem_map.1 ha
      exact tellW_len hok ht x)
  have h3 := (kTw_is _ hk2).1
  unfold kTn at h3
  rw [List.length_cons, List.length_map] at h
  have h4 : ((kTl d.k.toNat).length + 1) * (16384 + 1) ≤ 4 * 16385 := Nat.mul_le_mul (by omega) (Nat.le_refl _)
  unfold lnT
  omega
/-- What Line answers. -/
def LAns (d : DD) (e : Ending) : Prop := (∃ l, lnD d = some l ∧ e = .returned (.tuple #[Bs l, .int .i64 0])) ∨ lnD d = none ∧ e = .returned (.tuple #[Bs [], .int .i64 2])
set_option maxHeartbeats 16000000 in
set_option maxRecDepth 100000 in
theorem line_any {d : DD} (hok : DDok d) {w : World} (hD : ScW w) :
    Calls Tryd.prog 7 #[.agg d.enc.toArray] w fun e w' => LAns d e ∧ Below w.heap.size w w' := by
  obtain ⟨dk, a, b, n, t⟩ := d
  obtain ⟨D, hDD⟩ : ∃ D : DD, D = ⟨dk, a, b, n, t⟩ := ⟨_, rfl⟩
  obtain ⟨w1, hw1⟩ : ∃ w1, w1 = w.alloc (.cells #[.int .u8 dk, .int .i64 a, .int .i64 b, .int .i64 n, Bs t] 24) := ⟨_, rfl⟩
  have HB1 : Hid (Below w.heap.size w w1) := Lib.hid (by rw [hw1]; exact below_new w _)
  have HD1 : Hid (DB w1 w.heap.size D) := Lib.hid (by rw [hw1, hDD]; exact DB.new w ⟨dk, a, b, n, t⟩ _)
  have HSZ : Hid (w.heap.size < w1.heap.size) := Lib.hid HD1.out.lt
  have HD := Lib.hid (hD.below HB1.out)
  have HW1 := Lib.hid hw1
  have HDD := Lib.hid hDD
  change Calls _ _ #[.agg #[.int .u8 dk, .int .i64 a, .int .i64 b, .int .i64 n, Bs t]] _ (fun e w' => LAns ⟨dk, a, b, n, t⟩ e ∧ Below w.heap.size w w')
  rw [← hDD] at hok ⊢
  obtain ⟨x0, x1, x2, x3, x4⟩ : w1.cell? ⟨w.heap.size, 0, none⟩ = some (.int .u8 dk) ∧ w1.cell? ⟨w.heap.size, 1, none⟩ = some (.int .i64 a) ∧ w1.cell? ⟨w.heap.size, 2, none⟩ = some (.int .i64 b) ∧ w1.cell? ⟨w.heap.size, 3, none⟩ = some (.int .i64 n) ∧ w1.cell? ⟨w.heap.size, 4, none⟩ = some (Bs t) := by
    have h := HD1.out
    rw [hDD] at h
    exact ⟨h.c0, h.c1, h.c2, h.c3, h.c4⟩
  have eDk : D.k = dk := by rw [hDD]
  have eDt : D.t = t := by rw [hDD]
  clear hw1 hD hDD
  by_cases hk : 19 ≤ dk
  · have d1 : decide ((19 : Int) ≤ dk) = true := decide_eq_true hk
    have HNO : Hid (lnD D = none) := Lib.hid (by unfold lnD; rw [if_neg (by omega)])
    clear hok eDk eDt
    go_enter Tryd.func7, Tryd.ntmps7
    go_upto_region 1 with fail
    rw [← HW1.out]
    go_wp2
    go_ret2
    exact ⟨.inr ⟨HNO.out, rfl⟩, HB1.out⟩
  have d1 : decide ((19 : Int) ≤ dk) = false := decide_eq_false hk
  by_cases ht : 8192 < t.length
  · have d2 : decide ((8192 : Int) < (t.length : Int)) = true := decide_eq_true (by omega)
    have HNO : Hid (lnD D = none) := Lib.hid (by unfold lnD; rw [eDt, if_neg (by omega)])
    clear hok eDk eDt
    go_enter Tryd.func7, Tryd.ntmps7
    go_upto_region 1 with fail
    rw [← HW1.out]
    go_wp2
    go_ret2
    exact ⟨.inr ⟨HNO.out, rfl⟩, HB1.out⟩
  have d2 : decide ((8192 : Int) < (t.length : Int)) = false := decide_eq_false (by omega)
  obtain ⟨k, rfl⟩ : ∃ k : Nat, dk = (k : Int) := ⟨dk.toNat, by have := hok.1; omega⟩
  have hk19 : k < 19 := by omega
  have HK19 := Lib.hid hk19
  obtain ⟨s0, -, -, -⟩ := HD.out.shape hk19
  have e1 : (k : Int) < 19 := by omega
  have e2 : (0 : Int) ≤ (k : Int) := by omega
  have HLT : Hid (lnT D = jn 32 (kWd k :: (kTl k).map (tellW D)) ∧ (lnT D).length ≤ 100000 ∧ DDok D ∧ D.t.length ≤ 8192) := Lib.hid ⟨by unfold lnT; rw [eDk, Int.toNat_natCast], lnT_len hok (by omega) (by rw [eDt]; omega), hok, by rw [eDt]; omega⟩
  have hp := parts_any hk19 (w := w1.alloc (.cells #[Bs (kWd k)] 9)) (HD.out.below (below_new w1 _))
  have HLD : Hid (lnD D = if psD (lnT D) = some D then some (lnT D) else none) := Lib.hid (by
    unfold lnD
    by_cases h : psD (lnT D) = some D
    · rw [if_pos ⟨by omega, by rw [eDt]; omega, h⟩, if_pos h]
    · rw [if_neg (fun h2 => h h2.2.2), if_neg h])
  clear hk ht hok eDk eDt
  go_enter Tryd.func7, Tryd.ntmps7
  go_upto_region 1 with fail
  rw [← HW1.out]
  go_upto_region 4 with fail
  have HO2 : Hid ((w1.alloc (.cells #[Bs (kWd k)] 9)).ownsRow w1.heap.size 9 1 (.slice (some ⟨w1.heap.size, 0, none⟩) 1 1) [kWd k].length ([kWd k].flatMap encB)) := Lib.hid (World.ownsRow_lit w1 #[Bs (kWd k)] 1 (Nat.le_refl _) (by unfold maxLen; omega) rfl)
  have HB2 := Lib.hid (below_new w1 (.cells #[Bs (kWd k)] 9))
  have HS2 : Hid ((w1.alloc (.cells #[Bs (kWd k)] 9)).heap.size = w1.heap.size + 1) := Lib.hid (by simp)
  have y0 := cell_keep HB2.out x0
  generalize w1.alloc (.cells #[Bs (kWd k)] 9) = w2 at hp HO2 HB2 HS2 y0 ⊢
  clear x0 x1 x2 x3 x4 s0
  go_upto_region 5 with (go_at_call 16; (with_reducible refine hp.mono ?_); rintro e w5 ⟨bT, cT, rfl, hns, hn3, hcT, hcT2, hbT, hb5⟩; have HB5 := Lib.hid hb5; have HNS := Lib.hid hns; have HCT := Lib.hid (And.intro hn3 (And.intro hcT hcT2)); have HBT := Lib.hid hbT; clear hns hn3 hcT hcT2 hbT hb5)
  have HO5 := Lib.hid (ownS_keep HO2.out HB5.out)
  have HBB : Hid (Below w1.heap.size w1 w5) := Lib.hid (HB2.out.trans (HB5.out.mono HB2.out.size))
  have HT1 : Hid (bT ≠ w1.heap.size ∧ w1.heap.size ≤ bT) := Lib.hid (by have h1 := HBT.out; have h2 := HS2.out; omega)
  obtain ⟨m, hm⟩ : ∃ m, m = (kTl k).length := ⟨_, rfl⟩
  have HTn := Lib.hid hm
  rw [← hm] at HCT ⊢
  clear hm y0 HO2 HB2 HB5 HS2 HBT d1 d2 e1 e2 hp
  go_loopw [4, 6, 29] (fun vx _ ix wr => ∃ (j : Nat) (z : Value), ix = .int .i64 (j : Int) ∧ z = vx ∧ j ≤ m ∧ wr.ownsRow w1.heap.size 9 1 z (kWd k :: ((kTl k).take j).map (tellW D)).length ((kWd k :: ((kTl k).take j).map (tellW D)).flatMap encB) ∧ z.ownBlock ≠ some bT ∧ NsAt wr bT (kTl k) ∧ Below w1.heap.size w1 wr) (fun _ _ ix _ => m - (RowKit.intOf ix).toNat)
  case atStart => exact ⟨0, _, rfl, rfl, Nat.zero_le _, HO5.out, (by intro e; injection e with e; exact HT1.out.1 e.symm), HNS.out, HBB.out⟩
  case round =>
    obtain ⟨j, z, rfl, rfl, hj, ho, hz, hns, hb⟩ := hrel
    have HO := Lib.hid ho
    have HB := Lib.hid hb
    have HN := Lib.hid hns
    have HZ := Lib.hid hz
    have HDr := Lib.hid (HD1.out.below hb)
    clear ho hb hns hz
    by_cases hlt : j < m
    · have k1 : decide ((j : Int) < (m : Int)) = true := decide_eq_true (by omega)
      have k2 : (j : Int) < (m : Int) := by omega
      have y := HN.out.2 j (by rw [← HTn.out]; exact hlt)
      have hxin : (kTl k).getD j 0 = 1 ∨ (kTl k).getD j 0 = 2 ∨ (kTl k).getD j 0 = 3 ∨ (kTl k).getD j 0 = 4 := kTl_in k HK19.out _ (by rw [List.getD, List.getElem?_eq_getElem (by rw [← HTn.out]; exact hlt)]; exact List.getElem_mem _)
      have hte := tell_any hxin HLT.out.2.2.1 HLT.out.2.2.2 (HD.out.below HB.out)
      rw [HDD.out] at hte
      change Calls _ _ #[.agg #[.int .u8 (k : Int), .int .i64 a, .int .i64 b, .int .i64 n, Bs t], .int .i64 ((kTl k).getD j 0)] _ (fun e w' => e = .returned (Bs (tellW (⟨(k : Int), a, b, n, t⟩ : DD) ((kTl k).getD j 0))) ∧ Below wr.heap.size wr w') at hte
      rw [← HDD.out] at hte
      have hdr := HDr.out
      rw [HDD.out] at hdr
      obtain ⟨_, q0, q1, q2, q3, q4, _⟩ := hdr
      dsimp only at q0 q1 q2 q3 q4
      obtain ⟨P, hP⟩ : ∃ P, P = kWd k :: ((kTl k).take j).map (tellW D) := ⟨_, rfl⟩
      have HPN : Hid (P.length = j + 1 ∧ kWd k :: ((kTl k).take (j + 1)).map (tellW D) = P ++ [tellW D ((kTl k).getD j 0)]) := Lib.hid (by
        rw [hP]
        have hl := HTn.out
        refine ⟨by rw [List.length_cons, List.length_map, List.length_take]; omega, ?_⟩
        rw [List.take_succ_eq_append_getElem (by omega), List.map_append, List.getD, List.getElem?_eq_getElem (by omega)]
        rfl)
      rw [← hP] at HO
      generalize (kTl k).getD j 0 = xj at hte y HPN
      obtain ⟨wd, hwd⟩ : ∃ wd, wd = tellW D xj := ⟨_, rfl⟩
      rw [← hwd] at hte HPN
      have hw1 : wrap64 ((j : Int) + 1) = (j : Int) + 1 := by have := HCT.out.1; unfold wrap64; omega
      have HW1' := Lib.hid hw1
      have HJ := Lib.hid hlt
      have HLN : Hid (P.length + 1 ≤ maxLen ∧ (P.length + 1) * 16 ≤ 140737488355328) := Lib.hid (by rw [HPN.out.1]; have := HCT.out.1; unfold maxLen; omega)
      have HBW : Hid (w1.heap.size ≤ wr.heap.size) := Lib.hid HB.out.size
      obtain ⟨i0, z0, hi0, hz0, hz1, hz2⟩ := strInf
      clear hP hwd hxin hw1
      go_wp2_with (first
        | (go_at_call 17; (with_reducible refine hte.mono ?_); rintro e w6 ⟨rfl, hb6⟩; have HB6 : Hid (Below w1.heap.size w1 (w6.alloc (.cells #[Bs wd] 9))) := Lib.hid ((HB.out.trans (hb6.mono HBW.out)).alloc (Nat.le_trans HBW.out hb6.size) _); have HO6 := Lib.hid (ownS_keep (ownS_keep HO.out hb6) (below_new w6 (.cells #[Bs wd] 9))); have HN6 := Lib.hid ((HN.out.below hb6).below (below_new w6 (.cells #[Bs wd] 9))); clear hb6)
        | (at_builtin; (refine wpList_append_own_at _ rfl _ _ 47 rfl w1.heap.size 9 i0 _ 1 16 Tryd.underlying47 hi0 hz0 hz1 hz2 rfl (by decide) z P.length (P.flatMap encB) rfl HO6.out ⟨w6.heap.size, 0, none⟩ 1 1 [Bs wd] rfl rfl (new_cells w6 [Bs wd] _) (one_str _) HLN.out.1 HLN.out.2 HB6.out.size ?_); intro v' w7 ho7 hg7 _ hat7; have HB7 : Hid (Below w1.heap.size w1 w7) := Lib.hid (HB6.out.grown hg7 HB6.out.size (fun g hg => (World.ownsRow.lt HO6.out g hg).1)); have HO7 := Lib.hid ho7; have HN7 : Hid (NsAt w7 bT (kTl k)) := Lib.hid ⟨Nat.lt_of_lt_of_le HN6.out.1 hg7.size, fun i hi => (by unfold World.cell?; rw [hg7.block bT HN6.out.1 (fun e => HZ.out e.symm)] : w7.cell? ⟨bT, i, none⟩ = (w6.alloc (.cells #[Bs wd] 9)).cell? ⟨bT, i, none⟩).trans (HN6.out.2 i hi)⟩; have HZ7 : Hid (v'.ownBlock ≠ some bT) := Lib.hid (by rcases hat7 with h | h <;> rw [h]; exact HZ.out; intro e; injection e with e; have := HN6.out.1; omega); clear ho7 hg7 hat7))
      (try rw [HW1'.out])
      go_roundw
      case rel =>
        refine ⟨j + 1, _, by go_num, rfl, HJ.out, ?_, HZ7.out, HN7.out, HB7.out⟩
        rw [HPN.out.2, List.length_append, List.length_singleton, flat_snocB]
        exact HO7.out
      case measure => simp only [RowKit.intOf]; have := HJ.out; omega
    · have k1 : decide ((j : Int) < (m : Int)) = false := decide_eq_false (by omega)
      have k1n : ¬ (j : Int) < (m : Int) := by omega
      have hjm : j = m := by omega
      have htk : (kTl k).take j = kTl k := List.take_of_length_le (by rw [← HTn.out]; omega)
      rw [htk] at HO
      obtain ⟨P, hP⟩ : ∃ P, P = kWd k :: (kTl k).map (tellW D) := ⟨_, rfl⟩
      rw [← hP] at HO HLT
      obtain ⟨g, cap, hzv, hws, hc1, hc2⟩ := ws_own HO.out (by rw [hP]; simp)
      have hPl : P.length = m + 1 := by rw [hP, List.length_cons, List.length_map, ← HTn.out]
      have hj := join_any (n := P.length) (c := cap) rfl (by have := HCT.out.1; omega) hc1 (by have := HLT.out.2.1; rw [HLT.out.1] at this; omega) hws
      have HLL := HLT.out.2.1
      rw [← HLT.out.1] at hj
      subst hzv
      have hPa := fun W hb => parse_any (l := lnT D) (by omega) (w := W) ((HD.out.below HB.out).below hb)
      have HPA : Hid (∀ W, Below wr.heap.size wr W → _) := Lib.hid hPa
      obtain ⟨L, hL⟩ : ∃ L, L = lnT D := ⟨_, rfl⟩
      rw [← hL] at hj HPA HLD
      clear hL hP hjm htk hPa hPl hws hc1 hc2 HLL
      have HBW : Hid (w1.heap.size ≤ wr.heap.size) := Lib.hid HB.out.size
      unfold PDAns at HPA
      cases hps : psD L with
      | none =>
        rw [hps] at HLD
        rw [if_neg (by intro h; cases h)] at HLD
        have HPB : Hid (∀ W, Below wr.heap.size wr W → Calls Tryd.prog 9 #[.string ⟨L.toArray⟩] W fun e w' => e = .returned (.tuple #[.agg #[.int .u8 0, .int .i64 0, .int .i64 0, .int .i64 0, .string ⟨#[]⟩], .int .i64 6]) ∧ Below W.heap.size W w') := Lib.hid (fun W hb => (HPA.out W hb).mono (fun e w' h => by
          rcases h with ⟨⟨d, h1, _⟩ | ⟨_, h2⟩, h3⟩
          · rw [hps] at h1; cases h1
          · exact ⟨h2, h3⟩))
        clear HPA hps
        go_wp2_with (first
          | (go_at_call 18; (with_reducible refine hj.mono ?_); rintro e w6 ⟨rfl, hb6⟩; have hPx := HPB.out w6 hb6; have HB6 : Hid (Below w1.heap.size w1 w6) := Lib.hid (HB.out.trans (hb6.mono HBW.out)); clear hb6)
          | (go_at_call 9; (with_reducible refine hPx.mono ?_); rintro e w7 ⟨rfl, hb7⟩; have HB7 : Hid (Below w1.heap.size w1 w7) := Lib.hid (HB6.out.trans (hb7.mono HB6.out.size)); clear hb7))
        go_ret2
        exact ⟨.inr ⟨HLD.out, rfl⟩, HB1.out.trans ((HB7.out.alloc HB7.out.size _).mono HB1.out.size)⟩
      | some d2 =>
        rw [hps] at HLD
        have HPB : Hid (∀ W, Below wr.heap.size wr W → Calls Tryd.prog 9 #[.string ⟨L.toArray⟩] W fun e w' => e = .returned (.tuple #[.agg d2.enc.toArray, .int .i64 0]) ∧ Below W.heap.size W w') := Lib.hid (fun W hb => (HPA.out W hb).mono (fun e w' h => by
          rcases h with ⟨⟨d, h1, h2⟩ | ⟨h1, _⟩, h3⟩
          · rw [hps] at h1; injection h1 with h1; subst h1; exact ⟨h2, h3⟩
          · rw [hps] at h1; cases h1))
        clear HPA hps
        obtain ⟨ek, ea, eb, en, et⟩ := d2
        unfold DD.enc at HPB
        dsimp only at HPB
        go_upto_region 11 with (first
          | (go_at_call 18; (with_reducible refine hj.mono ?_); rintro e w6 ⟨rfl, hb6⟩; have hPx := HPB.out w6 hb6; have HB6 : Hid (Below w1.heap.size w1 w6) := Lib.hid (HB.out.trans (hb6.mono HBW.out)); clear hb6)
          | (go_at_call 9; (with_reducible refine hPx.mono ?_); rintro e w7 ⟨rfl, hb7⟩; have HB7 : Hid (Below w1.heap.size w1 w7) := Lib.hid (HB6.out.trans (hb7.mono HB6.out.size)); clear hb7))
        have HB8 : Hid (Below w1.heap.size w1 (w7.alloc (.cells #[.int .u8 ek, .int .i64 ea, .int .i64 eb, .int .i64 en, Bs et] 24))) := Lib.hid (HB7.out.alloc HB7.out.size _)
        obtain ⟨v0, v1, v2, v3, v4⟩ := new5 w7 (.int .u8 ek) (.int .i64 ea) (.int .i64 eb) (.int .i64 en) (Bs et) 24
        have hdr := HD1.out.below HB8.out
        rw [HDD.out] at hdr
        obtain ⟨_, q0, q1, q2, q3, q4, _⟩ := hdr
        dsimp only at q0 q1 q2 q3 q4
        generalize w7.alloc (.cells #[.int .u8 ek, .int .i64 ea, .int .i64 eb, .int .i64 en, Bs et] 24) = w8 at *
        go_wp2
        all_goals go_ret2
        all_goals first
          | exact ⟨.inl ⟨L, by rw [HLD.out, if_pos (by rw [HDD.out]; exact congrArg some (by congr 1))], rfl⟩, HB1.out.trans (HB8.out.mono HB1.out.size)⟩
          | exact ⟨.inr ⟨by rw [HLD.out, if_neg (by intro h; rw [HDD.out] at h; injection h with h; injection h with h1 h2 h3 h4 h5; contradiction)], rfl⟩, HB1.out.trans (HB8.out.mono HB1.out.size)⟩
end Go.Proofs.YtfmpbohiahjafaaDoor
