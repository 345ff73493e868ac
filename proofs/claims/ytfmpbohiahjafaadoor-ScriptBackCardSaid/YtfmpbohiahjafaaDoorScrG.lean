/- Scripts: the program's deed of a line. -/
import Derived.Test.YtfmpbohiahjafaaDoorScrE
import Derived.Test.YtfmpbohiahjafaaDoorScrF
namespace Go.Proofs.YtfmpbohiahjafaaDoor
open Go.RowKit Go.Lib Go.Shelf Go.Sort

theorem grown_cell {W W' : World} {b g k : Nat} {x : Value} (hg : W.grownBy W' (some b)) (hne : g ≠ b) (hc : W.cell? ⟨g, k, none⟩ = some x) : W'.cell? ⟨g, k, none⟩ = some x := by
  rw [← hc]
  unfold World.cell?
  rw [hg.block g (World.block_lt_of_cell? _ _ hc) (fun e => hne (by injection e))]
theorem grown_fz {W W' : World} {b g k : Nat} (hg : W.grownBy W' (some b)) (hlt : g < W.heap.size) (hne : g ≠ b) (hc : W.frozen? ⟨g, k, none⟩ = false) : W'.frozen? ⟨g, k, none⟩ = false := by
  rw [← hc]
  unfold World.frozen?
  rw [hg.block g hlt (fun e => hne (by injection e))]
theorem DB.grown {W W' : World} {b g : Nat} {d : DD} (h : DB W g d) (hg : W.grownBy W' (some b)) (hne : g ≠ b) : DB W' g d :=
  ⟨Nat.lt_of_lt_of_le h.lt hg.size, grown_cell hg hne h.c0, grown_cell hg hne h.c1, grown_cell hg hne h.c2, grown_cell hg hne h.c3, grown_cell hg hne h.c4, fun o => grown_fz hg h.lt hne (h.f o)⟩
theorem DB.put5 {W : World} {b : Nat} {d : DD} (h : DB W b d) (u0 u1 u2 u3 u4 : Value) :
    (((((W.setCell ⟨b, 0, none⟩ u0).setCell ⟨b, 1, none⟩ u1).setCell ⟨b, 2, none⟩ u2).setCell ⟨b, 3, none⟩ u3).setCell ⟨b, 4, none⟩ u4).cell? ⟨b, 0, none⟩ = some u0 ∧ (((((W.setCell ⟨b, 0, none⟩ u0).setCell ⟨b, 1, none⟩ u1).setCell ⟨b, 2, none⟩ u2).setCell ⟨b, 3, none⟩ u3).setCell ⟨b, 4, none⟩ u4).cell? ⟨b, 1, none⟩ = some u1 ∧ (((((W.setCell ⟨b, 0, none⟩ u0).setCell ⟨b, 1, none⟩ u1).setCell ⟨b, 2, none⟩ u2).setCell ⟨b, 3, none⟩ u3).setCell ⟨b, 4, none⟩ u4).cell? ⟨b, 2, none⟩ = some u2 ∧ (((((W.setCell ⟨b, 0, none⟩ u0).setCell ⟨b, 1, none⟩ u1).setCell ⟨b, 2, none⟩ u2).setCell ⟨b, 3, none⟩ u3).setCell ⟨b, 4, none⟩ u4).cell? ⟨b, 3, none⟩ = some u3 ∧ (((((W.setCell ⟨b, 0, none⟩ u0).setCell ⟨b, 1, none⟩ u1).setCell ⟨b, 2, none⟩ u2).setCell ⟨b, 3, none⟩ u3).setCell ⟨b, 4, none⟩ u4).cell? ⟨b, 4, none⟩ = some u4 := by
  refine ⟨?_, ?_, ?_, ?_, ?_⟩
  · rw [put_else _ _ _ _ _ (by omega), put_else _ _ _ _ _ (by omega), put_else _ _ _ _ _ (by omega), put_else _ _ _ _ _ (by omega)]
    exact put_same h.c0 _
  · rw [put_else _ _ _ _ _ (by omega), put_else _ _ _ _ _ (by omega), put_else _ _ _ _ _ (by omega)]
    exact put_same ((put_else _ _ _ _ _ (by omega)).trans h.c1) _
  · rw [put_else _ _ _ _ _ (by omega), put_else _ _ _ _ _ (by omega)]
    exact put_same ((put_else _ _ _ _ _ (by omega)).trans ((put_else _ _ _ _ _ (by omega)).trans h.c2)) _
  · rw [put_else _ _ _ _ _ (by omega)]
    exact put_same ((put_else _ _ _ _ _ (by omega)).trans ((put_else _ _ _ _ _ (by omega)).trans ((put_else _ _ _ _ _ (by omega)).trans h.c3))) _
  · exact put_same ((put_else _ _ _ _ _ (by omega)).trans ((put_else _ _ _ _ _ (by omega)).trans ((put_else _ _ _ _ _ (by omega)).trans ((put_else _ _ _ _ _ (by omega)).trans h.c4)))) _
theorem below_put5 {B : Nat} {w W : World} {b : Nat} {v0 v1 v2 v3 v4 : Value} (h : Below B w W) (hB : B ≤ b) : Below B w (((((W.setCell ⟨b, 0, none⟩ v0).setCell ⟨b, 1, none⟩ v1).setCell ⟨b, 2, none⟩ v2).setCell ⟨b, 3, none⟩ v3).setCell ⟨b, 4, none⟩ v4) :=
  below_set (below_set (below_set (below_set (below_set h hB) hB) hB) hB) hB
/-- Where Parse stands. -/
structure PSt (w W : World) (bL bT b5 : Nat) (L : List (List UInt8)) (T : List Int) (d : DD) : Prop where
  ws : WsAt W bL L
  ns : NsAt W bT T
  db : DB W b5 d
  z : DB W w.heap.size DD.zero
  bel : Below w.heap.size w W
  h1 : bL ≠ b5
  h2 : bT ≠ b5
  h3 : w.heap.size < b5
theorem PSt.take {w W W' : World} {bL bT b5 : Nat} {L : List (List UInt8)} {T : List Int} {d d2 : DD} (h : PSt w W bL bT b5 L T d) (hg : W.grownBy W' (some b5)) (hd : DB W' b5 d2) : PSt w W' bL bT b5 L T d2 :=
  ⟨⟨Nat.lt_of_lt_of_le h.ws.1 hg.size, fun j hj => grown_cell hg h.h1 (h.ws.2 j hj)⟩, ⟨Nat.lt_of_lt_of_le h.ns.1 hg.size, fun j hj => grown_cell hg h.h2 (h.ns.2 j hj)⟩, hd, h.z.grown hg (by have := h.h3; omega), h.bel.grown hg h.bel.size (fun g hg => by injection hg with hg; have := h.h3; omega), h.h1, h.h2, h.h3⟩
theorem kTl_in : ∀ k, k < 19 → ∀ x ∈ kTl k, x = 1 ∨ x = 2 ∨ x = 3 ∨ x = 4 := by decide
theorem takeAll_on {d : DD} {T : List Int} {R : List (List UInt8)} {j : Nat} (h1 : j < T.length) (h2 : j < R.length) : takeAll d (T.drop j) (R.drop j) = match takeW d (T.getD j 0) (R.getD j []) with | some d2 => takeAll d2 (T.drop (j + 1)) (R.drop (j + 1)) | none => none := by
  rw [List.drop_eq_getElem_cons h1, List.drop_eq_getElem_cons h2, takeAll, List.getD, List.getElem?_eq_getElem h1, List.getD, List.getElem?_eq_getElem h2]
  rfl
/-- What the words say of the line. -/
theorem psD_L {l : List UInt8} {L R : List (List UInt8)} {x : List UInt8} (e : L = x :: R) (h1 : (spl 32 l).length ≤ 5 → L = spl 32 l) (h2 : 5 < (spl 32 l).length → L.length = 5) (h3 : (spl 32 l).head? = some x) :
    ((kOf x = 0 ∨ R.length ≠ (kTl (kOf x)).length) → psD l = none) ∧ (¬ (kOf x = 0 ∨ R.length ≠ (kTl (kOf x)).length) → psD l = takeAll ⟨kOf x, 0, 0, 0, []⟩ (kTl (kOf x)) R) := by
  have hk := (kTw_is (kOf x) (kOf_lt x)).1
  unfold kTn at hk
  by_cases h5 : (spl 32 l).length ≤ 5
  · have h := h1 h5
    unfold psD
    rw [← h, e]
    exact ⟨fun h => if_pos h, fun h => if_neg h⟩
  · have hL := h2 (by omega)
    rw [e, List.length_cons] at hL
    refine ⟨fun _ => ?_, fun h => absurd (.inr (by omega)) h⟩
    cases hs : spl 32 l with
    | nil => exact absurd hs (spl_ne _ _)
    | cons y r =>
      rw [hs] at h3 h5
      have hy : y = x := by simpa using h3
      subst hy
      unfold psD
      rw [hs]
      show (if _ then _ else _) = _
      rw [List.length_cons] at h5
      rw [if_pos (.inr (by omega))]
theorem spl_short {l : List UInt8} {x : List UInt8} {c : UInt8} (hx : x ∈ spl c l) : x.length ≤ l.length := by
  revert x
  induction l with
  | nil => intro x hx; rw [spl, List.mem_singleton] at hx; rw [hx]; exact Nat.le_refl _
  | cons b r ih =>
    intro x hx
    rw [spl] at hx
    split at hx
    · rcases List.mem_cons.1 hx with rfl | hx
      · simp
      · have := ih hx; rw [List.length_cons]; omega
    · cases hs : spl c r with
      | nil => exact absurd hs (spl_ne c r)
      | cons h t =>
        rw [hs] at hx ih
        rcases List.mem_cons.1 hx with rfl | hx
        · have := ih (List.mem_cons_self ..); rw [List.length_cons, List.length_cons]; omega
        · have := ih (List.mem_cons_of_mem _ hx); rw [List.length_cons]; omega
/-- What Parse answers. -/
def PDAns (l : List UInt8) (e : Ending) : Prop := (∃ d, psD l = some d ∧ e = .returned (.tuple #[.agg d.enc.toArray, .int .i64 0])) ∨ psD l = none ∧ e = .returned (.tuple #[.agg DD.zero.enc.toArray, .int .i64 6])
set_option maxHeartbeats 16000000 in
set_option maxRecDepth 100000 in
theorem parse_any {l : List UInt8} (hl : l.length ≤ 100000000) {w : World} (hD : ScW w) :
    Calls Tryd.prog 9 #[.string ⟨l.toArray⟩] w fun e w' => PDAns l e ∧ Below w.heap.size w w' := by
  obtain ⟨w1, hw1⟩ : ∃ w1, w1 = w.alloc (.cells #[.int .u8 0, .int .i64 0, .int .i64 0, .int .i64 0, .string ⟨#[]⟩] 24) := ⟨_, rfl⟩
  have HB1 : Hid (Below w.heap.size w w1) := Lib.hid (by rw [hw1]; exact below_new w _)
  have HZ1 : Hid (DB w1 w.heap.size DD.zero) := Lib.hid (by rw [hw1]; exact DB.new w DD.zero _)
  have HD := Lib.hid hD
  have HW1 := Lib.hid hw1
  have hS := splitN_any (n := 5) (l := l) (by omega) (by omega) (by omega) (hD.below HB1.out)
  rw [show ((5 : Nat) : Int) = 5 from rfl] at hS
  have HLL := Lib.hid hl
  clear hw1 hD hl
  go_enter Tryd.func9, Tryd.ntmps9
  go_upto_region 1 with fail
  rw [← HW1.out]
  go_upto_region 2 with (go_at_call 21; (with_reducible refine hS.mono ?_); rintro e w2 ⟨bL, cL, L, rfl, hws, hc1, hc2, hs1, hs2, hl5, ⟨x, R, hLx, hhd⟩, hb2⟩; have HB2 := Lib.hid hb2; have HWS := Lib.hid hws; have HPS := Lib.hid (psD_L hLx hs1 hs2 hhd); have HC := Lib.hid (And.intro hc1 hc2); have HSH : Hid (L.length < 5 → ∀ a ∈ L, a.length ≤ 100000000) := Lib.hid (fun h a ha => by rcases Nat.lt_or_ge 5 (spl 32 l).length with h6 | h6; exact absurd (hs2 h6) (by omega); exact Nat.le_trans (spl_short (by rw [← hs1 h6]; exact ha)) HLL.out); clear hws hs1 hs2 hhd hc1 hc2 hb2)
  have HKL : Hid (kOf x < 19) := Lib.hid (kOf_lt x)
  obtain ⟨k, hk⟩ : ∃ k, k = kOf x := ⟨_, rfl⟩
  have hK := fun W hb => toKind_any x (w := W) (HD.out.below ((HB1.out.trans (HB2.out.mono HB1.out.size)).trans hb))
  rw [← hk] at HPS HKL hK
  have q0 : w2.cell? ⟨bL, 0, none⟩ = some (Bs x) := by have := HWS.out.2 0 (by rw [hLx]; simp); rw [hLx] at this; exact this
  have hLp : 0 < L.length := by rw [hLx]; simp
  have hK2 := hK w2 (Below.refl _ _)
  clear hk
  go_upto_region 3 with (go_at_call 22; (with_reducible refine hK2.mono ?_); rintro e w3 ⟨rfl, hb3⟩; have HB3 := Lib.hid hb3; clear hb3)
  have HX3 := Lib.hid (DB.new w3 ⟨(k : Int), 0, 0, 0, []⟩ 24)
  have HB4 : Hid (Below w.heap.size w (w3.alloc (.cells #[.int .u8 (k : Int), .int .i64 0, .int .i64 0, .int .i64 0, .string ⟨#[]⟩] 24))) := Lib.hid (((HB1.out.trans (HB2.out.mono HB1.out.size)).trans (HB3.out.mono (HB1.out.trans (HB2.out.mono HB1.out.size)).size)).alloc ((HB1.out.trans (HB2.out.mono HB1.out.size)).trans (HB3.out.mono (HB1.out.trans (HB2.out.mono HB1.out.size)).size)).size _)
  change Hid (DB (w3.alloc (.cells #[.int .u8 (k : Int), .int .i64 0, .int .i64 0, .int .i64 0, .string ⟨#[]⟩] 24)) w3.heap.size ⟨(k : Int), 0, 0, 0, []⟩) at HX3
  have HWS4 := Lib.hid ((HWS.out.below HB3.out).below (below_new w3 (.cells #[.int .u8 (k : Int), .int .i64 0, .int .i64 0, .int .i64 0, .string ⟨#[]⟩] 24)))
  have HZ4 := Lib.hid (((HZ1.out.below HB2.out).below HB3.out).below (below_new w3 (.cells #[.int .u8 (k : Int), .int .i64 0, .int .i64 0, .int .i64 0, .string ⟨#[]⟩] 24)))
  have HN : Hid (bL ≠ w3.heap.size ∧ w.heap.size < w3.heap.size) := Lib.hid (by have h1 := HWS.out.1; have h2 := HB3.out.size; have h3 := HZ1.out.lt; have h4 := HB2.out.size; omega)
  have HSZ : Hid (w3.heap.size < (w3.alloc (.cells #[.int .u8 (k : Int), .int .i64 0, .int .i64 0, .int .i64 0, .string ⟨#[]⟩] 24)).heap.size) := Lib.hid (by simp)
  generalize w3.alloc (.cells #[.int .u8 (k : Int), .int .i64 0, .int .i64 0, .int .i64 0, .string ⟨#[]⟩] 24) = w4 at *
  have hPa := parts_any HKL.out (HD.out.below HB4.out)
  obtain ⟨n, hn⟩ : ∃ n, n = (kTl k).length := ⟨_, rfl⟩
  have HTn := Lib.hid hn
  rw [← hn] at hPa HPS
  have y0 := HX3.out.c0
  dsimp only at y0
  clear hn hK hK2 q0 HWS HZ1 HB1 HB2 HB3 HW1
  go_upto_region 4 with (go_at_call 16; (with_reducible refine hPa.mono ?_); rintro e w5 ⟨bT, cT, rfl, hns, hn3, hcT, hcT2, hbT, hb5⟩; have HB5 := Lib.hid hb5; have HNS := Lib.hid hns; have HCT := Lib.hid (And.intro hn3 (And.intro hcT hcT2)); have HBT := Lib.hid hbT; clear hns hn3 hcT hcT2 hbT hb5)
  have HP : Hid (PSt w w5 bL bT w3.heap.size L (kTl k) ⟨(k : Int), 0, 0, 0, []⟩) := Lib.hid ⟨HWS4.out.below HB5.out, HNS.out, HX3.out.below HB5.out, HZ4.out.below HB5.out, HB4.out.trans (HB5.out.mono HB4.out.size), HN.out.1, by have h1 := HBT.out; have h2 := HSZ.out; omega, HN.out.2⟩
  generalize w3.heap.size = b5 at *
  clear HWS4 HNS HX3 HZ4 HB4 HB5 HN HSZ HBT y0
  have y0 := HP.out.db.c0
  dsimp only at y0
  by_cases hk0 : k = 0
  · have k1 : ((k : Int) == 0) = true := by rw [beq_iff_eq]; omega
    have HNO := Lib.hid (HPS.out.1 (.inl hk0))
    clear hk0
    go_upto_region 5 with fail
    obtain ⟨_, x0, x1, x2, x3, x4, xf⟩ := HP.out.z
    have xf0 := xf 0; have xf1 := xf 1; have xf2 := xf 2; have xf3 := xf 3; have xf4 := xf 4
    clear xf
    go_wp2
    obtain ⟨z0, z1, z2, z3, z4⟩ := HP.out.z.put5 (.int .u8 0) (.int .i64 0) (.int .i64 0) (.int .i64 0) (.string ⟨#[]⟩)
    refine bodyPost_ret (v := .tuple #[.agg #[.int .u8 0, .int .i64 0, .int .i64 0, .int .i64 0, .string ⟨#[]⟩], .int .i64 6]) (by simp [results, Tryd.results9, go_sem, z0, z1, z2, z3, z4]) rfl ?_
    exact ⟨.inr ⟨HNO.out, rfl⟩, below_put5 HP.out.bel (Nat.le_refl _)⟩
  have k1 : ((k : Int) == 0) = false := by rw [beq_eq_false_iff_ne]; omega
  by_cases hRn : R.length = n
  case neg =>
    have HNO := Lib.hid (HPS.out.1 (.inr hRn))
    have k2 : ((R.length : Int) + 1 != 1 + (n : Int)) = true := by rw [bne_iff_ne]; omega
    have k3 : ((R.length : Int) + 1 == 1 + (n : Int)) = false := by rw [beq_eq_false_iff_ne]; omega
    have hw1 : wrap64 (1 + (n : Int)) = 1 + (n : Int) := by have := HCT.out.1; unfold wrap64; omega
    clear hRn hk0
    go_upto_region 5 with fail
    obtain ⟨_, x0, x1, x2, x3, x4, xf⟩ := HP.out.z
    have xf0 := xf 0; have xf1 := xf 1; have xf2 := xf 2; have xf3 := xf 3; have xf4 := xf 4
    clear xf
    go_wp2
    obtain ⟨z0, z1, z2, z3, z4⟩ := HP.out.z.put5 (.int .u8 0) (.int .i64 0) (.int .i64 0) (.int .i64 0) (.string ⟨#[]⟩)
    refine bodyPost_ret (v := .tuple #[.agg #[.int .u8 0, .int .i64 0, .int .i64 0, .int .i64 0, .string ⟨#[]⟩], .int .i64 6]) (by simp [results, Tryd.results9, go_sem, z0, z1, z2, z3, z4]) rfl ?_
    exact ⟨.inr ⟨HNO.out, rfl⟩, below_put5 HP.out.bel (Nat.le_refl _)⟩
  have HPQ := Lib.hid (HPS.out.2 (by rintro (h | h); exact hk0 h; exact h hRn))
  have k2 : ((R.length : Int) + 1 != 1 + (n : Int)) = false := by rw [bne_eq_false_iff_eq]; omega
  have k3 : ((R.length : Int) + 1 == 1 + (n : Int)) = true := by rw [beq_iff_eq]; omega
  have hw1 : wrap64 (1 + (n : Int)) = 1 + (n : Int) := by have := HCT.out.1; unfold wrap64; omega
  have HRN := Lib.hid hRn
  clear hRn hk0 HPS
  go_upto_region 6 with fail
  clear y0 k1 k2 k3 hw1 hS hPa HLL
  have HLX := Lib.hid hLx
  have HDb : Hid (∀ W, Below w.heap.size w W → ScW W) := Lib.hid (fun W hb => HD.out.below hb)
  clear hLx hl5 hLp
  go_wp2
  go_loopw [7, 8, 33] (fun _ _ ix wr => ∃ (j : Nat) (d : DD), ix = .int .i64 (j : Int) ∧ j ≤ n ∧ PSt w wr bL bT b5 L (kTl k) d ∧ takeAll ⟨(k : Int), 0, 0, 0, []⟩ (kTl k) R = takeAll d ((kTl k).drop j) (R.drop j)) (fun _ _ ix _ => n - (RowKit.intOf ix).toNat)
  case atStart => exact ⟨0, _, rfl, Nat.zero_le _, HP.out, rfl⟩
  case round =>
    obtain ⟨j, d, rfl, hj, hp, heq⟩ := hrel
    have HQ := Lib.hid hp
    have HE := Lib.hid heq
    clear hp heq
    by_cases hlt : j < n
    · have k1 : decide ((j : Int) < (n : Int)) = true := decide_eq_true (by omega)
      have k2 : (j : Int) < (n : Int) := by omega
      have k3 : (j : Int) + 1 < (R.length : Int) + 1 := by have := HRN.out; omega
      have k4 : (0 : Int) ≤ (j : Int) + 1 := by omega
      have k5 : j + 1 < R.length + 1 := by have := HRN.out; omega
      have k6 : j < R.length := by have := HRN.out; omega
      have hw1 : wrap64 ((j : Int) + 1) = (j : Int) + 1 := by have := HCT.out.1; unfold wrap64; omega
      have HW1 := Lib.hid hw1
      have y0 := HQ.out.ns.2 j (by rw [← HTn.out]; exact hlt)
      have y1 := HQ.out.ws.2 (j + 1) (by rw [HLX.out, List.length_cons]; omega)
      have hgd : L.getD (j + 1) [] = R.getD j [] := by rw [HLX.out]; rfl
      rw [hgd] at y1
      have hst := takeAll_on (d := d) (T := kTl k) (R := R) (j := j) (by rw [← HTn.out]; exact hlt) (by omega)
      have hxin : (kTl k).getD j 0 = 1 ∨ (kTl k).getD j 0 = 2 ∨ (kTl k).getD j 0 = 3 ∨ (kTl k).getD j 0 = 4 := kTl_in k HKL.out _ (by rw [List.getD, List.getElem?_eq_getElem (by rw [← HTn.out]; exact hlt)]; exact List.getElem_mem _)
      have hsl : (R.getD j []).length ≤ 100000000 := HSH.out (by rw [HLX.out, List.length_cons]; have h1 := HRN.out; have h2 := HCT.out.1; omega) _ (by rw [HLX.out, List.getD, List.getElem?_eq_getElem (by omega)]; exact List.mem_cons_of_mem _ (List.getElem_mem _))
      have hTk := take_any hxin hsl HQ.out.db (HDb.out wr HQ.out.bel)
      have HE2 : Hid (psD l = match takeW d ((kTl k).getD j 0) (R.getD j []) with | some d2 => takeAll d2 ((kTl k).drop (j + 1)) (R.drop (j + 1)) | none => none) := Lib.hid (HPQ.out.trans (HE.out.trans hst))
      have HE3 : Hid (takeAll ⟨(k : Int), 0, 0, 0, []⟩ (kTl k) R = match takeW d ((kTl k).getD j 0) (R.getD j []) with | some d2 => takeAll d2 ((kTl k).drop (j + 1)) (R.drop (j + 1)) | none => none) := Lib.hid (HE.out.trans hst)
      have HJ := Lib.hid hlt
      generalize (kTl k).getD j 0 = xj at y0 hTk HE2 HE3
      generalize R.getD j [] = sj at y1 hTk HE2 HE3
      unfold KAns at hTk
      clear hgd hst hxin hsl hw1 HE
      cases htk : takeW d xj sj with
      | some d2 =>
        rw [htk] at HE2 HE3
        have hTk2 := hTk.mono (fun e w' h => show e = .returned (.bool true) ∧ PSt w w' bL bT b5 L (kTl k) d2 from by
          rcases h with ⟨⟨d3, h1, h2, h3⟩ | ⟨h1, h2⟩, h4⟩
          · rw [htk] at h1
            injection h1 with h1
            subst h1
            exact ⟨h2, HQ.out.take h4 h3⟩
          · rw [htk] at h1
            cases h1)
        clear hTk htk
        have hw1 := HW1.out
        go_wp2_with (go_at_call 23; (with_reducible refine hTk2.mono ?_); rintro e w6 ⟨rfl, hp6⟩; have HP6 := Lib.hid hp6; clear hp6)
        (try rw [HW1.out])
        clear hw1
        go_roundw
        case rel => exact ⟨j + 1, d2, by go_num, HJ.out, HP6.out, HE3.out⟩
        case measure => simp only [RowKit.intOf]; have := HJ.out; omega
      | none =>
        rw [htk] at HE2
        have hTk2 := hTk.mono (fun e w' h => show e = .returned (.bool false) ∧ DB w' w.heap.size DD.zero ∧ Below w.heap.size w w' from by
          rcases h with ⟨⟨d3, h1, h2, h3⟩ | ⟨h1, h2⟩, h4⟩
          · rw [htk] at h1
            cases h1
          · exact ⟨h2, HQ.out.z.grown h4 (by have := HQ.out.h3; omega), HQ.out.bel.grown h4 HQ.out.bel.size (fun g hg => by injection hg with hg; have := HQ.out.h3; omega)⟩)
        clear hTk htk HE3
        have hw1 := HW1.out
        go_upto_region 10 with (go_at_call 23; (with_reducible refine hTk2.mono ?_); rintro e w6 ⟨rfl, hz6, hb6⟩; have HZ6 := Lib.hid hz6; have HB6 := Lib.hid hb6; clear hz6 hb6)
        clear hw1
        obtain ⟨_, x0, x1, x2, x3, x4, xf⟩ := HZ6.out
        have xf0 := xf 0; have xf1 := xf 1; have xf2 := xf 2; have xf3 := xf 3; have xf4 := xf 4
        clear xf
        go_wp2
        obtain ⟨z0, z1, z2, z3, z4⟩ := HZ6.out.put5 (.int .u8 0) (.int .i64 0) (.int .i64 0) (.int .i64 0) (.string ⟨#[]⟩)
        refine bodyPost_ret (v := .tuple #[.agg #[.int .u8 0, .int .i64 0, .int .i64 0, .int .i64 0, .string ⟨#[]⟩], .int .i64 6]) (by simp [results, Tryd.results9, go_sem, z0, z1, z2, z3, z4]) rfl ?_
        exact ⟨.inr ⟨HE2.out, rfl⟩, below_put5 HB6.out (Nat.le_refl _)⟩
    · have k1 : decide ((j : Int) < (n : Int)) = false := decide_eq_false (by omega)
      have k1n : ¬ (j : Int) < (n : Int) := by omega
      have hjn : j = n := by omega
      have HX : Hid (psD l = some d) := Lib.hid (by
        rw [HPQ.out, HE.out, hjn, List.drop_eq_nil_of_le (by rw [← HTn.out]; exact Nat.le_refl _)]
        rw [takeAll]
        intro x xs w ws h; cases h)
      clear hjn
      obtain ⟨_, x0, x1, x2, x3, x4, xf⟩ := HQ.out.z
      have xf0 := xf 0; have xf1 := xf 1; have xf2 := xf 2; have xf3 := xf 3; have xf4 := xf 4
      clear xf
      obtain ⟨_, v0, v1, v2, v3, v4, _⟩ := HQ.out.db
      go_wp2
      obtain ⟨z0, z1, z2, z3, z4⟩ := HQ.out.z.put5 (.int .u8 d.k) (.int .i64 d.a) (.int .i64 d.b) (.int .i64 d.n) (Bs d.t)
      refine bodyPost_ret (v := .tuple #[.agg #[.int .u8 d.k, .int .i64 d.a, .int .i64 d.b, .int .i64 d.n, Bs d.t], .int .i64 0]) (by simp [results, Tryd.results9, go_sem, z0, z1, z2, z3, z4]) rfl ?_
      exact ⟨.inl ⟨d, HX.out, rfl⟩, below_put5 HQ.out.bel (Nat.le_refl _)⟩
end Go.Proofs.YtfmpbohiahjafaaDoor
