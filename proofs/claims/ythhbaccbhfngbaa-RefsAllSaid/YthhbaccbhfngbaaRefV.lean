/- References: the law's lives. -/
import Derived.Test.YthhbaccbhfngbaaRefT
import Derived.Test.YthhbaccbhfngbaaMc06
import Derived.Test.YthhbaccbhfngbaaRefE
namespace Go.Proofs.Ythhbaccbhfngbaa
open Go.RowKit

def rlT : List TB := [⟨0, [⟨1, 2, 1, 0⟩, ⟨2, 0, 0, 7⟩]⟩, ⟨1, [⟨0, 0, 0, 0⟩, ⟨1, 2, 1, 0⟩]⟩]
def rlC : CH := ⟨4, rlT⟩
theorem rl_ok2 : rfOk 2 [rlC, rlC] = true := by kernel_rfl
theorem rl_ok3 : rfOk 3 [rlC] = false := by kernel_rfl
theorem rl_ents : rfEnts 2 [rlC, rlC] = [⟨1, 2, 1, 0⟩, ⟨2, 0, 0, 7⟩, ⟨1, 2, 1, 0⟩, ⟨1, 2, 1, 0⟩, ⟨2, 0, 0, 7⟩, ⟨1, 2, 1, 0⟩] := by kernel_rfl
theorem rl_cnt : cntU [⟨1, 2, 1, 0⟩, ⟨2, 0, 0, 7⟩, ⟨1, 2, 1, 0⟩, ⟨1, 2, 1, 0⟩, ⟨2, 0, 0, 7⟩, ⟨1, 2, 1, 0⟩] = [⟨2, 1, 4⟩] := by kernel_rfl
theorem rl_fr : frU [⟨1, 2, 1, 0⟩, ⟨2, 0, 0, 7⟩, ⟨1, 2, 1, 0⟩, ⟨1, 2, 1, 0⟩, ⟨2, 0, 0, 7⟩, ⟨1, 2, 1, 0⟩] = [7] := by kernel_rfl
theorem rl_few : FewC [rlC, rlC] ∧ FewC [rlC] := by
  constructor <;> refine ⟨by decide, fun c hc => ?_⟩ <;> simp only [List.mem_cons, List.not_mem_nil, or_false, or_self] at hc <;> rw [hc] <;> decide
theorem rl_n : nOf 2 1 [⟨2, 1, 4⟩] = 4 ∧ nOf 0 0 [⟨2, 1, 4⟩] = 0 ∧ liveOf 2 [⟨2, 1, 4⟩] = 1 := ⟨by kernel_rfl, by kernel_rfl, by kernel_rfl⟩
theorem rl_live : ((liveOf 2 [⟨2, 1, 4⟩] : Nat) : Int) = 1 := by kernel_rfl
theorem rl_d : deadOf [⟨2, 1, 4⟩] [1, 2, 3] = [1, 3] := by kernel_rfl
theorem rl_s : spU [⟨2, 1, 4⟩] 2 = [2] ∧ spU [⟨2, 1, 4⟩] 1 = [] := ⟨by kernel_rfl, by kernel_rfl⟩
/-- What lives lays. -/
structure LVR (W : World) (t1 b1 b2 b3 b4 : Nat) : Prop where
  e1 : W.heap[t1]? = some (.cells #[.int .u8 1, .int .i64 2, .int .i64 1, .int .i64 0] 50)
  x1 : W.heap[b1]? = some (.cells #[.int .u8 1, .int .i64 2, .int .i64 1, .int .i64 0, .int .u8 2, .int .i64 0, .int .i64 0, .int .i64 7] 50)
  x2 : W.heap[b2]? = some (.cells #[.int .u8 0, .int .i64 0, .int .i64 0, .int .i64 0, .int .u8 1, .int .i64 2, .int .i64 1, .int .i64 0] 50)
  x3 : W.heap[b3]? = some (.cells #[.int .i64 0, .slice (some ⟨b1, 0, none⟩) 2 2, .int .i64 1, .slice (some ⟨b2, 0, none⟩) 2 2] 55)
  x4 : W.heap[b4]? = some (.cells #[.int .i64 4, .slice (some ⟨b3, 0, none⟩) 2 2] 44)
theorem blk_lt {W : World} {b : Nat} {o : Obj} (h : W.heap[b]? = some o) : b < W.heap.size := (Array.getElem?_eq_some_iff.1 h).1
theorem LVR.below {W W' : World} {t1 b1 b2 b3 b4 : Nat} (h : LVR W t1 b1 b2 b3 b4) (hb : Below W.heap.size W W') : LVR W' t1 b1 b2 b3 b4 :=
  ⟨(hb.block _ (blk_lt h.e1)).trans h.e1, (hb.block _ (blk_lt h.x1)).trans h.x1, (hb.block _ (blk_lt h.x2)).trans h.x2, (hb.block _ (blk_lt h.x3)).trans h.x3, (hb.block _ (blk_lt h.x4)).trans h.x4⟩
theorem cell_lit {W : World} {b k : Nat} {cs : Array Value} {t : TypeId} (h : W.heap[b]? = some (.cells cs t)) : W.cell? ⟨b, k, none⟩ = cs[k]? := cell_of_row W b k cs t (0, 0) h
theorem LVR.tabs {W : World} {t1 b1 b2 b3 b4 : Nat} (h : LVR W t1 b1 b2 b3 b4) : TabsS W (.slice (some ⟨b3, 0, none⟩) 2 2) rlT := by
  refine ⟨_, 2, rfl, Nat.le_refl _, by unfold maxLen; omega, .inr ⟨b3, 0, rfl, blk_lt h.x3, fun j hj => ?_⟩⟩
  have hj : j < 2 := hj
  match j, hj with
  | 0, _ =>
    refine ⟨_, (cell_lit h.x3).trans rfl, (cell_lit h.x3).trans rfl, _, 2, rfl, Nat.le_refl _, by unfold maxLen; omega, .inr ⟨b1, 0, rfl, blk_lt h.x1, fun i hi => ?_⟩⟩
    have hi : i < 2 := hi
    match i, hi with
    | 0, _ => exact ⟨(cell_lit h.x1).trans rfl, (cell_lit h.x1).trans rfl, (cell_lit h.x1).trans rfl, (cell_lit h.x1).trans rfl⟩
    | 1, _ => exact ⟨(cell_lit h.x1).trans rfl, (cell_lit h.x1).trans rfl, (cell_lit h.x1).trans rfl, (cell_lit h.x1).trans rfl⟩
  | 1, _ =>
    refine ⟨_, (cell_lit h.x3).trans rfl, (cell_lit h.x3).trans rfl, _, 2, rfl, Nat.le_refl _, by unfold maxLen; omega, .inr ⟨b2, 0, rfl, blk_lt h.x2, fun i hi => ?_⟩⟩
    have hi : i < 2 := hi
    match i, hi with
    | 0, _ => exact ⟨(cell_lit h.x2).trans rfl, (cell_lit h.x2).trans rfl, (cell_lit h.x2).trans rfl, (cell_lit h.x2).trans rfl⟩
    | 1, _ => exact ⟨(cell_lit h.x2).trans rfl, (cell_lit h.x2).trans rfl, (cell_lit h.x2).trans rfl, (cell_lit h.x2).trans rfl⟩
theorem LVR.chs2 {W : World} {t1 b1 b2 b3 b4 : Nat} (h : LVR W t1 b1 b2 b3 b4) : ChsS (W.alloc (.cells #[.int .i64 4, .slice (some ⟨b3, 0, none⟩) 2 2, .int .i64 4, .slice (some ⟨b3, 0, none⟩) 2 2] 44)) (.slice (some ⟨W.heap.size, 0, none⟩) 2 2) [rlC, rlC] := by
  have g := heap_alloc_new W (.cells #[.int .i64 4, .slice (some ⟨b3, 0, none⟩) 2 2, .int .i64 4, .slice (some ⟨b3, 0, none⟩) 2 2] 44)
  have ht := h.tabs.below (below_new W (.cells #[.int .i64 4, .slice (some ⟨b3, 0, none⟩) 2 2, .int .i64 4, .slice (some ⟨b3, 0, none⟩) 2 2] 44))
  refine ⟨_, 2, rfl, Nat.le_refl _, by unfold maxLen; omega, .inr ⟨W.heap.size, 0, rfl, by simp, fun j hj => ?_⟩⟩
  have hj : j < 2 := hj
  match j, hj with
  | 0, _ => exact ⟨_, _, (cell_lit g).trans rfl, (cell_lit g).trans rfl, ht⟩
  | 1, _ => exact ⟨_, _, (cell_lit g).trans rfl, (cell_lit g).trans rfl, ht⟩
theorem LVR.chs1 {W : World} {t1 b1 b2 b3 b4 : Nat} (h : LVR W t1 b1 b2 b3 b4) : ChsS (W.alloc (.cells #[.int .i64 4, .slice (some ⟨b3, 0, none⟩) 2 2] 44)) (.slice (some ⟨W.heap.size, 0, none⟩) 1 1) [rlC] := by
  have g := heap_alloc_new W (.cells #[.int .i64 4, .slice (some ⟨b3, 0, none⟩) 2 2] 44)
  have ht := h.tabs.below (below_new W (.cells #[.int .i64 4, .slice (some ⟨b3, 0, none⟩) 2 2] 44))
  refine ⟨_, 1, rfl, Nat.le_refl _, by unfold maxLen; omega, .inr ⟨W.heap.size, 0, rfl, by simp, fun j hj => ?_⟩⟩
  have hj : j < 1 := hj
  obtain rfl : j = 0 := by omega
  exact ⟨_, _, (cell_lit g).trans rfl, (cell_lit g).trans rfl, ht⟩
theorem LVR.start (w : World) : LVR (((((w.alloc (.cells #[.int .u8 1, .int .i64 2, .int .i64 1, .int .i64 0] 50)).alloc (.cells #[.int .u8 1, .int .i64 2, .int .i64 1, .int .i64 0, .int .u8 2, .int .i64 0, .int .i64 0, .int .i64 7] 50)).alloc (.cells #[.int .u8 0, .int .i64 0, .int .i64 0, .int .i64 0, .int .u8 1, .int .i64 2, .int .i64 1, .int .i64 0] 50)).alloc (.cells #[.int .i64 0, .slice (some ⟨w.heap.size + 1, 0, none⟩) 2 2, .int .i64 1, .slice (some ⟨w.heap.size + 1 + 1, 0, none⟩) 2 2] 55)).alloc (.cells #[.int .i64 4, .slice (some ⟨w.heap.size + 1 + 1 + 1, 0, none⟩) 2 2] 44)) w.heap.size (w.heap.size + 1) (w.heap.size + 1 + 1) (w.heap.size + 1 + 1 + 1) (w.heap.size + 1 + 1 + 1 + 1) := by
  obtain ⟨w1, h1⟩ : ∃ w1, w1 = w.alloc (.cells #[.int .u8 1, .int .i64 2, .int .i64 1, .int .i64 0] 50) := ⟨_, rfl⟩
  have s1 : w1.heap.size = w.heap.size + 1 := by rw [h1]; simp
  have a1 := heap_alloc_new w (.cells #[.int .u8 1, .int .i64 2, .int .i64 1, .int .i64 0] 50)
  rw [← h1] at a1 ⊢
  rw [← s1]
  obtain ⟨w2, h2⟩ : ∃ w2, w2 = w1.alloc (.cells #[.int .u8 1, .int .i64 2, .int .i64 1, .int .i64 0, .int .u8 2, .int .i64 0, .int .i64 0, .int .i64 7] 50) := ⟨_, rfl⟩
  have s2 : w2.heap.size = w1.heap.size + 1 := by rw [h2]; simp
  have a2 := heap_alloc_new w1 (.cells #[.int .u8 1, .int .i64 2, .int .i64 1, .int .i64 0, .int .u8 2, .int .i64 0, .int .i64 0, .int .i64 7] 50)
  have l2 : Below w1.heap.size w1 w2 := by rw [h2]; exact below_new w1 _
  rw [← h2] at a2 ⊢
  rw [← s2]
  obtain ⟨w3, h3⟩ : ∃ w3, w3 = w2.alloc (.cells #[.int .u8 0, .int .i64 0, .int .i64 0, .int .i64 0, .int .u8 1, .int .i64 2, .int .i64 1, .int .i64 0] 50) := ⟨_, rfl⟩
  have s3 : w3.heap.size = w2.heap.size + 1 := by rw [h3]; simp
  have a3 := heap_alloc_new w2 (.cells #[.int .u8 0, .int .i64 0, .int .i64 0, .int .i64 0, .int .u8 1, .int .i64 2, .int .i64 1, .int .i64 0] 50)
  have l3 : Below w2.heap.size w2 w3 := by rw [h3]; exact below_new w2 _
  rw [← h3] at a3 ⊢
  rw [← s3]
  obtain ⟨w4, h4⟩ : ∃ w4, w4 = w3.alloc (.cells #[.int .i64 0, .slice (some ⟨w1.heap.size, 0, none⟩) 2 2, .int .i64 1, .slice (some ⟨w2.heap.size, 0, none⟩) 2 2] 55) := ⟨_, rfl⟩
  have s4 : w4.heap.size = w3.heap.size + 1 := by rw [h4]; simp
  have a4 := heap_alloc_new w3 (.cells #[.int .i64 0, .slice (some ⟨w1.heap.size, 0, none⟩) 2 2, .int .i64 1, .slice (some ⟨w2.heap.size, 0, none⟩) 2 2] 55)
  have l4 : Below w3.heap.size w3 w4 := by rw [h4]; exact below_new w3 _
  rw [← h4] at a4 ⊢
  rw [← s4]
  have l5 := below_new w4 (.cells #[.int .i64 4, .slice (some ⟨w3.heap.size, 0, none⟩) 2 2] 44)
  have a5 := heap_alloc_new w4 (.cells #[.int .i64 4, .slice (some ⟨w3.heap.size, 0, none⟩) 2 2] 44)
  have m4 := l4.trans (l5.mono (by omega))
  have m3 := l3.trans (m4.mono (by omega))
  have m2 := l2.trans (m3.mono (by omega))
  exact ⟨(m2.block _ (by omega)).trans a1, (m3.block _ (by omega)).trans a2, (m4.block _ (by omega)).trans a3, (l5.block _ (by omega)).trans a4, a5⟩
theorem refS_lit (W : World) (r : RF) : RefS (W.alloc (.cells #[.int .i64 r.s, .int .i64 r.m, .int .i64 r.n] 52)) (.slice (some ⟨W.heap.size, 0, none⟩) 1 1) [r] := by
  refine ⟨_, 1, rfl, Nat.le_refl _, by unfold maxLen; omega, .inr ⟨W.heap.size, 0, rfl, by simp, fun j hj q u hu => ?_⟩⟩
  have hj : j < 1 := hj
  obtain rfl : j = 0 := by omega
  rw [cell_lit (heap_alloc_new W _), ← hu]
  simp [RF.enc]
theorem idxS_lit (W : World) (xs : List Int) (cs : Array Value) (hcs : cs = (xs.map (Value.int .i64)).toArray) (hl : xs.length ≤ 100000) : IdxS (W.alloc (.cells cs 3)) (.slice (some ⟨W.heap.size, 0, none⟩) xs.length xs.length) xs := by
  refine ⟨_, xs.length, rfl, Nat.le_refl _, by unfold maxLen; omega, .inr ⟨W.heap.size, 0, rfl, by simp, fun j hj => ?_⟩⟩
  rw [cell_lit (heap_alloc_new W _), hcs, Nat.zero_add]
  simp [hj, List.getD]
set_option maxRecDepth 100000 in
set_option maxHeartbeats 8000000 in
theorem refLives_any (w : World) : Calls Try.prog 7 #[] w fun e w' => e = .returned (.bool true) ∧ Below w.heap.size w w' := by
  have hst := LVR.start w
  obtain ⟨W2, hW2⟩ : ∃ W2, W2 = (((((w.alloc (.cells #[.int .u8 1, .int .i64 2, .int .i64 1, .int .i64 0] 50)).alloc (.cells #[.int .u8 1, .int .i64 2, .int .i64 1, .int .i64 0, .int .u8 2, .int .i64 0, .int .i64 0, .int .i64 7] 50)).alloc (.cells #[.int .u8 0, .int .i64 0, .int .i64 0, .int .i64 0, .int .u8 1, .int .i64 2, .int .i64 1, .int .i64 0] 50)).alloc (.cells #[.int .i64 0, .slice (some ⟨w.heap.size + 1, 0, none⟩) 2 2, .int .i64 1, .slice (some ⟨w.heap.size + 1 + 1, 0, none⟩) 2 2] 55)).alloc (.cells #[.int .i64 4, .slice (some ⟨w.heap.size + 1 + 1 + 1, 0, none⟩) 2 2] 44)) := ⟨_, rfl⟩
  rw [← hW2] at hst
  have HST := Lib.hid hst
  have HB2 : Hid (Below w.heap.size w W2) := Lib.hid (by rw [hW2]; exact (((((Below.refl _ w).alloc (Nat.le_refl _) _).alloc (by simp) _).alloc (by simp; omega) _).alloc (by simp; omega) _).alloc (by simp; omega) _)
  have HW2 := Lib.hid hW2
  clear hst hW2
  go_enter Try.func7, Try.ntmps7
  go_upto_region 3 with fail
  rw [← HW2.out]
  clear HW2
  generalize w.heap.size + 1 + 1 + 1 + 1 = b4 at HST ⊢
  generalize w.heap.size + 1 + 1 + 1 = b3 at HST ⊢
  generalize w.heap.size + 1 + 1 = b2 at HST ⊢
  generalize w.heap.size + 1 = b1 at HST ⊢
  obtain ⟨t1, ht1⟩ : ∃ t1, t1 = w.heap.size := ⟨_, rfl⟩
  have HST1 : Hid (LVR W2 t1 b1 b2 b3 b4) := Lib.hid (by rw [ht1]; exact HST.out)
  have HT1 := Lib.hid ht1
  clear HST ht1
  have c0 : W2.cell? ⟨b4, 0, none⟩ = some (.int .i64 4) := (cell_lit HST1.out.x4).trans rfl
  have c1 : W2.cell? ⟨b4, 1, none⟩ = some (.slice (some ⟨b3, 0, none⟩) 2 2) := (cell_lit HST1.out.x4).trans rfl
  have hC2 := refCount_any (e := 2) HST1.out.chs2 rl_few.1
  rw [rl_ok2, rl_ents, rl_cnt, if_pos rfl] at hC2
  have hC2' : Calls Try.prog 8 #[.int .i64 2, .slice (some ⟨W2.heap.size, 0, none⟩) 2 2] _ _ := hC2
  clear hC2
  go_upto_region 4 with (go_at_call 8; (with_reducible refine hC2'.mono ?_); rintro r W3 ⟨x3, rfl, hr3, hb3⟩; obtain ⟨A3, k3, rfl⟩ := hr3.form; have HR3 := Lib.hid hr3; have HB3 : Hid (Below W2.heap.size W2 W3) := Lib.hid ((below_new W2 _).trans (hb3.mono (by simp))); clear hr3 hb3)
  clear hC2' c0 c1
  have HST3 := Lib.hid (HST1.out.below HB3.out)
  have c0 : W3.cell? ⟨b4, 0, none⟩ = some (.int .i64 4) := (cell_lit HST3.out.x4).trans rfl
  have c1 : W3.cell? ⟨b4, 1, none⟩ = some (.slice (some ⟨b3, 0, none⟩) 2 2) := (cell_lit HST3.out.x4).trans rfl
  have hF2 := refFresh_any (e := 2) HST3.out.chs2 rl_few.1
  rw [rl_ok2, rl_ents, rl_fr, if_pos rfl] at hF2
  go_upto_region 5 with (go_at_call 10; (with_reducible refine hF2.mono ?_); rintro r W4 ⟨x5, rfl, hr4, hb4⟩; obtain ⟨A5, k5, rfl, _⟩ := id hr4; have HR4 := Lib.hid hr4; have HB4 : Hid (Below W3.heap.size W3 W4) := Lib.hid ((below_new W3 _).trans (hb4.mono (by simp))); clear hr4 hb4)
  clear hF2 c0 c1
  have HST4 := Lib.hid (HST3.out.below HB4.out)
  have c0 : W4.cell? ⟨b4, 0, none⟩ = some (.int .i64 4) := (cell_lit HST4.out.x4).trans rfl
  have c1 : W4.cell? ⟨b4, 1, none⟩ = some (.slice (some ⟨b3, 0, none⟩) 2 2) := (cell_lit HST4.out.x4).trans rfl
  have hC1 := refCount_any (e := 3) HST4.out.chs1 rl_few.2
  rw [rl_ok3, if_neg (by decide)] at hC1
  go_upto_region 6 with (go_at_call 8; (with_reducible refine hC1.mono ?_); rintro r W5 ⟨x7, rfl, hr7, hb5⟩; obtain ⟨A7, k7, rfl⟩ := hr7.form; have HB5 : Hid (Below W4.heap.size W4 W5) := Lib.hid ((below_new W4 _).trans (hb5.mono (by simp))); clear hr7 hb5)
  clear hC1 c0 c1
  have HST5 := Lib.hid (HST4.out.below HB5.out)
  have HBW : Hid (Below w.heap.size w W5) := Lib.hid (((HB2.out.trans (HB3.out.mono HB2.out.size)).trans (HB4.out.mono (Nat.le_trans HB2.out.size HB3.out.size))).trans (HB5.out.mono (Nat.le_trans HB2.out.size (Nat.le_trans HB3.out.size HB4.out.size))))
  have hr3 : RefS W5 (.slice A3 [(⟨2, 1, 4⟩ : RF)].length k3) [⟨2, 1, 4⟩] := (HR3.out.below HB4.out (Nat.le_refl _)).below HB5.out (Nat.le_refl _)
  have hi5 : IdxS W5 (.slice A5 [(7 : Int)].length k5) [7] := HR4.out.below HB5.out (Nat.le_refl _)
  simp only [List.length_cons, List.length_nil, Nat.zero_add] at hr3 hi5 ⊢
  rw [← HT1.out]
  have HZ : Hid (∀ W, Below W5.heap.size W5 W → W.cell? ⟨t1, 1, none⟩ = some (.int .i64 2) ∧ W.cell? ⟨t1, 2, none⟩ = some (.int .i64 1)) := Lib.hid (fun W hb => ⟨(cell_lit (HST5.out.below hb).e1).trans rfl, (cell_lit (HST5.out.below hb).e1).trans rfl⟩)
  have hR : ∀ W, Below W5.heap.size W5 W → RefS W (.slice A3 1 k3) [⟨2, 1, 4⟩] := fun W hb => hr3.below hb (Nat.le_refl _)
  have hwf : RfWf [⟨2, 1, 4⟩] := fun r hr => by simp only [List.mem_singleton] at hr; rw [hr]; exact ⟨by decide, by decide⟩
  have hA1 := docSame_any (hR _ (below_new W5 _)) (refS_lit W5 ⟨2, 1, 4⟩)
  rw [decide_eq_true rfl] at hA1
  have hA2 : ∀ W, Below W5.heap.size W5 W → _ := fun W hb => idxSame_any ((hi5.below hb (Nat.le_refl _)).below (below_new W (.cells #[.int .i64 7] 3)) (Nat.le_refl _)) (idxS_lit W [7] _ rfl (by decide))
  have hA3 : ∀ W, Below W5.heap.size W5 W → _ := fun W hb => refN_any (hR W hb) 2 1
  have hA4 : ∀ W, Below W5.heap.size W5 W → _ := fun W hb => refN_any (hR W hb) 0 0
  have hA5 : ∀ W, Below W5.heap.size W5 W → _ := fun W hb => refLive_any (hR W hb) 2
  have hA6 : ∀ W, Below W5.heap.size W5 W → _ := fun W hb => refDead_any ((hR W hb).below (below_new W (.cells #[.int .i64 1, .int .i64 2, .int .i64 3] 3)) (Nat.le_refl _)) hwf (by decide) (idxS_lit W [1, 2, 3] _ rfl (by decide)) (by decide) (by decide)
  have hA7 : ∀ W x, IdxS W x [1, 3] → _ := fun W x hx => idxSame_any (hx.below (below_new W (.cells #[.int .i64 1, .int .i64 3] 3)) (Nat.le_refl _)) (idxS_lit W [1, 3] _ rfl (by decide))
  have hA8 : ∀ W, Below W5.heap.size W5 W → _ := fun W hb => refSparse_any (hR W hb) hwf (by decide) 2
  have hA9 : ∀ W x, IdxS W x [2] → _ := fun W x hx => idxSame_any (hx.below (below_new W (.cells #[.int .i64 2] 3)) (Nat.le_refl _)) (idxS_lit W [2] _ rfl (by decide))
  have hA10 : ∀ W, Below W5.heap.size W5 W → _ := fun W hb => refSparse_any (hR W hb) hwf (by decide) 1
  simp only [decide_true, List.length_cons, List.length_nil, Nat.zero_add, Nat.reduceAdd] at hA2 hA6 hA7 hA9
  simp only [rl_n.1] at hA3
  simp only [rl_n.2.1] at hA4
  simp only [rl_live] at hA5
  simp only [rl_d] at hA6
  simp only [rl_s.1] at hA8
  simp only [rl_s.2] at hA10
  obtain ⟨z0, z1⟩ := HZ.out W5 (Below.refl _ _)
  clear hR hr3 hi5 hwf
  go_wp2_with (first
    | (go_at_call 12; (with_reducible refine hA1.mono ?_); rintro e w7 ⟨rfl, hb⟩; have HB7 : Hid (Below W5.heap.size W5 w7) := Lib.hid ((below_new W5 _).trans (hb.mono (by simp))); clear hb)
    | (go_at_call 13; (with_reducible refine (hA2 _ HB7.out).mono ?_); rintro e w8 ⟨rfl, hb⟩; have HB8 : Hid (Below W5.heap.size W5 w8) := Lib.hid (HB7.out.trans (((below_new w7 _).trans (hb.mono (by simp))).mono HB7.out.size)); obtain ⟨z2, z3⟩ := HZ.out w8 HB8.out; clear hb)
    | (go_at_call 14; (with_reducible refine (hA3 _ HB8.out).mono ?_); rintro e w9 ⟨rfl, hb⟩; have HB9 : Hid (Below W5.heap.size W5 w9) := Lib.hid (HB8.out.trans (hb.mono HB8.out.size)); clear hb)
    | (go_at_call 14; (with_reducible refine (hA4 _ HB9.out).mono ?_); rintro e w10 ⟨rfl, hb⟩; have HB10 : Hid (Below W5.heap.size W5 w10) := Lib.hid (HB9.out.trans (hb.mono HB9.out.size)); clear hb)
    | (go_at_call 16; (with_reducible refine (hA5 _ HB10.out).mono ?_); rintro e w11 ⟨rfl, hb⟩; have HB11 : Hid (Below W5.heap.size W5 w11) := Lib.hid (HB10.out.trans (hb.mono HB10.out.size)); clear hb)
    | (go_at_call 18; (with_reducible refine (hA6 _ HB11.out).mono ?_); rintro e w12 ⟨x12, rfl, hi, hb⟩; obtain ⟨A12, k12, rfl, _⟩ := id hi; have HI12 : Hid (IdxS w12 (.slice A12 2 k12) [1, 3]) := Lib.hid hi; have HB12 : Hid (Below W5.heap.size W5 w12) := Lib.hid (HB11.out.trans (((below_new w11 _).trans (hb.mono (by simp))).mono HB11.out.size)); clear hb hi)
    | (go_at_call 13; (with_reducible refine (hA7 _ _ HI12.out).mono ?_); rintro e w13 ⟨rfl, hb⟩; have HB13 : Hid (Below W5.heap.size W5 w13) := Lib.hid (HB12.out.trans (((below_new w12 _).trans (hb.mono (by simp))).mono HB12.out.size)); clear hb)
    | (go_at_call 20; (with_reducible refine (hA8 _ HB13.out).mono ?_); rintro e w14 ⟨x14, rfl, hi, hb⟩; obtain ⟨A14, k14, rfl, _⟩ := id hi; have HI14 : Hid (IdxS w14 (.slice A14 1 k14) [2]) := Lib.hid hi; have HB14 : Hid (Below W5.heap.size W5 w14) := Lib.hid (HB13.out.trans (hb.mono HB13.out.size)); clear hb hi)
    | (go_at_call 13; (with_reducible refine (hA9 _ _ HI14.out).mono ?_); rintro e w15 ⟨rfl, hb⟩; have HB15 : Hid (Below W5.heap.size W5 w15) := Lib.hid (HB14.out.trans (((below_new w14 _).trans (hb.mono (by simp))).mono HB14.out.size)); clear hb)
    | (go_at_call 20; (with_reducible refine (hA10 _ HB15.out).mono ?_); rintro e w16 ⟨x16, rfl, hi, hb⟩; obtain ⟨A16, k16, rfl, _⟩ := id hi; have HB16 : Hid (Below W5.heap.size W5 w16) := Lib.hid (HB15.out.trans (hb.mono HB15.out.size)); clear hb hi))
  go_ret
  exact ⟨by simp, HBW.out.trans (HB16.out.mono HBW.out.size)⟩
end Go.Proofs.Ythhbaccbhfngbaa
