/- Entries: the document's own Parse. -/
import Derived.Test.YtjocdbacdbhemaaEntE
namespace Go.Proofs.Ytjocdbacdbhemaa
open Go.RowKit

theorem two_of {w : World} {base : Nat} {x : Value} {a b : Nat} (h : OwnN w base x [a, b]) :
    ∃ g cap, x = .slice (some ⟨g, 0, none⟩) 2 cap ∧ 2 ≤ cap ∧ base ≤ g ∧ g < w.heap.size ∧ w.cell? ⟨g, 0, none⟩ = some (.int .u64 (a : Int)) ∧ w.cell? ⟨g, 1, none⟩ = some (.int .u64 (b : Int)) := by
  rcases h.2 with ⟨rfl, h0⟩ | ⟨g, cap, cur, rfl, hb, hh, hn, hm, hs, ht⟩
  · exact absurd h0 (by simp)
  · have hc : ∀ j, j < 2 → w.cell? ⟨g, j, none⟩ = (u64s [a, b])[j]? := by
      intro j hj
      rw [cell_of_row w g j cur _ (0, 0) hh]
      have h1 : (cur.toList.take ([a, b].length * 1))[j]? = (u64s [a, b])[j]? := by rw [ht]
      rw [List.getElem?_take, if_pos (by simpa using hj), Array.getElem?_toList] at h1
      exact h1
    exact ⟨g, cap, rfl, hn, hb, (Array.getElem?_eq_some_iff.1 hh).1, hc 0 (by omega), hc 1 (by omega)⟩
/-- The document's Parse under way. -/
structure RP (w W : World) (b7 g a b : Nat) (p : EN) : Prop where
  bl : Below w.heap.size w W
  r : EBox W w.heap.size EN.zero
  x : EBox W b7 p
  hx : w.heap.size < b7
  hg : g < b7
  lt : g < W.heap.size
  c0 : W.cell? ⟨g, 0, none⟩ = some (.int .u64 (a : Int))
  c1 : W.cell? ⟨g, 1, none⟩ = some (.int .u64 (b : Int))
theorem RP.below {w W W' : World} {b7 g a b : Nat} {p : EN} (k : RP w W b7 g a b p) (hb : Below W.heap.size W W') : RP w W' b7 g a b p :=
  ⟨k.bl.trans (hb.mono k.bl.size), k.r.below hb, k.x.below hb, k.hx, k.hg, Nat.lt_of_lt_of_le k.lt hb.size, (hb.cell (p := ⟨g, 0, none⟩) k.lt).trans k.c0, (hb.cell (p := ⟨g, 1, none⟩) k.lt).trans k.c1⟩
theorem RP.put {w W : World} {b7 g a b : Nat} {p : EN} (k : RP w W b7 g a b p) (q : EN) : RP w (put4 W b7 (.int .u8 q.kind) (.int .i64 q.st) (.int .i64 q.mb) (.int .i64 q.fr)) b7 g a b q := by
  have hap := ap_put4 W b7 (.int .u8 q.kind) (.int .i64 q.st) (.int .i64 q.mb) (.int .i64 q.fr)
  have h1 := k.hx
  have h2 := k.hg
  refine ⟨?_, Bx.ap k.r hap (by omega), Bx.put k.x _ _ _ _, h1, h2, Nat.lt_of_lt_of_le k.lt hap.size, (hap.cell k.lt (by omega) _).trans k.c0, (hap.cell k.lt (by omega) _).trans k.c1⟩
  exact (((k.bl.setCell (p := ⟨_, 0, none⟩) (Nat.le_of_lt h1) _).setCell (p := ⟨_, 1, none⟩) (Nat.le_of_lt h1) _).setCell (p := ⟨_, 2, none⟩) (Nat.le_of_lt h1) _).setCell (p := ⟨_, 3, none⟩) (Nat.le_of_lt h1) _
theorem RP.new {w w3 : World} {g a b : Nat} (h0 : EBox w3 w.heap.size EN.zero) (hb : Below w.heap.size w w3) (hlt : w.heap.size < w3.heap.size) (hg : g < w3.heap.size) (c0 : w3.cell? ⟨g, 0, none⟩ = some (.int .u64 (a : Int))) (c1 : w3.cell? ⟨g, 1, none⟩ = some (.int .u64 (b : Int))) :
    RP w (w3.alloc (.cells #[.int .u8 0, .int .i64 0, .int .i64 0, .int .i64 0] 26)) w3.heap.size g a b EN.zero :=
  ⟨hb.alloc hb.size _, h0.below (below1 _ _), EBox.new _ _ _ _ _ _, hlt, hg, by simp; omega, ((below1 w3 _).cell (p := ⟨g, 0, none⟩) hg).trans c0, ((below1 w3 _).cell (p := ⟨g, 1, none⟩) hg).trans c1⟩
theorem RP.ends {w W : World} {b7 g a b : Nat} {p : EN} (k : RP w W b7 g a b p) (u0 u1 u2 u3 : Value) : Below w.heap.size w (put4 W w.heap.size u0 u1 u2 u3) :=
  (((k.bl.setCell (p := ⟨_, 0, none⟩) (Nat.le_refl _) _).setCell (p := ⟨_, 1, none⟩) (Nat.le_refl _) _).setCell (p := ⟨_, 2, none⟩) (Nat.le_refl _) _).setCell (p := ⟨_, 3, none⟩) (Nat.le_refl _) _
/-- What is told of the two numbers. -/
def ofAB (a b : Nat) : EN := if 0 < a then ⟨1, (a : Int) - 1, (b : Int), 0⟩ else EN.zero
theorem rentParse_short (s : ByteArray) (h : s.size ≠ 8) (w : World) : Calls Try.prog 11 #[.string s] w fun e w' => e = .returned (.tuple #[EN.zero.v, .int .i64 6]) ∧ Below w.heap.size w w' := by
  have d1 : ((s.size : Int) == 8) = false := by rw [beq_eq_false_iff_ne]; omega
  have d2 : ((s.size : Int) != 8) = true := by rw [bne_iff_ne]; omega
  have HB0 := Lib.hid (below1 w (.cells #[.int .u8 0, .int .i64 0, .int .i64 0, .int .i64 0] 26))
  clear h
  go_enter Try.func11, Try.ntmps11
  go_wp2
  refine bodyPost_ret (v := .tuple #[EN.v EN.zero, .int .i64 6]) (by unfold EN.v EN.zero; simp [results, Try.results11, go_sem]) rfl ?_
  exact ⟨rfl, HB0.out⟩
set_option maxHeartbeats 2000000 in
theorem rentParse_core (s : ByteArray) (w : World) (h8 : s.size = 8) (a b : Nat) (ha : a < 4294967296) (hb8 : b < 256) (T : ByteArray)
    (hA : ∀ W : World, Calls Try.prog 45 #[.string s, .slice (some ⟨W.heap.size, 0, none⟩) 2 2] (W.alloc (.cells #[.int .i64 4, .int .i64 1] 3)) fun e w' => ∃ g cap, e = .returned (.tuple #[.slice (some ⟨g, 0, none⟩) 2 cap, .string T, .int .i64 0]) ∧ 2 ≤ cap ∧ W.heap.size < g ∧ g < w'.heap.size ∧ w'.cell? ⟨g, 0, none⟩ = some (.int .u64 (a : Int)) ∧ w'.cell? ⟨g, 1, none⟩ = some (.int .u64 (b : Int)) ∧ Below W.heap.size W w')
    (res : EN) (re : Int) (hres : (res, re) = if EB (ofAB a b) ∧ (⟨(entBL (ofAB a b)).toArray⟩ : ByteArray) = s then (ofAB a b, 0) else (EN.zero, 6)) :
    Calls Try.prog 11 #[.string s] w fun e w' => e = .returned (.tuple #[res.v, .int .i64 re]) ∧ Below w.heap.size w w' := by
  have hD := rentDisk_any
  have hBy := rentBytes_any (ofAB a b)
  have HX0 := Lib.hid (EBox.new w 0 0 0 0 26)
  have HB0 := Lib.hid (below1 w (.cells #[.int .u8 0, .int .i64 0, .int .i64 0, .int .i64 0] 26))
  have HRES := Lib.hid hres
  have HAB := Lib.hid ha
  have HBB := Lib.hid hb8
  clear hres ha hb8
  go_enter Try.func11, Try.ntmps11
  go_upto_region 1 with fail
  have HL0 : Hid (w.heap.size < (w.alloc (.cells #[.int .u8 0, .int .i64 0, .int .i64 0, .int .i64 0] 26)).heap.size) := Lib.hid (by simp)
  generalize w.alloc (.cells #[.int .u8 0, .int .i64 0, .int .i64 0, .int .i64 0] 26) = w0 at HX0 HB0 HL0 ⊢
  go_upto_region 5 with (go_at_call 45; with_reducible refine (hA _).mono ?_; rintro e w2 ⟨g, cap, rfl, hcap, hg1, hg2, q0, q1, hb⟩; have HP := Lib.hid (RP.new (HX0.out.below hb) (HB0.out.trans (hb.mono HB0.out.size)) (Nat.lt_of_lt_of_le HL0.out hb.size) hg2 q0 q1); clear hb q0 q1)
  generalize w2.alloc (.cells #[.int .u8 0, .int .i64 0, .int .i64 0, .int .i64 0] 26) = W at HP ⊢
  generalize w2.heap.size = b7 at HP ⊢
  clear hA HX0 HB0 HL0
  have HR1 : Hid (entBE (ofAB a b) = 0 → (⟨(entBL (ofAB a b)).toArray⟩ : ByteArray) = s → (res, re) = (ofAB a b, 0)) := Lib.hid (fun h1 h2 => by
    rw [HRES.out, if_pos ⟨(by unfold entBE at h1; split at h1; assumption; exact absurd h1 (by decide)), h2⟩])
  have HR2 : Hid (entBE (ofAB a b) ≠ 0 ∨ (⟨(entBL (ofAB a b)).toArray⟩ : ByteArray) ≠ s → (res, re) = (EN.zero, 6)) := Lib.hid (fun h => by
    rw [HRES.out, if_neg (fun k => by rcases h with h | h; exact h (if_pos k.1); exact h k.2)])
  clear HRES
  have c0 := HP.out.c0
  have c1 := HP.out.c1
  generalize hX : (⟨(entBL (ofAB a b)).toArray⟩ : ByteArray) = X at hBy HR1 HR2
  generalize hbe : entBE (ofAB a b) = be at hBy HR1 HR2
  clear hX hbe
  by_cases h0 : 0 < a
  · have e0 : decide ((0 : Int) < (a : Int)) = true := decide_eq_true (by omega)
    have hq : ofAB a b = ⟨1, (a : Int) - 1, (b : Int), 0⟩ := if_pos h0
    rw [hq] at hBy HR1
    have HA1 := Lib.hid HAB.out
    have hw1 : wrap64 (a : Int) = (a : Int) := by have := HAB.out; unfold wrap64; omega
    have hw2 : wrap64 (b : Int) = (b : Int) := by have := HBB.out; unfold wrap64; omega
    have hw3 : wrap64 ((a : Int) - 1) = (a : Int) - 1 := by have := HAB.out; unfold wrap64; omega
    have hw4 : IntKind.i64.wrap ((a : Int) - 1) = (a : Int) - 1 := by have := HAB.out; rw [IntKind.wrap_i64]; omega
    have hw5 : IntKind.i64.wrap (a : Int) = (a : Int) := by have := HAB.out; rw [IntKind.wrap_i64]; omega
    have hw6 : IntKind.i64.wrap (b : Int) = (b : Int) := by have := HBB.out; rw [IntKind.wrap_i64]; omega
    go_upto_region 6 with fail
    have hd0 : W.drew.cell? ⟨g, 0, none⟩ = some (.int .u64 (a : Int)) := c0
    have hd1 : W.drew.cell? ⟨g, 1, none⟩ = some (.int .u64 (b : Int)) := c1
    unfold EN.v at hD hBy
    dsimp only at hD hBy
    go_region_with (go_at_call 16; (with_reducible refine (hD _ _ _).mono ?_); rintro e w3 ⟨rfl, hb⟩; have HP3 := Lib.hid ((HP.out.below ((Below.refl _ _).drew)).below hb); clear hb; obtain ⟨_, x0, x1, x2, x3, f0, f1, f2, f3⟩ := (show Bx w3 b7 (.int .u8 0) (.int .i64 0) (.int .i64 0) (.int .i64 0) from HP3.out.x))
    all_goals
      clear c0 c1 hd0 hd1 x0 x1 x2 x3 f0 f1 f2 f3
      have HQ : Hid (RP w (put4 w3 b7 (.int .u8 1) (.int .i64 ((a : Int) - 1)) (.int .i64 (b : Int)) (.int .i64 0)) b7 g a b ⟨1, (a : Int) - 1, (b : Int), 0⟩) := Lib.hid (HP3.out.put ⟨1, (a : Int) - 1, (b : Int), 0⟩)
      unfold put4 at HQ
      generalize (((w3.setCell ⟨b7, 0, none⟩ (.int .u8 1)).setCell ⟨b7, 1, none⟩ (.int .i64 ((a : Int) - 1))).setCell ⟨b7, 2, none⟩ (.int .i64 (b : Int))).setCell ⟨b7, 3, none⟩ (.int .i64 0) = w5 at HQ ⊢
      obtain ⟨_, b0, b1, b2, b3, _⟩ := HQ.out.x
      dsimp only at b0 b1 b2 b3
      by_cases he : be = 0
      · subst he
        by_cases hs : X = s
        · have d1 : (X.toList == s.toList) = true := by rw [hs]; exact beq_self_eq_true _
          have d2 : (X.toList != s.toList) = false := by rw [bne, d1]; rfl
          obtain ⟨rfl, rfl⟩ : res = ⟨1, ((a : Int) - 1), (b : Int), 0⟩ ∧ re = 0 := Prod.mk.inj (HR1.out rfl hs)
          clear hs
          go_wp2_with (go_at_call 9; refine (hBy _).mono ?_; rintro e w4 ⟨rfl, hb⟩; have HQ4 := Lib.hid (HQ.out.below hb); clear hb b0 b1 b2 b3; obtain ⟨_, b0, b1, b2, b3, _⟩ := HQ4.out.x; dsimp only at b0 b1 b2 b3; obtain ⟨_, z0, z1, z2, z3, f0, f1, f2, f3⟩ := (show Bx w4 w.heap.size (.int .u8 0) (.int .i64 0) (.int .i64 0) (.int .i64 0) from HQ4.out.r))
          obtain ⟨_, y0, y1, y2, y3, _⟩ := Bx.put HQ4.out.r (.int .u8 1) (.int .i64 ((a : Int) - 1)) (.int .i64 (b : Int)) (.int .i64 0)
          have hB := HQ4.out.ends (.int .u8 1) (.int .i64 ((a : Int) - 1)) (.int .i64 (b : Int)) (.int .i64 0)
          unfold put4 at y0 y1 y2 y3 hB
          refine bodyPost_ret (v := .tuple #[EN.v ⟨1, ((a : Int) - 1), (b : Int), 0⟩, .int .i64 0]) (by unfold EN.v; simp [results, Try.results11, go_sem, y0, y1, y2, y3]) rfl ?_
          exact ⟨rfl, hB⟩
        · have d1 : (X.toList == s.toList) = false := by rw [beq_eq_false_iff_ne]; intro e; rw [byte_toList, byte_toList] at e; exact hs (ByteArray.ext (Array.ext' e))
          have d2 : (X.toList != s.toList) = true := by rw [bne, d1]; rfl
          obtain ⟨rfl, rfl⟩ : res = EN.zero ∧ re = 6 := Prod.mk.inj (HR2.out (.inr hs))
          clear hs
          go_wp2_with (go_at_call 9; refine (hBy _).mono ?_; rintro e w4 ⟨rfl, hb⟩; have HQ4 := Lib.hid (HQ.out.below hb); clear hb b0 b1 b2 b3; obtain ⟨_, z0, z1, z2, z3, f0, f1, f2, f3⟩ := (show Bx w4 w.heap.size (.int .u8 0) (.int .i64 0) (.int .i64 0) (.int .i64 0) from HQ4.out.r))
          obtain ⟨_, y0, y1, y2, y3, _⟩ := Bx.put HQ4.out.r (.int .u8 0) (.int .i64 0) (.int .i64 0) (.int .i64 0)
          have hB := HQ4.out.ends (.int .u8 0) (.int .i64 0) (.int .i64 0) (.int .i64 0)
          unfold put4 at y0 y1 y2 y3 hB
          refine bodyPost_ret (v := .tuple #[EN.v EN.zero, .int .i64 6]) (by unfold EN.v EN.zero; simp [results, Try.results11, go_sem, y0, y1, y2, y3]) rfl ?_
          exact ⟨rfl, hB⟩
      · have d1 : (be == 0) = false := by simpa using he
        have d2 : (be != 0) = true := by simpa using he
        obtain ⟨rfl, rfl⟩ : res = EN.zero ∧ re = 6 := Prod.mk.inj (HR2.out (.inl he))
        clear he
        go_wp2_with (go_at_call 9; refine (hBy _).mono ?_; rintro e w4 ⟨rfl, hb⟩; have HQ4 := Lib.hid (HQ.out.below hb); clear hb b0 b1 b2 b3; obtain ⟨_, z0, z1, z2, z3, f0, f1, f2, f3⟩ := (show Bx w4 w.heap.size (.int .u8 0) (.int .i64 0) (.int .i64 0) (.int .i64 0) from HQ4.out.r))
        obtain ⟨_, y0, y1, y2, y3, _⟩ := Bx.put HQ4.out.r (.int .u8 0) (.int .i64 0) (.int .i64 0) (.int .i64 0)
        have hB := HQ4.out.ends (.int .u8 0) (.int .i64 0) (.int .i64 0) (.int .i64 0)
        unfold put4 at y0 y1 y2 y3 hB
        refine bodyPost_ret (v := .tuple #[EN.v EN.zero, .int .i64 6]) (by unfold EN.v EN.zero; simp [results, Try.results11, go_sem, y0, y1, y2, y3]) rfl ?_
        exact ⟨rfl, hB⟩
  · obtain rfl : a = 0 := by omega
    have hq : ofAB 0 b = ⟨0, 0, 0, 0⟩ := rfl
    rw [hq] at hBy HR1
    clear h0
    unfold EN.v at hBy
    dsimp only at hBy
    have HQ : Hid (RP w W b7 g 0 b ⟨0, 0, 0, 0⟩) := Lib.hid HP.out
    obtain ⟨_, b0, b1, b2, b3, _⟩ := HQ.out.x
    dsimp only at b0 b1 b2 b3
    by_cases he : be = 0
    · subst he
      by_cases hs : X = s
      · have d1 : (X.toList == s.toList) = true := by rw [hs]; exact beq_self_eq_true _
        have d2 : (X.toList != s.toList) = false := by rw [bne, d1]; rfl
        obtain ⟨rfl, rfl⟩ : res = ⟨0, 0, 0, 0⟩ ∧ re = 0 := Prod.mk.inj (HR1.out rfl hs)
        clear hs
        go_wp2_with (go_at_call 9; refine (hBy _).mono ?_; rintro e w4 ⟨rfl, hb⟩; have HQ4 := Lib.hid (HQ.out.below hb); clear hb b0 b1 b2 b3; obtain ⟨_, b0, b1, b2, b3, _⟩ := HQ4.out.x; dsimp only at b0 b1 b2 b3; obtain ⟨_, z0, z1, z2, z3, f0, f1, f2, f3⟩ := (show Bx w4 w.heap.size (.int .u8 0) (.int .i64 0) (.int .i64 0) (.int .i64 0) from HQ4.out.r))
        obtain ⟨_, y0, y1, y2, y3, _⟩ := Bx.put HQ4.out.r (.int .u8 0) (.int .i64 0) (.int .i64 0) (.int .i64 0)
        have hB := HQ4.out.ends (.int .u8 0) (.int .i64 0) (.int .i64 0) (.int .i64 0)
        unfold put4 at y0 y1 y2 y3 hB
        refine bodyPost_ret (v := .tuple #[EN.v ⟨0, 0, 0, 0⟩, .int .i64 0]) (by unfold EN.v; simp [results, Try.results11, go_sem, y0, y1, y2, y3]) rfl ?_
        exact ⟨rfl, hB⟩
      · have d1 : (X.toList == s.toList) = false := by rw [beq_eq_false_iff_ne]; intro e; rw [byte_toList, byte_toList] at e; exact hs (ByteArray.ext (Array.ext' e))
        have d2 : (X.toList != s.toList) = true := by rw [bne, d1]; rfl
        obtain ⟨rfl, rfl⟩ : res = EN.zero ∧ re = 6 := Prod.mk.inj (HR2.out (.inr hs))
        clear hs
        go_wp2_with (go_at_call 9; refine (hBy _).mono ?_; rintro e w4 ⟨rfl, hb⟩; have HQ4 := Lib.hid (HQ.out.below hb); clear hb b0 b1 b2 b3; obtain ⟨_, z0, z1, z2, z3, f0, f1, f2, f3⟩ := (show Bx w4 w.heap.size (.int .u8 0) (.int .i64 0) (.int .i64 0) (.int .i64 0) from HQ4.out.r))
        obtain ⟨_, y0, y1, y2, y3, _⟩ := Bx.put HQ4.out.r (.int .u8 0) (.int .i64 0) (.int .i64 0) (.int .i64 0)
        have hB := HQ4.out.ends (.int .u8 0) (.int .i64 0) (.int .i64 0) (.int .i64 0)
        unfold put4 at y0 y1 y2 y3 hB
        refine bodyPost_ret (v := .tuple #[EN.v EN.zero, .int .i64 6]) (by unfold EN.v EN.zero; simp [results, Try.results11, go_sem, y0, y1, y2, y3]) rfl ?_
        exact ⟨rfl, hB⟩
    · have d1 : (be == 0) = false := by simpa using he
      have d2 : (be != 0) = true := by simpa using he
      obtain ⟨rfl, rfl⟩ : res = EN.zero ∧ re = 6 := Prod.mk.inj (HR2.out (.inl he))
      clear he
      go_wp2_with (go_at_call 9; refine (hBy _).mono ?_; rintro e w4 ⟨rfl, hb⟩; have HQ4 := Lib.hid (HQ.out.below hb); clear hb b0 b1 b2 b3; obtain ⟨_, z0, z1, z2, z3, f0, f1, f2, f3⟩ := (show Bx w4 w.heap.size (.int .u8 0) (.int .i64 0) (.int .i64 0) (.int .i64 0) from HQ4.out.r))
      obtain ⟨_, y0, y1, y2, y3, _⟩ := Bx.put HQ4.out.r (.int .u8 0) (.int .i64 0) (.int .i64 0) (.int .i64 0)
      have hB := HQ4.out.ends (.int .u8 0) (.int .i64 0) (.int .i64 0) (.int .i64 0)
      unfold put4 at y0 y1 y2 y3 hB
      refine bodyPost_ret (v := .tuple #[EN.v EN.zero, .int .i64 6]) (by unfold EN.v EN.zero; simp [results, Try.results11, go_sem, y0, y1, y2, y3]) rfl ?_
      exact ⟨rfl, hB⟩
theorem all41 {s : List UInt8} (h : s.length = 8) : allE s [4, 1] = 0 ∧ allV s [4, 1] = [leN (s.take 4), leN ((s.drop 4).take 1)] := by
  have g1 : getE 4 s = 0 := getE_ok.2 ⟨by decide, by rw [h]; decide⟩
  have g2 : getE 1 (s.drop 4) = 0 := getE_ok.2 ⟨by decide, by rw [List.length_drop, h]; decide⟩
  have h0 : allE s [4, 1] = 0 := by
    unfold allE; rw [if_pos g1]
    show allE (s.drop 4) [1] = 0
    unfold allE; rw [if_pos g2]; rfl
  refine ⟨h0, ?_⟩
  unfold allV
  rw [if_pos h0]
  show [getN 4 s, getN 1 (s.drop 4)] = _
  rw [getN_ok g1, getN_ok g2]; rfl
theorem rentParse_any (s : ByteArray) (w : World) : Calls Try.prog 11 #[.string s] w fun e w' => e = .returned (.tuple #[(entP s.data.toList).v, .int .i64 (entPE s.data.toList)]) ∧ Below w.heap.size w w' := by
  by_cases h8 : s.size = 8
  · have hl : s.data.toList.length = 8 := by rw [size_toList]; exact h8
    obtain ⟨a1, a2⟩ := all41 hl
    obtain ⟨p1, p2, p3⟩ := ref_parts hl
    refine rentParse_core s w h8 (leN (s.data.toList.take 4)) (leN ((s.data.toList.drop 4).take 1)) p2 p3 ⟨(allT s.data.toList [4, 1]).toArray⟩ ?_ _ _ ?_
    · intro W
      have h1 := num_new W (i64s [4, 1]) 3 (by decide)
      have hA := refAll_any s [4, 1] _ _ h1 (by decide)
      rw [a1, a2] at hA
      refine Calls.mono hA ?_
      rintro e w' ⟨⟨x, rfl, hx⟩, hb⟩
      obtain ⟨g, cap, rfl, hc, hg, hlt, q0, q1⟩ := two_of hx
      exact ⟨g, cap, rfl, hc, by rw [World.size_alloc] at hg; omega, hlt, q0, q1, (below1 W _).trans (hb.mono (by simp))⟩
    · have e1 : ofAB (leN (s.data.toList.take 4)) (leN ((s.data.toList.drop 4).take 1)) = refE s.data.toList := rfl
      rw [e1]
      have hiff : (EB (refE s.data.toList) ∧ (⟨(entBL (refE s.data.toList)).toArray⟩ : ByteArray) = s) ↔ EP s.data.toList := by
        rw [← refE_same hl]
        constructor
        · rintro ⟨h1, h2⟩; exact ⟨h1, congrArg (fun x : ByteArray => x.data.toList) h2⟩
        · rintro ⟨h1, h2⟩; exact ⟨h1, by rw [h2]⟩
      unfold entP entPE
      by_cases h : EP s.data.toList
      · rw [if_pos h, if_pos h, if_pos (hiff.2 h), refE_val hl h]
        unfold entP; rw [if_pos h]
      · rw [if_neg h, if_neg h, if_neg (fun k => h (hiff.1 k))]
  · have hn : ¬ EP s.data.toList := fun h => h8 (by rw [← size_toList]; exact h.1)
    unfold entP entPE
    rw [if_neg hn, if_neg hn]
    exact rentParse_short s h8 w
end Go.Proofs.Ytjocdbacdbhemaa
