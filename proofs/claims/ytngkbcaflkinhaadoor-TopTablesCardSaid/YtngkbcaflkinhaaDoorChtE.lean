/- Charts: what a right map has; the contracts of New and Get. -/
import Derived.Test.YtngkbcaflkinhaaDoorChtD
namespace Go.Proofs.YtngkbcaflkinhaaDoor
open Go.RowKit

/-! ### what a right map has -/
theorem tabs_all (e B : Int) : ∀ (T : List TB) (ls : Int), tabsB e B ls T = true → ∀ j, j < T.length → ls ≤ (T.getD j TB.zero).at' ∧ (T.getD j TB.zero).at' < parts e B ∧ tblB e (T.getD j TB.zero).l (B - (T.getD j TB.zero).at' * e) = true
  | t :: r, ls, h, 0, _ => by
    rw [tabsB] at h
    simp only [Bool.and_eq_true, decide_eq_true_eq] at h
    exact ⟨h.1.1.1, h.1.1.2, h.1.2⟩
  | t :: r, ls, h, j + 1, hj => by
    rw [tabsB] at h
    simp only [Bool.and_eq_true, decide_eq_true_eq] at h
    have := tabs_all e B r (t.at' + 1) h.2 j (by simpa using hj)
    rw [List.getD_cons_succ]
    exact ⟨by omega, this.2⟩
theorem tabs_rise (e B : Int) : ∀ (T : List TB) (ls : Int), tabsB e B ls T = true → Rises T
  | [], _, _ => fun i j _ hj => absurd hj (by simp)
  | t :: r, ls, h => by
    have h' := h
    rw [tabsB] at h
    simp only [Bool.and_eq_true, decide_eq_true_eq] at h
    intro i j hij hj
    match i, j, hij with
    | 0, j + 1, _ =>
      have := tabs_all e B r (t.at' + 1) h.2 j (by simpa using hj)
      rw [List.getD_cons_succ]
      show t.at' < _
      omega
    | i + 1, j + 1, hij =>
      rw [List.getD_cons_succ, List.getD_cons_succ]
      exact tabs_rise e B r (t.at' + 1) h.2 i j (by omega) (by simpa using hj)
/-- A right map. -/
structure COk (E BN : Nat) (T : List TB) : Prop where
  e1 : 1 ≤ E
  e2 : E ≤ 8192
  b2 : BN ≤ 65536
  rise : Rises T
  each : ∀ j, j < T.length → ∃ k : Nat, (T.getD j TB.zero).at' = (k : Int) ∧ k * E < BN ∧ tblB (E : Int) (T.getD j TB.zero).l ((BN : Int) - (k : Int) * (E : Int)) = true
theorem rises_ge {T : List TB} (h : Rises T) (h0 : ∀ j, j < T.length → 0 ≤ (T.getD j TB.zero).at') : ∀ j, j < T.length → (j : Int) ≤ (T.getD j TB.zero).at'
  | 0, hj => h0 0 hj
  | j + 1, hj => by
    have h1 := rises_ge h h0 j (by omega)
    have h2 := h j (j + 1) (by omega) hj
    omega
theorem COk.len {E BN : Nat} {T : List TB} (h : COk E BN T) : T.length ≤ 65536 := by
  by_cases h0 : T.length = 0
  · omega
  · have h1 := rises_ge h.rise (fun j hj => by obtain ⟨k, hk, _⟩ := h.each j hj; omega) (T.length - 1) (by omega)
    obtain ⟨k, hk, h2, _⟩ := h.each (T.length - 1) (by omega)
    have h3 : k * 1 ≤ k * E := Nat.mul_le_mul_left k h.e1
    have h4 := h.b2
    omega
theorem cok_of {e : Int} {c : CH} (h : okB e c = true) : ∃ E BN : Nat, e = (E : Int) ∧ c.blocks = (BN : Int) ∧ COk E BN c.tabs := by
  unfold okB at h
  simp only [Bool.and_eq_true, decide_eq_true_eq] at h
  obtain ⟨⟨⟨h1, h2⟩, h3⟩, h4⟩ := h
  obtain ⟨b1, b2⟩ := mayB_iff.1 h3
  obtain ⟨E, rfl⟩ : ∃ E : Nat, e = (E : Int) := ⟨e.toNat, by omega⟩
  obtain ⟨BN, hBN⟩ : ∃ BN : Nat, c.blocks = (BN : Int) := ⟨c.blocks.toNat, by omega⟩
  rw [hBN] at h4 b2
  refine ⟨E, BN, rfl, hBN, by omega, by omega, by omega, tabs_rise _ _ _ _ h4, fun j hj => ?_⟩
  obtain ⟨g1, g2, g3⟩ := tabs_all _ _ _ _ h4 j hj
  obtain ⟨k, hk⟩ : ∃ k : Nat, (c.tabs.getD j TB.zero).at' = (k : Int) := ⟨(c.tabs.getD j TB.zero).at'.toNat, by omega⟩
  rw [hk] at g2 g3
  have := (parts_iff (by omega)).1 g2
  exact ⟨k, hk, by rw [← Int.natCast_mul] at this; omega, g3⟩
theorem tblB_len {e : Int} {l : List EN} {n : Int} (h : tblB e l n = true) : (l.length : Int) = e := by
  unfold tblB at h
  simp only [Bool.and_eq_true, decide_eq_true_eq] at h
  exact h.1.1.1
/-- The entry of a block. -/
def getM (E : Nat) (T : List TB) (b : Nat) : EN :=
  if isThere T ((b / E : Nat) : Int) = true then (T.getD (before T ((b / E : Nat) : Int)) TB.zero).l.getD (b % E) EN.zero else EN.zero
def getR (e : Int) (c : CH) (b : Int) : EN := if okB e c = true ∧ 0 ≤ b ∧ b < c.blocks then getM e.toNat c.tabs b.toNat else EN.zero
def getRE (e : Int) (c : CH) (b : Int) : Int := if okB e c = true then (if 0 ≤ b ∧ b < c.blocks then 0 else 1) else 2
def newE (b : Int) : Int := if mayB b = true then 0 else 1
def newC (b : Int) : CH := if mayB b = true then ⟨b, []⟩ else CH.zero
theorem chtNew_any (b : Int) (w : World) : Calls Tryd.prog 5 #[.int .i64 b] w fun e w' => e = .returned (.tuple #[.agg #[.int .i64 (newC b).blocks, .slice none 0 0], .int .i64 (newE b)]) ∧ (newC b).tabs = [] ∧ Below w.heap.size w w' := by
  have hM := chtMay_any b
  have HB0 := Lib.hid (below1 w (.cells #[.int .i64 0, .slice none 0 0] 27))
  have HX0 := Lib.hid (B2.new w (.int .i64 0) (.slice none 0 0) 27)
  unfold newC newE
  cases hb : mayB b with
  | false =>
    rw [hb] at hM
    rw [if_neg (by decide), if_neg (by decide)]
    unfold CH.zero
    dsimp only
    clear hb
    go_enter Tryd.func5, Tryd.ntmps5
    go_upto_region 1 with fail
    generalize w.alloc (.cells #[.int .i64 0, .slice none 0 0] 27) = w0 at HB0 HX0 ⊢
    go_wp2_with (go_at_call 15; with_reducible refine (hM _).mono ?_; rintro e w2 ⟨rfl, hb2⟩; have HX2 := Lib.hid (HX0.out.below hb2); have HB2 := Lib.hid (HB0.out.trans (hb2.mono HB0.out.size)); clear hb2; obtain ⟨_, y0, y1, f0, f1⟩ := HX2.out)
    have hc0 := cell_put y0 (.int .i64 0)
    have z0 := (cell_putne (w2.setCell ⟨w.heap.size, 0, none⟩ (.int .i64 0)) w.heap.size 1 0 (.slice none 0 0) (by omega)).trans hc0
    have z1 := cell_put ((cell_putne w2 w.heap.size 0 1 (.int .i64 0) (by omega)).trans y1) (.slice none 0 0)
    refine bodyPost_ret (v := .tuple #[.agg #[.int .i64 0, .slice none 0 0], .int .i64 1]) (by simp [results, Tryd.results5, go_sem, z0, z1]) rfl ?_
    exact ⟨rfl, trivial, (HB2.out.setCell (p := ⟨_, 0, none⟩) (Nat.le_refl _) _).setCell (p := ⟨_, 1, none⟩) (Nat.le_refl _) _⟩
  | true =>
    rw [hb] at hM
    rw [if_pos rfl, if_pos rfl]
    dsimp only
    clear hb
    go_enter Tryd.func5, Tryd.ntmps5
    go_upto_region 1 with fail
    generalize w.alloc (.cells #[.int .i64 0, .slice none 0 0] 27) = w0 at HB0 HX0 ⊢
    go_wp2_with (go_at_call 15; with_reducible refine (hM _).mono ?_; rintro e w2 ⟨rfl, hb2⟩; have HX2 := Lib.hid (HX0.out.below hb2); have HB2 := Lib.hid (HB0.out.trans (hb2.mono HB0.out.size)); clear hb2; obtain ⟨_, y0, y1, f0, f1⟩ := HX2.out)
    have hc0 := cell_put y0 (.int .i64 b)
    have z0 := (cell_putne (w2.setCell ⟨w.heap.size, 0, none⟩ (.int .i64 b)) w.heap.size 1 0 (.slice none 0 0) (by omega)).trans hc0
    have z1 := cell_put ((cell_putne w2 w.heap.size 0 1 (.int .i64 b) (by omega)).trans y1) (.slice none 0 0)
    refine bodyPost_ret (v := .tuple #[.agg #[.int .i64 b, .slice none 0 0], .int .i64 0]) (by simp [results, Tryd.results5, go_sem, z0, z1]) rfl ?_
    exact ⟨rfl, trivial, (HB2.out.setCell (p := ⟨_, 0, none⟩) (Nat.le_refl _) _).setCell (p := ⟨_, 1, none⟩) (Nat.le_refl _) _⟩
theorem newC_tabs (b : Int) : (newC b).tabs = [] := by unfold newC; split <;> rfl
/-! ### Get -/
/-- A chart in a box, and a result's place. -/
structure GB (w W : World) (B : Int) (v : Value) : Prop where
  bl : Below w.heap.size w W
  x : B2 W w.heap.size (.int .i64 B) v
  r : EBox W (w.heap.size + 1) EN.zero
theorem GB.below {w W W' : World} {B : Int} {v : Value} (k : GB w W B v) (hb : Below W.heap.size W W') : GB w W' B v := ⟨k.bl.trans (hb.mono k.bl.size), k.x.below hb, k.r.below hb⟩
theorem GB.new (w : World) (B : Int) (v : Value) : GB w ((w.alloc (.cells #[.int .i64 B, v] 27)).alloc (.cells #[.int .u8 0, .int .i64 0, .int .i64 0, .int .i64 0] 38)) B v := by
  refine ⟨(below1 _ _).alloc (by simp) _, (B2.new w _ _ _).below (below1 _ _), ?_⟩
  have h := EBox.new (w.alloc (.cells #[.int .i64 B, v] 27)) 0 0 0 0 38
  rw [World.size_alloc] at h
  exact h
theorem GB.rx {w W : World} {B : Int} {v : Value} (k : GB w W B v) : Bx W (w.heap.size + 1) (.int .u8 0) (.int .i64 0) (.int .i64 0) (.int .i64 0) := k.r
theorem GB.ends {w W : World} {B : Int} {v : Value} (k : GB w W B v) (u0 u1 u2 u3 : Value) : Below w.heap.size w (put4 W (w.heap.size + 1) u0 u1 u2 u3) :=
  (((k.bl.setCell (p := ⟨_, 0, none⟩) (Nat.le_succ _) _).setCell (p := ⟨_, 1, none⟩) (Nat.le_succ _) _).setCell (p := ⟨_, 2, none⟩) (Nat.le_succ _) _).setCell (p := ⟨_, 3, none⟩) (Nat.le_succ _) _
set_option maxRecDepth 100000 in
set_option maxHeartbeats 4000000 in
theorem chtGet_no (e B b : Int) (T : List TB) (v : Value) (w : World) (hv : TabsS w v T) (re : Int) (h : (okB e ⟨B, T⟩ = false ∧ re = 2) ∨ (okB e ⟨B, T⟩ = true ∧ ¬ (0 ≤ b ∧ b < B) ∧ re = 1)) :
    Calls Tryd.prog 12 #[.int .i64 e, .agg #[.int .i64 B, v], .int .i64 b] w fun e w' => e = .returned (.tuple #[EN.zero.v, .int .i64 re]) ∧ Below w.heap.size w w' := by
  have hC := fun W h => chtCheck_any e B T v W h
  unfold chtE at hC
  have HG0 := Lib.hid (GB.new w B v)
  have HV := Lib.hid hv
  clear hv
  rcases h with ⟨h1, rfl⟩ | ⟨h1, h2, rfl⟩
  · rw [h1, if_neg (by decide)] at hC
    clear h1
    go_enter Tryd.func12, Tryd.ntmps12
    go_upto_region 1 with fail
    generalize (w.alloc (.cells #[.int .i64 B, v] 27)).alloc (.cells #[.int .u8 0, .int .i64 0, .int .i64 0, .int .i64 0] 38) = w0 at HG0 ⊢
    have HV0 := Lib.hid (HV.out.below HG0.out.bl)
    obtain ⟨_, y0, y1, _, _⟩ := HG0.out.x
    go_wp2_with (go_at_call 6; with_reducible refine (hC _ HV0.out).mono ?_; rintro e w1 ⟨rfl, hb1⟩; have HG1 := Lib.hid (HG0.out.below hb1); clear hb1 y0 y1; obtain ⟨_, z0, z1, z2, z3, f0, f1, f2, f3⟩ := HG1.out.rx)
    obtain ⟨_, y0, y1, y2, y3, _⟩ := Bx.put HG1.out.rx (.int .u8 0) (.int .i64 0) (.int .i64 0) (.int .i64 0)
    have hB := HG1.out.ends (.int .u8 0) (.int .i64 0) (.int .i64 0) (.int .i64 0)
    unfold put4 at y0 y1 y2 y3 hB
    refine bodyPost_ret (v := .tuple #[EN.v EN.zero, .int .i64 2]) (by unfold EN.v EN.zero; simp [results, Tryd.results12, go_sem, y0, y1, y2, y3]) rfl ?_
    exact ⟨rfl, hB⟩
  · rw [h1, if_pos rfl] at hC
    have hcase : b < 0 ∨ (0 ≤ b ∧ B ≤ b) := by omega
    clear h1 h2
    go_enter Tryd.func12, Tryd.ntmps12
    go_upto_region 1 with fail
    generalize (w.alloc (.cells #[.int .i64 B, v] 27)).alloc (.cells #[.int .u8 0, .int .i64 0, .int .i64 0, .int .i64 0] 38) = w0 at HG0 ⊢
    have HV0 := Lib.hid (HV.out.below HG0.out.bl)
    obtain ⟨_, y0, y1, _, _⟩ := HG0.out.x
    go_upto_region 4 with (go_at_call 6; with_reducible refine (hC _ HV0.out).mono ?_; rintro e w1 ⟨rfl, hb1⟩; have HG1 := Lib.hid (HG0.out.below hb1); clear hb1 y0 y1)
    obtain ⟨_, y0, y1, _, _⟩ := HG1.out.x
    obtain ⟨_, z0, z1, z2, z3, f0, f1, f2, f3⟩ := HG1.out.rx
    rcases hcase with hlt | ⟨hlt, hge⟩
    · have d1 : decide (b < 0) = true := decide_eq_true hlt
      clear hlt
      go_wp2
      obtain ⟨_, y0, y1, y2, y3, _⟩ := Bx.put HG1.out.rx (.int .u8 0) (.int .i64 0) (.int .i64 0) (.int .i64 0)
      have hB := HG1.out.ends (.int .u8 0) (.int .i64 0) (.int .i64 0) (.int .i64 0)
      unfold put4 at y0 y1 y2 y3 hB
      refine bodyPost_ret (v := .tuple #[EN.v EN.zero, .int .i64 1]) (by unfold EN.v EN.zero; simp [results, Tryd.results12, go_sem, y0, y1, y2, y3]) rfl ?_
      exact ⟨rfl, hB⟩
    · have d1 : decide (b < 0) = false := decide_eq_false (by omega)
      have d2 : decide (B ≤ b) = true := decide_eq_true hge
      clear hlt hge
      go_wp2
      obtain ⟨_, y0, y1, y2, y3, _⟩ := Bx.put HG1.out.rx (.int .u8 0) (.int .i64 0) (.int .i64 0) (.int .i64 0)
      have hB := HG1.out.ends (.int .u8 0) (.int .i64 0) (.int .i64 0) (.int .i64 0)
      unfold put4 at y0 y1 y2 y3 hB
      refine bodyPost_ret (v := .tuple #[EN.v EN.zero, .int .i64 1]) (by unfold EN.v EN.zero; simp [results, Tryd.results12, go_sem, y0, y1, y2, y3]) rfl ?_
      exact ⟨rfl, hB⟩
set_option maxRecDepth 100000 in
set_option maxHeartbeats 4000000 in
theorem chtGet_yes (E BN b : Nat) (T : List TB) (v : Value) (w : World) (hv : TabsS w v T) (hOK : COk E BN T) (hok : okB (E : Int) ⟨(BN : Int), T⟩ = true) (hb : b < BN) :
    Calls Tryd.prog 12 #[.int .i64 (E : Int), .agg #[.int .i64 (BN : Int), v], .int .i64 (b : Int)] w fun e w' => e = .returned (.tuple #[(getM E T b).v, .int .i64 0]) ∧ Below w.heap.size w w' := by
  obtain ⟨R, hR⟩ : ∃ R, R = getM E T b := ⟨_, rfl⟩
  rw [← hR]
  have hC := fun W h => chtCheck_any (E : Int) (BN : Int) T v W h
  unfold chtE at hC
  rw [hok, if_pos rfl] at hC
  have HG0 := Lib.hid (GB.new w (BN : Int) v)
  have HV := Lib.hid hv
  obtain ⟨q, hq⟩ : ∃ q : Nat, q = b / E := ⟨_, rfl⟩
  obtain ⟨r, hr⟩ : ∃ r : Nat, r = b % E := ⟨_, rfl⟩
  have hS := fun W h => seek_any T (q : Int) (BN : Int) v W h hOK.rise (by have := hOK.len; omega)
  have hE1 := hOK.e1
  have hE2 := hOK.e2
  have hrE : r < E := by rw [hr]; exact Nat.mod_lt _ hE1
  have hbb : b ≤ 65536 := by have := hOK.b2; omega
  have hqb : q ≤ b := by rw [hq]; exact Nat.div_le_self _ _
  have hG : Hid (R = if isThere T (q : Int) = true then (T.getD (before T (q : Int)) TB.zero).l.getD r EN.zero else EN.zero) := Lib.hid (by rw [hR]; unfold getM; rw [hq, hr])
  have s1 : (b : Int).tdiv (E : Int) = (q : Int) := by rw [hq]; rfl
  have s2 : (b : Int) / (E : Int) = (q : Int) := by rw [hq]; rfl
  have s3 : (b : Int).tmod (E : Int) = (r : Int) := by rw [hr]; rfl
  have s4 : (b : Int) % (E : Int) = (r : Int) := by rw [hr]; rfl
  have s5 : IntKind.i64.wrap (q : Int) = (q : Int) := by rw [IntKind.wrap_i64]; omega
  have s6 : IntKind.i64.wrap (r : Int) = (r : Int) := by rw [IntKind.wrap_i64]; omega
  have s7 : ((E : Int) == 0) = false := by rw [beq_eq_false_iff_ne]; omega
  have s8 : ¬ (E : Int) = 0 := by omega
  have d1 : decide ((b : Int) < 0) = false := decide_eq_false (by omega)
  have d2 : decide ((BN : Int) ≤ (b : Int)) = false := decide_eq_false (by omega)
  have d3 : decide (BN ≤ b) = false := decide_eq_false (by omega)
  have HTH : Hid (isThere T (q : Int) = true → before T (q : Int) < T.length ∧ (T.getD (before T (q : Int)) TB.zero).l.length = E) := Lib.hid (fun h => by
    have hlt : before T (q : Int) < T.length := by
      unfold isThere at h
      obtain ⟨t, ht, e⟩ := List.any_eq_true.1 h
      unfold before
      have h1 := List.length_eq_countP_add_countP (fun t : TB => decide (t.at' < (q : Int))) (l := T)
      have h2 : 0 < T.countP (fun a => decide ¬(decide (a.at' < (q : Int))) = true) := List.countP_pos_iff.2 ⟨t, ht, by simp only [decide_eq_true_eq] at e; simp [e]⟩
      omega
    refine ⟨hlt, ?_⟩
    obtain ⟨k, _, _, hk⟩ := hOK.each _ hlt
    have := tblB_len hk
    omega)
  clear hR hv hOK hok hb hq hr hE1 hE2 hbb hqb
  generalize isThere T (q : Int) = th at hS hG HTH
  generalize before T (q : Int) = i at hS hG HTH
  go_enter Tryd.func12, Tryd.ntmps12
  go_upto_region 1 with fail
  generalize (w.alloc (.cells #[.int .i64 (BN : Int), v] 27)).alloc (.cells #[.int .u8 0, .int .i64 0, .int .i64 0, .int .i64 0] 38) = w0 at HG0 ⊢
  have HV0 := Lib.hid (HV.out.below HG0.out.bl)
  obtain ⟨_, y0, y1, _, _⟩ := HG0.out.x
  go_upto_region 6 with (go_at_call 6; with_reducible refine (hC _ HV0.out).mono ?_; rintro e w1 ⟨rfl, hb1⟩; have HG1 := Lib.hid (HG0.out.below hb1); have HV1 := Lib.hid (HV0.out.below hb1); clear hb1 y0 y1; obtain ⟨_, y0, y1, _, _⟩ := HG1.out.x)
  have x0 : w1.drew.cell? ⟨w.heap.size, 0, none⟩ = some (.int .i64 (BN : Int)) := y0
  have x1 : w1.drew.cell? ⟨w.heap.size, 1, none⟩ = some v := y1
  have HVD := Lib.hid (HV1.out.below (Below.refl _ _).drew)
  clear d1 d2 d3
  go_region_with (go_at_call 19; with_reducible refine (hS _ HVD.out).mono ?_; rintro e w2 ⟨rfl, hb2⟩; have HG2 := Lib.hid ((HG1.out.below (Below.refl _ _).drew).below hb2); have HV2 := Lib.hid (HVD.out.below hb2); clear hb2)
  all_goals
    clear y0 y1 x0 x1 s1 s2 s5
    cases th with
    | false =>
      have HZ : Hid (R = EN.zero) := Lib.hid (by rw [hG.out, if_neg (by decide)])
      clear hG HTH s3 s4 s6 s7 s8
      obtain ⟨_, z0, z1, z2, z3, f0, f1, f2, f3⟩ := HG2.out.rx
      go_wp2
      obtain ⟨_, y0, y1, y2, y3, _⟩ := Bx.put HG2.out.rx (.int .u8 0) (.int .i64 0) (.int .i64 0) (.int .i64 0)
      have hB := HG2.out.ends (.int .u8 0) (.int .i64 0) (.int .i64 0) (.int .i64 0)
      unfold put4 at y0 y1 y2 y3 hB
      refine bodyPost_ret (v := .tuple #[EN.v EN.zero, .int .i64 0]) (by unfold EN.v EN.zero; simp [results, Tryd.results12, go_sem, y0, y1, y2, y3]) rfl ?_
      exact ⟨by rw [HZ.out], hB⟩
    | true =>
      obtain ⟨hi, hL⟩ := HTH.out rfl
      have HZ : Hid (R = (T.getD i TB.zero).l.getD r EN.zero) := Lib.hid (by rw [hG.out, if_pos rfl])
      obtain ⟨A, cap, rfl, hc1, hc2, hc3⟩ := HV2.out
      obtain ⟨b', off, rfl, hb', hcell⟩ := hc3.resolve_left (by intro e; rw [e] at hi; simp at hi)
      obtain ⟨u, q0, q1, hu⟩ := hcell i hi
      obtain ⟨A2, cap2, rfl, hd1, hd2, hd3⟩ := hu
      obtain ⟨b2, off2, rfl, hb2', hcell2⟩ := hd3.resolve_left (by intro e; rw [e] at hL; simp at hL; omega)
      obtain ⟨g0, g1, g2, g3⟩ := hcell2 r (by omega)
      clear hG HTH hcell hcell2 hc3 hd3
      generalize (T.getD i TB.zero).l.getD r EN.zero = p at g0 g1 g2 g3 HZ
      rw [hL] at q1
      generalize (T.getD i TB.zero).at' = ta at q0
      clear hL
      obtain ⟨k, st, mb, fr⟩ := p
      dsimp only at g0 g1 g2 g3
      obtain ⟨_, x0, x1, _, _⟩ := HG2.out.x
      obtain ⟨_, z0, z1, z2, z3, f0, f1, f2, f3⟩ := HG2.out.rx
      go_upto_region 9 with fail
      have xd0 : w2.drew.cell? ⟨w.heap.size, 0, none⟩ = some (.int .i64 (BN : Int)) := x0
      have xd1 : w2.drew.cell? ⟨w.heap.size, 1, none⟩ = some (.slice (some ⟨b', off, none⟩) T.length cap) := x1
      have qd1 : w2.drew.cell? ⟨b', off + i * 2 + 1, none⟩ = some (.slice (some ⟨b2, off2, none⟩) E cap2) := q1
      have gd0 : w2.drew.cell? ⟨b2, off2 + r * 4, none⟩ = some (.int .u8 k) := g0
      have gd1 : w2.drew.cell? ⟨b2, off2 + r * 4 + 1, none⟩ = some (.int .i64 st) := g1
      have gd2 : w2.drew.cell? ⟨b2, off2 + r * 4 + 2, none⟩ = some (.int .i64 mb) := g2
      have gd3 : w2.drew.cell? ⟨b2, off2 + r * 4 + 3, none⟩ = some (.int .i64 fr) := g3
      have zd0 : w2.drew.cell? ⟨w.heap.size + 1, 0, none⟩ = some (.int .u8 0) := z0
      have zd1 : w2.drew.cell? ⟨w.heap.size + 1, 1, none⟩ = some (.int .i64 0) := z1
      have zd2 : w2.drew.cell? ⟨w.heap.size + 1, 2, none⟩ = some (.int .i64 0) := z2
      have zd3 : w2.drew.cell? ⟨w.heap.size + 1, 3, none⟩ = some (.int .i64 0) := z3
      have fd0 : w2.drew.frozen? ⟨w.heap.size + 1, 0, none⟩ = false := f0
      have fd1 : w2.drew.frozen? ⟨w.heap.size + 1, 1, none⟩ = false := f1
      have fd2 : w2.drew.frozen? ⟨w.heap.size + 1, 2, none⟩ = false := f2
      have fd3 : w2.drew.frozen? ⟨w.heap.size + 1, 3, none⟩ = false := f3
      go_region_with fail
      clear xd0 xd1 qd1 gd0 gd1 gd2 gd3 zd0 zd1 zd2 zd3 fd0 fd1 fd2 fd3 x0 x1 q0 q1 g0 g1 g2 g3 z0 z1 z2 z3 f0 f1 f2 f3 s3 s4 s6 s7 s8
      go_wp2
      obtain ⟨_, y0, y1, y2, y3, _⟩ := (Bx.put HG2.out.rx (.int .u8 k) (.int .i64 st) (.int .i64 mb) (.int .i64 fr)).drew
      have hB := (HG2.out.ends (.int .u8 k) (.int .i64 st) (.int .i64 mb) (.int .i64 fr)).drew
      unfold put4 at y0 y1 y2 y3 hB
      refine bodyPost_ret (v := .tuple #[EN.v ⟨k, st, mb, fr⟩, .int .i64 0]) (by unfold EN.v; simp [results, Tryd.results12, go_sem, y0, y1, y2, y3]) rfl ?_
      exact ⟨by rw [HZ.out], hB⟩
theorem chtGet_any (e B b : Int) (T : List TB) (v : Value) (w : World) (hv : TabsS w v T) :
    Calls Tryd.prog 12 #[.int .i64 e, .agg #[.int .i64 B, v], .int .i64 b] w fun e' w' => e' = .returned (.tuple #[(getR e ⟨B, T⟩ b).v, .int .i64 (getRE e ⟨B, T⟩ b)]) ∧ Below w.heap.size w w' := by
  unfold getR getRE
  by_cases hok : okB e ⟨B, T⟩ = true
  · rw [if_pos hok]
    by_cases hb : 0 ≤ b ∧ b < B
    · rw [if_pos ⟨hok, hb⟩, if_pos hb]
      obtain ⟨E, BN, rfl, hBN, hc⟩ := cok_of hok
      dsimp only at hBN hc
      subst hBN
      obtain ⟨b', rfl⟩ : ∃ b' : Nat, b = (b' : Int) := ⟨b.toNat, by omega⟩
      rw [Int.toNat_natCast, Int.toNat_natCast]
      exact chtGet_yes E BN b' T v w hv hc hok (by omega)
    · rw [if_neg (fun h => hb h.2), if_neg hb]
      exact chtGet_no e B b T v w hv 1 (.inr ⟨hok, hb, rfl⟩)
  · rw [if_neg (fun h => hok h.1), if_neg hok]
    exact chtGet_no e B b T v w hv 2 (.inl ⟨by simpa using hok, rfl⟩)
end Go.Proofs.YtngkbcaflkinhaaDoor

