/- Charts: a right map is the map of its entries, block by block. Charts: the document's own New and Get. -/
import Derived.Test.YtjocdbacdbhemaaChtTW
namespace Go.Proofs.Ytjocdbacdbhemaa
open Go.RowKit

theorem rises_pair {T : List TB} (h : Rises T) : T.Pairwise (fun a b => a.at' < b.at') := by
  rw [List.pairwise_iff_getElem]
  intro i j hi hj hij
  have := h i j hij hj
  rw [List.getD, List.getElem?_eq_getElem hi, List.getD, List.getElem?_eq_getElem hj] at this
  exact this
theorem filter_step : ∀ (T : List TB) (n : Int), T.Pairwise (fun a b => a.at' < b.at') → T.filter (fun t => decide (t.at' < n + 1)) = T.filter (fun t => decide (t.at' < n)) ++ (T.find? (fun t => decide (t.at' = n))).toList
  | [], _, _ => rfl
  | t :: r, n, h => by
    rw [List.pairwise_cons] at h
    obtain ⟨h1, h2⟩ := h
    have ih := filter_step r n h2
    have none_of : n ≤ t.at' → r.filter (fun t => decide (t.at' < n + 1)) = [] ∧ r.filter (fun t => decide (t.at' < n)) = [] := fun hn => by
      constructor
      · rw [List.filter_eq_nil_iff]; intro x hx; have := h1 x hx; simp; omega
      · rw [List.filter_eq_nil_iff]; intro x hx; have := h1 x hx; simp; omega
    by_cases a : t.at' < n
    · rw [List.filter_cons_of_pos (by simp; omega), List.filter_cons_of_pos (by simpa using a), List.find?_cons_of_neg (by simp; omega), ih]; rfl
    · by_cases b : t.at' = n
      · obtain ⟨e1, e2⟩ := none_of (by omega)
        rw [List.filter_cons_of_pos (by simp; omega), List.filter_cons_of_neg (by simp; omega), List.find?_cons_of_pos (by simp [b]), e1, e2]; rfl
      · obtain ⟨e1, e2⟩ := none_of (by omega)
        have e3 : r.find? (fun t => decide (t.at' = n)) = none := by
          rw [List.find?_eq_none]; intro x hx; have := h1 x hx; simp; omega
        rw [List.filter_cons_of_neg (by simp; omega), List.filter_cons_of_neg (by simp; omega), List.find?_cons_of_neg (by simpa using b), e1, e2, e3]; rfl
theorem filter_range {T : List TB} (h : T.Pairwise (fun a b => a.at' < b.at')) (h0 : ∀ t ∈ T, 0 ≤ t.at') : ∀ n : Nat, T.filter (fun t => decide (t.at' < (n : Int))) = (List.range n).flatMap fun k : Nat => (T.find? (fun t => decide (t.at' = (k : Int)))).toList
  | 0 => by
    rw [List.filter_eq_nil_iff.2]; rfl
    intro x hx; have := h0 x hx; simp; omega
  | n + 1 => by
    rw [List.range_succ, List.flatMap_append, List.flatMap_singleton, ← filter_range h h0 n, ← filter_step T (n : Int) h]
    rfl
theorem eok_hole {p : EN} (h : EOk p) (hf : fullB p = false) : p = EN.zero := by
  unfold fullB at hf
  have hk : p.kind = 0 := by
    by_cases h : p.kind = 0
    · exact h
    · have : (p.kind != 0) = true := by rw [bne_iff_ne]; exact h
      rw [this] at hf; exact absurd hf (by decide)
  rcases h with ⟨a, b, c, d⟩ | ⟨a, _⟩ | ⟨a, _⟩
  · obtain ⟨k, s, m, f⟩ := p; simp_all [EN.zero]
  · omega
  · omega
theorem mem_getD {T : List TB} {t : TB} (h : t ∈ T) : ∃ j, j < T.length ∧ T.getD j TB.zero = t := by
  obtain ⟨k, hk, rfl⟩ := List.mem_iff_getElem.1 h
  exact ⟨k, hk, by rw [List.getD, List.getElem?_eq_getElem hk]; rfl⟩
/-- What a table of a right map has. -/
theorem COk.tab {E BN : Nat} {T : List TB} (h : COk E BN T) {t : TB} (ht : t ∈ T) : ∃ k : Nat, t.at' = (k : Int) ∧ k * E < BN ∧ t.l.length = E ∧ t.l.any fullB = true ∧ ∀ i, i < E → EOk (t.l.getD i EN.zero) ∧ (BN ≤ k * E + i → t.l.getD i EN.zero = EN.zero) := by
  obtain ⟨j, hj, rfl⟩ := mem_getD ht
  obtain ⟨k, h1, h2, h3⟩ := h.each j hj
  have hl := tblB_len h3
  rw [← Int.natCast_mul, show (BN : Int) - ((k * E : Nat) : Int) = ((BN - k * E : Nat) : Int) by omega] at h3
  have hl' : (T.getD j TB.zero).l.length = E := by omega
  obtain ⟨h4, h5⟩ := (tbl_ref E (BN - k * E) _ hl').1 h3
  refine ⟨k, h1, h2, hl', h4, fun i hi => ⟨(h5 i (by omega)).1, fun hb => ?_⟩⟩
  exact eok_hole (h5 i (by omega)).1 ((h5 i (by omega)).2 (by omega))
theorem look_found {E k i : Nat} {T : List TB} {t : TB} (hi : i < E) (h : T.find? (fun t => decide (t.at' = (k : Int))) = some t) : lookM E T (k * E + i) = t.l.getD i EN.zero := by
  unfold lookM
  rw [show (k * E + i) / E = k by rw [Nat.mul_comm, Nat.mul_add_div (by omega), Nat.div_eq_of_lt hi, Nat.add_zero], show (k * E + i) % E = i by rw [Nat.mul_comm, Nat.mul_add_mod, Nat.mod_eq_of_lt hi], h]
theorem look_none {E k i : Nat} {T : List TB} (hi : i < E) (h : T.find? (fun t => decide (t.at' = (k : Int))) = none) : lookM E T (k * E + i) = EN.zero := by
  unfold lookM
  rw [show (k * E + i) / E = k by rw [Nat.mul_comm, Nat.mul_add_div (by omega), Nat.div_eq_of_lt hi, Nat.add_zero], h]
theorem flat_getD (E BN : Nat) (T : List TB) (b : Nat) : (flatM E BN T).getD b EN.zero = if b < BN then lookM E T b else EN.zero := by
  by_cases h : b < BN
  · rw [if_pos h, flatM_at _ _ _ h]
  · rw [if_neg h, List.getD, List.getElem?_eq_none (by rw [flatM_len]; omega)]; rfl
theorem oneT_find {E BN : Nat} {T : List TB} (h : COk E BN T) (k : Nat) : oneT E (flatM E BN T) k = (T.find? (fun t => decide (t.at' = (k : Int)))).toList := by
  unfold oneT
  cases hf : T.find? (fun t => decide (t.at' = (k : Int))) with
  | none =>
    have : (partL E (flatM E BN T) k).any fullB = false := by
      rw [List.any_eq_false]
      intro x hx
      obtain ⟨i, hi, rfl⟩ := List.mem_iff_getElem.1 hx
      rw [partL_len] at hi
      have e := partL_at E (flatM E BN T) k hi
      rw [List.getD, List.getElem?_eq_getElem (by rw [partL_len]; exact hi), flat_getD, look_none hi hf] at e
      have e2 : (partL E (flatM E BN T) k)[i] = EN.zero := by
        rw [Option.getD_some] at e; rw [e]; split <;> rfl
      rw [e2]; decide
    rw [this, if_neg (by decide)]; rfl
  | some t =>
    have ht : t ∈ T := List.mem_of_find?_eq_some hf
    obtain ⟨k', h1, h2, h3, h4, h5⟩ := h.tab ht
    have hk : t.at' = (k : Int) := by have := List.find?_some hf; simpa using this
    have hkk : k' = k := by omega
    subst hkk
    have e : partL E (flatM E BN T) k' = t.l := by
      refine same_all (by rw [partL_len, h3]) (fun i hi => ?_)
      rw [partL_len] at hi
      rw [partL_at _ _ _ hi, flat_getD, look_found hi hf]
      by_cases hb : k' * E + i < BN
      · rw [if_pos hb]
      · rw [if_neg hb, (h5 i hi).2 (by omega)]
    rw [e, if_pos h4]
    show [_] = [t]
    obtain ⟨a, l⟩ := t
    dsimp only at hk ⊢
    rw [hk]
theorem canon {E BN : Nat} {T : List TB} (h : COk E BN T) : ofM E (flatM E BN T) = T := by
  have hp := rises_pair h.rise
  have h0 : ∀ t ∈ T, 0 ≤ t.at' := fun t ht => by obtain ⟨k, h1, _⟩ := h.tab ht; omega
  unfold ofM ofK
  rw [flatM_len]
  have e1 : (List.range (nParts E BN)).flatMap (oneT E (flatM E BN T)) = (List.range (nParts E BN)).flatMap (fun k : Nat => (T.find? (fun t => decide (t.at' = (k : Int)))).toList) := by
    congr 1; funext k; exact oneT_find h k
  rw [e1, ← filter_range hp h0, List.filter_eq_self]
  intro t ht
  obtain ⟨k, h1, h2, _⟩ := h.tab ht
  have := (nParts_iff h.e1).2 h2
  simp only [decide_eq_true_eq]; omega
end Go.Proofs.Ytjocdbacdbhemaa
namespace Go.Proofs.Ytjocdbacdbhemaa
open Go.RowKit

theorem rchtNew_any (b : Int) (w : World) : Calls Try.prog 34 #[.int .i64 b] w fun e w' => e = .returned (.tuple #[.agg #[.int .i64 (newC b).blocks, .slice none 0 0], .int .i64 (newE b)]) ∧ Below w.heap.size w w' := by
  have HB0 : ∀ x : Int, Hid (Below w.heap.size w (w.alloc (.cells #[.int .i64 x, .slice none 0 0] 44))) := fun x => Lib.hid (below1 _ _)
  by_cases h1 : b < 0
  · have hm : mayB b = false := by unfold mayB; rw [decide_eq_false (by omega)]; rfl
    unfold newC newE
    rw [hm, if_neg (by decide), if_neg (by decide)]
    unfold CH.zero
    dsimp only
    have d1 : decide (b < 0) = true := decide_eq_true h1
    clear h1 hm
    go_enter Try.func34, Try.ntmps34
    go_wp2
    refine bodyPost_ret (v := .tuple #[.agg #[.int .i64 0, .slice none 0 0], .int .i64 1]) (by simp [results, Try.results34, go_sem]) rfl ?_
    exact ⟨rfl, (HB0 0).out⟩
  · have d1 : decide (b < 0) = false := decide_eq_false h1
    by_cases h2 : 65536 < b
    · have hm : mayB b = false := by unfold mayB; rw [decide_eq_false (show ¬ b ≤ 65536 by omega), Bool.and_false]
      unfold newC newE
      rw [hm, if_neg (by decide), if_neg (by decide)]
      unfold CH.zero
      dsimp only
      have d2 : decide (65536 < b) = true := decide_eq_true h2
      clear h1 h2 hm
      go_enter Try.func34, Try.ntmps34
      go_wp2
      refine bodyPost_ret (v := .tuple #[.agg #[.int .i64 0, .slice none 0 0], .int .i64 1]) (by simp [results, Try.results34, go_sem]) rfl ?_
      exact ⟨rfl, (HB0 0).out⟩
    · have hm : mayB b = true := mayB_iff.2 ⟨by omega, by omega⟩
      unfold newC newE
      rw [hm, if_pos rfl, if_pos rfl]
      dsimp only
      have d2 : decide (65536 < b) = false := decide_eq_false h2
      clear h1 h2 hm
      go_enter Try.func34, Try.ntmps34
      go_wp2
      refine bodyPost_ret (v := .tuple #[.agg #[.int .i64 b, .slice none 0 0], .int .i64 0]) (by simp [results, Try.results34, go_sem]) rfl ?_
      exact ⟨rfl, (HB0 b).out⟩
set_option maxRecDepth 100000 in
set_option maxHeartbeats 4000000 in
theorem rchtGet_no (e B b : Int) (T : List TB) (v : Value) (w : World) (hv : TabsS w v T) (re : Int) (h : (okB e ⟨B, T⟩ = false ∧ re = 2) ∨ (okB e ⟨B, T⟩ = true ∧ ¬ (0 ≤ b ∧ b < B) ∧ re = 1)) :
    Calls Try.prog 24 #[.int .i64 e, .agg #[.int .i64 B, v], .int .i64 b] w fun e w' => e = .returned (.tuple #[EN.zero.v, .int .i64 re]) ∧ Below w.heap.size w w' := by
  have hC := fun W h => rchtCheck_any e B T v W h
  unfold chtE at hC
  have HG0 := Lib.hid (GB.new w B v)
  have HV := Lib.hid hv
  clear hv
  rcases h with ⟨h1, rfl⟩ | ⟨h1, h2, rfl⟩
  · rw [h1, if_neg (by decide)] at hC
    clear h1
    go_enter Try.func24, Try.ntmps24
    go_upto_region 1 with fail
    generalize (w.alloc (.cells #[.int .i64 B, v] 44)).alloc (.cells #[.int .u8 0, .int .i64 0, .int .i64 0, .int .i64 0] 26) = w0 at HG0 ⊢
    have HV0 := Lib.hid (HV.out.below HG0.out.bl)
    obtain ⟨_, y0, y1, _, _⟩ := HG0.out.x
    go_wp2_with (go_at_call 36; with_reducible refine (hC _ HV0.out).mono ?_; rintro e w1 ⟨rfl, hb1⟩; have HG1 := Lib.hid (HG0.out.below hb1); clear hb1 y0 y1; obtain ⟨_, z0, z1, z2, z3, f0, f1, f2, f3⟩ := HG1.out.rx)
    obtain ⟨_, y0, y1, y2, y3, _⟩ := Bx.put HG1.out.rx (.int .u8 0) (.int .i64 0) (.int .i64 0) (.int .i64 0)
    have hB := HG1.out.ends (.int .u8 0) (.int .i64 0) (.int .i64 0) (.int .i64 0)
    unfold put4 at y0 y1 y2 y3 hB
    refine bodyPost_ret (v := .tuple #[EN.v EN.zero, .int .i64 2]) (by unfold EN.v EN.zero; simp [results, Try.results24, go_sem, y0, y1, y2, y3]) rfl ?_
    exact ⟨rfl, hB⟩
  · rw [h1, if_pos rfl] at hC
    have hcase : b < 0 ∨ (0 ≤ b ∧ B ≤ b) := by omega
    clear h1 h2
    go_enter Try.func24, Try.ntmps24
    go_upto_region 1 with fail
    generalize (w.alloc (.cells #[.int .i64 B, v] 44)).alloc (.cells #[.int .u8 0, .int .i64 0, .int .i64 0, .int .i64 0] 26) = w0 at HG0 ⊢
    have HV0 := Lib.hid (HV.out.below HG0.out.bl)
    obtain ⟨_, y0, y1, _, _⟩ := HG0.out.x
    go_upto_region 3 with (go_at_call 36; with_reducible refine (hC _ HV0.out).mono ?_; rintro e w1 ⟨rfl, hb1⟩; have HG1 := Lib.hid (HG0.out.below hb1); clear hb1 y0 y1)
    obtain ⟨_, y0, y1, _, _⟩ := HG1.out.x
    obtain ⟨_, z0, z1, z2, z3, f0, f1, f2, f3⟩ := HG1.out.rx
    rcases hcase with hlt | ⟨hlt, hge⟩
    · have d1 : decide (b < 0) = true := decide_eq_true hlt
      clear hlt
      go_wp2
      obtain ⟨_, y0, y1, y2, y3, _⟩ := Bx.put HG1.out.rx (.int .u8 0) (.int .i64 0) (.int .i64 0) (.int .i64 0)
      have hB := HG1.out.ends (.int .u8 0) (.int .i64 0) (.int .i64 0) (.int .i64 0)
      unfold put4 at y0 y1 y2 y3 hB
      refine bodyPost_ret (v := .tuple #[EN.v EN.zero, .int .i64 1]) (by unfold EN.v EN.zero; simp [results, Try.results24, go_sem, y0, y1, y2, y3]) rfl ?_
      exact ⟨rfl, hB⟩
    · have d1 : decide (b < 0) = false := decide_eq_false (by omega)
      have d2 : decide (B ≤ b) = true := decide_eq_true hge
      clear hlt hge
      go_wp2
      obtain ⟨_, y0, y1, y2, y3, _⟩ := Bx.put HG1.out.rx (.int .u8 0) (.int .i64 0) (.int .i64 0) (.int .i64 0)
      have hB := HG1.out.ends (.int .u8 0) (.int .i64 0) (.int .i64 0) (.int .i64 0)
      unfold put4 at y0 y1 y2 y3 hB
      refine bodyPost_ret (v := .tuple #[EN.v EN.zero, .int .i64 1]) (by unfold EN.v EN.zero; simp [results, Try.results24, go_sem, y0, y1, y2, y3]) rfl ?_
      exact ⟨rfl, hB⟩
set_option maxRecDepth 100000 in
set_option maxHeartbeats 4000000 in
theorem rchtGet_yes (E BN b : Nat) (T : List TB) (v : Value) (w : World) (hv : TabsS w v T) (hOK : COk E BN T) (hok : okB (E : Int) ⟨(BN : Int), T⟩ = true) (hb : b < BN) :
    Calls Try.prog 24 #[.int .i64 (E : Int), .agg #[.int .i64 (BN : Int), v], .int .i64 (b : Int)] w fun e w' => e = .returned (.tuple #[(getM E T b).v, .int .i64 0]) ∧ Below w.heap.size w w' := by
  rw [getM_look hOK.rise, ← flatM_at E BN T hb]
  obtain ⟨R, hR⟩ : ∃ R, R = (flatM E BN T).getD b EN.zero := ⟨_, rfl⟩
  rw [← hR]
  have hC := fun W h => rchtCheck_any (E : Int) (BN : Int) T v W h
  unfold chtE at hC
  rw [hok, if_pos rfl] at hC
  have hF := fun W h => rchtFlat_any E BN T v W h hOK
  have HG0 := Lib.hid (GB.new w (BN : Int) v)
  have HV := Lib.hid hv
  have HR := Lib.hid hR
  have HLN : Hid ((flatM E BN T).length = BN) := Lib.hid (flatM_len E BN T)
  have HBB := Lib.hid hb
  have d1 : decide ((b : Int) < 0) = false := decide_eq_false (by omega)
  have d2 : decide ((BN : Int) ≤ (b : Int)) = false := decide_eq_false (by omega)
  have d3 : decide (BN ≤ b) = false := decide_eq_false (by omega)
  have HBN : Hid (BN ≤ 65536) := Lib.hid hOK.b2
  clear hv hOK hok hR
  generalize flatM E BN T = F at hF HR HLN
  obtain ⟨k, st, mb, fr⟩ := R
  go_enter Try.func24, Try.ntmps24
  go_upto_region 1 with fail
  generalize (w.alloc (.cells #[.int .i64 (BN : Int), v] 44)).alloc (.cells #[.int .u8 0, .int .i64 0, .int .i64 0, .int .i64 0] 26) = w0 at HG0 ⊢
  have HV0 := Lib.hid (HV.out.below HG0.out.bl)
  obtain ⟨_, y0, y1, _, _⟩ := HG0.out.x
  go_upto_region 5 with (go_at_call 36; with_reducible refine (hC _ HV0.out).mono ?_; rintro e w1 ⟨rfl, hb1⟩; have HG1 := Lib.hid (HG0.out.below hb1); have HV1 := Lib.hid (HV0.out.below hb1); clear hb1 y0 y1; obtain ⟨_, y0, y1, _, _⟩ := HG1.out.x)
  clear d1 d2 d3
  go_wp2_with (go_at_call 49; with_reducible refine (hF _ HV1.out).mono ?_; rintro e w2 ⟨rfl, hrow, hb2⟩; have HG2 := Lib.hid (HG1.out.below hb2); clear hb2 y0 y1
               have hat := hrow.2.1 b (by rw [HLN.out]; exact HBB.out)
               rw [← HR.out] at hat
               obtain ⟨g0, g1, g2, g3⟩ := hat
               dsimp only at g0 g1 g2 g3
               clear hrow
               obtain ⟨_, z0, z1, z2, z3, f0, f1, f2, f3⟩ := HG2.out.rx)
  obtain ⟨_, y0, y1, y2, y3, _⟩ := Bx.put HG2.out.rx (.int .u8 k) (.int .i64 st) (.int .i64 mb) (.int .i64 fr)
  have hB := HG2.out.ends (.int .u8 k) (.int .i64 st) (.int .i64 mb) (.int .i64 fr)
  unfold put4 at y0 y1 y2 y3 hB
  refine bodyPost_ret (v := .tuple #[EN.v ⟨k, st, mb, fr⟩, .int .i64 0]) (by unfold EN.v; simp [results, Try.results24, go_sem, y0, y1, y2, y3]) rfl ?_
  exact ⟨rfl, hB⟩
theorem rchtGet_any (e B b : Int) (T : List TB) (v : Value) (w : World) (hv : TabsS w v T) :
    Calls Try.prog 24 #[.int .i64 e, .agg #[.int .i64 B, v], .int .i64 b] w fun e' w' => e' = .returned (.tuple #[(getR e ⟨B, T⟩ b).v, .int .i64 (getRE e ⟨B, T⟩ b)]) ∧ Below w.heap.size w w' := by
  unfold getR getRE
  by_cases hok : okB e ⟨B, T⟩ = true
  · rw [if_pos hok]
    by_cases hb : 0 ≤ b ∧ b < B
    · rw [if_pos ⟨hok, hb⟩, if_pos hb]
      obtain ⟨E, BN, rfl, hBN, hc⟩ := cok_of hok
      dsimp only at hBN hc
      subst hBN
      obtain ⟨b', rfl⟩ : ∃ b' : Nat, b = (b' : Int) := ⟨b.toNat, by omega⟩
      rw [Int.toNat_natCast, Int.toNat_natCast]
      exact rchtGet_yes E BN b' T v w hv hc hok (by omega)
    · rw [if_neg (fun h => hb h.2), if_neg hb]
      exact rchtGet_no e B b T v w hv 1 (.inr ⟨hok, hb, rfl⟩)
  · rw [if_neg (fun h => hok h.1), if_neg hok]
    exact rchtGet_no e B b T v w hv 2 (.inl ⟨by simpa using hok, rfl⟩)
end Go.Proofs.Ytjocdbacdbhemaa
