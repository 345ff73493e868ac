/- Charts: a right map is the map of its entries, block by block. Charts: the document's own New and Get. A region that draws its order, whose operations read, and whose callees leave a relation of ours alone: walked once. Charts: the document's own Same, of two that are one; Same of ints. Charts: the document's own Set. Charts: the document's own Swap. -/
import Derived.Test.YthhbaccbhfngbaaMb08
import Derived.Test.YthhbaccbhfngbaaMb00
namespace Go.Proofs.Ythhbaccbhfngbaa
open Go.RowKit

theorem rises_pair {T : List TB} (h : Rises T) : T.Pairwise (fun a b => a.at' < b.at') := by
  rw [List.pairwise_iff_getElem]
  intro i j hi hj hij
  have := h i j hij hj
  rw [List.getD, List.getElem?_eq_getElem hi, List.getD, List.getElem?_eq_getElem hj] at this
  exact this
theorem filter_step : ∀ (T : List TB) (n : Int), T.Pairwise (fun a b => a.at' < b.at') → T.filter (fun t => decide (t.at' < n + 1)) = T.filter (fun t => decide (t.at' < n)) ++ (T.find? (fun t => decide (t.at' = n))).toList
  | [], _, _ => rfl
  | t :: r, n, h => by
    rw [List.pairwise_cons] at h
    obtain ⟨h1, h2⟩ := h
    have ih := filter_step r n h2
    have none_of : n ≤ t.at' → r.filter (fun t => decide (t.at' < n + 1)) = [] ∧ r.filter (fun t => decide (t.at' < n)) = [] := fun hn => by
      constructor
      · rw [List.filter_eq_nil_iff]; intro x hx; have := h1 x hx; simp; omega
      · rw [List.filter_eq_nil_iff]; intro x hx; have := h1 x hx; simp; omega
    by_cases a : t.at' < n
    · rw [List.filter_cons_of_pos (by simp; omega), List.filter_cons_of_pos (by simpa using a), List.find?_cons_of_neg (by simp; omega), ih]; rfl
    · by_cases b : t.at' = n
      · obtain ⟨e1, e2⟩ := none_of (by omega)
        rw [List.filter_cons_of_pos (by simp; omega), List.filter_cons_of_neg (by simp; omega), List.find?_cons_of_pos (by simp [b]), e1, e2]; rfl
      · obtain ⟨e1, e2⟩ := none_of (by omega)
        have e3 : r.find? (fun t => decide (t.at' = n)) = none := by
          rw [List.find?_eq_none]; intro x hx; have := h1 x hx; simp; omega
        rw [List.filter_cons_of_neg (by simp; omega), List.filter_cons_of_neg (by simp; omega), List.find?_cons_of_neg (by simpa using b), e1, e2, e3]; rfl
theorem filter_range {T : List TB} (h : T.Pairwise (fun a b => a.at' < b.at')) (h0 : ∀ t ∈ T, 0 ≤ t.at') : ∀ n : Nat, T.filter (fun t => decide (t.at' < (n : Int))) = (List.range n).flatMap fun k : Nat => (T.find? (fun t => decide (t.at' = (k : Int)))).toList
  | 0 => by
    rw [List.filter_eq_nil_iff.2]; rfl
    intro x hx; have := h0 x hx; simp; omega
  | n + 1 => by
    rw [List.range_succ, List.flatMap_append, List.flatMap_singleton, ← filter_range h h0 n, ← filter_step T (n : Int) h]
    rfl
theorem eok_hole {p : EN} (h : EOk p) (hf : fullB p = false) : p = EN.zero := by
  unfold fullB at hf
  have hk : p.kind = 0 := by
    by_cases h : p.kind = 0
    · exact h
    · have : (p.kind != 0) = true := by rw [bne_iff_ne]; exact h
      rw [this] at hf; exact absurd hf (by decide)
  rcases h with ⟨a, b, c, d⟩ | ⟨a, _⟩ | ⟨a, _⟩
  · obtain ⟨k, s, m, f⟩ := p; simp_all [EN.zero]
  · omega
  · omega
theorem mem_getD {T : List TB} {t : TB} (h : t ∈ T) : ∃ j, j < T.length ∧ T.getD j TB.zero = t := by
  obtain ⟨k, hk, rfl⟩ := List.mem_iff_getElem.1 h
  exact ⟨k, hk, by rw [List.getD, List.getElem?_eq_getElem hk]; rfl⟩
/-- What a table of a right map has. -/
theorem COk.tab {E BN : Nat} {T : List TB} (h : COk E BN T) {t : TB} (ht : t ∈ T) : ∃ k : Nat, t.at' = (k : Int) ∧ k * E < BN ∧ t.l.length = E ∧ t.l.any fullB = true ∧ ∀ i, i < E → EOk (t.l.getD i EN.zero) ∧ (BN ≤ k * E + i → t.l.getD i EN.zero = EN.zero) := by
  obtain ⟨j, hj, rfl⟩ := mem_getD ht
  obtain ⟨k, h1, h2, h3⟩ := h.each j hj
  have hl := tblB_len h3
  rw [← Int.natCast_mul, show (BN : Int) - ((k * E : Nat) : Int) = ((BN - k * E : Nat) : Int) by omega] at h3
  have hl' : (T.getD j TB.zero).l.length = E := by omega
  obtain ⟨h4, h5⟩ := (tbl_ref E (BN - k * E) _ hl').1 h3
  refine ⟨k, h1, h2, hl', h4, fun i hi => ⟨(h5 i (by omega)).1, fun hb => ?_⟩⟩
  exact eok_hole (h5 i (by omega)).1 ((h5 i (by omega)).2 (by omega))
theorem look_found {E k i : Nat} {T : List TB} {t : TB} (hi : i < E) (h : T.find? (fun t => decide (t.at' = (k : Int))) = some t) : lookM E T (k * E + i) = t.l.getD i EN.zero := by
  unfold lookM
  rw [show (k * E + i) / E = k by rw [Nat.mul_comm, Nat.mul_add_div (by omega), Nat.div_eq_of_lt hi, Nat.add_zero], show (k * E + i) % E = i by rw [Nat.mul_comm, Nat.mul_add_mod, Nat.mod_eq_of_lt hi], h]
theorem look_none {E k i : Nat} {T : List TB} (hi : i < E) (h : T.find? (fun t => decide (t.at' = (k : Int))) = none) : lookM E T (k * E + i) = EN.zero := by
  unfold lookM
  rw [show (k * E + i) / E = k by rw [Nat.mul_comm, Nat.mul_add_div (by omega), Nat.div_eq_of_lt hi, Nat.add_zero], h]
theorem flat_getD (E BN : Nat) (T : List TB) (b : Nat) : (flatM E BN T).getD b EN.zero = if b < BN then lookM E T b else EN.zero := by
  by_cases h : b < BN
  · rw [if_pos h, flatM_at _ _ _ h]
  · rw [if_neg h, List.getD, List.getElem?_eq_none (by rw [flatM_len]; omega)]; rfl
theorem oneT_find {E BN : Nat} {T : List TB} (h : COk E BN T) (k : Nat) : oneT E (flatM E BN T) k = (T.find? (fun t => decide (t.at' = (k : Int)))).toList := by
  unfold oneT
  cases hf : T.find? (fun t => decide (t.at' = (k : Int))) with
  | none =>
    have : (partL E (flatM E BN T) k).any fullB = false := by
      rw [List.any_eq_false]
      intro x hx
      obtain ⟨i, hi, rfl⟩ := List.mem_iff_getElem.1 hx
      rw [partL_len] at hi
      have e := partL_at E (flatM E BN T) k hi
      rw [List.getD, List.getElem?_eq_getElem (by rw [partL_len]; exact hi), flat_getD, look_none hi hf] at e
      have e2 : (partL E (flatM E BN T) k)[i] = EN.zero := by
        rw [Option.getD_some] at e; rw [e]; split <;> rfl
      rw [e2]; decide
    rw [this, if_neg (by decide)]; rfl
  | some t =>
    have ht : t ∈ T := List.mem_of_find?_eq_some hf
    obtain ⟨k', h1, h2, h3, h4, h5⟩ := h.tab ht
    have hk : t.at' = (k : Int) := by have := List.find?_some hf; simpa using this
    have hkk : k' = k := by omega
    subst hkk
    have e : partL E (flatM E BN T) k' = t.l := by
      refine same_all (by rw [partL_len, h3]) (fun i hi => ?_)
      rw [partL_len] at hi
      rw [partL_at _ _ _ hi, flat_getD, look_found hi hf]
      by_cases hb : k' * E + i < BN
      · rw [if_pos hb]
      · rw [if_neg hb, (h5 i hi).2 (by omega)]
    rw [e, if_pos h4]
    show [_] = [t]
    obtain ⟨a, l⟩ := t
    dsimp only at hk ⊢
    rw [hk]
theorem canon {E BN : Nat} {T : List TB} (h : COk E BN T) : ofM E (flatM E BN T) = T := by
  have hp := rises_pair h.rise
  have h0 : ∀ t ∈ T, 0 ≤ t.at' := fun t ht => by obtain ⟨k, h1, _⟩ := h.tab ht; omega
  unfold ofM ofK
  rw [flatM_len]
  have e1 : (List.range (nParts E BN)).flatMap (oneT E (flatM E BN T)) = (List.range (nParts E BN)).flatMap (fun k : Nat => (T.find? (fun t => decide (t.at' = (k : Int)))).toList) := by
    congr 1; funext k; exact oneT_find h k
  rw [e1, ← filter_range hp h0, List.filter_eq_self]
  intro t ht
  obtain ⟨k, h1, h2, _⟩ := h.tab ht
  have := (nParts_iff h.e1).2 h2
  simp only [decide_eq_true_eq]; omega
end Go.Proofs.Ythhbaccbhfngbaa
namespace Go.Proofs.Ythhbaccbhfngbaa
open Go.RowKit

end Go.Proofs.Ythhbaccbhfngbaa
namespace Go.Proofs.Ythhbaccbhfngbaa
open Go.RowKit

/-- A world of a class. -/
structure Wk (C : World → Prop) where
  W : World
  h : C W

theorem wp_region_wk {P : Program} {id : Nat} {Q : Exit → Act → World → Prop} {a : Act} {w : World} {l : List Oper} (C : World → Prop) (hm : P.follows .mixedOrders = true) (hB : Region.lexB .any l.toArray = true) (h0 : C w.drew)
    (h : wpQuiet P l.toArray (fun w' => ∃ p : Wk C, w' = p.W) (fun a' => ∀ p : Wk C, Q .normal a' p.W) l a) : (Code.region id l.toArray true).wp P Q a w :=
  wp_region_quiet (C := fun w' => ∃ p : Wk C, w' = p.W) hm hB ⟨⟨_, h0⟩, rfl⟩ (by simpa using h)
end Go.Proofs.Ythhbaccbhfngbaa
namespace Go.Proofs.Ythhbaccbhfngbaa
open Go.RowKit

end Go.Proofs.Ythhbaccbhfngbaa
namespace Go.Proofs.Ythhbaccbhfngbaa
open Go.RowKit

def setOk (c : CH) (b : Int) (x : EN) : Prop := (0 ≤ b ∧ b < c.blocks) ∧ EOk x
instance (c : CH) (b : Int) (x : EN) : Decidable (setOk c b x) := by unfold setOk; infer_instance
def setL (e : Int) (c : CH) (b : Int) (x : EN) : List EN := (flatM e.toNat c.blocks.toNat c.tabs).set b.toNat x
/-- The map in which x stands, or the map as it was, or none. -/
def setC (e : Int) (c : CH) (b : Int) (x : EN) : CH := if okB e c = true then (if setOk c b x then ⟨c.blocks, ofM e.toNat (setL e c b x)⟩ else c) else CH.zero
def setRE (e : Int) (c : CH) (b : Int) (x : EN) : Int := if okB e c = true then (if 0 ≤ b ∧ b < c.blocks then (if EOk x then 0 else 2) else 1) else 2
theorem TabsS.form {w : World} {v : Value} {T : List TB} (h : TabsS w v T) : ∃ A cap, v = .slice A T.length cap := by obtain ⟨A, cap, h, _⟩ := h; exact ⟨A, cap, h⟩
theorem TabsS.none (w : World) : TabsS w (.slice none 0 0) [] := ⟨Option.none, 0, rfl, Nat.le_refl _, Nat.zero_le _, .inl rfl⟩
/-- A chart's box, an entry's, and a result's place. -/
structure SB (w W : World) (B : Int) (v : Value) (x : EN) : Prop where
  bl : Below w.heap.size w W
  c : B2 W w.heap.size (.int .i64 B) v
  e : EBox W (w.heap.size + 1) x
  r : B2 W (w.heap.size + 2) (.int .i64 0) (.slice none 0 0)
theorem SB.below {w W W' : World} {B : Int} {v : Value} {x : EN} (k : SB w W B v x) (hb : Below W.heap.size W W') : SB w W' B v x := ⟨k.bl.trans (hb.mono k.bl.size), k.c.below hb, k.e.below hb, k.r.below hb⟩
theorem SB.new (w : World) (B : Int) (v : Value) (x : EN) : SB w (((w.alloc (.cells #[.int .i64 B, v] 44)).alloc (.cells #[.int .u8 x.kind, .int .i64 x.st, .int .i64 x.mb, .int .i64 x.fr] 50)).alloc (.cells #[.int .i64 0, .slice none 0 0] 44)) B v x := by
  have h1 := EBox.new (w.alloc (.cells #[.int .i64 B, v] 44)) x.kind x.st x.mb x.fr 50
  have h2 := B2.new ((w.alloc (.cells #[.int .i64 B, v] 44)).alloc (.cells #[.int .u8 x.kind, .int .i64 x.st, .int .i64 x.mb, .int .i64 x.fr] 50)) (.int .i64 0) (.slice none 0 0) 44
  rw [World.size_alloc] at h1 h2
  rw [World.size_alloc] at h2
  exact ⟨((below1 _ _).alloc (by simp) _).alloc (by simp; omega) _, ((B2.new w _ _ _).below (below1 _ _)).below (below1 _ _), h1.below (below1 _ _), h2⟩
/-- The result, stored. -/
theorem SB.ends {w W : World} {B : Int} {v : Value} {x : EN} (k : SB w W B v x) (u0 u1 : Value) : Below w.heap.size w ((W.setCell ⟨w.heap.size + 2, 0, none⟩ u0).setCell ⟨w.heap.size + 2, 1, none⟩ u1) ∧ ((W.setCell ⟨w.heap.size + 2, 0, none⟩ u0).setCell ⟨w.heap.size + 2, 1, none⟩ u1).cell? ⟨w.heap.size + 2, 0, none⟩ = some u0 ∧ ((W.setCell ⟨w.heap.size + 2, 0, none⟩ u0).setCell ⟨w.heap.size + 2, 1, none⟩ u1).cell? ⟨w.heap.size + 2, 1, none⟩ = some u1 := by
  refine ⟨(k.bl.setCell (p := ⟨_, 0, none⟩) (by show _ ≤ w.heap.size + 2; omega) _).setCell (p := ⟨_, 1, none⟩) (by show _ ≤ w.heap.size + 2; omega) _, ?_, ?_⟩
  · exact (cell_putne _ _ _ _ _ (by omega)).trans (cell_put k.r.c0 _)
  · exact cell_put ((cell_putne _ _ _ _ _ (by omega)).trans k.r.c1) _
theorem SB.tabs {w W : World} {B : Int} {v : Value} {x : EN} {T : List TB} (_ : SB w W B v x) (h : TabsS w v T) (u0 u1 : Value) (hb : Below w.heap.size w ((W.setCell ⟨w.heap.size + 2, 0, none⟩ u0).setCell ⟨w.heap.size + 2, 1, none⟩ u1)) : TabsS ((W.setCell ⟨w.heap.size + 2, 0, none⟩ u0).setCell ⟨w.heap.size + 2, 1, none⟩ u1) v T := h.below hb
end Go.Proofs.Ythhbaccbhfngbaa
namespace Go.Proofs.Ythhbaccbhfngbaa
open Go.RowKit

def swap1 (was is : EN) (x : EN) : EN := if x = was ∧ fullB x = true then is else x
def swapQ (was : EN) (x : EN) : Bool := decide (x = was ∧ fullB x = true)
def swapL (was is : EN) (L : List EN) : List EN := L.map (swap1 was is)
def swapC (e : Int) (c : CH) (was is : EN) : CH := if okB e c = true then (if EOk is then ⟨c.blocks, ofM e.toNat (swapL was is (flatM e.toNat c.blocks.toNat c.tabs))⟩ else c) else CH.zero
def swapN (e : Int) (c : CH) (was is : EN) : Nat := if okB e c = true ∧ EOk is then (flatM e.toNat c.blocks.toNat c.tabs).countP (swapQ was) else 0
def swapE (e : Int) (c : CH) (is : EN) : Int := if okB e c = true ∧ EOk is then 0 else 2
/-- A chart's box, two entries', and a result's place. -/
structure SW (w W : World) (B : Int) (v : Value) (x y : EN) : Prop where
  bl : Below w.heap.size w W
  c : B2 W w.heap.size (.int .i64 B) v
  e : EBox W (w.heap.size + 1) x
  f : EBox W (w.heap.size + 2) y
  r : B2 W (w.heap.size + 3) (.int .i64 0) (.slice none 0 0)
theorem SW.ap {S : Nat → Prop} {w W W' : World} {B : Int} {v : Value} {x y : EN} (k : SW w W B v x y) (a : Ap S W W') (hS : ∀ q, S q → w.heap.size + 3 < q) : SW w W' B v x y :=
  ⟨k.bl.trans (a.below k.bl.size (fun q e => by have := hS q e; omega)), k.c.ap a (fun e => by have := hS _ e; omega), Bx.ap k.e a (fun e => by have := hS _ e; omega), Bx.ap k.f a (fun e => by have := hS _ e; omega), k.r.ap a (fun e => by have := hS _ e; omega)⟩
theorem SW.below {w W W' : World} {B : Int} {v : Value} {x y : EN} (k : SW w W B v x y) (hb : Below W.heap.size W W') : SW w W' B v x y := k.ap (Ap.of_below (S := fun _ => False) hb) (fun _ h => h.elim)
theorem SW.new (w : World) (B : Int) (v : Value) (x y : EN) : SW w ((((w.alloc (.cells #[.int .i64 B, v] 44)).alloc (.cells #[.int .u8 x.kind, .int .i64 x.st, .int .i64 x.mb, .int .i64 x.fr] 50)).alloc (.cells #[.int .u8 y.kind, .int .i64 y.st, .int .i64 y.mb, .int .i64 y.fr] 50)).alloc (.cells #[.int .i64 0, .slice none 0 0] 44)) B v x y := by
  generalize ha : w.alloc (.cells #[.int .i64 B, v] 44) = wa
  have sa : wa.heap.size = w.heap.size + 1 := by rw [← ha]; simp
  have h0 : B2 wa w.heap.size (.int .i64 B) v := by rw [← ha]; exact B2.new w _ _ _
  have hba : Below w.heap.size w wa := by rw [← ha]; exact below1 _ _
  have h1 := EBox.new wa x.kind x.st x.mb x.fr 50
  generalize hb : wa.alloc (.cells #[.int .u8 x.kind, .int .i64 x.st, .int .i64 x.mb, .int .i64 x.fr] 50) = wb at h1
  have sb : wb.heap.size = w.heap.size + 2 := by rw [← hb]; simp [sa]
  have hbb : Below wa.heap.size wa wb := by rw [← hb]; exact below1 _ _
  have h2 := EBox.new wb y.kind y.st y.mb y.fr 50
  generalize hc : wb.alloc (.cells #[.int .u8 y.kind, .int .i64 y.st, .int .i64 y.mb, .int .i64 y.fr] 50) = wc at h2
  have sc : wc.heap.size = w.heap.size + 3 := by rw [← hc]; simp [sb]
  have hbc : Below wb.heap.size wb wc := by rw [← hc]; exact below1 _ _
  have h3 := B2.new wc (.int .i64 0) (.slice none 0 0) 44
  have hbd : Below wc.heap.size wc (wc.alloc (.cells #[.int .i64 0, .slice none 0 0] 44)) := below1 _ _
  rw [sa] at h1
  rw [sb] at h2
  rw [sc] at h3
  exact ⟨((hba.trans (hbb.mono (by omega))).trans (hbc.mono (by omega))).trans (hbd.mono (by omega)), ((h0.below hbb).below hbc).below hbd, (EBox.below h1 hbc).below hbd, EBox.below h2 hbd, h3⟩
theorem SW.ends {w W : World} {B : Int} {v : Value} {x y : EN} (k : SW w W B v x y) (u0 u1 : Value) : Below w.heap.size w ((W.setCell ⟨w.heap.size + 3, 0, none⟩ u0).setCell ⟨w.heap.size + 3, 1, none⟩ u1) ∧ ((W.setCell ⟨w.heap.size + 3, 0, none⟩ u0).setCell ⟨w.heap.size + 3, 1, none⟩ u1).cell? ⟨w.heap.size + 3, 0, none⟩ = some u0 ∧ ((W.setCell ⟨w.heap.size + 3, 0, none⟩ u0).setCell ⟨w.heap.size + 3, 1, none⟩ u1).cell? ⟨w.heap.size + 3, 1, none⟩ = some u1 := by
  refine ⟨(k.bl.setCell (p := ⟨_, 0, none⟩) (by show _ ≤ w.heap.size + 3; omega) _).setCell (p := ⟨_, 1, none⟩) (by show _ ≤ w.heap.size + 3; omega) _, ?_, ?_⟩
  · exact (cell_putne _ _ _ _ _ (by omega)).trans (cell_put k.r.c0 _)
  · exact cell_put ((cell_putne _ _ _ _ _ (by omega)).trans k.r.c1) _
/-- Under way: those ahead of i are turned. -/
def halfW (was is : EN) (L : List EN) (i : Nat) : List EN := swapL was is (L.take i) ++ L.drop i
theorem halfW_len (was is : EN) (L : List EN) {i : Nat} (h : i ≤ L.length) : (halfW was is L i).length = L.length := by unfold halfW swapL; rw [List.length_append, List.length_map, List.length_take, List.length_drop]; omega
theorem halfW_at (was is : EN) (L : List EN) {i : Nat} (h : i < L.length) : (halfW was is L i).getD i EN.zero = L.getD i EN.zero := by
  unfold halfW swapL
  have hl : ((L.take i).map (swap1 was is)).length = i := by rw [List.length_map, List.length_take]; omega
  rw [List.getD, List.getElem?_append_right (by omega), hl, Nat.sub_self, List.getElem?_drop, Nat.add_zero]; rfl
theorem halfW_next (was is : EN) (L : List EN) {i : Nat} (h : i < L.length) : (halfW was is L i).set i (swap1 was is (L.getD i EN.zero)) = halfW was is L (i + 1) := by
  unfold halfW swapL
  have hl : ((L.take i).map (swap1 was is)).length = i := by rw [List.length_map, List.length_take]; omega
  rw [List.set_append_right _ _ (by omega), hl, Nat.sub_self, List.drop_eq_getElem_cons h, take_snocE h, List.map_append, List.append_assoc]
  congr 1
theorem halfW_stay (was is : EN) (L : List EN) {i : Nat} (h : i < L.length) (hs : swap1 was is (L.getD i EN.zero) = L.getD i EN.zero) : halfW was is L i = halfW was is L (i + 1) := by
  rw [← halfW_next was is L h, hs]
  refine same_all (by rw [List.length_set]) (fun j hj => ?_)
  rw [getD_setE _ _ _ _ (by rw [halfW_len _ _ _ (by omega)]; exact h)]
  by_cases e : j = i
  · rw [if_pos e, e, halfW_at _ _ _ h]
  · rw [if_neg e]
theorem cnt_next (was : EN) (L : List EN) {i : Nat} (h : i < L.length) : (L.take (i + 1)).countP (swapQ was) = (L.take i).countP (swapQ was) + (if swapQ was (L.getD i EN.zero) = true then 1 else 0) := by
  rw [take_snocE h, List.countP_append, List.countP_cons, List.countP_nil]; simp
end Go.Proofs.Ythhbaccbhfngbaa
