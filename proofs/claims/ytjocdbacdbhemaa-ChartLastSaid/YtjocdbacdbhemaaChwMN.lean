/- Charts: the map of any right entries is right, and has them: what a row of changes keeps. Charts: append(l, make(..)...) of entries to a row of a call's own, with room or without. -/
import Derived.Test.YtjocdbacdbhemaaChvMB
import Derived.Test.YtjocdbacdbhemaaChvQ
import Derived.Test.YtjocdbacdbhemaaChuF
import Derived.Test.YtjocdbacdbhemaaChvG
namespace Go.Proofs.Ytjocdbacdbhemaa
open Go.RowKit

def allP (E : Nat) (L : List EN) : List TB := (List.range (nParts E L.length)).map (fun k : Nat => (⟨(k : Int), partL E L k⟩ : TB))
theorem getD_outE {L : List EN} {i : Nat} (h : L.length ≤ i) : L.getD i EN.zero = EN.zero := by
  rw [List.getD, List.getElem?_eq_none h]; rfl
section
variable {E : Nat} {L : List EN}
theorem allP_half (h1 : 1 ≤ E) (h2 : E ≤ 8192) (hb : L.length ≤ 65536) (hok : ∀ i, i < L.length → EOk (L.getD i EN.zero)) : CHalf E L.length (allP E L) := by
  refine ⟨h1, h2, hb, ?_, fun t ht => ?_⟩
  · unfold allP
    rw [List.pairwise_map]
    exact List.pairwise_lt_range.imp fun {a b} h => by show (a : Int) < (b : Int); omega
  · unfold allP at ht
    obtain ⟨k, _, rfl⟩ := List.mem_map.1 ht
    refine ⟨k, rfl, partL_len _ _ _, fun i hi => ?_⟩
    show EOk ((partL E L k).getD i EN.zero) ∧ (L.length ≤ k * E + i → (partL E L k).getD i EN.zero = EN.zero)
    rw [partL_at _ _ _ hi]
    refine ⟨?_, getD_outE⟩
    by_cases h : k * E + i < L.length
    · exact hok _ h
    · rw [getD_outE (by omega)]; exact zero_ok
theorem look_all (h1 : 1 ≤ E) (h2 : E ≤ 8192) (hb : L.length ≤ 65536) (hok : ∀ i, i < L.length → EOk (L.getD i EN.zero)) {b : Nat} (h : b < L.length) : lookM E (allP E L) b = L.getD b EN.zero := by
  have hd : b / E * E + b % E = b := by rw [Nat.mul_comm]; exact Nat.div_add_mod b E
  have hm : (⟨((b / E : Nat) : Int), partL E L (b / E)⟩ : TB) ∈ allP E L := by
    unfold allP
    refine List.mem_map.2 ⟨b / E, List.mem_range.2 ((nParts_iff h1).2 ?_), rfl⟩
    have := Nat.zero_le (b % E)
    omega
  rw [look_mem (allP_half h1 h2 hb hok).rise hm rfl]
  show (partL E L (b / E)).getD (b % E) EN.zero = _
  rw [partL_at _ _ _ (Nat.mod_lt b h1), hd]
theorem flat_all (h1 : 1 ≤ E) (h2 : E ≤ 8192) (hb : L.length ≤ 65536) (hok : ∀ i, i < L.length → EOk (L.getD i EN.zero)) : flatM E L.length (allP E L) = L := by
  unfold flatM
  refine List.ext_getElem (by simp) (fun i g1 g2 => ?_)
  rw [List.getElem_map, List.getElem_range, look_all h1 h2 hb hok g2, List.getD, List.getElem?_eq_getElem g2]; rfl
/-- The map of right entries is right, and has them. -/
theorem ofM_ok (h1 : 1 ≤ E) (h2 : E ≤ 8192) (hb : L.length ≤ 65536) (hok : ∀ i, i < L.length → EOk (L.getD i EN.zero)) : COk E L.length (ofM E L) ∧ flatM E L.length (ofM E L) = L := by
  have hh := allP_half h1 h2 hb hok
  have e : pruneT (allP E L) = ofM E L := by rw [prune_of hh, flat_all h1 h2 hb hok]
  rw [← e]
  exact ⟨prune_ok hh, (flat_prune hh).trans (flat_all h1 h2 hb hok)⟩
end
theorem eok_look {E BN : Nat} {T : List TB} (h : COk E BN T) (b : Nat) : EOk (lookM E T b) := by
  by_cases hx : ∃ t ∈ T, t.at' = ((b / E : Nat) : Int)
  · obtain ⟨t, ht, ha⟩ := hx
    obtain ⟨k, _, _, _, _, h5⟩ := h.tab ht
    rw [look_mem (rises_pair h.rise) ht ha]
    exact (h5 _ (Nat.mod_lt b h.e1)).1
  · rw [look_out (fun t ht e => hx ⟨t, ht, e⟩)]
    exact zero_ok
theorem tabsB_of {e B : Int} : ∀ (T : List TB) (least : Int), (∀ t ∈ T, least ≤ t.at') → T.Pairwise (fun a b => a.at' < b.at') → (∀ t ∈ T, t.at' < parts e B ∧ tblB e t.l (B - t.at' * e) = true) → tabsB e B least T = true
  | [], _, _, _, _ => rfl
  | t :: r, least, h1, h2, h3 => by
    rw [List.pairwise_cons] at h2
    obtain ⟨g1, g2⟩ := h3 t (List.mem_cons_self ..)
    show (decide (least ≤ t.at') && decide (t.at' < parts e B) && tblB e t.l (B - t.at' * e) && tabsB e B (t.at' + 1) r) = true
    rw [decide_eq_true (h1 t (List.mem_cons_self ..)), decide_eq_true g1, g2, tabsB_of r (t.at' + 1) (fun x hx => by have := h2.1 x hx; omega) h2.2 (fun x hx => h3 x (List.mem_cons_of_mem _ hx))]; rfl
theorem okB_of {E BN : Nat} {T : List TB} (h : COk E BN T) : okB (E : Int) ⟨(BN : Int), T⟩ = true := by
  have h1 := h.e1
  have h2 := h.e2
  have hT := tabsB_of (e := (E : Int)) (B := (BN : Int)) T 0 (fun t ht => by obtain ⟨k, hk, _⟩ := h.tab ht; omega) (rises_pair h.rise) (fun t ht => by
    obtain ⟨j, hj, rfl⟩ := mem_getD ht
    obtain ⟨k, hk, hkE, htb⟩ := h.each j hj
    rw [hk]
    exact ⟨(parts_iff (by omega)).2 (by rw [← Int.natCast_mul]; exact Int.ofNat_lt.2 hkE), htb⟩)
  unfold okB
  show (decide (1 ≤ (E : Int)) && decide ((E : Int) ≤ 8192) && mayB (BN : Int) && tabsB (E : Int) (BN : Int) 0 T) = true
  rw [decide_eq_true (by omega), decide_eq_true (by omega), mayB_iff.2 ⟨by omega, by have := h.b2; omega⟩, hT]; rfl
/-- A right map, and its entries. -/
structure LS (E BN : Nat) (T : List TB) (L : List EN) : Prop where
  ok : COk E BN T
  fl : flatM E BN T = L
section
variable {E BN : Nat} {T : List TB} {L : List EN}
theorem LS.len (h : LS E BN T L) : L.length = BN := by rw [← h.fl]; exact flatM_len E BN T
theorem LS.eok (h : LS E BN T L) (i : Nat) : EOk (L.getD i EN.zero) := by
  by_cases hi : i < BN
  · rw [← h.fl, flatM_at E BN T hi]; exact eok_look h.ok i
  · rw [getD_outE (by rw [h.len]; omega)]; exact zero_ok
theorem LS.okB (h : LS E BN T L) : okB (E : Int) ⟨(BN : Int), T⟩ = true := okB_of h.ok
theorem LS.of {M : List EN} (h : LS E BN T L) (hb : M.length ≤ 65536) (hok : ∀ i, i < M.length → EOk (M.getD i EN.zero)) : LS E M.length (ofM E M) M := by
  obtain ⟨a, b⟩ := ofM_ok h.ok.e1 h.ok.e2 hb hok
  exact ⟨a, b⟩
theorem LS.new (h1 : 1 ≤ E) (h2 : E ≤ 8192) (hb : BN ≤ 65536) : LS E BN [] (List.replicate BN EN.zero) := by
  refine ⟨⟨h1, h2, hb, fun i j hij hj => absurd hj (by simp), fun j hj => absurd hj (by simp)⟩, ?_⟩
  unfold flatM
  refine List.ext_getElem (by simp) (fun i g1 g2 => ?_)
  rw [List.getElem_map, List.getElem_replicate]
  exact look_out (fun t ht => by cases ht)
theorem set_getD {x : EN} (b i : Nat) (hb : b < L.length) : (L.set b x).getD i EN.zero = if i = b then x else L.getD i EN.zero := by
  rw [List.getD, List.getElem?_set]
  by_cases h : b = i
  · subst h; rw [if_pos rfl, if_pos hb, if_pos rfl]; rfl
  · rw [if_neg h, if_neg (fun e => h e.symm)]; rfl
theorem LS.set (h : LS E BN T L) {b : Nat} (hb : b < BN) {x : EN} (hx : EOk x) : LS E BN (ofM E (L.set b x)) (L.set b x) := by
  have h2 := h.of (M := L.set b x) (by rw [List.length_set, h.len]; exact h.ok.b2) (fun i _ => by
    rw [set_getD b i (by rw [h.len]; exact hb)]
    split
    · exact hx
    · exact h.eok i)
  rw [List.length_set, h.len] at h2
  exact h2
theorem LS.res (h : LS E BN T L) {nb : Nat} (hb : nb ≤ 65536) : LS E nb (ofM E (resL nb L)) (resL nb L) := by
  have h2 := h.of (M := resL nb L) (by rw [resL_len]; exact hb) (fun i hi => by
    rw [resL_len] at hi
    rw [resL_at nb L hi]; exact h.eok i)
  rw [resL_len] at h2
  exact h2
theorem LS.swap (h : LS E BN T L) (was : EN) {is : EN} (hi : EOk is) : LS E BN (ofM E (swapL was is L)) (swapL was is L) := by
  have hl : (swapL was is L).length = BN := by unfold swapL; rw [List.length_map, h.len]
  have h2 := h.of (M := swapL was is L) (by rw [hl]; exact h.ok.b2) (fun i hi2 => by
    rw [hl] at hi2
    have e : (swapL was is L).getD i EN.zero = swap1 was is (L.getD i EN.zero) := by
      unfold swapL
      rw [List.getD, List.getElem?_map, List.getD, List.getElem?_eq_getElem (by rw [h.len]; exact hi2)]; rfl
    rw [e]
    unfold swap1
    split
    · exact hi
    · exact h.eok i)
  rw [hl] at h2
  exact h2
end
/-! ### what Set, Resize, Swap answer of a right map -/
section
variable {E BN : Nat} {T : List TB} {L : List EN}
theorem LS.setY (h : LS E BN T L) {b : Nat} (hb : b < BN) {x : EN} (hx : EOk x) : setC (E : Int) ⟨(BN : Int), T⟩ (b : Int) x = ⟨(BN : Int), ofM E (L.set b x)⟩ ∧ setRE (E : Int) ⟨(BN : Int), T⟩ (b : Int) x = 0 := by
  have h0 : 0 ≤ (b : Int) ∧ (b : Int) < (BN : Int) := by omega
  unfold setC setRE setL
  rw [if_pos h.okB, if_pos h.okB, if_pos (show setOk ⟨(BN : Int), T⟩ (b : Int) x from ⟨h0, hx⟩), if_pos h0, if_pos hx]
  refine ⟨?_, rfl⟩
  show (⟨(BN : Int), ofM (E : Int).toNat ((flatM (E : Int).toNat (BN : Int).toNat T).set (b : Int).toNat x)⟩ : CH) = _
  rw [Int.toNat_natCast, Int.toNat_natCast, Int.toNat_natCast, h.fl]
theorem LS.setN (h : LS E BN T L) {b : Int} {x : EN} (hb : ¬ ((0 ≤ b ∧ b < (BN : Int)) ∧ EOk x)) : setC (E : Int) ⟨(BN : Int), T⟩ b x = ⟨(BN : Int), T⟩ ∧ setRE (E : Int) ⟨(BN : Int), T⟩ b x ≠ 0 := by
  unfold setC setRE
  rw [if_pos h.okB, if_pos h.okB, if_neg (show ¬ setOk ⟨(BN : Int), T⟩ b x from hb)]
  refine ⟨rfl, ?_⟩
  split
  · rename_i h0
    rw [if_neg (fun hx => hb ⟨h0, hx⟩)]; decide
  · decide
theorem LS.resY (h : LS E BN T L) {nb : Nat} (hb : nb ≤ 65536) : resC (E : Int) ⟨(BN : Int), T⟩ (nb : Int) = ⟨(nb : Int), ofM E (resL nb L)⟩ ∧ resE (E : Int) ⟨(BN : Int), T⟩ (nb : Int) = 0 := by
  have hm : mayB (nb : Int) = true := mayB_iff.2 ⟨by omega, by omega⟩
  unfold resC resE
  rw [if_pos h.okB, if_pos h.okB, if_pos hm, if_pos hm]
  refine ⟨?_, rfl⟩
  show (⟨(nb : Int), ofM (E : Int).toNat (resL (nb : Int).toNat (flatM (E : Int).toNat (BN : Int).toNat T))⟩ : CH) = _
  rw [Int.toNat_natCast, Int.toNat_natCast, Int.toNat_natCast, h.fl]
theorem LS.resN (h : LS E BN T L) {nb : Int} (hb : nb < 0) : resC (E : Int) ⟨(BN : Int), T⟩ nb = ⟨(BN : Int), T⟩ ∧ resE (E : Int) ⟨(BN : Int), T⟩ nb = 1 := by
  have hm : ¬ mayB nb = true := fun e => by have := (mayB_iff.1 e).1; omega
  unfold resC resE
  rw [if_pos h.okB, if_pos h.okB, if_neg hm, if_neg hm]
  exact ⟨rfl, rfl⟩
theorem LS.swapY (h : LS E BN T L) (was : EN) {is : EN} (hi : EOk is) : swapC (E : Int) ⟨(BN : Int), T⟩ was is = ⟨(BN : Int), ofM E (swapL was is L)⟩ ∧ swapN (E : Int) ⟨(BN : Int), T⟩ was is = L.countP (swapQ was) ∧ swapE (E : Int) ⟨(BN : Int), T⟩ is = 0 := by
  have hh : Go.Proofs.Ytjocdbacdbhemaa.okB (E : Int) ⟨(BN : Int), T⟩ = true ∧ EOk is := ⟨h.okB, hi⟩
  unfold swapC swapN swapE
  rw [if_pos h.okB, if_pos hi, if_pos hh, if_pos hh]
  refine ⟨?_, ?_, rfl⟩
  · show (⟨(BN : Int), ofM (E : Int).toNat (swapL was is (flatM (E : Int).toNat (BN : Int).toNat T))⟩ : CH) = _
    rw [Int.toNat_natCast, Int.toNat_natCast, h.fl]
  · show (flatM (E : Int).toNat (BN : Int).toNat T).countP (swapQ was) = _
    rw [Int.toNat_natCast, Int.toNat_natCast, h.fl]
theorem LS.swapNo (h : LS E BN T L) (was : EN) {is : EN} (hi : ¬ EOk is) : swapC (E : Int) ⟨(BN : Int), T⟩ was is = ⟨(BN : Int), T⟩ ∧ swapN (E : Int) ⟨(BN : Int), T⟩ was is = 0 ∧ swapE (E : Int) ⟨(BN : Int), T⟩ is = 2 := by
  unfold swapC swapN swapE
  rw [if_pos h.okB, if_neg hi, if_neg (fun x => hi x.2), if_neg (fun x => hi x.2)]
  exact ⟨rfl, rfl, rfl⟩
theorem LS.getY (h : LS E BN T L) {b : Nat} (hb : b < BN) : getR (E : Int) ⟨(BN : Int), T⟩ (b : Int) = L.getD b EN.zero ∧ getRE (E : Int) ⟨(BN : Int), T⟩ (b : Int) = 0 := by
  have h0 : 0 ≤ (b : Int) ∧ (b : Int) < (BN : Int) := by omega
  unfold getR getRE
  rw [if_pos h.okB, if_pos h0, if_pos (show Go.Proofs.Ytjocdbacdbhemaa.okB (E : Int) ⟨(BN : Int), T⟩ = true ∧ 0 ≤ (b : Int) ∧ (b : Int) < (BN : Int) from ⟨h.okB, h0⟩)]
  refine ⟨?_, rfl⟩
  show getM (E : Int).toNat T (b : Int).toNat = _
  rw [Int.toNat_natCast, Int.toNat_natCast, getM_look h.ok.rise, ← h.fl, flatM_at E BN T hb]
end
end Go.Proofs.Ytjocdbacdbhemaa
namespace Go.Proofs.Ytjocdbacdbhemaa
open Go.RowKit

theorem zeroC_one : ∀ u ∈ zeroC.toList, u.oneCell' = true := by
  intro u hu
  simp only [zeroC, List.mem_cons, List.not_mem_nil, or_false] at hu
  rcases hu with rfl | rfl | rfl | rfl <;> rfl
theorem zeroCells_one (k : Nat) : ∀ u ∈ (Builtin.zeroCells zeroC k).toList, u.oneCell' = true := by
  intro u hu
  unfold Builtin.zeroCells at hu
  rw [Array.toList_map, List.mem_map] at hu
  obtain ⟨i, _, rfl⟩ := hu
  have h4 : i % 4 < 4 := Nat.mod_lt _ (by omega)
  show (zeroC[i % 4]!).oneCell' = true
  match i % 4, h4 with
  | 0, _ => rfl
  | 1, _ => rfl
  | 2, _ => rfl
  | 3, _ => rfl
theorem zeroCells_len (k : Nat) : (Builtin.zeroCells zeroC k).size = k * 4 := size_zeroCells _ _
theorem zeroL_len (k : Nat) : (Builtin.zeroCells zeroC k).toList.length = k * 4 := Array.length_toList.trans (zeroCells_len k)
theorem made_all (F : List EN) (k r : Nat) {j : Nat} (hj : j < (F.length + k) * 4) : ((eCells F).toArray ++ Builtin.zeroCells zeroC k ++ Builtin.zeroCells zeroC r)[j]? = (eCells (F ++ List.replicate k EN.zero))[j]? := by
  obtain ⟨i, q, hq, rfl⟩ : ∃ i q, q < 4 ∧ j = i * 4 + q := ⟨j / 4, j % 4, Nat.mod_lt _ (by omega), by omega⟩
  rw [made_at F k r (by omega) hq, eCells_at _ i (by rw [List.length_append, List.length_replicate]; omega) q hq]
/-- append(l, make([]Entry, k)...). -/
theorem app_zeros (W : World) (B k : Nat) (v : Value) (L : List EN) (hv : W.ownsRow B 26 4 v L.length (eCells L)) (hn : L.length ≤ 65536) (hk : k ≤ 65536) (hB : B ≤ W.heap.size) (ty : TypeId) :
    ∃ v' W', (Builtin.append_ #[36, 3] ty #[v, .int .i64 (k : Int)]).run Try.prog W = .ok v' W' ∧ W'.ownsRow B 26 4 v' (L.length + k) (eCells (L ++ List.replicate k EN.zero)) ∧ Ap (fun q => some q = v.ownBlock) W W' ∧ (v'.ownBlock = v.ownBlock ∨ ∃ q, v'.ownBlock = some q ∧ W.heap.size ≤ q) := by
  obtain ⟨iE, hi, hz0, hz1, hz2⟩ := entInfo'
  have hlen : (eCells (L ++ List.replicate k EN.zero)).length = (L.length + k) * 4 := by rw [eCells_len, List.length_append, List.length_replicate]
  by_cases h0 : k = 0
  · subst h0
    refine ⟨v, W, ?_, by rw [List.replicate_zero, List.append_nil]; exact hv, Ap.refl W, .inl rfl⟩
    rcases hv.2 with ⟨rfl, h0⟩ | ⟨g, cap, cur, rfl, _, _, h1, _⟩
    · simp [Builtin.append_, run_underlying Try.underlying36, run_underlying Try.underlying3, sizeOf, typeInfo, hi, asInt, asIntOf, IntKind.wrap_i64]
    · simp [Builtin.append_, run_underlying Try.underlying36, run_underlying Try.underlying3, sizeOf, typeInfo, hi, asInt, asIntOf, IntKind.wrap_i64, storeCells, h1]
  · rcases hv.2 with ⟨rfl, hl0⟩ | ⟨g, cap, cur, rfl, hg, hh, h1, h2, h3, h4⟩
    · obtain rfl : L = [] := List.eq_nil_of_length_eq_zero hl0
      have h := Lib.run_append_nil_zeros W 36 3 ty 26 iE _ .i64 .i64 Try.underlying36 Try.underlying3 hi hz0 k (by omega) (by rw [hz1]; omega) (by omega) (by rw [hz2]; omega)
      have hG1 := grownCap_ge W k 0 26
      have hG2 := grownCap_le_maxLen W k 0 26 (by unfold maxLen; omega)
      generalize grownCap W k 0 26 = G at h hG1 hG2
      rw [show (([] : List EN).length + k) = k by simp]
      refine ⟨_, _, h, own_build (g := W.heap.size) (cap := G) hB (heap_alloc_new W.drew _) ?_ hG1 hG2 (by rw [hlen]; simp) (fun j hj => ?_), Ap.of_below ((Below.refl W.heap.size W).drew.alloc (Nat.le_refl _) _), .inr ⟨W.heap.size, rfl, Nat.le_refl _⟩⟩
      · rw [Array.size_append]
        have a := zeroCells_len k
        have b := zeroCells_len (G - k)
        show (Builtin.zeroCells zeroC k).size + (Builtin.zeroCells zeroC (G - k)).size = G * 4
        omega
      · have hm := made_all [] k (G - k) (j := j) (by simpa using hj)
        refine (cell_of_row _ W.heap.size _ _ 26 (0, 0) (heap_alloc_new W.drew _)).trans ?_
        refine Eq.trans ?_ hm
        have e : (eCells []).toArray ++ Builtin.zeroCells zeroC k ++ Builtin.zeroCells zeroC (G - k) = Builtin.zeroCells zeroC k ++ Builtin.zeroCells zeroC (G - k) := by
          rw [show (eCells []).toArray = #[] from rfl, Array.empty_append]
        rw [e]; rfl
    · by_cases hroom : L.length + k ≤ cap
      · have hcs : ∀ j, j < cap * 4 → (W.cell? ⟨g, j, none⟩).isSome = true := fun j hj => by
          rw [cell_of_row W g j cur _ (0, 0) hh, Array.getElem?_eq_getElem (by omega)]; rfl
        have hst := run_storeCells_cells (P := Try.prog) g (L.length * 4) (Builtin.zeroCells zeroC k).toList 0 W (fun j hj => hcs _ (by rw [zeroL_len] at hj; omega)) (fun j _ => frozen_of_row W g _ cur _ hh) (zeroCells_one k)
        have hrun : (Builtin.append_ #[36, 3] ty #[.slice (some ⟨g, 0, none⟩) L.length cap, .int .i64 (k : Int)]).run Try.prog W = .ok (.slice (some ⟨g, 0, none⟩) (L.length + k) cap) (W.setCells g (L.length * 4) (Builtin.zeroCells zeroC k).toList) := by
          have hw : IntKind.i64.wrap (k : Int) = k := by rw [IntKind.wrap_i64]; omega
          have hneg : ¬ ((k : Int) < 0) := by omega
          have h48 : ¬ (281474976710656 < (k : Int) * 32) := by omega
          have hns : ¬ (k * 4 = 0) := by omega
          have e : ((⟨g, 0, none⟩ : Addr).add (L.length * 4)) = ⟨g, L.length * 4, none⟩ := by unfold Addr.add; split <;> simp_all
          have hst' : (storeCells ⟨g, L.length * 4, none⟩ (Builtin.zeroCells (Value.agg #[.int .u8 0, .int .i64 0, .int .i64 0, .int .i64 0]).cells k).toList).run Try.prog W = .ok () (W.setCells g (L.length * 4) (Builtin.zeroCells zeroC k).toList) := hst
          simp [Builtin.append_, run_underlying Try.underlying36, run_underlying Try.underlying3, sizeOf, typeInfo, zeroValue, hi, hz0, hz1, hz2, asInt, asIntOf, hw, hneg, h48, hns, hroom, e, hst']
        obtain ⟨cur2, hk1, hk2⟩ := cells_kind (e := 26) g (Builtin.zeroCells zeroC k).toList (L.length * 4) W cur hh
        refine ⟨_, _, hrun, own_build hg hk1 (hk2.trans h3) hroom h2 hlen (fun j hj => ?_), Ap.setCells (S := fun q => some q = (Value.slice (some ⟨g, 0, none⟩) L.length cap).ownBlock) (.inl rfl) _ _ _ (Ap.refl W), .inl rfl⟩
        have hm := made_all L k 0 hj
        refine Eq.trans ?_ hm
        have hz : Builtin.zeroCells zeroC 0 = #[] := by unfold Builtin.zeroCells; simp
        rw [hz, Array.append_empty]
        by_cases hj1 : j < L.length * 4
        · rw [World.cell?_setCells_out _ _ _ _ _ (fun _ _ => .inl hj1), Array.getElem?_append_left (by rw [List.size_toArray, eCells_len]; exact hj1), List.getElem?_toArray]
          exact World.ownsRow.cellAt hv j hj1
        · have hin := World.cell?_setCells_in g (Builtin.zeroCells zeroC k).toList (L.length * 4) W (fun j hj => hcs _ (by rw [zeroL_len] at hj; omega)) (j - L.length * 4) (by rw [zeroL_len]; omega)
          rw [show L.length * 4 + (j - L.length * 4) = j by omega] at hin
          rw [hin, Array.getElem?_append_right (by rw [List.size_toArray, eCells_len]; omega), List.size_toArray, eCells_len, ← Array.getElem?_toList]
          exact (List.getElem?_eq_getElem _).symm
      · have hold : (Builtin.firstCells iE.size L.length (.slice (some ⟨g, 0, none⟩) L.length cap)).run Try.prog W.drew = .ok (eCells L).toArray W.drew := by
          rw [hz1]
          exact run_firstCells_some W.drew 4 L.length ⟨g, 0, none⟩ L.length cap (eCells L) (eCells_len L) (fun j u hj => by
            have e : ((⟨g, 0, none⟩ : Addr).add j) = ⟨g, j, none⟩ := by unfold Addr.add; split <;> simp_all
            have hj2 := (List.getElem?_eq_some_iff.1 hj).1
            rw [eCells_len] at hj2
            rw [e]
            exact (World.ownsRow.cellAt hv j hj2).trans hj)
        have h := Lib.run_append_grow_zeros W 36 3 ty 26 iE _ .i64 .i64 Try.underlying36 Try.underlying3 hi hz0 (some ⟨g, 0, none⟩) L.length cap (eCells L) hold k (by omega) (by rw [hz1]; omega) (by omega) (by omega) (by rw [hz2]; omega) (by rw [hz2]; exact growslice_fits (by omega) (by omega))
        have hG1 := grownCap_ge W (L.length + k) cap 26
        have hG2 := grownCap_le_maxLen W (L.length + k) cap 26 (by unfold maxLen; omega)
        generalize grownCap W (L.length + k) cap 26 = G at h hG1 hG2
        refine ⟨_, _, h, own_build (g := W.heap.size) (cap := G) hB (heap_alloc_new W.drew _) ?_ hG1 hG2 hlen (fun j hj => ?_), Ap.of_below ((Below.refl W.heap.size W).drew.alloc (Nat.le_refl _) _), .inr ⟨W.heap.size, rfl, Nat.le_refl _⟩⟩
        · rw [Array.size_append, Array.size_append, List.size_toArray, eCells_len]
          have a := zeroCells_len k
          have b := zeroCells_len (G - (L.length + k))
          show L.length * 4 + (Builtin.zeroCells zeroC k).size + (Builtin.zeroCells zeroC (G - (L.length + k))).size = G * 4
          omega
        · exact (cell_of_row _ W.heap.size _ _ 26 (0, 0) (heap_alloc_new W.drew _)).trans (made_all L k (G - (L.length + k)) hj)
theorem stepE_append_own_at {P : Program} {ops : Array Oper} {o : Oper} {a : Act} {K : Act → World → Prop} {Q : Exit → Act → World → Prop} {E : Prop} (w : World) (hgd : o.guard = none) (s x : Operand) (t : TypeId)
    (ho : o.op = .call { callee := .builtin .append, args := #[s, x], argTypes := #[t, t] })
    (base : Nat) (e : TypeId) (i : TypeInfo) (z : Value) (size bytes : Nat) (ht : P.underlying t = some (.slice e)) (hi : P.info? e = some i) (hz : i.zero = some z)
    (hsize : i.size = size) (hby : i.bytes = bytes) (hzs : z.cells.size = size) (hsz : 0 < size)
    (v : Value) (n : Nat) (xs : List Value) (hs : a.eval s = v) (hown : w.ownsRow base e size v n xs)
    (ad : Addr) (m c : Nat) (news : List Value) (hx : a.eval x = .slice (some ad) m c) (hl : news.length = m * size) (hnews : ∀ j u, news[j]? = some u → w.cell? (ad.add j) = some u) (h1 : ∀ u ∈ news, u.oneCell' = true)
    (h63 : n + m ≤ maxLen) (hbytes : (n + m) * bytes ≤ 140737488355328) (hbase : base ≤ w.heap.size)
    (h : ∀ v' w', w'.ownsRow base e size v' (n + m) (xs ++ news) → w.grownBy w' v.ownBlock → (v'.ownBlock = v.ownBlock ∨ v'.ownBlock = some w.heap.size) → K (a.put o.dst v') w') :
    if Region.wanted o (yielded ops a.tmps) = true then Oper.wp P o a w K Q else E := by
  have hw : Region.wanted o (yielded ops a.tmps) = true := by simp [Region.wanted, hgd]
  rw [if_pos hw]
  obtain ⟨v', w', hr, h2, h3, h4, h5⟩ := run_append_own_at (P := P) w base t o.type e i z size bytes ht hi hz hsize hby hzs hsz v n xs hown ad m c news hl hnews h1 h63 hbytes hbase
  unfold Oper.wp execOp
  simp only [ho, resolve, invoke, builtin, Sem.run_bind, Sem.run_pure, Result.andThen_ok, List.map_toArray, List.map_cons, List.map_nil, hs, hx, hr]
  exact h _ _ h2 h3 h5
/-- A row of a call's own that is there: it may be written. -/
theorem row_of_own {W : World} {B q : Nat} {v : Value} {L : List EN} (h : W.ownsRow B 26 4 v L.length (eCells L)) (hq : v.ownBlock = some q) : ∃ c, v = .slice (some ⟨q, 0, none⟩) L.length c ∧ L.length ≤ c ∧ c ≤ maxLen ∧ RowE W q L := by
  rcases h.2 with ⟨rfl, _⟩ | ⟨g, cap, cur, rfl, hg, hh, h1, h2, h3, h4⟩
  · simp [Value.ownBlock] at hq
  · obtain rfl : g = q := by simpa [Value.ownBlock] using hq
    refine ⟨cap, rfl, h1, h2, (Array.getElem?_eq_some_iff.1 hh).1, fun i hi => ent_of_cells fun q hq => ?_, fun o _ => frozen_of_row W g o cur _ hh⟩
    rw [World.ownsRow.cellAt h _ (by omega), eCells_at L i hi q hq]
theorem resL_cut {nb : Nat} (L : List EN) : L.take (min nb L.length) ++ List.replicate (nb - L.length) EN.zero = resL nb L := by
  unfold resL
  rcases Nat.lt_or_ge L.length nb with h | h
  · rw [Nat.min_eq_right (by omega), List.take_length, List.take_of_length_le (by rw [List.length_append, List.length_replicate]; omega)]
  · rw [Nat.min_eq_left h, show nb - L.length = 0 by omega, List.replicate_zero, List.append_nil, List.append_nil]
theorem take_cells {W : World} {g m : Nat} {L : List EN} (h : RowE W g L) (hm : m ≤ L.length) : ∀ j u, (eCells (L.take m))[j]? = some u → W.cell? ((⟨g, 0, none⟩ : Addr).add j) = some u := by
  intro j u hu
  have hl : (L.take m).length = m := by rw [List.length_take]; omega
  have hj : j < m * 4 := by have := (List.getElem?_eq_some_iff.1 hu).1; rw [eCells_len, hl] at this; exact this
  refine row_cells h j u ?_
  obtain ⟨i, q, hq, rfl⟩ : ∃ i q, q < 4 ∧ j = i * 4 + q := ⟨j / 4, j % 4, Nat.mod_lt _ (by omega), by omega⟩
  rw [eCells_at _ i (by omega) q hq]
  rw [eCells_at _ i (by rw [hl]; omega) q hq] at hu
  rw [← hu]
  congr 2
  rw [List.getD, List.getD, List.getElem?_take, if_pos (by omega)]
/-- append(append([]Entry{}, l[:m]...), make([]Entry, k)...), behind the first append. -/
theorem res_join {W5 w6 : World} {v6 : Value} {L M' : List EN} {m k nb : Nat} (hown6 : w6.ownsRow W5.heap.size 26 4 v6 (0 + m) ([] ++ eCells (L.take m))) (hgrow6 : (W5.alloc (.cells #[] 26)).drew.grownBy w6 (Value.slice (some ⟨W5.heap.size, 0, none⟩) 0 0).ownBlock)
    (hob6 : v6.ownBlock = (Value.slice (some ⟨W5.heap.size, 0, none⟩) 0 0).ownBlock ∨ v6.ownBlock = some (W5.alloc (.cells #[] 26)).drew.heap.size) (hml : m ≤ L.length ∧ m + k = nb) (hb : nb ≤ 2000) (hcut : L.take m ++ List.replicate k EN.zero = M') :
    Below W5.heap.size W5 w6 ∧ ∃ v7 w7, (Builtin.append_ #[36, 3] 36 #[v6, .int .i64 (k : Int)]).run Try.prog w6 = .ok v7 w7 ∧ Below W5.heap.size W5 w7 ∧ ∃ q7 c7, v7 = .slice (some ⟨q7, 0, none⟩) nb c7 ∧ nb ≤ c7 ∧ c7 ≤ maxLen ∧ RowE w7 q7 M' ∧ W5.heap.size ≤ q7 ∧ M'.length = nb := by
  rw [List.nil_append, Nat.zero_add] at hown6
  have hbd : Below W5.heap.size W5 (W5.alloc (.cells #[] 26)).drew := ((Below.refl _ _).alloc (Nat.le_refl _) _).drew
  have hB6 : Below W5.heap.size W5 w6 := hbd.grown hgrow6 hbd.size (fun q hq => by simp [Value.ownBlock] at hq; omega)
  have htk : (L.take m).length = m := by rw [List.length_take]; omega
  have h6 : ∃ q6, v6.ownBlock = some q6 ∧ W5.heap.size ≤ q6 := by
    rcases hob6 with e | e
    · exact ⟨W5.heap.size, e, Nat.le_refl _⟩
    · exact ⟨_, e, hbd.size⟩
  obtain ⟨q6, hq6, hq6b⟩ := h6
  obtain ⟨v7, w7, hr7, hown7, hap7, hob7⟩ := app_zeros w6 W5.heap.size k v6 (L.take m) (by rw [htk]; exact hown6) (by rw [htk]; omega) (by omega) hB6.size 36
  refine ⟨hB6, v7, w7, hr7, hB6.trans (hap7.below hB6.size (fun q e => by rw [hq6] at e; injection e with e; omega)), ?_⟩
  have hl : (L.take m ++ List.replicate k EN.zero).length = nb := by rw [List.length_append, List.length_replicate, htk]; exact hml.2
  have hq7 : ∃ q7, v7.ownBlock = some q7 ∧ W5.heap.size ≤ q7 := by
    rcases hob7 with e | ⟨q, e, hq⟩
    · exact ⟨q6, e.trans hq6, hq6b⟩
    · exact ⟨q, e, Nat.le_trans hB6.size hq⟩
  obtain ⟨q7, e7, hb7⟩ := hq7
  have ho : w7.ownsRow W5.heap.size 26 4 v7 (L.take m ++ List.replicate k EN.zero).length (eCells (L.take m ++ List.replicate k EN.zero)) := by
    rw [List.length_append, List.length_replicate]; exact hown7
  obtain ⟨c7, e, h1, h2, h3⟩ := row_of_own ho e7
  rw [hl] at e h1
  rw [hcut] at h3 hl
  exact ⟨q7, c7, e, h1, h2, h3, hb7, hl⟩
end Go.Proofs.Ytjocdbacdbhemaa
