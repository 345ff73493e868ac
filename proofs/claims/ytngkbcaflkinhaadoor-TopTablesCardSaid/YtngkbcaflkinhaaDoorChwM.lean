/- Charts: the map of any right entries is right, and has them: what a row of changes keeps. -/
import Derived.Test.YtngkbcaflkinhaaDoorChvMB
import Derived.Test.YtngkbcaflkinhaaDoorChvQ
namespace Go.Proofs.YtngkbcaflkinhaaDoor
open Go.RowKit

def allP (E : Nat) (L : List EN) : List TB := (List.range (nParts E L.length)).map (fun k : Nat => (⟨(k : Int), partL E L k⟩ : TB))
theorem getD_outE {L : List EN} {i : Nat} (h : L.length ≤ i) : L.getD i EN.zero = EN.zero := by
  rw [List.getD, List.getElem?_eq_none h]; rfl
section
variable {E : Nat} {L : List EN}
theorem allP_half (h1 : 1 ≤ E) (h2 : E ≤ 8192) (hb : L.length ≤ 65536) (hok : ∀ i, i < L.length → EOk (L.getD i EN.zero)) : CHalf E L.length (allP E L) := by
  refine ⟨h1, h2, hb, ?_, fun t ht => ?_⟩
  · unfold allP
    rw [List.pairwise_map]
    exact List.pairwise_lt_range.imp fun {a b} h => by show (a : Int) < (b : Int); omega
  · unfold allP at ht
    obtain ⟨k, _, rfl⟩ := List.mem_map.1 ht
    refine ⟨k, rfl, partL_len _ _ _, fun i hi => ?_⟩
    show EOk ((partL E L k).getD i EN.zero) ∧ (L.length ≤ k * E + i → (partL E L k).getD i EN.zero = EN.zero)
    rw [partL_at _ _ _ hi]
    refine ⟨?_, getD_outE⟩
    by_cases h : k * E + i < L.length
    · exact hok _ h
    · rw [getD_outE (by omega)]; exact zero_ok
theorem look_all (h1 : 1 ≤ E) (h2 : E ≤ 8192) (hb : L.length ≤ 65536) (hok : ∀ i, i < L.length → EOk (L.getD i EN.zero)) {b : Nat} (h : b < L.length) : lookM E (allP E L) b = L.getD b EN.zero := by
  have hd : b / E * E + b % E = b := by rw [Nat.mul_comm]; exact Nat.div_add_mod b E
  have hm : (⟨((b / E : Nat) : Int), partL E L (b / E)⟩ : TB) ∈ allP E L := by
    unfold allP
    refine List.mem_map.2 ⟨b / E, List.mem_range.2 ((nParts_iff h1).2 ?_), rfl⟩
    have := Nat.zero_le (b % E)
    omega
  rw [look_mem (allP_half h1 h2 hb hok).rise hm rfl]
  show (partL E L (b / E)).getD (b % E) EN.zero = _
  rw [partL_at _ _ _ (Nat.mod_lt b h1), hd]
theorem flat_all (h1 : 1 ≤ E) (h2 : E ≤ 8192) (hb : L.length ≤ 65536) (hok : ∀ i, i < L.length → EOk (L.getD i EN.zero)) : flatM E L.length (allP E L) = L := by
  unfold flatM
  refine List.ext_getElem (by simp) (fun i g1 g2 => ?_)
  rw [List.getElem_map, List.getElem_range, look_all h1 h2 hb hok g2, List.getD, List.getElem?_eq_getElem g2]; rfl
/-- The map of right entries is right, and has them. -/
theorem ofM_ok (h1 : 1 ≤ E) (h2 : E ≤ 8192) (hb : L.length ≤ 65536) (hok : ∀ i, i < L.length → EOk (L.getD i EN.zero)) : COk E L.length (ofM E L) ∧ flatM E L.length (ofM E L) = L := by
  have hh := allP_half h1 h2 hb hok
  have e : pruneT (allP E L) = ofM E L := by rw [prune_of hh, flat_all h1 h2 hb hok]
  rw [← e]
  exact ⟨prune_ok hh, (flat_prune hh).trans (flat_all h1 h2 hb hok)⟩
end
theorem eok_look {E BN : Nat} {T : List TB} (h : COk E BN T) (b : Nat) : EOk (lookM E T b) := by
  by_cases hx : ∃ t ∈ T, t.at' = ((b / E : Nat) : Int)
  · obtain ⟨t, ht, ha⟩ := hx
    obtain ⟨k, _, _, _, _, h5⟩ := h.tab ht
    rw [look_mem (rises_pair h.rise) ht ha]
    exact (h5 _ (Nat.mod_lt b h.e1)).1
  · rw [look_out (fun t ht e => hx ⟨t, ht, e⟩)]
    exact zero_ok
theorem tabsB_of {e B : Int} : ∀ (T : List TB) (least : Int), (∀ t ∈ T, least ≤ t.at') → T.Pairwise (fun a b => a.at' < b.at') → (∀ t ∈ T, t.at' < parts e B ∧ tblB e t.l (B - t.at' * e) = true) → tabsB e B least T = true
  | [], _, _, _, _ => rfl
  | t :: r, least, h1, h2, h3 => by
    rw [List.pairwise_cons] at h2
    obtain ⟨g1, g2⟩ := h3 t (List.mem_cons_self ..)
    show (decide (least ≤ t.at') && decide (t.at' < parts e B) && tblB e t.l (B - t.at' * e) && tabsB e B (t.at' + 1) r) = true
    rw [decide_eq_true (h1 t (List.mem_cons_self ..)), decide_eq_true g1, g2, tabsB_of r (t.at' + 1) (fun x hx => by have := h2.1 x hx; omega) h2.2 (fun x hx => h3 x (List.mem_cons_of_mem _ hx))]; rfl
theorem okB_of {E BN : Nat} {T : List TB} (h : COk E BN T) : okB (E : Int) ⟨(BN : Int), T⟩ = true := by
  have h1 := h.e1
  have h2 := h.e2
  have hT := tabsB_of (e := (E : Int)) (B := (BN : Int)) T 0 (fun t ht => by obtain ⟨k, hk, _⟩ := h.tab ht; omega) (rises_pair h.rise) (fun t ht => by
    obtain ⟨j, hj, rfl⟩ := mem_getD ht
    obtain ⟨k, hk, hkE, htb⟩ := h.each j hj
    rw [hk]
    exact ⟨(parts_iff (by omega)).2 (by rw [← Int.natCast_mul]; exact Int.ofNat_lt.2 hkE), htb⟩)
  unfold okB
  show (decide (1 ≤ (E : Int)) && decide ((E : Int) ≤ 8192) && mayB (BN : Int) && tabsB (E : Int) (BN : Int) 0 T) = true
  rw [decide_eq_true (by omega), decide_eq_true (by omega), mayB_iff.2 ⟨by omega, by have := h.b2; omega⟩, hT]; rfl
/-- A right map, and its entries. -/
structure LS (E BN : Nat) (T : List TB) (L : List EN) : Prop where
  ok : COk E BN T
  fl : flatM E BN T = L
section
variable {E BN : Nat} {T : List TB} {L : List EN}
theorem LS.len (h : LS E BN T L) : L.length = BN := by rw [← h.fl]; exact flatM_len E BN T
theorem LS.eok (h : LS E BN T L) (i : Nat) : EOk (L.getD i EN.zero) := by
  by_cases hi : i < BN
  · rw [← h.fl, flatM_at E BN T hi]; exact eok_look h.ok i
  · rw [getD_outE (by rw [h.len]; omega)]; exact zero_ok
theorem LS.okB (h : LS E BN T L) : okB (E : Int) ⟨(BN : Int), T⟩ = true := okB_of h.ok
theorem LS.of {M : List EN} (h : LS E BN T L) (hb : M.length ≤ 65536) (hok : ∀ i, i < M.length → EOk (M.getD i EN.zero)) : LS E M.length (ofM E M) M := by
  obtain ⟨a, b⟩ := ofM_ok h.ok.e1 h.ok.e2 hb hok
  exact ⟨a, b⟩
theorem LS.new (h1 : 1 ≤ E) (h2 : E ≤ 8192) (hb : BN ≤ 65536) : LS E BN [] (List.replicate BN EN.zero) := by
  refine ⟨⟨h1, h2, hb, fun i j hij hj => absurd hj (by simp), fun j hj => absurd hj (by simp)⟩, ?_⟩
  unfold flatM
  refine List.ext_getElem (by simp) (fun i g1 g2 => ?_)
  rw [List.getElem_map, List.getElem_replicate]
  exact look_out (fun t ht => by cases ht)
theorem set_getD {x : EN} (b i : Nat) (hb : b < L.length) : (L.set b x).getD i EN.zero = if i = b then x else L.getD i EN.zero := by
  rw [List.getD, List.getElem?_set]
  by_cases h : b = i
  · subst h; rw [if_pos rfl, if_pos hb, if_pos rfl]; rfl
  · rw [if_neg h, if_neg (fun e => h e.symm)]; rfl
theorem LS.set (h : LS E BN T L) {b : Nat} (hb : b < BN) {x : EN} (hx : EOk x) : LS E BN (ofM E (L.set b x)) (L.set b x) := by
  have h2 := h.of (M := L.set b x) (by rw [List.length_set, h.len]; exact h.ok.b2) (fun i _ => by
    rw [set_getD b i (by rw [h.len]; exact hb)]
    split
    · exact hx
    · exact h.eok i)
  rw [List.length_set, h.len] at h2
  exact h2
theorem LS.res (h : LS E BN T L) {nb : Nat} (hb : nb ≤ 65536) : LS E nb (ofM E (resL nb L)) (resL nb L) := by
  have h2 := h.of (M := resL nb L) (by rw [resL_len]; exact hb) (fun i hi => by
    rw [resL_len] at hi
    rw [resL_at nb L hi]; exact h.eok i)
  rw [resL_len] at h2
  exact h2
theorem LS.swap (h : LS E BN T L) (was : EN) {is : EN} (hi : EOk is) : LS E BN (ofM E (swapL was is L)) (swapL was is L) := by
  have hl : (swapL was is L).length = BN := by unfold swapL; rw [List.length_map, h.len]
  have h2 := h.of (M := swapL was is L) (by rw [hl]; exact h.ok.b2) (fun i hi2 => by
    rw [hl] at hi2
    have e : (swapL was is L).getD i EN.zero = swap1 was is (L.getD i EN.zero) := by
      unfold swapL
      rw [List.getD, List.getElem?_map, List.getD, List.getElem?_eq_getElem (by rw [h.len]; exact hi2)]; rfl
    rw [e]
    unfold swap1
    split
    · exact hi
    · exact h.eok i)
  rw [hl] at h2
  exact h2
end
/-! ### what Set, Resize, Swap answer of a right map -/
section
variable {E BN : Nat} {T : List TB} {L : List EN}
theorem LS.setY (h : LS E BN T L) {b : Nat} (hb : b < BN) {x : EN} (hx : EOk x) : setC (E : Int) ⟨(BN : Int), T⟩ (b : Int) x = ⟨(BN : Int), ofM E (L.set b x)⟩ ∧ setRE (E : Int) ⟨(BN : Int), T⟩ (b : Int) x = 0 := by
  have h0 : 0 ≤ (b : Int) ∧ (b : Int) < (BN : Int) := by omega
  unfold setC setRE setL
  rw [if_pos h.okB, if_pos h.okB, if_pos (show setOk ⟨(BN : Int), T⟩ (b : Int) x from ⟨h0, hx⟩), if_pos h0, if_pos hx]
  refine ⟨?_, rfl⟩
  show (⟨(BN : Int), ofM (E : Int).toNat ((flatM (E : Int).toNat (BN : Int).toNat T).set (b : Int).toNat x)⟩ : CH) = _
  rw [Int.toNat_natCast, Int.toNat_natCast, Int.toNat_natCast, h.fl]
theorem LS.setN (h : LS E BN T L) {b : Int} {x : EN} (hb : ¬ ((0 ≤ b ∧ b < (BN : Int)) ∧ EOk x)) : setC (E : Int) ⟨(BN : Int), T⟩ b x = ⟨(BN : Int), T⟩ ∧ setRE (E : Int) ⟨(BN : Int), T⟩ b x ≠ 0 := by
  unfold setC setRE
  rw [if_pos h.okB, if_pos h.okB, if_neg (show ¬ setOk ⟨(BN : Int), T⟩ b x from hb)]
  refine ⟨rfl, ?_⟩
  split
  · rename_i h0
    rw [if_neg (fun hx => hb ⟨h0, hx⟩)]; decide
  · decide
theorem LS.resY (h : LS E BN T L) {nb : Nat} (hb : nb ≤ 65536) : resC (E : Int) ⟨(BN : Int), T⟩ (nb : Int) = ⟨(nb : Int), ofM E (resL nb L)⟩ ∧ resE (E : Int) ⟨(BN : Int), T⟩ (nb : Int) = 0 := by
  have hm : mayB (nb : Int) = true := mayB_iff.2 ⟨by omega, by omega⟩
  unfold resC resE
  rw [if_pos h.okB, if_pos h.okB, if_pos hm, if_pos hm]
  refine ⟨?_, rfl⟩
  show (⟨(nb : Int), ofM (E : Int).toNat (resL (nb : Int).toNat (flatM (E : Int).toNat (BN : Int).toNat T))⟩ : CH) = _
  rw [Int.toNat_natCast, Int.toNat_natCast, Int.toNat_natCast, h.fl]
theorem LS.resN (h : LS E BN T L) {nb : Int} (hb : nb < 0) : resC (E : Int) ⟨(BN : Int), T⟩ nb = ⟨(BN : Int), T⟩ ∧ resE (E : Int) ⟨(BN : Int), T⟩ nb = 1 := by
  have hm : ¬ mayB nb = true := fun e => by have := (mayB_iff.1 e).1; omega
  unfold resC resE
  rw [if_pos h.okB, if_pos h.okB, if_neg hm, if_neg hm]
  exact ⟨rfl, rfl⟩
theorem LS.swapY (h : LS E BN T L) (was : EN) {is : EN} (hi : EOk is) : swapC (E : Int) ⟨(BN : Int), T⟩ was is = ⟨(BN : Int), ofM E (swapL was is L)⟩ ∧ swapN (E : Int) ⟨(BN : Int), T⟩ was is = L.countP (swapQ was) ∧ swapE (E : Int) ⟨(BN : Int), T⟩ is = 0 := by
  have hh : Go.Proofs.YtngkbcaflkinhaaDoor.okB (E : Int) ⟨(BN : Int), T⟩ = true ∧ EOk is := ⟨h.okB, hi⟩
  unfold swapC swapN swapE
  rw [if_pos h.okB, if_pos hi, if_pos hh, if_pos hh]
  refine ⟨?_, ?_, rfl⟩
  · show (⟨(BN : Int), ofM (E : Int).toNat (swapL was is (flatM (E : Int).toNat (BN : Int).toNat T))⟩ : CH) = _
    rw [Int.toNat_natCast, Int.toNat_natCast, h.fl]
  · show (flatM (E : Int).toNat (BN : Int).toNat T).countP (swapQ was) = _
    rw [Int.toNat_natCast, Int.toNat_natCast, h.fl]
theorem LS.swapNo (h : LS E BN T L) (was : EN) {is : EN} (hi : ¬ EOk is) : swapC (E : Int) ⟨(BN : Int), T⟩ was is = ⟨(BN : Int), T⟩ ∧ swapN (E : Int) ⟨(BN : Int), T⟩ was is = 0 ∧ swapE (E : Int) ⟨(BN : Int), T⟩ is = 2 := by
  unfold swapC swapN swapE
  rw [if_pos h.okB, if_neg hi, if_neg (fun x => hi x.2), if_neg (fun x => hi x.2)]
  exact ⟨rfl, rfl, rfl⟩
theorem LS.getY (h : LS E BN T L) {b : Nat} (hb : b < BN) : getR (E : Int) ⟨(BN : Int), T⟩ (b : Int) = L.getD b EN.zero ∧ getRE (E : Int) ⟨(BN : Int), T⟩ (b : Int) = 0 := by
  have h0 : 0 ≤ (b : Int) ∧ (b : Int) < (BN : Int) := by omega
  unfold getR getRE
  rw [if_pos h.okB, if_pos h0, if_pos (show Go.Proofs.YtngkbcaflkinhaaDoor.okB (E : Int) ⟨(BN : Int), T⟩ = true ∧ 0 ≤ (b : Int) ∧ (b : Int) < (BN : Int) from ⟨h.okB, h0⟩)]
  refine ⟨?_, rfl⟩
  show getM (E : Int).toNat T (b : Int).toNat = _
  rw [Int.toNat_natCast, Int.toNat_natCast, getM_look h.ok.rise, ← h.fl, flatM_at E BN T hb]
end
end Go.Proofs.YtngkbcaflkinhaaDoor

