/- The walk of FieldBack. -/
import Derived.Test.YtjhpheepimbbdaaFldO
import Derived.Laws.Concat
namespace Go.Proofs.Ytjhpheepimbbdaa
open Go.RowKit

theorem ba_ext {a b : ByteArray} (h : a.data.toList = b.data.toList) : a = b := by
  apply ByteArray.ext
  apply Array.ext'
  exact h
theorem un_small {a : Int} (ha : IW a) (h : un a < 4294967296) : (un a : Int) = a := by
  unfold IW at ha
  unfold un at h ⊢
  omega
theorem ptr_ok {a b : Int} {c : Nat} (h : ptrE a b c = 0) : un a < 4294967296 ∧ un b < 4294967296 ∧ c < 4294967296 := by
  have h1 := (joinE_ok h).2.1
  unfold ptrK ptrL at h1
  rw [joinP, joinP, joinP, put4, put4, put4] at h1
  by_cases g1 : un a < 4294967296
  · rw [if_pos g1, if_pos rfl] at h1
    by_cases g2 : un b < 4294967296
    · rw [if_pos g2, if_pos rfl] at h1
      by_cases g3 : c < 4294967296
      · exact ⟨g1, g2, g3⟩
      · rw [if_neg g3] at h1; simp at h1
    · rw [if_neg g2] at h1; simp at h1
  · rw [if_neg g1] at h1; simp at h1
theorem ptr_back {a b : Int} {c : Nat} (ha : IW a) (hb : IW b) (h : ptrE a b c = 0) (t : List UInt8) :
    getPE (ptrS a b c ++ t) = 0 ∧ (getA (ptrS a b c ++ t) 0 : Int) = a ∧ (getA (ptrS a b c ++ t) 1 : Int) = b ∧ getA (ptrS a b c ++ t) 2 = c := by
  obtain ⟨h1, h2, _⟩ := join_back (ks := ptrK) (ns := ptrL a b c) h t
  obtain ⟨g1, g2, _⟩ := ptr_ok h
  refine ⟨h1, ?_, ?_, ?_⟩
  · unfold getA ptrS; rw [h2]; exact un_small ha g1
  · unfold getA ptrS; rw [h2]; exact un_small hb g2
  · unfold getA ptrS; rw [h2]; rfl
theorem un_id {x : Nat} (h : x < 4294967296) : un (x : Int) = x := by unfold un; omega
theorem got_ptr {s : List UInt8} (h : getPE s = 0) : ptrE (getA s 0 : Int) (getA s 1 : Int) (getA s 2) = 0 ∧ ptrS (getA s 0 : Int) (getA s 1 : Int) (getA s 2) = s.take 12 ∧ 12 ≤ s.length := by
  obtain ⟨h1, h2, h3, _⟩ := getA_ok h
  have hl : ptrL (getA s 0 : Int) (getA s 1 : Int) (getA s 2) = allV s ptrK := by unfold ptrL; rw [un_id h2, un_id h3, h1]
  obtain ⟨g1, g2⟩ := all_back h
  have e1 : ptrE (getA s 0 : Int) (getA s 1 : Int) (getA s 2) = 0 := by unfold ptrE; rw [hl]; exact g1
  have e2 : ptrS (getA s 0 : Int) (getA s 1 : Int) (getA s 2) = joinS ptrK (allV s ptrK) := by unfold ptrS; rw [hl]
  have e3 : (joinS ptrK (allV s ptrK)).length = 12 := by
    rw [(joinE_ok g1).2.2, h1]
    unfold ptrK
    simp only [joinL, List.length_append, leB_len, List.length_nil]
    rfl
  refine ⟨e1, ?_, ?_⟩
  · rw [e2]
    conv => rhs; rw [← g2]
    rw [List.take_append_of_le_length (by omega), List.take_of_length_le (by omega)]
  · have := congrArg List.length g2
    rw [List.length_append] at this; omega
theorem ptrS_len (a b : Int) (c : Nat) : (ptrS a b c).length ≤ 24 := by
  unfold ptrS joinS
  split
  · rename_i h; exact joinL_len _ _ (joinE_ok h).2.1
  · simp
theorem joinS_len (ks : List Int) (ns : List Nat) : (joinS ks ns).length ≤ 8 * ks.length := by
  unfold joinS
  split
  · rename_i h; exact joinL_len _ _ (joinE_ok h).2.1
  · simp
theorem extract_take (s : ByteArray) (k : Nat) : (s.extract 0 k).data.toList = s.data.toList.take k := by
  rw [ByteArray.data_extract, Array.toList_extract, List.extract_eq_take_drop]; simp
set_option maxRecDepth 100000 in
set_option maxHeartbeats 8000000 in
theorem fieldBack_walk {w : World} {a b : Int} {c : Nat} {t : ByteArray} {v u : Value} {ks : List Int} {ns : List Nat} (hk : NumV w v (i64s ks)) (hu : NumV w u (u64s ns)) (ht : t.size ≤ 140737488355328) (hc : c < 4294967296) (ha : IW a) (hb : IW b) :
    Calls Try.prog 5 #[v, u, .string t, .agg #[.int .i64 a, .int .i64 b, .int .u32 (c : Int)]] w fun e w' => e = .returned (.bool true) ∧ Below w.heap.size w w' := by
  have hW0 := (Below.refl w.heap.size w).alloc (Nat.le_refl _) (.cells #[.int .i64 a, .int .i64 b, .int .u32 (c : Int)] 25)
  have HK := Lib.hid (hk.below hW0 (Nat.le_refl _))
  have HU := Lib.hid (hu.below hW0 (Nat.le_refl _))
  have HX := Lib.hid (B3.new w (.int .i64 a) (.int .i64 b) (.int .u32 (c : Int)) 25)
  have HB := Lib.hid hW0
  clear hW0
  have e0 := i64s_len ks
  obtain ⟨A, cap, rfl, hc1, hc2, _⟩ := hk
  obtain ⟨A2, cap2, rfl, _, _, _⟩ := hu
  rw [e0] at HK hc1 ⊢
  rw [u64s_len] at HU ⊢
  clear e0
  go_enter Try.func5, Try.ntmps5
  go_upto_region 1 with fail
  generalize w.alloc (.cells #[.int .i64 a, .int .i64 b, .int .u32 (c : Int)] 25) = w0 at HK HU HX HB ⊢
  by_cases hl : ks.length ≤ 200
  case neg =>
    have d0 : decide ((200 : Int) < (ks.length : Int)) = true := decide_eq_true (by omega)
    clear hl
    go_wp2_with (go_at_call 16; with_reducible refine (fldLives_any _).mono ?_; rintro e w1 ⟨rfl, hb1⟩)
    go_ret
    exact ⟨rfl, HB.out.trans (hb1.mono HB.out.size)⟩
  case pos =>
  have d0 : decide ((200 : Int) < (ks.length : Int)) = false := decide_eq_false (by omega)
  obtain ⟨z1, hz1⟩ : ∃ z1 : ByteArray, z1 = ⟨(joinS ks ns).toArray⟩ := ⟨_, rfl⟩
  have hz1l : z1.data.toList = joinS ks ns := by rw [hz1]
  have hz1s : z1.size ≤ 1600 := by rw [hz1, size_mk]; have := joinS_len ks ns; omega
  have hcat1 : ¬ 9223372036854775807 < z1.size + t.size := by omega
  have h1 : ∀ W, NumV W (.slice A ks.length cap) (i64s ks) → NumV W (.slice A2 ns.length cap2) (u64s ns) → _ := fun W hW hW2 => fldJoin_any ks ns _ _ W hW hW2 hl
  rw [← hz1] at h1
  have h2 : ∀ W, NumV W (.slice A ks.length cap) (i64s ks) → _ := fun W hW => fldAll_any (z1 ++ t) ks _ W hW hl
  rw [app_toList, hz1l] at h2
  have FA : (joinE ks ns = 0 ∧ allE (joinS ks ns ++ t.data.toList) ks = 0 ∧ allV (joinS ks ns ++ t.data.toList) ks = ns ∧ (⟨(allT (joinS ks ns ++ t.data.toList) ks).toArray⟩ : ByteArray) = t) ∨ (joinE ks ns == 0) = false := by
    by_cases h : joinE ks ns = 0
    · obtain ⟨g1, g2, g3⟩ := join_back h t.data.toList
      exact .inl ⟨h, g1, g2, ba_ext g3⟩
    · exact .inr (by simpa using h)
  clear hz1 hz1l
  generalize joinE ks ns = e1 at *
  generalize allE (joinS ks ns ++ t.data.toList) ks = e2 at *
  generalize allV (joinS ks ns ++ t.data.toList) ks = l2 at *
  generalize (⟨(allT (joinS ks ns ++ t.data.toList) ks).toArray⟩ : ByteArray) = z2 at *
  have h3 : ∀ W, NumV W (.slice A ks.length cap) (i64s ks) → _ := fun W hW => fldAll_any t ks _ W hW hl
  have h4 : ∀ W x, NumV W (.slice A ks.length cap) (i64s ks) → NumV W x (u64s (allV t.data.toList ks)) → _ := fun W x hW hW2 => fldJoin_any ks (allV t.data.toList ks) _ x W hW hW2 hl
  obtain ⟨z4, hz4⟩ : ∃ z4 : ByteArray, z4 = ⟨(joinS ks (allV t.data.toList ks)).toArray⟩ := ⟨_, rfl⟩
  obtain ⟨z3, hz3⟩ : ∃ z3 : ByteArray, z3 = ⟨(allT t.data.toList ks).toArray⟩ := ⟨_, rfl⟩
  have hz4s : z4.size ≤ 1600 := by rw [hz4, size_mk]; have := joinS_len ks (allV t.data.toList ks); omega
  have hz3s : z3.size ≤ t.size := by
    rw [hz3, size_mk]
    unfold allT
    split
    · have := allR_le t.data.toList ks; rw [size_toList] at this; exact this
    · simp
  have hcat2 : ¬ 9223372036854775807 < z4.size + z3.size := by omega
  have FB : (allE t.data.toList ks = 0 ∧ joinE ks (allV t.data.toList ks) = 0 ∧ z4 ++ z3 = t) ∨ (allE t.data.toList ks == 0) = false := by
    by_cases h : allE t.data.toList ks = 0
    · obtain ⟨g1, g2⟩ := all_back h
      exact .inl ⟨h, g1, ba_ext (by rw [app_toList, hz4, hz3]; exact g2)⟩
    · exact .inr (by simpa using h)
  rw [← hz4] at h4
  rw [← hz3] at h3
  clear hz3 hz4
  generalize allE t.data.toList ks = e3 at *
  generalize joinE ks (allV t.data.toList ks) = e4 at *
  generalize allV t.data.toList ks = l3 at *
  obtain ⟨z5, hz5⟩ : ∃ z5 : ByteArray, z5 = ⟨(ptrS a b c).toArray⟩ := ⟨_, rfl⟩
  have hz5l : z5.data.toList = ptrS a b c := by rw [hz5]
  have hz5s : z5.size ≤ 24 := by rw [hz5, size_mk]; exact ptrS_len a b c
  have hcat3 : ¬ 9223372036854775807 < z5.size + t.size := by omega
  have h5 := fldPtr_any a b c hc
  have h6 := fldGetPtr_any (z5 ++ t)
  have h7 := fldGetPtr_any t
  have h8 := fldPtr_any (getA t.data.toList 0 : Int) (getA t.data.toList 1 : Int) (getA t.data.toList 2) (by
    by_cases h : getPE t.data.toList = 0
    · exact (getA_ok h).2.2.2
    · rw [getA_no h]; omega)
  rw [← hz5] at h5
  rw [app_toList, hz5l] at h6
  obtain ⟨z8, hz8⟩ : ∃ z8 : ByteArray, z8 = ⟨(ptrS (getA t.data.toList 0 : Int) (getA t.data.toList 1 : Int) (getA t.data.toList 2)).toArray⟩ := ⟨_, rfl⟩
  rw [← hz8] at h8
  have FC : (ptrE a b c = 0 ∧ getPE (ptrS a b c ++ t.data.toList) = 0 ∧ (getA (ptrS a b c ++ t.data.toList) 0 : Int) = a ∧ (getA (ptrS a b c ++ t.data.toList) 1 : Int) = b ∧ (getA (ptrS a b c ++ t.data.toList) 2 : Int) = (c : Int)) ∨ ((ptrE a b c == 0) = false ∧ (ptrE a b c != 0) = true ∧ ¬ ptrE a b c = 0) := by
    by_cases h : ptrE a b c = 0
    · obtain ⟨g1, g2, g3, g4⟩ := ptr_back ha hb h t.data.toList
      exact .inl ⟨h, g1, g2, g3, by rw [g4]⟩
    · exact .inr ⟨by simpa using h, by simpa using h, h⟩
  have FD : (getPE t.data.toList = 0 ∧ ptrE (getA t.data.toList 0 : Int) (getA t.data.toList 1 : Int) (getA t.data.toList 2) = 0 ∧ z8 = t.extract 0 12 ∧ 12 ≤ t.size) ∨ ((getPE t.data.toList == 0) = false ∧ (getPE t.data.toList != 0) = true ∧ ¬ getPE t.data.toList = 0) := by
    by_cases h : getPE t.data.toList = 0
    · obtain ⟨g1, g2, g3⟩ := got_ptr h
      rw [size_toList] at g3
      exact .inl ⟨h, g1, ba_ext (by rw [hz8, extract_take]; exact g2), g3⟩
    · exact .inr ⟨by simpa using h, by simpa using h, h⟩
  clear hz5 hz5l hz8
  unfold getPV at h6 h7
  generalize ptrE a b c = e5 at *
  generalize getPE (ptrS a b c ++ t.data.toList) = e6 at *
  generalize (getA (ptrS a b c ++ t.data.toList) 0 : Int) = y0 at *
  generalize (getA (ptrS a b c ++ t.data.toList) 1 : Int) = y1 at *
  generalize (getA (ptrS a b c ++ t.data.toList) 2 : Int) = y2 at *
  generalize ptrE (getA t.data.toList 0 : Int) (getA t.data.toList 1 : Int) (getA t.data.toList 2) = e8 at *
  generalize getPE t.data.toList = e7 at *
  generalize getA t.data.toList 0 = x0 at *
  generalize getA t.data.toList 1 = x1 at *
  generalize getA t.data.toList 2 = x2 at *
  clear hl hc1 hc2 ha hb hc ht hz1s hz3s hz4s hz5s
  have HFB := Lib.hid FB
  have HFC := Lib.hid FC
  have HFD := Lib.hid FD
  clear FB FC FD
  rcases FA with ⟨rfl, rfl, rfl, rfl⟩ | hA
  all_goals go_upto_region 9 with (first
    | (go_at_call 16; with_reducible refine (fldLives_any _).mono ?_; rintro e w1 ⟨rfl, hb1⟩; replace HX := Lib.hid (HX.out.below hb1 HX.out.lt); replace HK := Lib.hid (HK.out.below hb1 (Nat.le_refl _)); replace HU := Lib.hid (HU.out.below hb1 (Nat.le_refl _)); replace HB := Lib.hid (HB.out.trans (hb1.mono HB.out.size)); clear hb1)
    | (go_at_call 19; with_reducible refine (h1 _ HK.out HU.out).mono ?_; rintro e w2 ⟨rfl, hb1⟩; replace HX := Lib.hid (HX.out.below hb1 HX.out.lt); replace HK := Lib.hid (HK.out.below hb1 (Nat.le_refl _)); replace HU := Lib.hid (HU.out.below hb1 (Nat.le_refl _)); replace HB := Lib.hid (HB.out.trans (hb1.mono HB.out.size)); clear hb1 h1)
    | (go_at_call 17; with_reducible refine (h2 _ HK.out).mono ?_; rintro e w3 ⟨⟨v2, rfl, hv2⟩, hb1⟩; have HV2 := Lib.hid hv2.num; replace HX := Lib.hid (HX.out.below hb1 HX.out.lt); replace HK := Lib.hid (HK.out.below hb1 (Nat.le_refl _)); replace HU := Lib.hid (HU.out.below hb1 (Nat.le_refl _)); replace HB := Lib.hid (HB.out.trans (hb1.mono HB.out.size)); clear hb1 h2 hv2)
    | (go_at_call 21; with_reducible refine (fldSame_any HV2.out HU.out).mono ?_; rintro e w4 ⟨rfl, hb1⟩; replace HX := Lib.hid (HX.out.below hb1 HX.out.lt); replace HK := Lib.hid (HK.out.below hb1 (Nat.le_refl _)); replace HU := Lib.hid (HU.out.below hb1 (Nat.le_refl _)); replace HB := Lib.hid (HB.out.trans (hb1.mono HB.out.size)); clear hb1))
  all_goals rcases HFB.out with ⟨rfl, rfl, hz43⟩ | hB
  all_goals go_upto_region 13 with (first
    | (go_at_call 17; with_reducible refine (h3 _ HK.out).mono ?_; rintro e w5 ⟨⟨v3, rfl, hv3⟩, hb1⟩; have HV3 := Lib.hid hv3.num; replace HX := Lib.hid (HX.out.below hb1 HX.out.lt); replace HK := Lib.hid (HK.out.below hb1 (Nat.le_refl _)); replace HB := Lib.hid (HB.out.trans (hb1.mono HB.out.size)); clear hb1 h3 hv3)
    | (go_at_call 19; with_reducible refine (h4 _ _ HK.out HV3.out).mono ?_; rintro e w6 ⟨rfl, hb1⟩; replace HX := Lib.hid (HX.out.below hb1 HX.out.lt); replace HB := Lib.hid (HB.out.trans (hb1.mono HB.out.size)); clear hb1 h4))
  all_goals (obtain ⟨_, q0, q1, q2, _, _, _⟩ := HX.out)
  all_goals go_upto_region 17 with (first
    | (go_at_call 12; with_reducible refine (h5 _).mono ?_; rintro e w7 ⟨rfl, hb1⟩; replace HX := Lib.hid (HX.out.below hb1 HX.out.lt); replace HB := Lib.hid (HB.out.trans (hb1.mono HB.out.size)); clear hb1 h5)
    | (go_at_call 14; with_reducible refine (h6 _).mono ?_; rintro e w8 ⟨rfl, hb1⟩; replace HX := Lib.hid (HX.out.below hb1 HX.out.lt); replace HB := Lib.hid (HB.out.trans (hb1.mono HB.out.size)); clear hb1 h6)
    | (go_at_call 14; with_reducible refine (h7 _).mono ?_; rintro e w9 ⟨rfl, hb1⟩; have HY := Lib.hid ((B3.new w8 (.int .i64 y0) (.int .i64 y1) (.int .u32 y2) 25).below hb1 (by simp)); replace HX := Lib.hid ((HX.out.below ((Below.refl w8.heap.size w8).alloc (Nat.le_refl _) _) HX.out.lt).below hb1 (by rw [World.size_alloc]; have := HX.out.lt; omega)); replace HB := Lib.hid ((HB.out.alloc HB.out.size _).trans (hb1.mono (by rw [World.size_alloc]; have := HB.out.size; omega))); clear hb1 h7)
    | (go_at_call 12; with_reducible refine (h8 _).mono ?_; rintro e w10 ⟨rfl, hb1⟩; replace HY := Lib.hid ((HY.out.below ((Below.refl w9.heap.size w9).alloc (Nat.le_refl _) _) HY.out.lt).below hb1 (by rw [World.size_alloc]; have := HY.out.lt; omega)); replace HX := Lib.hid ((HX.out.below ((Below.refl w9.heap.size w9).alloc (Nat.le_refl _) _) HX.out.lt).below hb1 (by rw [World.size_alloc]; have := HX.out.lt; omega)); replace HB := Lib.hid ((HB.out.alloc HB.out.size _).trans (hb1.mono (by rw [World.size_alloc]; have := HB.out.size; omega))); clear hb1 h8))
  all_goals (obtain ⟨_, q0, q1, q2, _, _, _⟩ := HX.out; obtain ⟨_, r0, r1, r2, _, _, _⟩ := HY.out)
  all_goals rcases HFC.out with ⟨rfl, rfl, rfl, rfl, rfl⟩ | ⟨hC, hC1, hC2⟩
  all_goals rcases HFD.out with ⟨rfl, rfl, hz8, hl8⟩ | ⟨hD, hD1, hD2⟩
  all_goals go_wp2
  all_goals go_ret
  all_goals exact ⟨rfl, HB.out⟩
end Go.Proofs.Ytjhpheepimbbdaa
