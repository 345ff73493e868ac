/- Entries: the document's own Bytes and Parse. -/
import Derived.Test.YtjocdbacdbhemaaEntD
import Derived.Test.YtjocdbacdbhemaaFldFH
namespace Go.Proofs.Ytjocdbacdbhemaa
open Go.RowKit

theorem num_new (W : World) (xs : List Value) (t : TypeId) (h : xs.length ≤ 200) : NumV (W.alloc (.cells xs.toArray t)) (.slice (some ⟨W.heap.size, 0, none⟩) xs.length xs.length) xs := by
  refine ⟨_, xs.length, rfl, Nat.le_refl _, (by unfold maxLen; omega), .inr ⟨W.heap.size, 0, rfl, by simp, fun j hj => ?_⟩⟩
  rw [Nat.zero_add, cell_of_row _ _ _ _ t (0, 0) (heap_alloc_new W _)]
  simp
theorem refN_lt {p : EN} (h : EB p) : ∀ n ∈ refN p, n < 18446744073709551616 := by
  intro n hn
  unfold refN at hn
  rcases eb_cases h with rfl | ⟨a, ⟨⟨b, c⟩, d, e⟩, _⟩
  · simp [EN.zero] at hn; omega
  · rw [if_pos a] at hn
    simp at hn; omega
theorem rentJoin (p : EN) (hb : EB p) (a b : Int) (ha : 0 ≤ a) (hb0 : 0 ≤ b) (hab : refN p = [a.toNat, b.toNat, 0, 0, 0]) (W : World) :
    Calls Try.prog 42 #[.slice (some ⟨W.heap.size, 0, none⟩) 5 5, .slice (some ⟨W.heap.size + 1, 0, none⟩) 5 5] ((W.alloc (.cells #[.int .i64 4, .int .i64 1, .int .i64 1, .int .i64 1, .int .i64 1] 3)).alloc (.cells #[.int .u64 a, .int .u64 b, .int .u64 0, .int .u64 0, .int .u64 0] 65)) fun e w' => e = .returned (.tuple #[.string ⟨(entBL p).toArray⟩, .int .i64 0]) ∧ Below W.heap.size W w' := by
  obtain ⟨j1, j2⟩ := ref_join hb
  have h1 := num_new W (i64s joinK) 3 (by decide)
  have h2 := num_new (W.alloc (.cells #[.int .i64 4, .int .i64 1, .int .i64 1, .int .i64 1, .int .i64 1] 3)) (u64s (refN p)) 65 (by rw [hab]; simp [u64s])
  have e2 : u64s (refN p) = [.int .u64 a, .int .u64 b, .int .u64 0, .int .u64 0, .int .u64 0] := by
    rw [hab]; unfold u64s
    simp [Int.toNat_of_nonneg ha, Int.toNat_of_nonneg hb0]
  have h1' := h1.below (B := W.heap.size + 1) ((Below.refl _ _).alloc (by simp) (.cells #[.int .u64 a, .int .u64 b, .int .u64 0, .int .u64 0, .int .u64 0] 65)) (by simp)
  have h2' := h2
  rw [e2] at h2'
  have hJ := refJoin_any joinK (refN p) _ _ _ h1' (by rw [e2]; exact h2') (by decide) (refN_lt hb)
  rw [j1, j2] at hJ
  rw [World.size_alloc] at hJ
  refine Calls.mono hJ ?_
  rintro e w' ⟨rfl, hB⟩
  exact ⟨rfl, ((below1 W _).trans ((below1 (W.alloc _) _).mono (by simp))).trans (hB.mono (by simp; omega))⟩
set_option maxHeartbeats 1000000 in
theorem rentBytes_any (p : EN) (w : World) : Calls Try.prog 9 #[p.v] w fun e w' => e = .returned (.tuple #[.string ⟨(entBL p).toArray⟩, .int .i64 (entBE p)]) ∧ Below w.heap.size w w' := by
  have hC := rentCheck_any p
  have HX0 := Lib.hid (EBox.new w p.kind p.st p.mb p.fr 26)
  have HB0 := Lib.hid (below1 w (.cells #[.int .u8 p.kind, .int .i64 p.st, .int .i64 p.mb, .int .i64 p.fr] 26))
  by_cases hE : EOk p
  · rw [show entE p = 0 from if_pos hE] at hC
    by_cases h2 : p.kind = 2
    · rw [show entBE p = 2 from if_neg (fun h => h.2 h2), show entBL p = [] from if_neg (fun h => h.2 h2)]
      obtain ⟨k, st, mb, fr⟩ := p
      unfold EN.v at hC ⊢
      dsimp only at hC h2 HX0 HB0 ⊢
      subst h2
      clear hE
      go_enter Try.func9, Try.ntmps9
      go_upto_region 1 with fail
      generalize w.alloc (.cells #[.int .u8 2, .int .i64 st, .int .i64 mb, .int .i64 fr] 26) = w0 at HX0 HB0 ⊢
      obtain ⟨_, b0, b1, b2, b3, _⟩ := HX0.out
      dsimp only at b0 b1 b2 b3
      go_wp2_with (go_at_call 14; refine (hC _).mono ?_; rintro e w2 ⟨rfl, hb⟩; have HX2 := Lib.hid (HX0.out.below hb); have HB2 := Lib.hid (HB0.out.trans (hb.mono HB0.out.size)); clear hb b0 b1 b2 b3; obtain ⟨_, b0, b1, b2, b3, _⟩ := HX2.out; dsimp only at b0 b1 b2 b3)
      go_ret2
      exact ⟨rfl, HB2.out⟩
    · have hb : EB p := ⟨hE, h2⟩
      rw [show entBE p = 0 from if_pos hb]
      have hJ := rentJoin p hb
      have hkk := eb_cases hb
      generalize (entBL p).toArray = X at hJ ⊢
      rcases hkk with rfl | ⟨a, ⟨⟨b, c⟩, d, e⟩, f⟩
      · have hJ2 := hJ 0 0 (by omega) (by omega) rfl
        unfold EN.zero EN.v at *
        dsimp only at hC HX0 HB0 ⊢
        clear hE h2 hb hJ
        go_enter Try.func9, Try.ntmps9
        go_upto_region 1 with fail
        generalize w.alloc (.cells #[.int .u8 0, .int .i64 0, .int .i64 0, .int .i64 0] 26) = w0 at HX0 HB0 ⊢
        obtain ⟨_, b0, b1, b2, b3, _⟩ := HX0.out
        dsimp only at b0 b1 b2 b3
        go_wp2_with (first
          | (go_at_call 14; refine (hC _).mono ?_; rintro e w2 ⟨rfl, hb⟩; have HX2 := Lib.hid (HX0.out.below hb); have HB2 := Lib.hid (HB0.out.trans (hb.mono HB0.out.size)); clear hb b0 b1 b2 b3; obtain ⟨_, b0, b1, b2, b3, _⟩ := HX2.out; dsimp only at b0 b1 b2 b3)
          | (go_at_call 42; with_reducible refine (hJ2 _).mono ?_; rintro e w3 ⟨rfl, hb⟩; have HB3 := Lib.hid (HB2.out.trans (hb.mono HB2.out.size)); clear hb))
        go_ret2
        exact ⟨rfl, HB3.out⟩
      · obtain ⟨k, st, mb, fr⟩ := p
        dsimp only at a b c d e f
        subst a f
        have hJ2 := hJ (st + 1) mb (by omega) d rfl
        have hw1 : IntKind.u64.wrap st = st := by rw [IntKind.wrap_u64]; omega
        have hw2 : IntKind.u64.wrap (st + 1) = st + 1 := by rw [IntKind.wrap_u64]; omega
        have hw3 : IntKind.u64.wrap mb = mb := by rw [IntKind.wrap_u64]; omega
        unfold EN.v at *
        dsimp only at hC HX0 HB0 ⊢
        clear hE h2 hb hJ
        go_enter Try.func9, Try.ntmps9
        go_upto_region 1 with fail
        generalize w.alloc (.cells #[.int .u8 1, .int .i64 st, .int .i64 mb, .int .i64 0] 26) = w0 at HX0 HB0 ⊢
        obtain ⟨_, b0, b1, b2, b3, _⟩ := HX0.out
        dsimp only at b0 b1 b2 b3
        go_wp2_with (first
          | (go_at_call 14; refine (hC _).mono ?_; rintro e w2 ⟨rfl, hb⟩; have HX2 := Lib.hid (HX0.out.below hb); have HB2 := Lib.hid (HB0.out.trans (hb.mono HB0.out.size)); clear hb b0 b1 b2 b3; obtain ⟨_, b0, b1, b2, b3, _⟩ := HX2.out; dsimp only at b0 b1 b2 b3)
          | (go_at_call 42; with_reducible refine (hJ2 _).mono ?_; rintro e w3 ⟨rfl, hb⟩; have HB3 := Lib.hid (HB2.out.trans (hb.mono HB2.out.size)); clear hb))
        go_ret2
        exact ⟨rfl, HB3.out⟩
  · rw [show entE p = 2 from if_neg hE] at hC
    rw [show entBE p = 2 from if_neg (fun h => hE h.1), show entBL p = [] from if_neg (fun h => hE h.1)]
    obtain ⟨k, st, mb, fr⟩ := p
    unfold EN.v at hC ⊢
    dsimp only at hC HX0 HB0 ⊢
    clear hE
    go_enter Try.func9, Try.ntmps9
    go_upto_region 1 with fail
    generalize w.alloc (.cells #[.int .u8 k, .int .i64 st, .int .i64 mb, .int .i64 fr] 26) = w0 at HX0 HB0 ⊢
    obtain ⟨_, b0, b1, b2, b3, _⟩ := HX0.out
    dsimp only at b0 b1 b2 b3
    go_wp2_with (go_at_call 14; refine (hC _).mono ?_; rintro e w2 ⟨rfl, hb⟩; have HB2 := Lib.hid (HB0.out.trans (hb.mono HB0.out.size)); clear hb)
    go_ret2
    exact ⟨rfl, HB2.out⟩
end Go.Proofs.Ytjocdbacdbhemaa
