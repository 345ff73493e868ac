/- Fields: the contracts of All, the program's and the document's. -/
import Derived.Test.YtifhbaacljkleaaFldF
namespace Go.Proofs.Ytifhbaacljkleaa
open Go.RowKit

theorem extract_listF (s : ByteArray) (a : Nat) : (s.extract a s.size).data.toList = s.data.toList.drop a := by
  rw [ByteArray.data_extract, Array.toList_extract]
  have : s.size = s.data.toList.length := rfl
  rw [List.extract_eq_take_drop]
  exact List.take_of_length_le (by rw [List.length_drop, this]; omega)
theorem OwnN.mk' {w : World} {base n : Nat} {v : Value} {ns : List Nat} {y : Nat} (hn : n = ns.length) (h : w.ownsRow base 65 1 v (n + 1) (u64s ns ++ [.int .u64 (y : Int)])) : OwnN w base v (ns ++ [y]) := by
  unfold OwnN
  subst hn
  rw [List.length_append, show u64s (ns ++ [y]) = u64s ns ++ [.int .u64 (y : Int)] by unfold u64s; rw [List.map_append]; rfl]
  exact h
set_option maxHeartbeats 2000000 in
set_option maxRecDepth 100000 in
theorem refAll_any (s : ByteArray) (ks : List Int) (v : Value) (w : World) (hk : NumV w v (i64s ks)) (hl : ks.length ≤ 200) :
    Calls Try.prog 45 #[.string s, v] w fun e w' => (∃ x, e = .returned (.tuple #[x, .string ⟨(allT s.data.toList ks).toArray⟩, .int .i64 (allE s.data.toList ks)]) ∧ OwnN w' w.heap.size x (allV s.data.toList ks)) ∧ Below w.heap.size w w' := by
  obtain ⟨i0, hi, hz0, hz1, hz2⟩ := info_parts infoU64
  obtain ⟨A, cap, rfl, hc1, hc2, hc3⟩ := hk
  have HC3 := Lib.hid hc3
  have e0 : (i64s ks).length = ks.length := i64s_len ks
  rw [e0] at hc1 ⊢
  have HE0 := Lib.hid e0
  clear hc3 e0
  have HO0 : Hid (OwnN w w.heap.size (.slice none 0 0) []) := Lib.hid (World.ownsRow_nil _ _ _ _)
  have HB0 : Hid (Below w.heap.size w w) := Lib.hid (Below.refl _ _)
  go_enter Try.func45, Try.ntmps45
  go_wp2
  go_loopw [0, 7, 14] (fun ss z ix wr => ∃ (j : Nat) (r : ByteArray) (x : Value), j ≤ ks.length ∧ ix = .int .i64 (j : Int) ∧ ss = .string r ∧ x = z ∧ allE s.data.toList (ks.take j) = 0 ∧ r.data.toList = allR s.data.toList (ks.take j) ∧ OwnN wr w.heap.size x (allL s.data.toList (ks.take j)) ∧ Below w.heap.size w wr) (fun _ _ ix _ => ks.length - (intOf ix).toNat)
  case atStart => exact ⟨0, s, _, Nat.zero_le _, rfl, rfl, rfl, rfl, rfl, HO0.out, HB0.out⟩
  case round =>
    obtain ⟨j, r, x, hj, rfl, rfl, rfl, he, hr, hown, hB⟩ := hrel
    have HB := Lib.hid hB
    have HE := Lib.hid he
    have HR := Lib.hid hr
    have HOWN := Lib.hid hown
    clear hB he hr hown HO0 HB0
    by_cases hlt : j < ks.length
    · obtain ⟨b, off, rfl, hb, hcell⟩ := HC3.out.resolve_left (by intro e; have := HE0.out; rw [e] at this; simp at this; omega)
      have hck : wr.cell? ⟨b, off + j, none⟩ = some (.int .i64 (ks.getD j 0)) := by
        rw [HB.out.cell (p := ⟨b, off + j, none⟩) hb, hcell j (by rw [HE0.out]; exact hlt), i64s_at hlt]
      obtain ⟨k, hkk⟩ : ∃ k, k = ks.getD j 0 := ⟨_, rfl⟩
      rw [← hkk] at hck
      have hG := refGet_any k r
      have HSTEP := Lib.hid (all_step hlt HE.out)
      have HSTOP := Lib.hid (all_stop hlt HE.out)
      rw [← hkk, ← HR.out] at HSTEP HSTOP
      clear hkk hcell hb
      by_cases hg : getE k r.data.toList = 0
      · obtain ⟨hW, hs⟩ := getE_ok.1 hg
        have h8 := isW_le hW
        rw [hg] at hG
        obtain ⟨K, rfl⟩ : ∃ K : Nat, k = (K : Int) := ⟨k.toNat, by omega⟩
        rw [Int.toNat_natCast, size_toList] at hs
        obtain ⟨y, hy⟩ : ∃ y, y = getN (K : Int) r.data.toList := ⟨_, rfl⟩
        rw [← hy] at hG HSTEP
        have HG := Lib.hid hg
        clear hW hg hy HSTOP
        go_wp2_with (first
          | (go_at_call 61; refine (hG _).mono ?_; rintro e w2 ⟨rfl, hb2⟩; have HB2 := Lib.hid (HB.out.trans (hb2.mono HB.out.size)); have HB2r := Lib.hid hb2; clear hb2
             have HO2 : Hid ((w2.alloc (.cells #[.int .u64 (y : Int)] 65)).ownsRow w.heap.size 65 1 x j (u64s (allL s.data.toList (ks.take j)))) := Lib.hid (World.ownsRow.alloc (own_keep (OwnN.at HOWN.out j (by rw [allL_len, List.length_take]; omega)) HB2r.out) _))
          | (at_builtin; (with_reducible refine wpList_append_own_at _ ?g0 (.tmp 27) (.tmp 29) 68 ?g1 w.heap.size 65 i0 (.int .u64 0) 1 8 Try.underlying68 hi hz0 hz1 hz2 ?g2 (by decide) x j (u64s (allL s.data.toList (ks.take j))) ?g3 HO2.out ⟨w2.heap.size, 0, none⟩ 1 1 [.int .u64 (y : Int)] ?g4 ?g5 ?c1 ?c2 ?c3 ?c4 ?c5 ?_); (case g0 => rfl); (case g1 => rfl); (case g2 => rfl); (case g3 => rfl); (case g4 => rfl); (case g5 => rfl); (case c1 => exact cell_one_new _ _ _); (case c2 => simp [Value.oneCell']); (case c3 => unfold maxLen; omega); (case c4 => omega); (case c5 => rw [World.size_alloc]; exact Nat.le_succ_of_le HB2.out.size); (intro v' w3 hown3 hgrow _ _)))
        have hB3 : Below w.heap.size w w3 := (HB2.out.alloc HB2.out.size _).grown hgrow (by rw [World.size_alloc]; exact Nat.le_succ_of_le HB2.out.size) (fun g hg => (World.ownsRow.lt HOWN.out g hg).1)
        obtain ⟨s1, s2, s3⟩ := HSTEP.out
        go_roundw
        case rel =>
          refine ⟨j + 1, r.extract K r.size, v', by omega, by go_num, rfl, rfl, s1.trans HG.out, ?_, ?_, hB3⟩
          · rw [extract_listF, s3, Int.toNat_natCast]
          · rw [s2]
            exact OwnN.mk' (by rw [allL_len, List.length_take]; omega) hown3
        case measure => simp [intOf]; omega
      · obtain ⟨z, hz⟩ : ∃ z, z = getE k r.data.toList := ⟨_, rfl⟩
        have hst := HSTOP.out hg
        rw [← hz] at hst hg hG
        have hE : Hid (allV s.data.toList ks = []) := Lib.hid (if_neg (by rw [hst]; exact hg))
        have hE2 : Hid (allT s.data.toList ks = []) := Lib.hid (if_neg (by rw [hst]; exact hg))
        have hz0 : (z == 0) = false := by simpa using hg
        have HST := Lib.hid hst
        clear hz hst hg HSTOP HSTEP
        go_wp2_with (go_at_call 61; refine (hG _).mono ?_; rintro e w2 ⟨rfl, hb2⟩; have HB2 := Lib.hid (HB.out.trans (hb2.mono HB.out.size)); clear hb2)
        go_ret3
        exact ⟨⟨.slice none 0 0, by rw [hE2.out, HST.out]; rfl, by rw [hE.out]; exact World.ownsRow_nil _ _ _ _⟩, HB2.out⟩
    · obtain rfl : j = ks.length := by omega
      have HT : Hid (ks.take ks.length = ks) := Lib.hid (List.take_of_length_le (Nat.le_refl _))
      rw [HT.out] at HE HR HOWN
      have hV : Hid (allV s.data.toList ks = allL s.data.toList ks) := Lib.hid (if_pos HE.out)
      have hT : Hid (allT s.data.toList ks = allR s.data.toList ks) := Lib.hid (if_pos HE.out)
      clear HT
      go_wp2
      go_ret3
      refine ⟨⟨x, ?_, by rw [hV.out]; exact HOWN.out⟩, HB.out⟩
      rw [hT.out, ← HR.out, HE.out]
      rfl
end Go.Proofs.Ytifhbaacljkleaa
