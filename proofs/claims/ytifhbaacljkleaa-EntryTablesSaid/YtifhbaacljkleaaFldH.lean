/- Fields: the contracts of Join, the program's and the document's. -/
import Derived.Test.YtifhbaacljkleaaFldG
import Derived.Test.YtifhbaacljkleaaBld
namespace Go.Proofs.Ytifhbaacljkleaa
open Go.RowKit

theorem toList_mk (l : List UInt8) : (⟨l.toArray⟩ : ByteArray).data.toList = l := rfl
theorem size_mk (l : List UInt8) : (⟨l.toArray⟩ : ByteArray).size = l.length := rfl
theorem app_toList (a b : ByteArray) : (a ++ b).data.toList = a.data.toList ++ b.data.toList := by
  rw [ByteArray.data_append]; simp
set_option maxHeartbeats 2000000 in
theorem refJoin_any (ks : List Int) (ns : List Nat) (v u : Value) (w : World) (hk : NumV w v (i64s ks)) (hu : NumV w u (u64s ns)) (hl : ks.length ≤ 200) (hns : ∀ n ∈ ns, n < 18446744073709551616) :
    Calls Try.prog 42 #[v, u] w fun e w' => e = .returned (.tuple #[.string ⟨(joinS ks ns).toArray⟩, .int .i64 (joinE ks ns)]) ∧ Below w.heap.size w w' := by
  obtain ⟨A, cap, rfl, hc1, hc2, hc3⟩ := hk
  obtain ⟨A2, cap2, rfl, hd1, hd2, hd3⟩ := hu
  have HC3 := Lib.hid hc3
  have HD3 := Lib.hid hd3
  have e0 : (i64s ks).length = ks.length := i64s_len ks
  have e1 : (u64s ns).length = ns.length := u64s_len ns
  rw [e0] at hc1
  rw [e1] at hd1
  rw [e0, e1]
  have HE0 := Lib.hid e0
  have HE1 := Lib.hid e1
  clear hc3 hd3 e0 e1
  by_cases hlen : ks.length = ns.length
  case neg =>
    have d0 : ((ks.length : Int) != (ns.length : Int)) = true := by rw [bne_iff_ne]; omega
    have hE : Hid (joinE ks ns = 2) := Lib.hid (if_neg hlen)
    have hS : Hid (joinS ks ns = []) := Lib.hid (if_neg (by rw [hE.out]; omega))
    clear hlen
    go_enter Try.func42, Try.ntmps42
    go_wp2
    go_ret2
    exact ⟨by rw [hE.out, hS.out]; rfl, Below.refl _ _⟩
  case pos =>
  have d0 : ((ks.length : Int) != (ns.length : Int)) = false := by rw [bne_eq_false_iff_eq]; omega
  have HLEN := Lib.hid hlen
  have HL0 : Hid (([] : List UInt8) = joinL (ks.take 0) (ns.take 0)) := Lib.hid rfl
  have HB0 : Hid (Below w.heap.size w w) := Lib.hid (Below.refl _ _)
  have HNS := Lib.hid hns
  clear hns
  clear hlen
  go_enter Try.func42, Try.ntmps42
  go_wp2
  clear d0
  go_loopw [6, 18] (fun ss ix wr => ∃ (j : Nat) (r : ByteArray), j ≤ ks.length ∧ ix = .int .i64 (j : Int) ∧ ss = .string r ∧ joinP (ks.take j) (ns.take j) = 0 ∧ r.data.toList = joinL (ks.take j) (ns.take j) ∧ Below w.heap.size w wr) (fun _ ix _ => ks.length - (intOf ix).toNat)
  case atStart => exact ⟨0, ByteArray.empty, Nat.zero_le _, rfl, rfl, rfl, HL0.out, HB0.out⟩
  case round =>
    obtain ⟨j, r, hj, rfl, rfl, hp, hbl, hB⟩ := hrel
    have HB := Lib.hid hB
    have HP := Lib.hid hp
    have HBL := Lib.hid hbl
    clear hB hp hbl HB0 HL0
    by_cases hlt : j < ks.length
    · obtain ⟨b, off, rfl, hb, hcell⟩ := HC3.out.resolve_left (by intro e; have := HE0.out; rw [e] at this; simp at this; omega)
      obtain ⟨b2, off2, rfl, hb2, hcell2⟩ := HD3.out.resolve_left (by intro e; have := HE1.out; have := HLEN.out; rw [e] at *; simp at *; omega)
      have hlt2 : j < ns.length := by have := HLEN.out; omega
      have hck : wr.cell? ⟨b, off + j, none⟩ = some (.int .i64 (ks.getD j 0)) := by
        rw [HB.out.cell (p := ⟨b, off + j, none⟩) hb, hcell j (by rw [HE0.out]; exact hlt), i64s_at hlt]
      have hcn : wr.cell? ⟨b2, off2 + j, none⟩ = some (.int .u64 ((ns.getD j 0 : Nat) : Int)) := by
        rw [HB.out.cell (p := ⟨b2, off2 + j, none⟩) hb2, hcell2 j (by rw [HE1.out]; exact hlt2), u64s_at hlt2]
      have hnj : ns.getD j 0 < 18446744073709551616 := by
        rw [List.getD, List.getElem?_eq_getElem hlt2]; exact HNS.out _ (List.getElem_mem hlt2)
      obtain ⟨k, hkk⟩ : ∃ k, k = ks.getD j 0 := ⟨_, rfl⟩
      obtain ⟨n, hnn⟩ : ∃ n, n = ns.getD j 0 := ⟨_, rfl⟩
      rw [← hkk] at hck
      rw [← hnn] at hcn
      have hG := refPut_any k n (by rw [hnn]; exact hnj)
      have HSTEP := Lib.hid (join_step HLEN.out hlt HP.out)
      have HSTOP := Lib.hid (join_stop HLEN.out hlt HP.out)
      have HLL := joinL_len _ _ HP.out
      rw [List.length_take, Nat.min_eq_left (by omega)] at HLL
      rw [← hkk, ← hnn] at HSTEP HSTOP
      clear hkk hnn hcell hcell2 hb hb2
      by_cases hg : putE k n = 0
      · have h8 := isW_le (putE_ok.1 hg).1
        rw [hg, putS_ok hg] at hG
        have HG := Lib.hid hg
        obtain ⟨s, hs⟩ : ∃ s : ByteArray, s = ⟨(leB k.toNat n).toArray⟩ := ⟨_, rfl⟩
        have hss : s.size = k.toNat := by rw [hs, size_mk, leB_len]
        have hsl : s.data.toList = leB k.toNat n := by rw [hs]
        rw [← hs] at hG
        rw [← hsl] at HSTEP
        have HSS := Lib.hid hss
        clear hg hs hsl HSTOP
        have hcat : ¬ 9223372036854775807 < r.size + s.size := by
          have h1 := size_toList r
          rw [HBL.out] at h1
          have := HSS.out
          omega
        go_wp2_with (go_at_call 60; refine (hG _).mono ?_; rintro e w2 ⟨rfl, hb2⟩; have HB2 := Lib.hid (HB.out.trans (hb2.mono HB.out.size)); clear hb2)
        go_roundw
        case rel => exact ⟨j + 1, _, by omega, by go_num, rfl, HSTEP.out.1.trans HG.out, by rw [HSTEP.out.2, app_toList, HBL.out], HB2.out⟩
        case measure => simp [intOf]; omega
      · obtain ⟨z, hz⟩ : ∃ z, z = putE k n := ⟨_, rfl⟩
        have hst := HSTOP.out hg
        rw [← hz] at hst hg hG
        have hS : Hid (joinS ks ns = []) := Lib.hid (if_neg (by rw [hst]; exact hg))
        have hz0 : (z == 0) = false := by simpa using hg
        have HST := Lib.hid hst
        clear hz hst hg HSTOP HSTEP HLL
        go_wp2_with (go_at_call 60; refine (hG _).mono ?_; rintro e w2 ⟨rfl, hb2⟩; have HB2 := Lib.hid (HB.out.trans (hb2.mono HB.out.size)); clear hb2)
        go_ret2
        exact ⟨by rw [hS.out, HST.out]; rfl, HB2.out⟩
    · obtain rfl : j = ks.length := by omega
      have HT : Hid (ks.take ks.length = ks ∧ ns.take ks.length = ns) := Lib.hid ⟨List.take_of_length_le (Nat.le_refl _), List.take_of_length_le (by rw [HLEN.out]; exact Nat.le_refl _)⟩
      rw [HT.out.1, HT.out.2] at HP HBL
      have hE : Hid (joinE ks ns = 0) := Lib.hid ((if_pos HLEN.out).trans HP.out)
      have hS : Hid (joinS ks ns = joinL ks ns) := Lib.hid (if_pos hE.out)
      clear HT
      go_wp2
      go_ret2
      exact ⟨by rw [hS.out, hE.out, ← HBL.out]; rfl, HB.out⟩
end Go.Proofs.Ytifhbaacljkleaa
