/- The contract of rs.Decode. -/
import Derived.Test.YtpldnbfbpajbkabRsG
namespace Go.Proofs.Ytpldnbfbpajbkab
open Go.RowKit
open Caulk.Lin (Fn2 sx stack invM any_inv)

def thQ (P : List (Bool × ByteArray)) : Nat → Bool := fun i => (P.getD i (false, ByteArray.empty)).1
def thD (P : List (Bool × ByteArray)) : Nat → ByteArray := fun i => (P.getD i (false, ByteArray.empty)).2
/-- The places of the pieces that are there. -/
def thL (P : List (Bool × ByteArray)) : List Nat := thAt (thQ P) P.length
/-- Their bytes. -/
def thS (P : List (Bool × ByteArray)) : List ByteArray := (thL P).map (thD P)
theorem thL_lt (P : List (Bool × ByteArray)) : ∀ x, x ∈ thL P → x < P.length := fun x hx => by
  unfold thL thAt at hx
  exact List.mem_range.1 (List.mem_filter.1 hx).1
theorem thL_nodup (P : List (Bool × ByteArray)) : (thL P).Nodup := (List.nodup_range).filter _
/-- What comes back. -/
def decData (k : Nat) (X : Fn2) (T : List ByteArray) : List ByteArray := weaveL k k (T.getD 0 ByteArray.empty).size X (T.take k)
def decAll (k m : Nat) (X : Fn2) (T : List ByteArray) : List ByteArray := decData k X T ++ weaveL m k (T.getD 0 ByteArray.empty).size (cauF k) (decData k X T)
theorem new_app {w2 : World} {B B2 k m : Nat} {v1 v2 : Value} {S T : List ByteArray} (h1 : NewStrs w2 B v1 S) (h2 : NewStrs w2 B2 v2 T) (hk : S.length = k) (hm : T.length = m) :
    ∃ xs ys b2 c2, v2 = .slice (some ⟨b2, 0, none⟩) m c2 ∧ m ≤ c2 ∧ c2 ≤ maxLen ∧ w2.ownsRow B 9 1 v1 k xs ∧ ys.length = m * 1 ∧ (∀ j u, ys[j]? = some u → w2.cell? ((⟨b2, 0, none⟩ : Addr).add j) = some u) ∧ (∀ u, u ∈ ys → u.oneCell' = true) ∧
      ∀ (w3 : World) (v' : Value), w3.ownsRow B 9 1 v' (k + m) (xs ++ ys) → StrsS w3 v' (S ++ T) := by
  obtain ⟨b1, c1, hf1, rfl, g1, g2, g3, g4, g5, g6⟩ := h1
  obtain ⟨b2, c2, hf2, rfl, f1, f2, f3, f4, f5, f6⟩ := h2
  subst hk; subst hm
  refine ⟨(List.range S.length).map hf1, (List.range T.length).map hf2, b2, c2, rfl, f3, f4, ownsRow_of_row g1 g3 g4 g2, by simp, fun j u hu => ?_, fun u hu => ?_, fun w3 v' ho => ?_⟩
  · have hj : j < T.length := by have := (List.getElem?_eq_some_iff.1 hu).1; simpa using this
    simp [hj] at hu
    rw [show (⟨b2, 0, none⟩ : Addr).add j = ⟨b2, j, none⟩ by unfold Addr.add; split <;> simp_all, f2.cell (by omega), hu]
  · obtain ⟨i, hi, rfl⟩ := List.mem_map.1 hu
    rw [f6 i (List.mem_range.1 hi)]; rfl
  · have hget : ∀ j, j < S.length + T.length → ((List.range S.length).map hf1 ++ (List.range T.length).map hf2)[j]? = some (.string ((S ++ T).getD j ByteArray.empty)) := fun j hj => by
      by_cases e : j < S.length
      · rw [List.getElem?_append_left (by simpa using e)]
        have := g6 j e
        simp [e, List.getElem?_append_left e]
        rw [this]; simp [List.getD, e]
      · rw [List.getElem?_append_right (by simp; omega)]
        have := f6 (j - S.length) (by omega)
        have hlt : j - S.length < T.length := by omega
        simp [hlt, List.getElem?_append_right (show S.length ≤ j by omega)]
        rw [this]; simp [List.getD, hlt]
    rcases ho.2 with ⟨rfl, e⟩ | ⟨g, c, cur, rfl, hb, hh, hn, hm, hs, ht⟩
    · have : S ++ T = [] := List.eq_nil_of_length_eq_zero (by rw [List.length_append]; exact e)
      rw [this]; exact strsS_nil _
    · refine ⟨some ⟨g, 0, none⟩, c, by rw [List.length_append], by simp, by rw [List.length_append]; exact hn, hm, fun s hs => ?_, .inr ⟨g, 0, rfl, (Array.getElem?_eq_some_iff.1 hh).1, fun j hj => ?_⟩⟩
      · rcases List.mem_append.1 hs with hs | hs
        · exact g5 s hs
        · exact f5 s hs
      · rw [List.length_append] at hj
        have hc := World.ownsRow.cells ho (g := g) rfl j _ (hget j hj)
        rw [show (⟨g, 0, none⟩ : Addr).add j = ⟨g, 0 + j, none⟩ by unfold Addr.add; split <;> simp_all] at hc
        exact hc
set_option maxRecDepth 10000 in
set_option maxHeartbeats 2000000 in
theorem decode_ok {w : World} {vp : Value} {k m : Nat} {P : List (Bool × ByteArray)} (hk : 1 ≤ k) (hkm : k + m ≤ 255) (hP : PiecesS w vp P) (hl : P.length = k + m) (hal : Alike (thS P)) (hle : k ≤ (thL P).length) {X : Fn2} (hX : invM k (pickF (stack k) (((thL P).take k).map fun i : Nat => (i : Int))) = some X) :
    Calls Try.prog 9 #[.int .i64 (k : Int), .int .i64 (m : Int), vp] w (StrRes w (decAll k m X (thS P)) 0) := by
  have hck := rsCheck_any (k : Int) (m : Int) (by omega) (by omega) w
  rw [show rsE (k : Int) (m : Int) = 0 from if_pos (by omega)] at hck
  have HCK := Lib.hid hck
  have HTH := Lib.hid (there_any hP (by omega))
  have hmax : ∀ i, i ∈ thL P → (thD P i).size ≤ maxLen := fun i hi => by
    obtain ⟨_, _, _, _, _, _, hs, _⟩ := hP
    have hlt := thL_lt P i hi
    exact hs _ (by rw [List.getD, List.getElem?_eq_getElem hlt]; exact List.getElem_mem hlt)
  have HMAX := Lib.hid hmax
  obtain ⟨A, c, rfl, hlc, hcm⟩ := hP.opened
  have hsl : (thS P).length = (thL P).length := by simp [thS]
  have HSL := Lib.hid hsl
  have HAL := Lib.hid (alikeB_true hal)
  have HAL2 := Lib.hid hal
  have HX := Lib.hid hX
  have HPL := Lib.hid hl
  obtain ⟨n, hn⟩ : ∃ n, n = ((thS P).getD 0 ByteArray.empty).size := ⟨_, rfl⟩
  have HN := Lib.hid hn
  have hn2 : n ≤ 65536 := by rw [hn]; exact (hal 0 (by omega)).2
  have hkm2 : (k : Int) + (m : Int) = ((k + m : Nat) : Int) := by omega
  obtain ⟨R, hR⟩ : ∃ R, R = k + m := ⟨_, rfl⟩
  rw [← hR] at hkm hkm2
  have HRR := Lib.hid hR
  have hz1 : ((P.length : Int) == (R : Int)) = true := by rw [hl, hR]; simp
  have hz2 : ((P.length : Int) != (R : Int)) = false := by rw [hl, hR]; simp
  obtain ⟨q, hq⟩ : ∃ q, q = (thL P).length := ⟨_, rfl⟩
  rw [← hq] at hle
  have HQ := Lib.hid hq
  have hd1 : decide ((q : Int) < (k : Int)) = false := by simp; omega
  have hkR : k ≤ R := by omega
  have hqR : q ≤ R := by rw [hq]; have := thAt_len (thQ P) P.length; unfold thL; omega
  clear hck hP hl hsl hal hX hn hR hq hmax
  go_enter Try.func9, Try.ntmps9
  go_wp2_with fail
  refine HCK.out.mono ?_
  rintro e w' ⟨rfl, rfl⟩
  go_wp2_with fail
  (with_reducible refine HTH.out.mono ?_)
  rintro e w1 ⟨va, vl, rfl, hth, hb⟩
  have ho1 : w1.ownsRow w.heap.size 3 1 va (thL P).length (atV (thL P)) := hth.1
  have hss : StrsS w1 vl (thS P) := own_strs (d := thD P) (l := thL P) hth.2.1 HMAX.out
  obtain ⟨ga, ca, rfl, hca, hcam, hints⟩ := own_ints ho1 (fun x hx => by have := thL_lt P x hx; have := HPL.out; have := HRR.out; omega) k (by rw [← HQ.out]; exact hle) hk
  obtain ⟨bl, ol, cl, rfl, hcl, hclm, _⟩ := hss.reads (by rw [HSL.out, ← HQ.out]; omega)
  have hak := alike_any hss
  rw [HAL.out] at hak
  rw [HSL.out, ← HQ.out] at hcl hss hak
  rw [← HQ.out] at hca
  have HSS := Lib.hid hss
  have HAK := Lib.hid hak
  have HINT := Lib.hid hints
  have HB := Lib.hid hb
  unfold maxLen at hcam
  rw [HSL.out, ← HQ.out]
  clear hth ho1 hss hak hints hb HTH HCK
  go_wp2_with fail
  (with_reducible refine HAK.out.mono ?_)
  rintro e w' ⟨rfl, rfl⟩
  go_wp2_with fail
  (with_reducible refine (stripe_any k m hk (by have := HRR.out; omega) _).mono ?_)
  rintro e w2 ⟨vr, rfl, hs, hb⟩
  obtain ⟨br, orr, cr, rfl, hrc, hrm, _⟩ := MatV.reads hs (Nat.le_refl _) (by omega) hk
  have HS := Lib.hid hs
  have HDR : Hid (MatS w2 (.slice (some ⟨br, orr + k, none⟩) m (cr - k)) (rowsL m k (fun i => stack k (k + i)))) := Lib.hid (MatS.drop hs hk hk hrc hrm)
  replace HSS := Lib.hid (HSS.out.below hb)
  have hI2 : IntsV w2 w2.heap.size (.slice (some ⟨ga, 0, none⟩) k ca) (((thL P).take k).map fun i : Nat => (i : Int)) := by
    obtain ⟨A', c', e, i1, i2, i3, i4⟩ := IntsV.below HINT.out hb (Nat.le_refl _)
    refine ⟨A', c', e, i1, i2, i3, ?_⟩
    rcases i4 with i4 | ⟨b, off, e2, hlt, hc⟩
    · exact .inl i4
    · exact .inr ⟨b, off, e2, Nat.lt_of_lt_of_le hlt hb.size, hc⟩
  replace HB := Lib.hid (HB.out.trans (hb.mono HB.out.size))
  have hlt5 : (((thL P).take k).map fun i : Nat => (i : Int)).length = k := by simp; have := HQ.out; omega
  have hin : InRows (k + m) (((thL P).take k).map fun i : Nat => (i : Int)) := fun i hi => by
    rw [hlt5] at hi
    have hi2 : i < (thL P).length := by have := HQ.out; omega
    have hg : (((thL P).take k).map fun i : Nat => (i : Int)).getD i 0 = ((thL P)[i] : Int) := by simp [List.getD, hi, hi2]
    rw [hg]
    have := thL_lt P _ (List.getElem_mem hi2)
    rw [HPL.out] at this
    omega
  have hbk := back_any (n := k + m) (by have := HRR.out; omega) hk (by omega) hs hI2 hlt5 hin HX.out
  rw [← HRR.out] at hbk
  have HBK := Lib.hid hbk
  unfold maxLen at hrm
  rw [← HRR.out] at hrc ⊢
  have hqc : k ≤ ca := by omega
  have hqc2 : k ≤ cl := by omega
  clear hs hb hI2 hlt5 hin hbk hd1 hz1 hz2 hkm2 HAK
  go_wp2_with fail
  (with_reducible refine HBK.out.mono ?_)
  rintro e w3 ⟨vi, rfl, hmi, hb⟩
  replace HSS := Lib.hid (HSS.out.below hb)
  replace HDR := Lib.hid (HDR.out.below hb)
  replace HB := Lib.hid (HB.out.trans (hb.mono HB.out.size))
  have htk := HSS.out.take k hle
  have htl : ((thS P).take k).length = k := by simp; rw [HSL.out, ← HQ.out]; omega
  have hgd : ∀ j, j < k → (((thS P).take k).getD j ByteArray.empty).size = n := fun j hj => by
    have hj2 : j < (thS P).length := by rw [HSL.out, ← HQ.out]; omega
    have e : ((thS P).take k).getD j ByteArray.empty = (thS P).getD j ByteArray.empty := by simp [List.getD, hj]
    rw [e, HN.out]
    exact (HAL2.out j hj2).1
  have hwv := weave_any hmi (by omega) hk (by omega) htk htl hgd hn2
  have HWV := Lib.hid hwv
  have HW3 := Lib.hid HB.out.size
  clear hmi hb htk htl hgd hwv HBK HINT
  go_wp2_with fail
  (with_reducible refine HWV.out.mono ?_)
  rintro e w4 ⟨vd, rfl, hnd, hb⟩
  replace HDR := Lib.hid (HDR.out.below hb)
  replace HB := Lib.hid (HB.out.trans (hb.mono HB.out.size))
  have hdata : weaveL k k n X ((thS P).take k) = decData k X (thS P) := by unfold decData; rw [HN.out]
  rw [hdata] at hnd
  have hdl : (decData k X (thS P)).length = k := by unfold decData; rw [weaveL_len]
  have hgd : ∀ j, j < k → ((decData k X (thS P)).getD j ByteArray.empty).size = n := fun j hj => by
    unfold decData
    rw [weaveL_getD _ _ hj, weaveS_size, HN.out]
  have HND := Lib.hid hnd
  have HDL := Lib.hid hdl
  have HGD := Lib.hid hgd
  obtain ⟨bd, cd, hfd, hvd, _⟩ := hnd
  rw [hdl] at hvd
  obtain rfl := hvd
  have HFIN : Hid (decAll k m X (thS P) = decData k X (thS P) ++ weaveL m k n (cauF k) (decData k X (thS P))) := Lib.hid (by unfold decAll; rw [HN.out])
  try rw [HFIN.out]
  generalize decData k X (thS P) = DD at *
  have hsz4 := hb.size
  clear hb hdata hdl hgd HWV HSS HX HN HMAX
  have hbw := HB.out.size
  have HMR : Hid (∃ vx, (cr = k ∧ m = 0 ∧ vx = .slice (some ⟨br, orr, none⟩) 0 0 ∨ cr ≠ k ∧ vx = .slice (some ⟨br, orr + k, none⟩) m (cr - k)) ∧ MatS w4 vx (rowsL m k (cauF k))) := Lib.hid (by
    by_cases hcap : cr = k
    · have hm0 : m = 0 := by have := HRR.out; omega
      refine ⟨_, .inl ⟨hcap, hm0, rfl⟩, ?_⟩
      subst hm0
      rw [show rowsL 0 k (cauF k) = [] from List.eq_nil_of_length_eq_zero (rowsL_len _ _ _)]; exact matS_none
    · refine ⟨_, .inr ⟨hcap, rfl⟩, ?_⟩
      have := HDR.out
      rw [rowsL_congr (g := cauF k) (fun i hi j hj => stack_cau hj (by have := HRR.out; omega))] at this
      exact this)
  obtain ⟨i1, hi1, hz3, hz4, hz5⟩ := info_parts infoString
  obtain ⟨vx, hvx, hmx⟩ := HMR.out
  have hwv2 := weave_any hmx (by have := HRR.out; omega) hk (by omega) HND.out.strs HDL.out HGD.out hn2
  have HWV := Lib.hid hwv2
  have HPOST : Hid (∀ (w5 : World) (ve : Value), NewStrs w5 w4.heap.size ve (weaveL m k n (cauF k) DD) → Below w4.heap.size w4 w5 →
      ∃ xs ys b2 c2, ve = .slice (some ⟨b2, 0, none⟩) m c2 ∧ m ≤ c2 ∧ c2 ≤ maxLen ∧ w5.ownsRow w3.heap.size 9 1 (.slice (some ⟨bd, 0, none⟩) k cd) k xs ∧ ys.length = m * 1 ∧ (∀ j u, ys[j]? = some u → w5.cell? ((⟨b2, 0, none⟩ : Addr).add j) = some u) ∧ (∀ u, u ∈ ys → u.oneCell' = true) ∧
        ∀ (w6 : World) (v' : Value), w6.ownsRow w3.heap.size 9 1 v' (k + m) (xs ++ ys) → StrsS w6 v' (DD ++ weaveL m k n (cauF k) DD)) := Lib.hid (fun w5 ve hne hb => by
    exact new_app (HND.out.below hb) hne HDL.out (weaveL_len _ _ _ _ _))
  clear hwv2 hmx HMR
  have hwb := HW3.out
  rcases hvx with ⟨hc1, hc2, rfl⟩ | ⟨hc1, rfl⟩
  · subst hc2
    obtain rfl : cr = k := hc1
    have hRk : R = cr := HRR.out
    have hm5 : (0 : Nat) ≤ 255 := by omega
    subst hRk
    go_wp2_with fail
    (with_reducible refine HWV.out.mono ?_)
    rintro e w5 ⟨ve, rfl, hne, hb⟩
    obtain ⟨xs, ys, b2, c2, rfl, f1, f2, f3, f4, f5, f6, f7⟩ := HPOST.out w5 ve hne hb
    replace HB := Lib.hid (HB.out.trans (hb.mono HB.out.size))
    have hs5 := hb.size
    have F3 := Lib.hid f3
    have F4 := Lib.hid f4
    have F5 := Lib.hid f5
    have F6 := Lib.hid f6
    have F7 := Lib.hid f7
    unfold maxLen at f2
    clear hne hb f3 f4 f5 f6 f7 HPOST HWV
    go_wp2_with (at_builtin; (with_reducible refine wpList_append_own_at _ ?g0 (.tmp 66) (.tmp 71) 22 ?g1 w3.heap.size 9 i1 (.string ByteArray.empty) 1 16 Try.underlying22 hi1 hz3 hz4 hz5 ?g2 (by decide) (.slice (some ⟨bd, 0, none⟩) R cd) R xs ?g3 F3.out ⟨b2, 0, none⟩ 0 c2 ys ?g4 ?g5 ?c1 ?c2 ?c3 ?c4 ?c5 ?_)
                 case g0 => rfl
                 case g1 => rfl
                 case g2 => rfl
                 case g3 => rfl
                 case g4 => rfl
                 case g5 => exact F4.out
                 case c1 => exact F5.out
                 case c2 => exact F6.out
                 case c3 => unfold maxLen; omega
                 case c4 => omega
                 case c5 => omega
                 intro v6 w6 hown6 hgrow6 _ _)
    have HST := Lib.hid (F7.out w6 v6 hown6)
    have HB6 : Hid (Below w.heap.size w w6) := Lib.hid (HB.out.grown hgrow6 (by omega) (fun g hg => by have := (World.ownsRow.lt F3.out g hg).1; omega))
    clear hown6 hgrow6
    go_ret2
    exact ⟨_, rfl, (by rw [HFIN.out]; exact HST.out), HB6.out⟩
  · have hRk : R - k = m := by have := HRR.out; omega
    have hcap2 : ¬ cr - k = 0 := by omega
    have hm5 : m ≤ 255 := by have := HRR.out; omega
    go_wp2_with fail
    (with_reducible refine HWV.out.mono ?_)
    rintro e w5 ⟨ve, rfl, hne, hb⟩
    obtain ⟨xs, ys, b2, c2, rfl, f1, f2, f3, f4, f5, f6, f7⟩ := HPOST.out w5 ve hne hb
    replace HB := Lib.hid (HB.out.trans (hb.mono HB.out.size))
    have hs5 := hb.size
    have F3 := Lib.hid f3
    have F4 := Lib.hid f4
    have F5 := Lib.hid f5
    have F6 := Lib.hid f6
    have F7 := Lib.hid f7
    unfold maxLen at f2
    clear hne hb f3 f4 f5 f6 f7 HPOST HWV
    go_wp2_with (at_builtin; (with_reducible refine wpList_append_own_at _ ?h0 (.tmp 66) (.tmp 71) 22 ?h1 w3.heap.size 9 i1 (.string ByteArray.empty) 1 16 Try.underlying22 hi1 hz3 hz4 hz5 ?h2 (by decide) (.slice (some ⟨bd, 0, none⟩) k cd) k xs ?h3 F3.out ⟨b2, 0, none⟩ m c2 ys ?h4 ?h5 ?d1 ?d2 ?d3 ?d4 ?d5 ?_)
                 case h0 => rfl
                 case h1 => rfl
                 case h2 => rfl
                 case h3 => rfl
                 case h4 => rfl
                 case h5 => exact F4.out
                 case d1 => exact F5.out
                 case d2 => exact F6.out
                 case d3 => unfold maxLen; omega
                 case d4 => omega
                 case d5 => omega
                 intro v6 w6 hown6 hgrow6 _ _)
    have HST := Lib.hid (F7.out w6 v6 hown6)
    have HB6 : Hid (Below w.heap.size w w6) := Lib.hid (HB.out.grown hgrow6 (by omega) (fun g hg => by have := (World.ownsRow.lt F3.out g hg).1; omega))
    clear hown6 hgrow6
    go_ret2
    exact ⟨_, rfl, (by rw [HFIN.out]; exact HST.out), HB6.out⟩
end Go.Proofs.Ytpldnbfbpajbkab
