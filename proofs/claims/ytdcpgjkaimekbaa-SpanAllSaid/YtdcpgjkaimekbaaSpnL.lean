/- Spans: what the document's own answers are in the law's examples. -/
import Derived.Test.YtdcpgjkaimekbaaSpnQ
namespace Go.Proofs.Ytdcpgjkaimekbaa
open Go.RowKit

theorem spanCut_any (s off n : Int) (w : World) :
    Calls Try.prog 23 #[.int .i64 s, .int .i64 off, .int .i64 n] w fun e w' => ∃ x, e = .returned (.tuple #[x, .int .i64 (cutE s off n)]) ∧ SpnS w' x (cutL s off n) ∧ Below w.heap.size w w' := by
  rcases cutE_cases s off n with ⟨h, he⟩ | ⟨h, hn, he⟩ | ⟨h, hn, he⟩
  · rw [he, cutL_no (by rw [he]; decide)]
    exact (spanCut_no s off n w h).mono fun e w' h => ⟨_, h.1, StS.nil _, h.2⟩
  · rw [he, cutL_no (by rw [he]; decide)]
    exact (spanCut_long s off n w h hn).mono fun e w' h => ⟨_, h.1, StS.nil _, h.2⟩
  · have hL : cutL s off n = cutN s.toNat off.toNat n.toNat := by unfold cutL; rw [if_pos he]
    rw [he, hL]
    obtain ⟨h1, h2, h3⟩ := (rightB_iff _ _ _).1 h
    rw [szOk_iff] at h1
    rw [byOk_iff] at h2 h3
    obtain ⟨S, rfl⟩ : ∃ S : Nat, s = (S : Int) := ⟨s.toNat, by omega⟩
    obtain ⟨O, rfl⟩ : ∃ O : Nat, off = (O : Int) := ⟨off.toNat, by omega⟩
    obtain ⟨N, rfl⟩ : ∃ N : Nat, n = (N : Int) := ⟨n.toNat, by omega⟩
    rw [Int.toNat_natCast, Int.toNat_natCast, Int.toNat_natCast]
    exact spanCut_yes S O N w h (by omega)
theorem idxS_new (W : World) (L : List Int) (t : TypeId) (hl : L.length ≤ 100000) : IdxS (W.alloc (.cells (ints L).toArray t)) (.slice (some ⟨W.heap.size, 0, none⟩) L.length L.length) L :=
  ⟨_, _, rfl, Nat.le_refl _, by unfold maxLen; omega, .inr ⟨W.heap.size, 0, rfl, by simp, fun j hj => by
    have := new_cells W (ints L) t j _ (ints_at hj)
    rw [add_mid0] at this
    rw [Nat.zero_add]; exact this⟩⟩
theorem stS_new {α : Type} {k : Nat} {enc : α → List Value} {z : α} (hk : ∀ x, (enc x).length = k) (W : World) (L : List α) (t : TypeId) (hl : L.length ≤ 100000) : StS k enc z (W.alloc (.cells (L.flatMap enc).toArray t)) (.slice (some ⟨W.heap.size, 0, none⟩) L.length L.length) L :=
  ⟨_, _, rfl, Nat.le_refl _, by unfold maxLen; omega, .inr ⟨W.heap.size, 0, rfl, by simp, fun j hj q u hu => by
    have hq : q < k := by rw [← hk (L.getD j z)]; exact (List.getElem?_eq_some_iff.1 hu).1
    have := new_cells W (L.flatMap enc) t (j * k + q) u ((flat_at hk L j hj q hq).trans hu)
    rw [add_mid0] at this
    rw [Nat.zero_add]; exact this⟩⟩
def exL : List SP := [⟨0, 3, 4⟩, ⟨1, 0, 4⟩, ⟨2, 0, 1⟩]
def exM : List RG := [⟨1, 3⟩, ⟨5, 7⟩]
def exS : List ByteArray := [⟨#[97]⟩, ⟨#[98, 99, 100, 101]⟩, ⟨#[102]⟩]
theorem ex_cut : cutE 4 3 6 = 0 ∧ cutL 4 3 6 = exL := by decide
theorem ex_who : whoR 4 3 6 = ⟨1, 2⟩ ∧ whoE 4 3 6 = 0 ∧ whoR 4 3 4 = ⟨0, 0⟩ ∧ whoE 4 3 4 = 0 := by decide
theorem ex_mer : merL (dedU [5, 1, 2, 5, 6]) = exM := by decide
theorem ex_blk : blkE exM = 0 ∧ blkL exM = [1, 2, 5, 6] := by decide
theorem ex_joi : joiE 4 exL exS = 0 ∧ joiL 4 exL exS = [97, 98, 99, 100, 101, 102] := by
  have h : joiOk 4 exL exS := ⟨rfl, fun j hj => by
    match j, hj with
    | 0, _ => rfl
    | 1, _ => rfl
    | 2, _ => rfl⟩
  obtain ⟨h1, h2⟩ := joi_yes (s := 4) rfl h
  exact ⟨h1, h2.trans rfl⟩
theorem ex_ov : ovE ⟨#[97, 98, 99, 100]⟩ ⟨0, 1, 3⟩ ⟨#[88, 89]⟩ = 0 ∧ ovL ⟨#[97, 98, 99, 100]⟩ ⟨0, 1, 3⟩ ⟨#[88, 89]⟩ = [97, 88, 89, 100] := by
  have h : fitB ((⟨#[97, 98, 99, 100]⟩ : ByteArray).size : Int) ⟨0, 1, 3⟩ (⟨#[88, 89]⟩ : ByteArray).size = true := rfl
  obtain ⟨h1, h2⟩ := ov_yes h
  refine ⟨h1, h2.trans ?_⟩
  decide +kernel
theorem ex_no : cutE 0 0 0 = 1 ∧ cutE 4 0 1048577 = 7 := by decide
set_option maxRecDepth 100000 in
set_option maxHeartbeats 4000000 in
theorem spnLives_any (w : World) : Calls Try.prog 22 #[] w fun e w' => e = .returned (.bool true) ∧ Below w.heap.size w w' := by
  have hC1 := fun (W : World) => spanCut_any 4 3 6 W
  rw [ex_cut.1, ex_cut.2] at hC1
  have hW1 := fun (W : World) => spanWhole_any 4 3 6 W
  rw [ex_who.1, ex_who.2.1] at hW1
  have hW2 := fun (W : World) => spanWhole_any 4 3 4 W
  rw [ex_who.2.2.1, ex_who.2.2.2] at hW2
  have hI5 : ∀ W : World, IdxS (W.alloc (.cells #[.int .i64 5, .int .i64 1, .int .i64 2, .int .i64 5, .int .i64 6] 3)) (.slice (some ⟨W.heap.size, 0, none⟩) 5 5) [5, 1, 2, 5, 6] := fun W => idxS_new W [5, 1, 2, 5, 6] 3 (by decide)
  have hM := fun (W : World) => spanMerge_any [5, 1, 2, 5, 6] _ _ (hI5 W) (by decide) (by decide)
  rw [ex_mer] at hM
  have hB := fun (W : World) v h => spanBlocks_any exM v W h (by decide)
  rw [ex_blk.1, ex_blk.2] at hB
  have hJ := fun (W : World) v u h1 h2 => spanJoin_any 4 exL exS v u W h1 h2 (by decide)
  rw [ex_joi.1, ex_joi.2] at hJ
  have hO := fun (W : World) => spanOver_any ⟨#[97, 98, 99, 100]⟩ ⟨#[88, 89]⟩ ⟨0, 1, 3⟩ W (by decide)
  rw [ex_ov.1, ex_ov.2] at hO
  unfold spV at hO
  dsimp only at hO
  have hC2 := fun (W : World) => spanCut_any 0 0 0 W
  rw [ex_no.1] at hC2
  have hC3 := fun (W : World) => spanCut_any 4 0 1048577 W
  rw [ex_no.2] at hC3
  go_enter Try.func22, Try.ntmps22
  go_wp2_with fail
  refine (hC1 _).mono ?_
  rintro e w1 ⟨x1, rfl, hs1, hb1⟩
  have HS1 := Lib.hid hs1
  have HB1 := Lib.hid hb1
  obtain ⟨A1, c1, rfl⟩ := hs1.form
  clear hs1 hb1
  go_wp2_with fail
  refine (hW1 _).mono ?_
  rintro e w2 ⟨rfl, hb2⟩
  have HS2 := Lib.hid (HS1.out.below hb2 (Nat.le_refl _))
  have HB2 := Lib.hid (HB1.out.trans (hb2.mono HB1.out.size))
  clear hb2 HB1 HS1
  go_wp2_with fail
  have HK3 := Lib.hid (BkC.new w2 [.int .i64 1, .int .i64 2] 51)
  have hb3 := below_new w2 (.cells #[.int .i64 1, .int .i64 2] 51)
  have HS3 := Lib.hid (HS2.out.below hb3 (Nat.le_refl _))
  have HB3 := Lib.hid (HB2.out.trans (hb3.mono HB2.out.size))
  generalize w2.alloc (.cells #[.int .i64 1, .int .i64 2] 51) = w3 at HK3 HS3 HB3 ⊢
  generalize w2.heap.size = b3 at HK3 ⊢
  clear hb3 HS2 HB2
  (with_reducible refine (hW2 _).mono ?_)
  rintro e w4 ⟨rfl, hb4⟩
  have HK4 := Lib.hid (HK3.out.below hb4)
  have HS4 := Lib.hid (HS3.out.below hb4 (Nat.le_refl _))
  have HB4 := Lib.hid (HB3.out.trans (hb4.mono HB3.out.size))
  clear hb4 HK3 HS3 HB3
  go_wp2_with fail
  have HK5 := Lib.hid (BkC.new w4 [.int .i64 0, .int .i64 0] 51)
  have hb5 := below_new w4 (.cells #[.int .i64 0, .int .i64 0] 51)
  have HK5' := Lib.hid (HK4.out.below hb5)
  have HS5 := Lib.hid (HS4.out.below hb5 (Nat.le_refl _))
  have HB5 := Lib.hid (HB4.out.trans (hb5.mono HB4.out.size))
  have hz5 : (w4.alloc (.cells #[.int .i64 0, .int .i64 0] 51)).heap.size = w4.heap.size + 1 := by simp
  rw [← hz5]
  clear hz5
  generalize w4.alloc (.cells #[.int .i64 0, .int .i64 0] 51) = w5 at HK5 HK5' HS5 HB5 ⊢
  generalize w4.heap.size = b5 at HK5 ⊢
  clear hb5 HS4 HB4 HK4
  (with_reducible refine (hM _).mono ?_)
  rintro e w6 ⟨x7, rfl, hs7, hb6⟩
  have hb6' := (below_new w5 (.cells #[.int .i64 5, .int .i64 1, .int .i64 2, .int .i64 5, .int .i64 6] 3)).trans (hb6.mono (by simp))
  have HM6 := Lib.hid hs7
  have HK6 := Lib.hid (HK5.out.below hb6')
  have HK6' := Lib.hid (HK5'.out.below hb6')
  have HS6 := Lib.hid (HS5.out.below hb6' (Nat.le_refl _))
  have HB6 := Lib.hid (HB5.out.trans (hb6'.mono HB5.out.size))
  obtain ⟨A7, c7, rfl⟩ := hs7.form
  clear hs7 hb6 hb6' HK5 HK5' HS5 HB5
  go_wp2_with fail
  (with_reducible refine (hB _ _ HM6.out).mono ?_)
  rintro e w7 ⟨x8, rfl, hs8, hb7⟩
  have HI7 := Lib.hid hs8
  have HM7 := Lib.hid (HM6.out.below hb7 (Nat.le_refl _))
  have HK7 := Lib.hid (HK6.out.below hb7)
  have HK7' := Lib.hid (HK6'.out.below hb7)
  have HS7 := Lib.hid (HS6.out.below hb7 (Nat.le_refl _))
  have HB7 := Lib.hid (HB6.out.trans (hb7.mono HB6.out.size))
  obtain ⟨A8, c8, rfl, _⟩ := hs8
  clear hb7 HM6 HK6 HK6' HS6 HB6
  go_wp2_with fail
  have hq8 := below_new w7 (.cells #[.string ⟨#[97]⟩, .string ⟨#[98, 99, 100, 101]⟩, .string ⟨#[102]⟩] 9)
  have HT8 : Hid (StrL (w7.alloc (.cells #[.string ⟨#[97]⟩, .string ⟨#[98, 99, 100, 101]⟩, .string ⟨#[102]⟩] 9)) (.slice (some ⟨w7.heap.size, 0, none⟩) 3 3) exS) := Lib.hid (three_str w7 ⟨#[97]⟩ ⟨#[98, 99, 100, 101]⟩ ⟨#[102]⟩ 9)
  (with_reducible refine (hJ _ _ _ (HS7.out.below hq8 (Nat.le_refl _)) HT8.out).mono ?_)
  rintro e w8 ⟨rfl, hb8⟩
  have hb8' := hq8.trans (hb8.mono (by simp))
  have HI8 := Lib.hid (HI7.out.below hb8' (Nat.le_refl _))
  have HM8 := Lib.hid (HM7.out.below hb8' (Nat.le_refl _))
  have HK8 := Lib.hid (HK7.out.below hb8')
  have HK8' := Lib.hid (HK7'.out.below hb8')
  have HS8 := Lib.hid (HS7.out.below hb8' (Nat.le_refl _))
  have HB8 := Lib.hid (HB7.out.trans (hb8'.mono HB7.out.size))
  clear hb8 hb8' hq8 HT8 HI7 HM7 HK7 HK7' HS7 HB7
  go_wp2_with fail
  (with_reducible refine (hO _).mono ?_)
  rintro e w9 ⟨rfl, hb9⟩
  have HI9 := Lib.hid (HI8.out.below hb9 (Nat.le_refl _))
  have HM9 := Lib.hid (HM8.out.below hb9 (Nat.le_refl _))
  have HK9 := Lib.hid (HK8.out.below hb9)
  have HK9' := Lib.hid (HK8'.out.below hb9)
  have HS9 := Lib.hid (HS8.out.below hb9 (Nat.le_refl _))
  have HB9 := Lib.hid (HB8.out.trans (hb9.mono HB8.out.size))
  clear hb9 HI8 HM8 HK8 HK8' HS8 HB8
  go_wp2_with fail
  (with_reducible refine (hC2 _).mono ?_)
  rintro e wa ⟨xa, rfl, _, hba⟩
  have HIa := Lib.hid (HI9.out.below hba (Nat.le_refl _))
  have HMa := Lib.hid (HM9.out.below hba (Nat.le_refl _))
  have HKa := Lib.hid (HK9.out.below hba)
  have HKa' := Lib.hid (HK9'.out.below hba)
  have HSa := Lib.hid (HS9.out.below hba (Nat.le_refl _))
  have HBa := Lib.hid (HB9.out.trans (hba.mono HB9.out.size))
  clear hba HI9 HM9 HK9 HK9' HS9 HB9
  go_wp2_with fail
  (with_reducible refine (hC3 _).mono ?_)
  rintro e wb ⟨xb, rfl, _, hbb⟩
  have HIb := Lib.hid (HIa.out.below hbb (Nat.le_refl _))
  have HMb := Lib.hid (HMa.out.below hbb (Nat.le_refl _))
  have HKb := Lib.hid (HKa.out.below hbb)
  have HKb' := Lib.hid (HKa'.out.below hbb)
  have HSb := Lib.hid (HSa.out.below hbb (Nat.le_refl _))
  have HBb := Lib.hid (HBa.out.trans (hbb.mono HBa.out.size))
  clear hbb HIa HMa HKa HKa' HSa HBa
  go_wp2_with fail
  have hqc := below_new wb (.cells #[.int .i64 0, .int .i64 3, .int .i64 4, .int .i64 1, .int .i64 0, .int .i64 4, .int .i64 2, .int .i64 0, .int .i64 1] 63)
  have hEL : SpnS (wb.alloc (.cells #[.int .i64 0, .int .i64 3, .int .i64 4, .int .i64 1, .int .i64 0, .int .i64 4, .int .i64 2, .int .i64 0, .int .i64 1] 63)) (.slice (some ⟨wb.heap.size, 0, none⟩) 3 3) exL := stS_new sp_len wb exL 63 (by decide)
  have hS1 := sSame_any exL exL _ _ _ (HSb.out.below hqc (Nat.le_refl _)) hEL
  rw [show decide (exL = exL) = true from decide_eq_true rfl] at hS1
  (with_reducible refine hS1.mono ?_)
  rintro e wc ⟨rfl, hbc⟩
  have hbc' := hqc.trans (hbc.mono (by simp))
  have HIc := Lib.hid (HIb.out.below hbc' (Nat.le_refl _))
  have HMc := Lib.hid (HMb.out.below hbc' (Nat.le_refl _))
  have hk := HKb.out.below hbc'
  have hk' := HKb'.out.below hbc'
  have HBc := Lib.hid (HBb.out.trans (hbc'.mono HBb.out.size))
  have y0 := hk.c 0 _ rfl
  have y1 := hk.c 1 _ rfl
  have y2 := hk'.c 0 _ rfl
  have y3 := hk'.c 1 _ rfl
  clear hbc hbc' hqc hEL hS1 HIb HMb HKb HKb' HSb HBb hk hk'
  go_wp2_with fail
  have hqd := below_new wc (.cells #[.int .i64 1, .int .i64 3, .int .i64 5, .int .i64 7] 51)
  have hEM : RgsS (wc.alloc (.cells #[.int .i64 1, .int .i64 3, .int .i64 5, .int .i64 7] 51)) (.slice (some ⟨wc.heap.size, 0, none⟩) 2 2) exM := stS_new rg_len wc exM 51 (by decide)
  have hS2 := rSame_any exM exM _ _ _ (HMc.out.below hqd (Nat.le_refl _)) hEM
  rw [show decide (exM = exM) = true from decide_eq_true rfl] at hS2
  (with_reducible refine hS2.mono ?_)
  rintro e wd ⟨rfl, hbd⟩
  have hbd' := hqd.trans (hbd.mono (by simp))
  have HId := Lib.hid (HIc.out.below hbd' (Nat.le_refl _))
  have HBd := Lib.hid (HBc.out.trans (hbd'.mono HBc.out.size))
  clear hbd hbd' hqd hEM hS2 HIc HMc HBc y0 y1 y2 y3
  go_wp2_with fail
  have hqe := below_new wd (.cells #[.int .i64 1, .int .i64 2, .int .i64 5, .int .i64 6] 3)
  have hEI : IdxS (wd.alloc (.cells #[.int .i64 1, .int .i64 2, .int .i64 5, .int .i64 6] 3)) (.slice (some ⟨wd.heap.size, 0, none⟩) 4 4) [1, 2, 5, 6] := idxS_new wd [1, 2, 5, 6] 3 (by decide)
  have hS3 := idxSame_any (HId.out.below hqe (Nat.le_refl _)) hEI
  rw [show decide (([1, 2, 5, 6] : List Int) = [1, 2, 5, 6]) = true from decide_eq_true rfl, show ([1, 2, 5, 6] : List Int).length = 4 from rfl] at hS3
  (with_reducible refine hS3.mono ?_)
  rintro e we ⟨rfl, hbe⟩
  have hbe' := hqe.trans (hbe.mono (by simp))
  have HBe := Lib.hid (HBd.out.trans (hbe'.mono HBd.out.size))
  clear hbe hbe' hqe hEI hS3 HId HBd
  go_wp2_with fail
  go_ret
  exact ⟨rfl, HBe.out⟩
end Go.Proofs.Ytdcpgjkaimekbaa
