/- Reports of damage: the program's Parse. -/
import Derived.Test.YtfmpbohiahjafaaGreatDoorDmgR
namespace Go.Proofs.YtfmpbohiahjafaaGreatDoor
open Go.RowKit Go.Lib Go.Shelf Go.Sort

theorem cut_hit {one rest : List UInt8} (h : (10 : UInt8) ∉ one) : Lib.cut (one ++ 10 :: rest) [10] = (one, rest, true) := by
  have h1 : Lib.index (one ++ 10 :: rest) [10] = (one.length : Int) := by
    rw [index_one]
    cases hr : indexByte (one ++ 10 :: rest) 10 with
    | ofNat o =>
      obtain ⟨e1, e2⟩ := indexByte_some (o := o) hr
      congr 1
      rcases Nat.lt_trichotomy o one.length with hlt | heq | hgt
      · rw [List.getElem?_append_left hlt] at e1
        exact absurd (List.mem_of_getElem? e1) h
      · exact heq
      · exact absurd (by rw [List.getElem?_append_right (Nat.le_refl _), Nat.sub_self]; rfl) (e2 one.length hgt)
    | negSucc o =>
      have hg := indexByte_ge (one ++ 10 :: rest) 10
      have : indexByte (one ++ 10 :: rest) 10 = -1 := by rw [hr] at hg ⊢; omega
      exact absurd (by simp) (not_mem_of this)
  unfold Lib.cut
  rw [h1, if_pos (by omega)]
  simp
theorem cut_miss {s : List UInt8} (h : (10 : UInt8) ∉ s) : Lib.cut s [10] = (s, [], false) := by
  have h1 : ¬ 0 ≤ Lib.index s [10] := by
    rw [index_one]
    intro hge
    obtain ⟨o, ho⟩ : ∃ o : Nat, indexByte s 10 = o := ⟨(indexByte s 10).toNat, by omega⟩
    exact h (List.mem_of_getElem? (indexByte_some ho).1)
  unfold Lib.cut
  rw [if_neg h1]
theorem cutD_any {s : List UInt8} (hl : s.length ≤ 1000000) {w : World} (hD : DmW w) : Calls Tryz.prog 39 #[.string ⟨s.toArray⟩, .string ⟨#[10]⟩] w fun e w' => e = .returned (.tuple #[Bs (Lib.cut s [10]).1, Bs (Lib.cut s [10]).2.1, .bool (Lib.cut s [10]).2.2]) ∧ Below w.heap.size w w' := by
  obtain ⟨m, hm⟩ := hD.ml
  have hsz := bsz s
  have hC := Any.strings_Cut Tryz.lays145 ⟨s.toArray⟩ ⟨#[10]⟩ m w (by omega) hm
  change Calls Tryz.prog 39 _ _ _ at hC
  refine hC.mono ?_
  rintro e w' ⟨he, n, rfl⟩
  exact ⟨he, below_drewN (Below.refl _ _) n⟩
theorem split_10 {s : List UInt8} (h : (10 : UInt8) ∈ s) : ∃ one rest, s = one ++ 10 :: rest ∧ (10 : UInt8) ∉ one := by
  induction s with
  | nil => cases h
  | cons b r ih =>
    by_cases hb : b = 10
    · exact ⟨[], r, by rw [hb]; rfl, by simp⟩
    · obtain ⟨one, rest, h1, h2⟩ := ih (by rcases List.mem_cons.1 h with h | h; exact absurd h.symm hb; exact h)
      refine ⟨b :: one, rest, by rw [h1]; rfl, fun hm => ?_⟩
      rcases List.mem_cons.1 hm with hm | hm
      · exact hb hm.symm
      · exact h2 hm
def strN : Value → Nat | .string b => b.size | _ => 0
theorem rW_noneL {l : List UInt8} {x : LO} (h : rL l = some x) : rW l = none := by
  cases hw : rW l with
  | none => rfl
  | some y => rw [rL_none hw] at h; cases h
/-- A box of two nils that may be written. -/
structure N2 (W : World) (b : Nat) : Prop where
  c0 : W.cell? ⟨b, 0, none⟩ = some (.slice none 0 0)
  c1 : W.cell? ⟨b, 1, none⟩ = some (.slice none 0 0)
  f0 : W.frozen? ⟨b, 0, none⟩ = false
  f1 : W.frozen? ⟨b, 1, none⟩ = false
theorem N2.below {B : Nat} {W W' : World} {b : Nat} (h : N2 W b) (hb : Below B W W') (hlt : b < B) : N2 W' b :=
  ⟨(hb.cell (p := ⟨b, 0, none⟩) hlt).trans h.c0, (hb.cell (p := ⟨b, 1, none⟩) hlt).trans h.c1, (hb.frozen (p := ⟨b, 0, none⟩) hlt).trans h.f0, (hb.frozen (p := ⟨b, 1, none⟩) hlt).trans h.f1⟩
theorem N2.new (w : World) (t : TypeId) : N2 (w.alloc (.cells #[.slice none 0 0, .slice none 0 0] t)) w.heap.size := by
  have h := cell2 w (.slice none 0 0) (.slice none 0 0) t
  have hf := fun o => frozen_of_row (w.alloc (.cells #[.slice none 0 0, .slice none 0 0] t)) w.heap.size o _ t (heap_alloc_new w _)
  exact ⟨h.1, h.2, hf 0, hf 1⟩
theorem N2.put {W : World} {b : Nat} (h : N2 W b) (u v : Value) : ((W.setCell ⟨b, 0, none⟩ u).setCell ⟨b, 1, none⟩ v).cell? ⟨b, 0, none⟩ = some u ∧ ((W.setCell ⟨b, 0, none⟩ u).setCell ⟨b, 1, none⟩ v).cell? ⟨b, 1, none⟩ = some v :=
  ⟨(put_else _ _ _ _ _ (by omega)).trans (put_same h.c0 _), put_same ((put_else _ _ _ _ _ (by omega)).trans h.c1) _⟩
theorem st_setD {α : Type} {k : Nat} {enc : α → List Value} {z : α} {W : World} {B b q : Nat} {t : TypeId} {x v : Value} {L : List α} (hk : ∀ x, (enc x).length = k) (h : W.ownsRow B t k v L.length (L.flatMap enc)) (hn : b < B) : StS k enc z (W.setCell ⟨b, q, none⟩ x) v L :=
  StS.of_own hk (own_setD h (fun e => by have := (World.ownsRow.lt h _ e).1; omega))
theorem st_setD2 {α : Type} {k : Nat} {enc : α → List Value} {z : α} {W : World} {B b : Nat} {t : TypeId} {x y v : Value} {L : List α} (hk : ∀ x, (enc x).length = k) (h : W.ownsRow B t k v L.length (L.flatMap enc)) (hn : b < B) : StS k enc z ((W.setCell ⟨b, 0, none⟩ x).setCell ⟨b, 1, none⟩ y) v L :=
  st_setD hk (own_setD h (fun e => by have := (World.ownsRow.lt h _ e).1; omega)) hn
/-- What Parse answers. -/
def PAns (w' : World) (e : Ending) (R : List WD × List LO × Int × Int) : Prop := ∃ u v, e = .returned (.tuple #[.agg #[u, v], .int .i64 R.2.2.1, .int .i64 R.2.2.2]) ∧ WdS w' u R.1 ∧ LoS w' v R.2.1
set_option maxHeartbeats 16000000 in
set_option maxRecDepth 100000 in
theorem dmgParse_any {T : List UInt8} (hT : T.length ≤ 500000) {w : World} (hD : DmW w) :
    Calls Tryz.prog 18 #[.string ⟨T.toArray⟩] w fun e w' => PAns w' e (prsT T) ∧ Below w.heap.size w w' := by
  obtain ⟨w1, hw1⟩ : ∃ w1, w1 = w.alloc (.cells #[.slice none 0 0, .slice none 0 0] 25) := ⟨_, rfl⟩
  have HB1 : Hid (Below w.heap.size w w1) := Lib.hid (by rw [hw1]; exact below_new w _)
  have HN1 : Hid (N2 w1 w.heap.size) := Lib.hid (by rw [hw1]; exact N2.new w _)
  have HS1 : Hid (w1.heap.size = w.heap.size + 1) := Lib.hid (by rw [hw1]; simp)
  have HW1 := Lib.hid hw1
  have hR := RP.new w1 25
  have HB2 := Lib.hid (below_new w1 (.cells #[.slice none 0 0, .slice none 0 0] 25))
  have HD1 := Lib.hid (hD.below HB1.out)
  have HT := Lib.hid hT
  have HBS : Hid (w1.heap.size ≤ w1.heap.size) := Lib.hid (Nat.le_refl _)
  clear hw1 hD hT
  go_enter Tryz.func18, Tryz.ntmps18
  go_upto_region 1 with fail
  rw [← HW1.out]
  go_upto_region 2 with fail
  generalize w1.alloc (.cells #[.slice none 0 0, .slice none 0 0] 25) = w2 at hR HB2 ⊢
  have HR2 := Lib.hid hR
  clear hR
  go_wp2
  go_loopw [0, 6] (fun tx lx wr => ∃ (s : List UInt8) (k : Nat) (u v : Value) (Ws : List WD) (Ls : List LO), tx = .string ⟨s.toArray⟩ ∧ lx = .int .i64 (k : Int) ∧ prsT T = prs (spl 10 s) Ws Ls k ∧ 1 ≤ k ∧ k + s.length ≤ T.length + 1 ∧ Ws.length ≤ k ∧ Ls.length ≤ k ∧ RP w1.heap.size wr w1.heap.size u v Ws Ls ∧ Below w1.heap.size w1 wr) (fun tx _ _ => strN tx)
  case atStart => exact ⟨T, 1, _, _, [], [], rfl, rfl, rfl, Nat.le_refl _, by omega, Nat.zero_le _, Nat.zero_le _, HR2.out, HB2.out⟩
  case round =>
    obtain ⟨s, k, u, v, Ws, Ls, rfl, rfl, heq, hk1, hk, hWl, hLl, hr, hbl⟩ := hrel
    have HB := Lib.hid hbl
    have HR := Lib.hid hr
    have HE := Lib.hid heq
    have HSZ : Hid (w1.heap.size ≤ wr.heap.size) := Lib.hid hbl.size
    have HBND : Hid (1 ≤ k ∧ k + s.length ≤ T.length + 1 ∧ Ws.length ≤ k ∧ Ls.length ≤ k ∧ s.length ≤ 500001) := Lib.hid ⟨hk1, hk, hWl, hLl, by have := HT.out; omega⟩
    have HDr : Hid (∀ V, Below w1.heap.size w1 V → DmW V) := Lib.hid (fun V hb => HD1.out.below hb)
    have HBw : Hid (∀ V, Below w1.heap.size w1 V → Below w.heap.size w V ∧ N2 V w.heap.size) := Lib.hid (fun V hb => ⟨HB1.out.trans (hb.mono HB1.out.size), HN1.out.below hb (by rw [HS1.out]; omega)⟩)
    clear hbl hr heq hk1 hk hWl hLl
    by_cases hs : s = []
    · subst hs
      obtain ⟨A1, c1, hu, _⟩ := ownS_form HR.out.ow
      obtain ⟨A2, c2, hv, _⟩ := ownS_form HR.out.ol
      subst hu
      subst hv
      have y0 := HR.out.c0
      have y1 := HR.out.c1
      obtain ⟨x0, x1, f0, f1⟩ := (HBw.out wr HB.out).2
      have HZ := Lib.hid (HBw.out wr HB.out)
      go_wp2
      obtain ⟨z0, z1⟩ := HZ.out.2.put (.slice A1 Ws.length c1) (.slice A2 Ls.length c2)
      refine bodyPost_ret (v := .tuple #[.agg #[.slice A1 Ws.length c1, .slice A2 Ls.length c2], .int .i64 0, .int .i64 0]) (by simp [results, Tryz.results18, go_sem, z0, z1]) rfl ?_
      refine ⟨?_, below_set (below_set HZ.out.1 (Nat.le_refl _)) (Nat.le_refl _)⟩
      rw [HE.out, prs_end]
      exact ⟨_, _, rfl, st_setD2 WD.enc_len HR.out.ow (by rw [HS1.out]; omega), st_setD2 LO.enc_len HR.out.ol (by rw [HS1.out]; omega)⟩
    · have hse : (s == []) = false := by rw [beq_eq_false_iff_ne]; exact hs
      have hse2 : s.isEmpty = false := by cases s with
        | nil => exact absurd rfl hs
        | cons a r => rfl
      have hse3 : (([] : List UInt8) == s) = false := by rw [beq_eq_false_iff_ne]; exact fun e => hs e.symm
      have hCut := cutD_any (s := s) (by have := HBND.out.2.2.2.2; omega) (HDr.out wr HB.out)
      by_cases hm : (10 : UInt8) ∈ s
      case neg =>
        rw [cut_miss hm] at hCut
        dsimp only at hCut
        rw [prs_open hs hm] at HE
        clear hs hm
        go_upto_region 7 with (go_at_call 39; (with_reducible refine hCut.mono ?_); rintro e w4 ⟨rfl, hb4⟩; have HB4 : Hid (Below w1.heap.size w1 w4) := Lib.hid (HB.out.trans (hb4.mono HSZ.out)); clear hb4)
        have HZ := Lib.hid (HBw.out w4 HB4.out)
        obtain ⟨x0, x1, f0, f1⟩ := HZ.out.2
        go_wp2
        obtain ⟨z0, z1⟩ := HZ.out.2.put (.slice none 0 0) (.slice none 0 0)
        refine bodyPost_ret (v := .tuple #[.agg #[.slice none 0 0, .slice none 0 0], .int .i64 (k : Int), .int .i64 6]) (by simp [results, Tryz.results18, go_sem, z0, z1]) rfl ?_
        refine ⟨?_, below_set (below_set HZ.out.1 (Nat.le_refl _)) (Nat.le_refl _)⟩
        rw [HE.out]
        exact ⟨_, _, rfl, StS.nil _, StS.nil _⟩
      obtain ⟨one, rest, hsp, hno⟩ := split_10 hm
      have HLN : Hid (one.length ≤ 1000000 ∧ rest.length + 1 ≤ s.length) := Lib.hid (by have := HBND.out.2.2.2.2; have h2 := congrArg List.length hsp; simp at h2; omega)
      have HSS := Lib.hid (bsz s)
      rw [hsp, cut_hit hno] at hCut
      rw [← hsp] at hCut
      dsimp only at hCut
      have hq : spl 10 s = one :: spl 10 rest := by rw [hsp]; exact spl_app _ hno
      rw [hq] at HE
      clear hs hm hq hno hsp
      cases hL : rL one with
      | some x =>
        have hW := rW_noneL hL
        have HAD : Hid (∀ V, Below w1.heap.size w1 V → RP w1.heap.size V w1.heap.size u v Ws Ls → _) := Lib.hid (fun V hb hr => addL_any hr hb.size (HDr.out V hb) HLN.out.1 (by have := HBND.out; have := HT.out; omega) hL hW)
        by_cases hk : 16384 < k
        · have d0 : decide ((16384 : Int) < (k : Int)) = true := decide_eq_true (by omega)
          rw [prs_long (spl_ne _ _) hk (.inl ⟨x, hL⟩)] at HE
          clear hk hL hW
          go_upto_region 9 with (first
            | (go_at_call 39; (with_reducible refine hCut.mono ?_); rintro e w4 ⟨rfl, hb4⟩; have HB4 : Hid (Below w1.heap.size w1 w4) := Lib.hid (HB.out.trans (hb4.mono HSZ.out)); have hAd := HAD.out w4 HB4.out (HR.out.below hb4); clear hb4)
            | (go_at_call 40; (with_reducible refine hAd.mono ?_); rintro e w5 ⟨rfl, ⟨v2, hr2⟩, hb5⟩; have HB5 : Hid (Below w1.heap.size w1 w5) := Lib.hid (HB4.out.trans hb5); clear hb5 hr2))
          have HZ := Lib.hid (HBw.out w5 HB5.out)
          obtain ⟨x0, x1, f0, f1⟩ := HZ.out.2
          go_wp2
          obtain ⟨z0, z1⟩ := HZ.out.2.put (.slice none 0 0) (.slice none 0 0)
          refine bodyPost_ret (v := .tuple #[.agg #[.slice none 0 0, .slice none 0 0], .int .i64 (k : Int), .int .i64 7]) (by simp [results, Tryz.results18, go_sem, z0, z1]) rfl ?_
          refine ⟨?_, below_set (below_set HZ.out.1 (Nat.le_refl _)) (Nat.le_refl _)⟩
          rw [HE.out]
          exact ⟨_, _, rfl, StS.nil _, StS.nil _⟩
        · have d0 : decide ((16384 : Int) < (k : Int)) = false := decide_eq_false (by omega)
          rw [prs_lost (spl_ne _ _) hk hL] at HE
          have HK : Hid (k + 1 + rest.length ≤ T.length + 1 ∧ Ws.length ≤ k + 1 ∧ (Ls ++ [x]).length ≤ k + 1 ∧ rest.length < s.length ∧ wrap64 ((k : Int) + 1) = (k : Int) + 1) := Lib.hid ⟨by have := HBND.out; have := HLN.out; omega, by have := HBND.out; omega, by have := HBND.out; simp; omega, by have := HLN.out; omega, by unfold wrap64; omega⟩
          clear hk hL hW
          go_wp2_with (first
            | (go_at_call 39; (with_reducible refine hCut.mono ?_); rintro e w4 ⟨rfl, hb4⟩; have HB4 : Hid (Below w1.heap.size w1 w4) := Lib.hid (HB.out.trans (hb4.mono HSZ.out)); have hAd := HAD.out w4 HB4.out (HR.out.below hb4); clear hb4)
            | (go_at_call 40; (with_reducible refine hAd.mono ?_); rintro e w5 ⟨rfl, ⟨v2, hr2⟩, hb5⟩; have HB5 : Hid (Below w1.heap.size w1 w5) := Lib.hid (HB4.out.trans hb5); have HR5 := Lib.hid hr2; clear hb5 hr2))
          (try rw [HK.out.2.2.2.2])
          go_roundw
          case rel => exact ⟨rest, k + 1, _, _, Ws, Ls ++ [x], rfl, by go_num, HE.out, by omega, HK.out.1, HK.out.2.1, HK.out.2.2.1, HR5.out, HB5.out⟩
          case measure => have := HK.out.2.2.2.1; have h2 := bsz rest; have h3 := HSS.out; simp only [strN]; omega
      | none =>
        cases hW : rW one with
        | none =>
          have HAD : Hid (∀ V, Below w1.heap.size w1 V → RP w1.heap.size V w1.heap.size u v Ws Ls → _) := Lib.hid (fun V hb hr => addN_any hr (HDr.out V hb) HLN.out.1 hL hW)
          rw [prs_bad (spl_ne _ _) hL (.inl hW)] at HE
          clear hL hW
          go_upto_region 7 with (first
            | (go_at_call 39; (with_reducible refine hCut.mono ?_); rintro e w4 ⟨rfl, hb4⟩; have HB4 : Hid (Below w1.heap.size w1 w4) := Lib.hid (HB.out.trans (hb4.mono HSZ.out)); have hAd := HAD.out w4 HB4.out (HR.out.below hb4); clear hb4)
            | (go_at_call 40; (with_reducible refine hAd.mono ?_); rintro e w5 ⟨rfl, hb5⟩; have HB5 : Hid (Below w1.heap.size w1 w5) := Lib.hid (HB4.out.trans (hb5.mono HB4.out.size)); clear hb5))
          have HZ := Lib.hid (HBw.out w5 HB5.out)
          obtain ⟨x0, x1, f0, f1⟩ := HZ.out.2
          go_wp2
          obtain ⟨z0, z1⟩ := HZ.out.2.put (.slice none 0 0) (.slice none 0 0)
          refine bodyPost_ret (v := .tuple #[.agg #[.slice none 0 0, .slice none 0 0], .int .i64 (k : Int), .int .i64 6]) (by simp [results, Tryz.results18, go_sem, z0, z1]) rfl ?_
          refine ⟨?_, below_set (below_set HZ.out.1 (Nat.le_refl _)) (Nat.le_refl _)⟩
          rw [HE.out]
          exact ⟨_, _, rfl, StS.nil _, StS.nil _⟩
        | some x =>
          have HAD : Hid (∀ V, Below w1.heap.size w1 V → RP w1.heap.size V w1.heap.size u v Ws Ls → _) := Lib.hid (fun V hb hr => addW_any hr hb.size (HDr.out V hb) HLN.out.1 (by have := HBND.out; have := HT.out; omega) hW)
          by_cases hLs : Ls = []
          case neg =>
            rw [decide_eq_false hLs] at HAD
            rw [prs_bad (spl_ne _ _) hL (.inr hLs)] at HE
            clear hL hW hLs
            go_upto_region 7 with (first
              | (go_at_call 39; (with_reducible refine hCut.mono ?_); rintro e w4 ⟨rfl, hb4⟩; have HB4 : Hid (Below w1.heap.size w1 w4) := Lib.hid (HB.out.trans (hb4.mono HSZ.out)); have hAd := HAD.out w4 HB4.out (HR.out.below hb4); clear hb4)
              | (go_at_call 40; (with_reducible refine hAd.mono ?_); rintro e w5 ⟨rfl, ⟨v2, hr2⟩, hb5⟩; have HB5 : Hid (Below w1.heap.size w1 w5) := Lib.hid (HB4.out.trans hb5); clear hb5 hr2))
            have HZ := Lib.hid (HBw.out w5 HB5.out)
            obtain ⟨x0, x1, f0, f1⟩ := HZ.out.2
            go_wp2
            obtain ⟨z0, z1⟩ := HZ.out.2.put (.slice none 0 0) (.slice none 0 0)
            refine bodyPost_ret (v := .tuple #[.agg #[.slice none 0 0, .slice none 0 0], .int .i64 (k : Int), .int .i64 6]) (by simp [results, Tryz.results18, go_sem, z0, z1]) rfl ?_
            refine ⟨?_, below_set (below_set HZ.out.1 (Nat.le_refl _)) (Nat.le_refl _)⟩
            rw [HE.out]
            exact ⟨_, _, rfl, StS.nil _, StS.nil _⟩
          subst hLs
          change Hid (∀ V, Below w1.heap.size w1 V → RP w1.heap.size V w1.heap.size u v Ws [] → Calls Tryz.prog 40 #[.pointer (some ⟨w1.heap.size, 0, none⟩), .string ⟨one.toArray⟩] V (fun e w' => e = .returned (.bool true) ∧ (∃ u', RP w1.heap.size w' w1.heap.size u' v (Ws ++ [x]) []) ∧ Below w1.heap.size V w')) at HAD
          by_cases hk : 16384 < k
          · have d0 : decide ((16384 : Int) < (k : Int)) = true := decide_eq_true (by omega)
            rw [prs_long (spl_ne _ _) hk (.inr ⟨rfl, x, hW⟩)] at HE
            clear hk hL hW
            go_upto_region 9 with (first
              | (go_at_call 39; (with_reducible refine hCut.mono ?_); rintro e w4 ⟨rfl, hb4⟩; have HB4 : Hid (Below w1.heap.size w1 w4) := Lib.hid (HB.out.trans (hb4.mono HSZ.out)); have hAd := HAD.out w4 HB4.out (HR.out.below hb4); clear hb4)
              | (go_at_call 40; (with_reducible refine hAd.mono ?_); rintro e w5 ⟨rfl, ⟨v2, hr2⟩, hb5⟩; have HB5 : Hid (Below w1.heap.size w1 w5) := Lib.hid (HB4.out.trans hb5); clear hb5 hr2))
            have HZ := Lib.hid (HBw.out w5 HB5.out)
            obtain ⟨x0, x1, f0, f1⟩ := HZ.out.2
            go_wp2
            obtain ⟨z0, z1⟩ := HZ.out.2.put (.slice none 0 0) (.slice none 0 0)
            refine bodyPost_ret (v := .tuple #[.agg #[.slice none 0 0, .slice none 0 0], .int .i64 (k : Int), .int .i64 7]) (by simp [results, Tryz.results18, go_sem, z0, z1]) rfl ?_
            refine ⟨?_, below_set (below_set HZ.out.1 (Nat.le_refl _)) (Nat.le_refl _)⟩
            rw [HE.out]
            exact ⟨_, _, rfl, StS.nil _, StS.nil _⟩
          · have d0 : decide ((16384 : Int) < (k : Int)) = false := decide_eq_false (by omega)
            rw [prs_wound (spl_ne _ _) hk hW] at HE
            have HK : Hid (k + 1 + rest.length ≤ T.length + 1 ∧ (Ws ++ [x]).length ≤ k + 1 ∧ 0 ≤ k + 1 ∧ rest.length < s.length ∧ wrap64 ((k : Int) + 1) = (k : Int) + 1) := Lib.hid ⟨by have := HBND.out; have := HLN.out; omega, by have := HBND.out; simp; omega, by omega, by have := HLN.out; omega, by unfold wrap64; omega⟩
            clear hk hL hW
            go_wp2_with (first
              | (go_at_call 39; (with_reducible refine hCut.mono ?_); rintro e w4 ⟨rfl, hb4⟩; have HB4 : Hid (Below w1.heap.size w1 w4) := Lib.hid (HB.out.trans (hb4.mono HSZ.out)); have hAd := HAD.out w4 HB4.out (HR.out.below hb4); clear hb4)
              | (go_at_call 40; (with_reducible refine hAd.mono ?_); rintro e w5 ⟨rfl, ⟨v2, hr2⟩, hb5⟩; have HB5 : Hid (Below w1.heap.size w1 w5) := Lib.hid (HB4.out.trans hb5); have HR5 := Lib.hid hr2; clear hb5 hr2))
            (try rw [HK.out.2.2.2.2])
            go_roundw
            case rel => exact ⟨rest, k + 1, _, _, Ws ++ [x], [], rfl, by go_num, HE.out, by omega, HK.out.1, HK.out.2.1, HK.out.2.2.1, HR5.out, HB5.out⟩
            case measure => have := HK.out.2.2.2.1; have h2 := bsz rest; have h3 := HSS.out; simp only [strN]; omega
end Go.Proofs.YtfmpbohiahjafaaGreatDoor
