/- The walk of RsDecodes. -/
import Derived.Test.YtpldnbfbpajbkaaRefDec
namespace Go.Proofs.Ytpldnbfbpajbkaa
open Go.RowKit
open Go.Deep (open_slice_pairs)

theorem refDecode_res {w : World} {vp : Value} {k m : Int} {P : List (Bool × ByteArray)} (hP : PiecesS w vp P) (hmax : P.length ≤ 1000000000000) (hkw : -9223372036854775808 ≤ k ∧ k ≤ 9223372036854775807) (hmw : -9223372036854775808 ≤ m ∧ m ≤ 9223372036854775807) :
    Calls Try.prog 34 #[.int .i64 k, .int .i64 m, vp] w (StrRes w (decL k m P) (decE k m P)) := by
  by_cases h0 : rsE k m = 0
  · have hb : 1 ≤ k ∧ 0 ≤ m ∧ k + m ≤ 255 := by
      unfold rsE at h0
      by_cases hh : 1 ≤ k ∧ 0 ≤ m ∧ k + m ≤ 255
      · exact hh
      · rw [if_neg hh] at h0; simp at h0
    obtain ⟨kn, rfl⟩ : ∃ n : Nat, k = (n : Int) := ⟨k.toNat, by omega⟩
    obtain ⟨mn, rfl⟩ : ∃ n : Nat, m = (n : Int) := ⟨m.toNat, by omega⟩
    exact refDecode_ok (by omega) (by omega) hP hmax
  · have e1 : decE k m P = 1 := by unfold decE; rw [if_neg h0]
    unfold decL
    rw [e1, if_neg (by decide)]
    exact (refDecode_one hP hkw hmw h0).mono fun _ _ ⟨a, b⟩ => by subst b; exact ⟨_, a, strsS_nil _, Below.refl _ _⟩
def RetFew (n : Nat) (e : Ending) : Prop := ∃ r : Bool, e = .returned (.bool r) ∧ (r = true → n ≤ 16)
set_option maxHeartbeats 1000000 in
theorem small4_few {w : World} {v : Value} {S : List ByteArray} {k m : Int} (h : StrsS w v S) (hkw : -9223372036854775808 ≤ k ∧ k ≤ 9223372036854775807) (hmw : -9223372036854775808 ≤ m ∧ m ≤ 9223372036854775807) :
    Calls Try.prog 24 #[.int .i64 k, .int .i64 m, v] w fun e w' => RetFew S.length e ∧ w = w' := by
  have HD : Hid (∀ i, i < S.length → ∃ b o, (∃ c, v = .slice (some ⟨b, o, none⟩) S.length c) ∧ w.cell? ⟨b, o + i, none⟩ = some (.string (S.getD i ByteArray.empty)) ∧ (S.getD i ByteArray.empty).size ≤ 9223372036854775807) := Lib.hid (by
    intro i hi
    obtain ⟨b1, o1, k1, e1, _, _, r1⟩ := h.reads (by omega)
    have := r1 w (Below.refl _ _) i hi
    exact ⟨b1, o1, ⟨k1, e1⟩, this.1, this.2⟩)
  obtain ⟨A, c, rfl, hl, hm⟩ := h.opened
  obtain ⟨s, hs⟩ : ∃ s : Nat → ByteArray, s = fun i => S.getD i ByteArray.empty := ⟨_, rfl⟩
  have q1 : ∀ i, S.getD i ByteArray.empty = s i := fun i => by rw [hs]
  simp only [q1] at HD
  clear h hs q1
  generalize S.length = n at *
  obtain ⟨hk1, hk2⟩ := hkw
  obtain ⟨hm1, hm2⟩ := hmw
  obtain ⟨d1, hd1⟩ : ∃ d, decide (k ≤ 16) = d := ⟨_, rfl⟩
  obtain ⟨d2, hd2⟩ : ∃ d, decide (255 < k) = d := ⟨_, rfl⟩
  obtain ⟨d3, hd3⟩ : ∃ d, decide (m ≤ 16) = d := ⟨_, rfl⟩
  obtain ⟨d4, hd4⟩ : ∃ d, decide (255 < m) = d := ⟨_, rfl⟩
  go_enter Try.func24, Try.ntmps24
  go_wp2
  go_loop [7, 12] (fun a i => ∃ q x : Nat, q ≤ n ∧ q ≤ 16 ∧ i = .int .i64 q ∧ a = .int .i64 x ∧ x ≤ 32768) (fun _ i => n - (intOf i).toNat)
  case atStart => exact ⟨0, 0, by omega, by omega, rfl, rfl, by omega⟩
  case round =>
    obtain ⟨q, x, hq, hq16, rfl, rfl, hx⟩ := hrel
    by_cases hlt : q < n
    · obtain ⟨b, o, ⟨c', hv⟩, hc, hs⟩ := HD.out q hlt
      injection hv with hv1 hv2 hv3
      subst hv1
      clear hv3 hv2
      clear hd1 hd2 hd3 hd4
      by_cases h1 : q = 16
      · have e1 : ((q : Int) == 16) = true := by subst h1; rfl
        clear h1
        obtain ⟨d5, hd5⟩ : ∃ d, decide ((16384 : Int) < ((s q).size : Int)) = d := ⟨_, rfl⟩
        obtain ⟨d6, hd6⟩ : ∃ d, decide ((16384 : Int) < (x : Int)) = d := ⟨_, rfl⟩
        go_wp2
        go_ret
        exact ⟨⟨_, rfl, fun h => by cases h⟩, rfl⟩
      · have e1 : ((q : Int) == 16) = false := by simp; omega
        by_cases h2 : 16384 < (s q).size
        · have e2 : decide ((16384 : Int) < ((s q).size : Int)) = true := by simp; omega
          clear h2 h1
          go_wp2
          go_ret
          exact ⟨⟨_, rfl, fun h => by cases h⟩, rfl⟩
        · have e2 : decide ((16384 : Int) < ((s q).size : Int)) = false := by simp; omega
          by_cases h3 : 16384 < x
          · have e3 : decide ((16384 : Int) < (x : Int)) = true := by simp; omega
            clear h3 h2 h1
            go_wp2
            go_ret
            exact ⟨⟨_, rfl, fun h => by cases h⟩, rfl⟩
          · have e3 : decide ((16384 : Int) < (x : Int)) = false := by simp; omega
            have hq17 : q + 1 ≤ 16 := by omega
            clear h1
            go_wp2
            go_round
            case rel => exact ⟨q + 1, x + (s q).size, by omega, hq17, by go_num, by go_num, by omega⟩
            case measure => simp [intOf]; omega
    · obtain rfl : q = n := by omega
      obtain ⟨d5, hd5⟩ : ∃ d, decide ((x : Int) ≤ 16384) = d := ⟨_, rfl⟩
      have HQ := Lib.hid hq16
      clear HD hq hlt hl hm hq16
      cases d1 <;> cases d2 <;> cases d3 <;> cases d4 <;> cases d5 <;> (go_wp2; go_ret; exact ⟨⟨_, rfl, fun _ => HQ.out⟩, rfl⟩)
/-- The slice of pieces' datum has as many elements. -/
theorem pieces_len {H : Type} {enc : TypeId × Value → H} {P : Program} {w : World} {base : Nat} {held : Bool} {fuel t e : Nat} {f0 f1 : Field} {A : Option Addr} {len cap : Nat} {d : DataW H} {p : List MemPlace}
    (ht : P.underlying t = some (.slice e)) (he : P.underlying e = some (.struct #[f0, f1])) (ce : P.cellsOf e = 2) (o0 : f0.offset = 0) (o1 : f1.offset = 1) (c0 : P.cellsOf f0.type = 1) (c1 : P.cellsOf f1.type = 1)
    (h : DataW.trod enc P w base (fun _ => true) held fuel t (Value.slice A len cap).cells.toList = some (d, p)) : len = 0 ∨ ∃ elems spare, d = .slice elems spare ∧ elems.length = len := by
  rcases open_slice_pairs ht he ce o0 o1 c0 c1 h with ⟨hcs, _⟩ | ⟨a, len', cap', m, n, V0, V1, D0, D1, P0, P1, hcs, _, hl, hm, hmm, hx, hcell⟩
  · simp [Value.cells] at hcs
    exact .inl hcs.2.1
  · simp [Value.cells] at hcs
    obtain ⟨rfl, rfl, rfl⟩ := hcs
    simp only [Prod.mk.injEq] at hx
    exact .inr ⟨_, _, hx.1, by simp⟩
set_option maxRecDepth 100000 in
set_option maxHeartbeats 4000000 in
theorem rsDecodes_walk {w : World} {k m : Int} {a : Value} {P : List (Bool × ByteArray)} (hkw : -9223372036854775808 ≤ k ∧ k ≤ 9223372036854775807) (hmw : -9223372036854775808 ≤ m ∧ m ≤ 9223372036854775807) (h : PiecesS w a P) (hmax : P.length * 24 ≤ 140737488351232) :
    Calls Try.prog 8 #[.int .i64 k, .int .i64 m, a] w fun e w' => e = .returned (.bool true) ∧ Below w.heap.size w w' := by
  have HKW := Lib.hid hkw
  have HMW := Lib.hid hmw
  have HP := Lib.hid h
  obtain ⟨d, hd⟩ : ∃ d : Nat → ByteArray, d = thD P := ⟨_, rfl⟩
  obtain ⟨q, hq⟩ : ∃ q : Nat → Bool, q = thQ P := ⟨_, rfl⟩
  have hsm : ∀ i, i < P.length → (d i).size ≤ maxLen := fun i hi => by
    obtain ⟨_, _, _, _, _, _, hs, _⟩ := h
    rw [hd]
    exact hs _ (by rw [List.getD, List.getElem?_eq_getElem hi]; exact List.getElem_mem hi)
  have HSM := Lib.hid hsm
  have HC : Hid (∀ k, k < P.length → ∃ b off c, a = .slice (some ⟨b, off, none⟩) P.length c ∧ ∀ W, Below w.heap.size w W → W.cell? ⟨b, off + k * 2, none⟩ = some (.bool (q k)) ∧ W.cell? ⟨b, off + k * 2 + 1, none⟩ = some (.string (d k))) := Lib.hid (fun k hk => by
    obtain ⟨A, cap, rfl, h1, h2, h3, h4, h5⟩ := h
    rcases h5 with h5 | ⟨b, off, rfl, hlt, hc⟩
    · rw [h5] at hk; simp at hk
    · refine ⟨b, off, cap, rfl, fun W hW => ?_⟩
      rw [hW.cell (p := ⟨b, off + k * 2, none⟩) hlt, hW.cell (p := ⟨b, off + k * 2 + 1, none⟩) hlt, hq, hd]
      exact hc k hk)
  obtain ⟨A, cap, rfl, hlc, hcm⟩ := h.opened
  obtain ⟨n, hn⟩ : ∃ n, n = P.length := ⟨_, rfl⟩
  have HN := Lib.hid hn
  rw [← hn] at HC HSM hlc hmax ⊢
  obtain ⟨i1, hi1, hz3, hz4, hz5⟩ := info_parts infoString
  clear h hq hd hsm hkw hmw hn
  go_enter Try.func8, Try.ntmps8
  go_wp2_with fail
  go_loopw [7, 16] (fun zl i wr => ∃ (x : Nat) (vl : Value), x ≤ n ∧ i = .int .i64 x ∧ vl = zl ∧ wr.ownsRow w.heap.size 9 1 vl x (leftV d (List.range x)) ∧ Below w.heap.size w wr) (fun _ i _ => n - (intOf i).toNat)
  case atStart => exact ⟨0, .slice none 0 0, by omega, rfl, rfl, World.ownsRow_nil _ _ _ _, Below.refl _ _⟩
  case round =>
    obtain ⟨x, vl, hxn, rfl, rfl, how, hbe⟩ := hrel
    have HOW := Lib.hid how
    have HBE := Lib.hid hbe
    clear how hbe
    by_cases hlt : x < n
    · obtain ⟨b, off, c, hv, hW⟩ := HC.out x hlt
      injection hv with hv1 hv2 hv3
      subst hv1; subst hv3
      clear hv2
      obtain ⟨hc1, hc2⟩ := hW wr HBE.out
      have hs1 := HBE.out.size
      have hbl := World.block_lt_of_cell? wr _ hc1
      obtain ⟨xs, hxs⟩ : ∃ xs, xs = leftV d (List.range x) := ⟨_, rfl⟩
      generalize q x = y at hc1
      have hbe0 : Below wr.heap.size wr ((wr.alloc (.cells #[.bool y, .string (d x)] 48)).alloc (.cells #[.string (d x)] 9)) := ((Below.refl _ wr).alloc (Nat.le_refl _) _).alloc (by simp) _
      have ho1 := own_below HOW.out hbe0
      rw [← hxs] at ho1
      have HXS := Lib.hid hxs
      have HBE0 := Lib.hid hbe0
      have HO1 := Lib.hid ho1
      have hcn := cell_one_new (wr.alloc (.cells #[.bool y, .string (d x)] 48)) (.string (d x)) 9
      rw [World.size_alloc] at hcn
      have HCN := Lib.hid hcn
      clear hW hbe0 ho1 hxs hcn
      go_wp2_with (at_builtin; (with_reducible refine wpList_append_own_at _ ?g0 (.tmp 20) (.tmp 23) 39 ?g1 w.heap.size 9 i1 (.string ByteArray.empty) 1 16 Try.underlying39 hi1 hz3 hz4 hz5 ?g2 (by decide) vl x xs ?g3 HO1.out ⟨wr.heap.size + 1, 0, none⟩ 1 1 [.string (d x)] ?g4 ?g5 ?c1 ?c2 ?c3 ?c4 ?c5 ?_); (case g0 => rfl); (case g1 => rfl); (case g2 => rfl); (case g3 => rfl); (case g4 => rfl); (case g5 => rfl); (case c1 => exact HCN.out); (case c2 => simp [Value.oneCell']); (case c3 => unfold maxLen; omega); (case c4 => omega); (case c5 => simp; omega); intro v5; intro w5; intro hown5; intro hgrow5; intro hx5; intro hat5; have HO5 := Lib.hid hown5; have HG5 := Lib.hid hgrow5; clear hown5 hgrow5 hx5 hat5)
      have HB5 : Hid (Below w.heap.size w w5) := Lib.hid ((HBE.out.trans (HBE0.out.mono hs1)).grown HG5.out (by simp; omega) (fun g hg => (World.ownsRow.lt HO1.out g hg).1))
      go_roundw
      case rel => exact ⟨x + 1, v5, by omega, by go_num, rfl, by rw [List.range_succ, leftV_snoc, ← HXS.out]; exact HO5.out, HB5.out⟩
      case measure => simp [intOf]; omega
    · obtain rfl : x = n := by omega
      have hss : StrsS wr vl ((List.range x).map d) := own_strs (B := w.heap.size) (l := List.range x) (by rw [List.length_range]; exact HOW.out) (fun i hi => HSM.out i (List.mem_range.1 hi))
      have HB := Lib.hid HBE.out
      have hpw := HP.out.below HBE.out
      rw [← HN.out] at hpw
      have HPW := Lib.hid hpw
      have hsl : ((List.range x).map d).length = x := by simp
      have h := small4_few hss HKW.out HMW.out
      obtain ⟨al, cl, rfl, hll, hlm⟩ := hss.opened
      rw [hsl] at hll h ⊢
      have HSMALL := Lib.hid h
      clear h hss HOW HSM HC HP HBE hpw hsl
      go_wp2_with fail
      (with_reducible refine HSMALL.out.mono ?_)
      rintro e w' ⟨⟨r1, rfl, hfew⟩, rfl⟩
      clear HSMALL
      cases r1 with
      | false =>
        clear hfew
        go_wp2_with fail
        (with_reducible refine (lives4_any _).mono ?_)
        rintro e w1 ⟨rfl, hb⟩
        replace HB := Lib.hid (HB.out.trans (hb.mono HB.out.size))
        clear hb
        go_wp2
        go_ret
        exact ⟨rfl, HB.out⟩
      | true =>
      have hx16 := hfew rfl
      clear hfew
      have HX16 : Hid (P.length ≤ 1000000000000) := Lib.hid (by have := HN.out; omega)
      go_wp2_with fail
      have h := decode_res HPW.out HX16.out HKW.out HMW.out
      (with_reducible refine h.mono ?_)
      rintro e w2 ⟨vp, rfl, hx, hb⟩
      clear h
      have HQP := Lib.hid hx
      replace HPW := Lib.hid (HPW.out.below hb)
      replace HB := Lib.hid (HB.out.trans (hb.mono HB.out.size))
      clear hx hb
      go_wp2_with fail
      have h := refDecode_res HPW.out HX16.out HKW.out HMW.out
      (with_reducible refine h.mono ?_)
      rintro e w3 ⟨vq, rfl, hx, hb⟩
      clear h
      have HQQ := Lib.hid hx
      replace HQP := Lib.hid (HQP.out.below hb)
      replace HB := Lib.hid (HB.out.trans (hb.mono HB.out.size))
      clear hx hb
      go_wp2_with fail
      (with_reducible refine (lives4_any _).mono ?_)
      rintro e w4 ⟨rfl, hb⟩
      replace HQP := Lib.hid (HQP.out.below hb)
      replace HQQ := Lib.hid (HQQ.out.below hb)
      replace HB := Lib.hid (HB.out.trans (hb.mono HB.out.size))
      clear hb
      have h := same4_any HQP.out HQQ.out
      rw [decide_eq_true rfl] at h
      have HZE : (decE k m P == decE k m P) = true := by simp
      obtain ⟨E, hE⟩ : ∃ E, E = decE k m P := ⟨_, rfl⟩
      rw [← hE] at HZE ⊢
      have HSM := Lib.hid h
      clear hE h
      obtain ⟨aP, cP, rfl, hlP, hmP⟩ := HQP.out.opened
      obtain ⟨aQ, cQ, rfl, hlQ, hmQ⟩ := HQQ.out.opened
      go_wp2_with fail
      (with_reducible refine HSM.out.mono ?_)
      rintro e w5 ⟨rfl, hb⟩
      replace HB := Lib.hid (HB.out.trans (hb.mono HB.out.size))
      clear hb HSM
      go_wp2
      go_ret
      exact ⟨rfl, HB.out⟩
theorem rsDecodes_any {w : World} (k : Int) (hk : (Lit.int .i64 k).wf = true) (m : Int) (hm : (Lit.int .i64 m).wf = true) {a : Value} {P : List (Bool × ByteArray)} (h : PiecesS w a P) (hmax : P.length * 24 ≤ 140737488351232) :
    Calls Try.prog 8 #[.int .i64 k, .int .i64 m, a] w fun e w' => e = .returned (.bool true) ∧ Below w.heap.size w w' := rsDecodes_walk (int_of_wf hk) (int_of_wf hm) h hmax
end Go.Proofs.Ytpldnbfbpajbkaa
