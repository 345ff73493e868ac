/- Reports of damage: the document's Sort, walked. -/
import Derived.Test.YtobbcekehmmdhaaGreatDoorDmgX
import Derived.Test.YtobbcekehmmdhaaGreatDoorIns
import Derived.Deep.DeepCutAuto
import Derived.Deep.RegionHeld3
namespace Go.Proofs.YtobbcekehmmdhaaGreatDoor
open Go.RowKit

def idxD : Value → Nat | .int _ q => q.toNat | _ => 0
theorem nextZ {j n : Nat} (h : j < n) (h1 : n ≤ maxLen) : wrap64 ((j : Int) + 1) = (j : Int) + 1 ∧ IntKind.i64.wrap ((j : Int) + 1) = (j : Int) + 1 := by
  have h1 : wrap64 ((j : Int) + 1) = (j : Int) + 1 := wrap_nx h (Nat.le_refl _) h1
  exact ⟨h1, by rw [wrap_eqD]; exact h1⟩
theorem own_lowD {w : World} {base base' e s n : Nat} {v : Value} {xs : List Value} (h : w.ownsRow base e s v n xs) (hb : base' ≤ base) : w.ownsRow base' e s v n xs := by
  refine ⟨h.1, ?_⟩
  rcases h.2 with h0 | ⟨g, cap, cur, hv, hg, r⟩
  · exact .inl h0
  · exact .inr ⟨g, cap, cur, hv, Nat.le_trans hb hg, r⟩
theorem put_perm {D L : List WD} {x : WD} {j i : Nat} (hj : j < L.length) (hx : L.getD j WD.zero = x) (h : D.Perm (L.take j)) : (D.take i ++ [x] ++ D.drop i).Perm (L.take (j + 1)) := by
  rw [getD_snoc WD.zero hj, hx, List.append_assoc]
  show (D.take i ++ x :: D.drop i).Perm _
  refine List.perm_middle.trans ?_
  rw [List.take_append_drop]
  exact (h.cons x).trans (List.perm_append_singleton x _).symm
set_option maxRecDepth 100000 in
set_option maxHeartbeats 4000000 in
theorem refAhead_any (x y : WD) (w : World) :
    Calls Tryz.prog 30 #[.agg #[.int .u8 x.k, .int .i64 x.id, .int .i64 x.ix, .int .i64 x.pl, .bool x.hl], .agg #[.int .u8 y.k, .int .i64 y.id, .int .i64 y.ix, .int .i64 y.pl, .bool y.hl]] w fun e w' => e = .returned (.bool (decide (Aw x y))) ∧ Below w.heap.size w w' := by
  obtain ⟨k, id, ix, pl, hl⟩ := x
  obtain ⟨k', id', ix', pl', hl'⟩ := y
  dsimp only
  have hb : Below w.heap.size w ((w.alloc (.cells #[.int .u8 k, .int .i64 id, .int .i64 ix, .int .i64 pl, .bool hl] 42)).alloc (.cells #[.int .u8 k', .int .i64 id', .int .i64 ix', .int .i64 pl', .bool hl'] 42)) := (below_new w _).alloc (by simp) _
  obtain ⟨b, hbb⟩ : ∃ b, b = decide (Aw ⟨k, id, ix, pl, hl⟩ ⟨k', id', ix', pl', hl'⟩) := ⟨_, rfl⟩
  rw [← hbb]
  by_cases h0 : k = k'
  · subst h0
    by_cases h1 : id = id'
    · subst h1
      by_cases h2 : ix = ix'
      · subst h2
        by_cases h3 : pl = pl'
        · subst h3
          have HE : b = (!hl && hl') := by rw [hbb]; cases hl <;> cases hl' <;> simp [Aw, rk]
          rw [HE]
          clear hbb HE
          cases hl <;> cases hl' <;> (go_enter Tryz.func30, Tryz.ntmps30; go_wp2; go_ret; exact ⟨rfl, hb⟩)
        · have HE : b = decide (pl < pl') := by rw [hbb]; exact decide_eq_decide.2 (by unfold Aw; dsimp only; omega)
          have d : (pl == pl') = false := by rw [beq_eq_false_iff_ne]; exact h3
          rw [HE]
          clear hbb HE h3
          go_enter Tryz.func30, Tryz.ntmps30
          go_wp2
          go_ret
          exact ⟨rfl, hb⟩
      · have HE : b = decide (ix < ix') := by rw [hbb]; exact decide_eq_decide.2 (by unfold Aw; dsimp only; omega)
        have d : (ix == ix') = false := by rw [beq_eq_false_iff_ne]; exact h2
        rw [HE]
        clear hbb HE h2
        go_enter Tryz.func30, Tryz.ntmps30
        go_wp2
        go_ret
        exact ⟨rfl, hb⟩
    · have HE : b = decide (id < id') := by rw [hbb]; exact decide_eq_decide.2 (by unfold Aw; dsimp only; omega)
      have d : (id == id') = false := by rw [beq_eq_false_iff_ne]; exact h1
      rw [HE]
      clear hbb HE h1
      go_enter Tryz.func30, Tryz.ntmps30
      go_wp2
      go_ret
      exact ⟨rfl, hb⟩
  · have HE : b = decide (k < k') := by rw [hbb]; exact decide_eq_decide.2 (by unfold Aw; dsimp only; omega)
    have d : (k == k') = false := by rw [beq_eq_false_iff_ne]; exact h0
    rw [HE]
    clear hbb HE h0
    go_enter Tryz.func30, Tryz.ntmps30
    go_wp2
    go_ret
    exact ⟨rfl, hb⟩
theorem wdInfoD : ∃ i, Tryz.prog.info? 42 = some i ∧ i.zero = some (.agg #[.int .u8 0, .int .i64 0, .int .i64 0, .int .i64 0, .bool false]) ∧ i.size = 5 ∧ i.bytes = 40 := by
  have e : (Tryz.prog.info? 42).map (fun i => (i.zero, i.size, i.bytes)) = some (some (.agg #[.int .u8 0, .int .i64 0, .int .i64 0, .int .i64 0, .bool false]), 5, 40) := by kernel_rfl
  obtain ⟨i, hi, hz⟩ := Option.map_eq_some_iff.1 e
  simp only [Prod.mk.injEq] at hz
  exact ⟨i, hi, hz.1, hz.2.1, hz.2.2⟩
/-- What the three appends come to. -/
theorem ins_wd {w : World} {uL uR : Value} {A B : List WD} (k id ix pl : Int) (hl : Bool) (hL : SrcS WD.enc w uL A) (hL2 : ∀ a c n, uL = .slice (some a) n c → a.block < w.heap.size) (hR : SrcS WD.enc w uR B) (hR2 : ∀ a c n, uR = .slice (some a) n c → a.block < w.heap.size) (hn : A.length + 1 + B.length ≤ 100000) :
    ∃ v1 w2, (Builtin.append_ #[22, 22] 22 #[.slice (some ⟨w.heap.size, 0, none⟩) 0 0, uL]).run Tryz.prog (w.alloc (.cells #[] 42)) = .ok v1 w2 ∧
      ∃ v2 w3, (Builtin.append_ #[22, 22] 22 #[v1, .slice (some ⟨w2.heap.size, 0, none⟩) 1 1]).run Tryz.prog (w2.alloc (.cells #[.int .u8 k, .int .i64 id, .int .i64 ix, .int .i64 pl, .bool hl] 42)) = .ok v2 w3 ∧
        ∃ v3 w4, (Builtin.append_ #[22, 22] 22 #[v2, uR]).run Tryz.prog w3 = .ok v3 w4 ∧ w4.ownsRow w.heap.size 42 5 v3 (A ++ [(⟨k, id, ix, pl, hl⟩ : WD)] ++ B).length ((A ++ [(⟨k, id, ix, pl, hl⟩ : WD)] ++ B).flatMap WD.enc) ∧ Below w.heap.size w w4 := by
  obtain ⟨i0, hi, hz0, hz1, hz2⟩ := wdInfoD
  obtain ⟨v1, w2, r1, v2, w3, r2, v3, w4, r3, o, b, _⟩ := ins_runs Tryz.underlying22 hi hz0 hz1 hz2 rfl (by decide) WD.enc_len WD.enc_one (⟨k, id, ix, pl, hl⟩ : WD) hL hL2 hR hR2 (by unfold maxLen; omega) (by omega)
  exact ⟨v1, w2, r1, v2, w3, r2, v3, w4, r3, o, b⟩
/-- What the first of the three appends leaves alone. -/
theorem app_belowD {w w2 : World} {uL v1 : Value} {A : List WD} (hL : SrcS WD.enc w uL A) (hL2 : ∀ a c n, uL = .slice (some a) n c → a.block < w.heap.size) (hl : A.length ≤ 100000)
    (hr : (Builtin.append_ #[22, 22] 22 #[.slice (some ⟨w.heap.size, 0, none⟩) 0 0, uL]).run Tryz.prog (w.alloc (.cells #[] 42)) = .ok v1 w2) : Below w.heap.size w w2 := by
  obtain ⟨i0, hi, hz0, hz1, hz2⟩ := wdInfoD
  have b1 : Below w.heap.size w (w.alloc (.cells #[] 42)) := below_new w _
  have hE : (w.alloc (.cells #[] 42)).ownsRow w.heap.size 42 5 (.slice (some ⟨w.heap.size, 0, none⟩) 0 0) ([] : List WD).length (([] : List WD).flatMap WD.enc) := ⟨by simp, .inr ⟨w.heap.size, 0, #[], rfl, Nat.le_refl _, heap_alloc_new w _, Nat.le_refl _, Nat.zero_le _, by simp, by simp⟩⟩
  obtain ⟨v', w', r', _, B', _⟩ := app_src Tryz.underlying22 hi hz0 hz1 hz2 rfl (by decide) WD.enc_len WD.enc_one hE (src_keep hL hL2 b1) (by simp; unfold maxLen; omega) (by simp; omega) (by simp)
  rw [hr] at r'
  injection r' with e1 e2
  rw [e2]; exact b1.trans B'
set_option maxHeartbeats 8000000 in
set_option maxRecDepth 100000 in
theorem refSort_any {w : World} {v : Value} {L : List WD} (hv : WdS w v L) (hLn : L.length ≤ 3600) :
    Calls Tryz.prog 11 #[v] w fun e w' => ∃ x, e = .returned x ∧ WdS w' x (srt L) ∧ Below w.heap.size w w' := by
  obtain ⟨A, c1, rfl, k1, k2, k3⟩ := hv
  obtain ⟨N, hN⟩ : ∃ N, N = L.length := ⟨_, rfl⟩
  have HN := Lib.hid hN
  rw [← hN] at k1 hLn ⊢
  have HN36 := Lib.hid hLn
  have HK := Lib.hid k3
  clear hN k3 hLn
  go_enter Tryz.func11, Tryz.ntmps11
  go_wp2
  go_loopw [3, 10] (fun vx ix wr => ∃ (j : Nat) (z : Value) (D : List WD), j ≤ N ∧ ix = .int .i64 (j : Int) ∧ z = vx ∧ D.Perm (L.take j) ∧ Srtd D ∧ wr.ownsRow w.heap.size 42 5 z D.length (D.flatMap WD.enc) ∧ Below w.heap.size w wr) (fun _ ix _ => N - idxD ix)
  case atStart => exact ⟨0, _, [], Nat.zero_le _, rfl, rfl, List.Perm.refl _, List.Pairwise.nil, World.ownsRow_nil _ _ _ _, Below.refl _ _⟩
  case round =>
    obtain ⟨j, z, D, hj, rfl, rfl, hpm, hsd, ho, hb⟩ := hrel
    have HB := Lib.hid hb
    have HO := Lib.hid ho
    have HPM := Lib.hid hpm
    have HSD := Lib.hid hsd
    clear hb ho hpm hsd
    have hdl : D.length ≤ 3600 := by
      have h1 := HPM.out.length_eq
      rw [List.length_take] at h1
      have := HN36.out
      have := HN.out
      omega
    have HDL := Lib.hid hdl
    clear hdl
    obtain ⟨dA, dc, rfl, -, -⟩ := ownS_form HO.out
    by_cases hlt : j < N
    · obtain ⟨g, o, rfl, hglt, hk⟩ := HK.out.resolve_left (by intro e; have := HN.out; rw [e] at this; simp at this; omega)
      have hjL : j < L.length := by rw [← HN.out]; exact hlt
      have hc : ∀ q u, (L.getD j WD.zero).enc[q]? = some u → wr.cell? ⟨g, o + j * 5 + q, none⟩ = some u := fun q u hu => (HB.out.cell (p := ⟨g, o + j * 5 + q, none⟩) hglt).trans (hk j hjL q u hu)
      obtain ⟨x, hx⟩ : ∃ x, x = L.getD j WD.zero := ⟨_, rfl⟩
      rw [← hx] at hc
      have HPT : Hid (∀ i, (D.take i ++ [x] ++ D.drop i).Perm (L.take (j + 1))) := Lib.hid (fun i => put_perm hjL hx.symm HPM.out)
      have HST : Hid (∀ i, i ≤ D.length → (∀ q, q < i → ¬ Aw x (D.getD q WD.zero)) → (i < D.length → Aw x (D.getD i WD.zero)) → Srtd (D.take i ++ [x] ++ D.drop i)) := Lib.hid (fun i h1 h2 h3 => by rw [List.append_assoc]; exact ins_srtd HSD.out h2 h3 h1)
      clear hx
      obtain ⟨k, id, ix, pl, hl⟩ := x
      have c0 : wr.cell? ⟨g, o + j * 5, none⟩ = some (.int .u8 k) := hc 0 _ rfl
      have c1' : wr.cell? ⟨g, o + j * 5 + 1, none⟩ = some (.int .i64 id) := hc 1 _ rfl
      have c2 : wr.cell? ⟨g, o + j * 5 + 2, none⟩ = some (.int .i64 ix) := hc 2 _ rfl
      have c3 : wr.cell? ⟨g, o + j * 5 + 3, none⟩ = some (.int .i64 pl) := hc 3 _ rfl
      have c4 : wr.cell? ⟨g, o + j * 5 + 4, none⟩ = some (.bool hl) := hc 4 _ rfl
      have hi0 : (0 : Int) ≤ (j : Int) := by omega
      have hi1 : (j : Int) < (N : Int) := by omega
      have HJ : Hid (j + 1 ≤ N ∧ N - (j + 1) < N - j) := Lib.hid ⟨hlt, by omega⟩
      have HW := Lib.hid (nextZ (j := j) (n := 4000) (by have := HN36.out; omega) (by unfold maxLen; omega))
      obtain ⟨BX, hBX⟩ : ∃ BX, BX = wr.alloc (.cells #[.int .u8 k, .int .i64 id, .int .i64 ix, .int .i64 pl, .bool hl] 42) := ⟨_, rfl⟩
      have hh := heap_alloc_new wr (.cells #[.int .u8 k, .int .i64 id, .int .i64 ix, .int .i64 pl, .bool hl] 42)
      rw [← hBX] at hh
      have hbx : Below wr.heap.size wr BX := by rw [hBX]; exact below_new wr _
      have hszb : wr.heap.size < BX.heap.size := by rw [hBX]; simp
      have HXX : Hid (∀ W, Below BX.heap.size BX W → W.cell? ⟨wr.heap.size, 0, none⟩ = some (.int .u8 k) ∧ W.cell? ⟨wr.heap.size, 1, none⟩ = some (.int .i64 id) ∧ W.cell? ⟨wr.heap.size, 2, none⟩ = some (.int .i64 ix) ∧ W.cell? ⟨wr.heap.size, 3, none⟩ = some (.int .i64 pl) ∧ W.cell? ⟨wr.heap.size, 4, none⟩ = some (.bool hl)) := Lib.hid (fun W hb => by
        refine ⟨?_, ?_, ?_, ?_, ?_⟩ <;> (refine (hb.cell (p := ⟨wr.heap.size, _, none⟩) hszb).trans ?_; rw [cell_of_row _ _ _ _ _ (0, 0) hh]; rfl))
      have HBX := Lib.hid (HB.out.trans (hbx.mono HB.out.size))
      have HOX := Lib.hid (ownS_keep HO.out hbx)
      clear hk hjL hglt hh hbx hszb hc
      go_upto_region 5 with fail
      rw [← hBX]
      clear hBX c0 c1' c2 c3 c4
      generalize wr.heap.size = bx at HXX ⊢
      go_wp2
      go_loopw [6] (fun ix' wi => ∃ i : Nat, i ≤ D.length ∧ ix' = .int .i64 (i : Int) ∧ (∀ q, q < i → ¬ Aw ⟨k, id, ix, pl, hl⟩ (D.getD q WD.zero)) ∧ Below BX.heap.size BX wi) (fun ix' _ => D.length - idxD ix')
      case atStart => exact ⟨0, Nat.zero_le _, rfl, fun q hq => absurd hq (by omega), Below.refl _ _⟩
      case round =>
        obtain ⟨i, hiD, rfl, hlow, hwi⟩ := hrel
        have HLOW := Lib.hid hlow
        have HWI := Lib.hid hwi
        clear hlow hwi
        by_cases hlt2 : i < D.length
        · rcases own_src WD.enc_len HOX.out with ⟨_, h0⟩ | ⟨gd, cap, hz, hgl, hgb, hcap1, hcap2, hcd⟩
          · rw [h0] at hlt2; simp at hlt2
          injection hz with e1 e2 e3
          subst e1
          subst e3
          clear e2
          have HFL : Hid (∀ W, Below BX.heap.size BX W → ∀ q u, (D.flatMap WD.enc)[q]? = some u → W.cell? ⟨gd, q, none⟩ = some u) := Lib.hid (fun W hb q u hu => (hb.cell (p := ⟨gd, q, none⟩) hgl).trans (hcd q u hu))
          have HR0 := Lib.hid (flat_at (z := WD.zero) WD.enc_len D i hlt2)
          have HGL : Hid (gd < BX.heap.size ∧ w.heap.size ≤ gd ∧ D.length ≤ dc ∧ dc ≤ maxLen) := Lib.hid ⟨hgl, hgb, hcap1, hcap2⟩
          have HI : Hid (i + 1 ≤ D.length ∧ D.length - (i + 1) < D.length - i) := Lib.hid ⟨hlt2, by omega⟩
          have HW2 := Lib.hid (nextZ (j := i) (n := 4000) (by have := HDL.out; omega) (by unfold maxLen; omega))
          obtain ⟨p, hp⟩ : ∃ p, p = D.getD i WD.zero := ⟨_, rfl⟩
          have HPD := Lib.hid hp
          rw [← hp] at HR0
          clear hp hcd hgl hgb
          obtain ⟨k2, id2, ix2, pl2, hl2⟩ := p
          have HS : Hid (∀ W, Below BX.heap.size BX W → W.cell? ⟨gd, i * 5, none⟩ = some (.int .u8 k2) ∧ W.cell? ⟨gd, i * 5 + 1, none⟩ = some (.int .i64 id2) ∧ W.cell? ⟨gd, i * 5 + 2, none⟩ = some (.int .i64 ix2) ∧ W.cell? ⟨gd, i * 5 + 3, none⟩ = some (.int .i64 pl2) ∧ W.cell? ⟨gd, i * 5 + 4, none⟩ = some (.bool hl2) ∧ W.cell? ⟨bx, 0, none⟩ = some (.int .u8 k) ∧ W.cell? ⟨bx, 1, none⟩ = some (.int .i64 id) ∧ W.cell? ⟨bx, 2, none⟩ = some (.int .i64 ix) ∧ W.cell? ⟨bx, 3, none⟩ = some (.int .i64 pl) ∧ W.cell? ⟨bx, 4, none⟩ = some (.bool hl)) := Lib.hid (fun W hb => ⟨HFL.out W hb _ _ (HR0.out 0 (by decide)), HFL.out W hb _ _ (HR0.out 1 (by decide)), HFL.out W hb _ _ (HR0.out 2 (by decide)), HFL.out W hb _ _ (HR0.out 3 (by decide)), HFL.out W hb _ _ (HR0.out 4 (by decide)), HXX.out W hb⟩)
          have hAh := fun W => refAhead_any ⟨k, id, ix, pl, hl⟩ ⟨k2, id2, ix2, pl2, hl2⟩ W
          dsimp only at hAh
          have d0 : decide ((i : Int) < (D.length : Int)) = true := decide_eq_true (by omega)
          have d0' : decide (i < D.length) = true := decide_eq_true hlt2
          have hi0' : (0 : Int) ≤ (i : Int) := by omega
          have hi1' : (i : Int) < (D.length : Int) := by omega
          obtain ⟨e0, e1, e2, e3, e4, e5, e6, e7, e8, e9⟩ := HS.out _ HWI.out
          cases hab : decide (Aw ⟨k, id, ix, pl, hl⟩ ⟨k2, id2, ix2, pl2, hl2⟩) with
          | false =>
            rw [hab] at hAh
            have HL2 : Hid (∀ q, q < i + 1 → ¬ Aw ⟨k, id, ix, pl, hl⟩ (D.getD q WD.zero)) := Lib.hid (fun q hq => by
              by_cases e : q = i
              · rw [e, ← HPD.out]; exact of_decide_eq_false hab
              · exact HLOW.out q (by omega))
            clear hab hlt2
            go_upto_region 6 with fail
            go_cut [26] (fun s43 wx => s43 = .bool true ∧ Below BX.heap.size BX wx)
            case first =>
              go_region_held3 (fun W => W.cell? ⟨gd, i * 5, none⟩ = some (.int .u8 k2) ∧ W.cell? ⟨gd, i * 5 + 1, none⟩ = some (.int .i64 id2) ∧ W.cell? ⟨gd, i * 5 + 2, none⟩ = some (.int .i64 ix2) ∧ W.cell? ⟨gd, i * 5 + 3, none⟩ = some (.int .i64 pl2) ∧ W.cell? ⟨gd, i * 5 + 4, none⟩ = some (.bool hl2) ∧ W.cell? ⟨bx, 0, none⟩ = some (.int .u8 k) ∧ W.cell? ⟨bx, 1, none⟩ = some (.int .i64 id) ∧ W.cell? ⟨bx, 2, none⟩ = some (.int .i64 ix) ∧ W.cell? ⟨bx, 3, none⟩ = some (.int .i64 pl) ∧ W.cell? ⟨bx, 4, none⟩ = some (.bool hl)) (first | with_reducible exact HS.out _ HWI.out | with_reducible exact HS.out _ HWI.out.drew | with_reducible exact HS.out _ HB5.out | with_reducible exact HS.out _ HB5.out.drew) (first | (go_at_call 30; (with_reducible refine (hAh _).mono ?_); rintro e w5 ⟨rfl, hb5⟩; have HB5 : Hid (Below BX.heap.size BX w5) := Lib.hid (by first | exact HWI.out.trans (hb5.mono HWI.out.size) | exact HWI.out.drew.trans (hb5.mono HWI.out.size)); clear hb5))
              all_goals go_wp2_with fail
              all_goals go_meet
              all_goals exact ⟨rfl, HB5.out⟩
            case rest =>
              obtain ⟨rfl, hwx⟩ := hcut
              have HWX := Lib.hid hwx
              obtain ⟨hw1, hw2⟩ := HW2.out
              clear hwx hAh e0 e1 e2 e3 e4 e5 e6 e7 e8 e9 d0
              go_wp2
              go_roundw
              case rel => exact ⟨i + 1, HI.out.1, by go_num, HL2.out, HWX.out⟩
              case measure => have h := HI.out.2; clear hw1 hw2; simp only [idxD]; omega
          | true =>
            rw [hab] at hAh
            have HP : Hid (Srtd (D.take i ++ [(⟨k, id, ix, pl, hl⟩ : WD)] ++ D.drop i)) := Lib.hid (HST.out i hiD HLOW.out (fun _ => by rw [← HPD.out]; exact of_decide_eq_true hab))
            clear hab
            go_upto_region 6 with fail
            go_cut [26] (fun s43 wx => s43 = .bool false ∧ Below BX.heap.size BX wx)
            case first =>
              go_region_held3 (fun W => W.cell? ⟨gd, i * 5, none⟩ = some (.int .u8 k2) ∧ W.cell? ⟨gd, i * 5 + 1, none⟩ = some (.int .i64 id2) ∧ W.cell? ⟨gd, i * 5 + 2, none⟩ = some (.int .i64 ix2) ∧ W.cell? ⟨gd, i * 5 + 3, none⟩ = some (.int .i64 pl2) ∧ W.cell? ⟨gd, i * 5 + 4, none⟩ = some (.bool hl2) ∧ W.cell? ⟨bx, 0, none⟩ = some (.int .u8 k) ∧ W.cell? ⟨bx, 1, none⟩ = some (.int .i64 id) ∧ W.cell? ⟨bx, 2, none⟩ = some (.int .i64 ix) ∧ W.cell? ⟨bx, 3, none⟩ = some (.int .i64 pl) ∧ W.cell? ⟨bx, 4, none⟩ = some (.bool hl)) (first | with_reducible exact HS.out _ HWI.out | with_reducible exact HS.out _ HWI.out.drew | with_reducible exact HS.out _ HB5.out | with_reducible exact HS.out _ HB5.out.drew) (first | (go_at_call 30; (with_reducible refine (hAh _).mono ?_); rintro e w5 ⟨rfl, hb5⟩; have HB5 : Hid (Below BX.heap.size BX w5) := Lib.hid (by first | exact HWI.out.trans (hb5.mono HWI.out.size) | exact HWI.out.drew.trans (hb5.mono HWI.out.size)); clear hb5))
              all_goals go_wp2_with fail
              all_goals go_meet
              all_goals exact ⟨rfl, HB5.out⟩
            case rest =>
              obtain ⟨rfl, hwx⟩ := hcut
              have HWY := Lib.hid hwx
              clear hwx hAh e0 e1 e2 e3 e4 e5 e6 e7 e8 e9 d0 d0' hlt2
              obtain ⟨v1, w4, r1, v2, w5, r2, v3, w6, r3, hn6, hb6⟩ := ins_wd (uL := .slice (some ⟨gd, 0, none⟩) i dc) (uR := .slice (some ⟨gd, i * 5, none⟩) (D.length - i) (dc - i)) k id ix pl hl (src_take hiD (HFL.out _ HWY.out)) (fun a c n h => by injection h with h1 _ _; injection h1 with h1; rw [← h1]; exact Nat.lt_of_lt_of_le HGL.out.1 HWY.out.size) (src_drop WD.enc_len hiD (HFL.out _ HWY.out)) (fun a c n h => by injection h with h1 _ _; injection h1 with h1; rw [← h1]; exact Nat.lt_of_lt_of_le HGL.out.1 HWY.out.size) (by rw [List.length_take, List.length_drop, Nat.min_eq_left hiD]; have := HDL.out; omega)
              obtain ⟨y0, y1, y2, y3, y4⟩ := HXX.out _ (HWY.out.trans ((app_belowD (uL := .slice (some ⟨gd, 0, none⟩) i dc) (src_take hiD (HFL.out _ HWY.out)) (fun a c n h => by injection h with h1 _ _; injection h1 with h1; rw [← h1]; exact Nat.lt_of_lt_of_le HGL.out.1 HWY.out.size) (by rw [List.length_take, Nat.min_eq_left hiD]; have := HDL.out; omega) r1).mono HWY.out.size))
              have HR1 := Lib.hid r1
              have HR2 := Lib.hid r2
              have HR3 := Lib.hid r3
              have HSY : Hid (w.heap.size ≤ _) := Lib.hid (Nat.le_trans HBX.out.size HWY.out.size)
              have HN6 := Lib.hid (own_lowD hn6 HSY.out)
              have HB6 : Hid (Below w.heap.size w w6) := Lib.hid ((HBX.out.trans (HWY.out.mono HBX.out.size)).trans (hb6.mono HSY.out))
              clear r1 r2 r3 hn6 hb6
              obtain ⟨hw1, hw2⟩ := HW.out
              obtain ⟨_, _, hc1, hc2⟩ := HGL.out
              go_wp2_with (first
                | (at_builtin; (refine Lib.wpList_append_run _ rfl (.tmp 29) (.tmp 32) 22 22 rfl _ _ rfl rfl _ _ HR1.out ?_))
                | (at_builtin; (refine Lib.wpList_append_run _ rfl (.tmp 34) (.tmp 36) 22 22 rfl _ _ rfl rfl _ _ HR2.out ?_))
                | (at_builtin; (refine Lib.wpList_append_run _ rfl (.tmp 38) (.tmp 41) 22 22 rfl _ _ rfl rfl _ _ HR3.out ?_)))
              go_roundw
              case rel => exact ⟨j + 1, v3, D.take i ++ [(⟨k, id, ix, pl, hl⟩ : WD)] ++ D.drop i, HJ.out.1, by go_num, rfl, HPT.out i, HP.out, HN6.out, HB6.out⟩
              case measure => have h := HJ.out.2; clear hw1 hw2; simp only [idxD]; omega
        · obtain rfl : i = D.length := by omega
          have HP : Hid (Srtd (D ++ [(⟨k, id, ix, pl, hl⟩ : WD)] ++ [])) := Lib.hid (by have h := HST.out D.length (Nat.le_refl _) HLOW.out (fun h => absurd h (Nat.lt_irrefl _)); rw [List.take_length, List.drop_length] at h; exact h)
          have HPT2 : Hid ((D ++ [(⟨k, id, ix, pl, hl⟩ : WD)] ++ []).Perm (L.take (j + 1))) := Lib.hid (by have h := HPT.out D.length; rw [List.take_length, List.drop_length] at h; exact h)
          have d0 : decide ((D.length : Int) < (D.length : Int)) = false := decide_eq_false (by omega)
          clear hlt2 hiD
          go_upto_region 6 with fail
          go_cut [26] (fun s43 wx => s43 = .bool false ∧ Below BX.heap.size BX wx)
          case first =>
            go_quiet (fail)
            go_wp2_with fail
            go_meet
            exact ⟨rfl, below_drewN HWI.out _⟩
          case rest =>
            obtain ⟨rfl, hwx⟩ := hcut
            have HWY := Lib.hid hwx
            clear hwx d0
            rcases own_src WD.enc_len HOX.out with ⟨hz, hD⟩ | ⟨gd, cap, hz, hgl, hgb, hcap1, hcap2, hcd⟩
            · injection hz with e1 _ e3
              subst e1
              subst e3
              subst hD
              have sL : SrcS WD.enc wc (.slice none 0 0) ([] : List WD) := (.inl ⟨⟨0, rfl⟩, rfl⟩)
              have lL : ∀ a c n, (.slice none 0 0 : Value) = .slice (some a) n c → a.block < wc.heap.size := (fun a c n h => by cases h)
              have sR : SrcS WD.enc wc (.slice none 0 0) ([] : List WD) := (.inl ⟨⟨0, rfl⟩, rfl⟩)
              have lR : ∀ a c n, (.slice none 0 0 : Value) = .slice (some a) n c → a.block < wc.heap.size := (fun a c n h => by cases h)
              obtain ⟨v1, w4, r1, v2, w5, r2, v3, w6, r3, hn6, hb6⟩ := ins_wd k id ix pl hl sL lL sR lR (by simp)
              obtain ⟨y0, y1, y2, y3, y4⟩ := HXX.out _ (HWY.out.trans ((app_belowD sL lL (by simp) r1).mono HWY.out.size))
              have HR1 := Lib.hid r1
              have HR2 := Lib.hid r2
              have HR3 := Lib.hid r3
              have HSY : Hid (w.heap.size ≤ _) := Lib.hid (Nat.le_trans HBX.out.size HWY.out.size)
              have HN6 := Lib.hid (own_lowD hn6 HSY.out)
              have HB6 : Hid (Below w.heap.size w w6) := Lib.hid ((HBX.out.trans (HWY.out.mono HBX.out.size)).trans (hb6.mono HSY.out))
              clear r1 r2 r3 hn6 hb6
              obtain ⟨hw1, hw2⟩ := HW.out
              clear sL lL sR lR
              go_wp2_with (first
                | (at_builtin; (refine Lib.wpList_append_run _ rfl (.tmp 29) (.tmp 32) 22 22 rfl _ _ rfl rfl _ _ HR1.out ?_))
                | (at_builtin; (refine Lib.wpList_append_run _ rfl (.tmp 34) (.tmp 36) 22 22 rfl _ _ rfl rfl _ _ HR2.out ?_))
                | (at_builtin; (refine Lib.wpList_append_run _ rfl (.tmp 38) (.tmp 41) 22 22 rfl _ _ rfl rfl _ _ HR3.out ?_)))
              go_roundw
              case rel => exact ⟨j + 1, v3, [] ++ [(⟨k, id, ix, pl, hl⟩ : WD)] ++ [], HJ.out.1, by go_num, rfl, HPT2.out, HP.out, HN6.out, HB6.out⟩
              case measure => have h := HJ.out.2; clear hw1 hw2; simp only [idxD]; omega
            · injection hz with e1 _ e3
              subst e1
              subst e3
              have HFL : Hid (∀ W, Below BX.heap.size BX W → ∀ q u, (D.flatMap WD.enc)[q]? = some u → W.cell? ⟨gd, q, none⟩ = some u) := Lib.hid (fun W hb q u hu => (hb.cell (p := ⟨gd, q, none⟩) hgl).trans (hcd q u hu))
              have HGL := Lib.hid hgl
              clear hcd hgl hgb
              by_cases hic : D.length < dc
              · have dc1 : decide (D.length < dc) = true := decide_eq_true hic
                have dc2 : (dc == D.length) = false := by rw [beq_eq_false_iff_ne]; omega
                have dc3 : ¬ dc = D.length := by omega
                have sL : SrcS WD.enc wc (.slice (some ⟨gd, 0, none⟩) D.length dc) D := (by have h := src_take (c := dc) (Nat.le_refl D.length) (HFL.out _ HWY.out); rw [List.take_length] at h; exact h)
                have lL : ∀ a c n, (.slice (some ⟨gd, 0, none⟩) D.length dc : Value) = .slice (some a) n c → a.block < wc.heap.size := (fun a c n h => by injection h with h1 _ _; injection h1 with h1; rw [← h1]; exact Nat.lt_of_lt_of_le HGL.out HWY.out.size)
                have sR : SrcS WD.enc wc (.slice (some ⟨gd, D.length * 5, none⟩) 0 (dc - D.length)) ([] : List WD) := src_none
                have lR : ∀ a c n, (.slice (some ⟨gd, D.length * 5, none⟩) 0 (dc - D.length) : Value) = .slice (some a) n c → a.block < wc.heap.size := (fun a c n h => by injection h with h1 _ _; injection h1 with h1; rw [← h1]; exact Nat.lt_of_lt_of_le HGL.out HWY.out.size)
                obtain ⟨v1, w4, r1, v2, w5, r2, v3, w6, r3, hn6, hb6⟩ := ins_wd k id ix pl hl sL lL sR lR (by have := HDL.out; simp; omega)
                obtain ⟨y0, y1, y2, y3, y4⟩ := HXX.out _ (HWY.out.trans ((app_belowD sL lL (by have := HDL.out; simp; omega) r1).mono HWY.out.size))
                have HR1 := Lib.hid r1
                have HR2 := Lib.hid r2
                have HR3 := Lib.hid r3
                have HSY : Hid (w.heap.size ≤ _) := Lib.hid (Nat.le_trans HBX.out.size HWY.out.size)
                have HN6 := Lib.hid (own_lowD hn6 HSY.out)
                have HB6 : Hid (Below w.heap.size w w6) := Lib.hid ((HBX.out.trans (HWY.out.mono HBX.out.size)).trans (hb6.mono HSY.out))
                clear r1 r2 r3 hn6 hb6
                obtain ⟨hw1, hw2⟩ := HW.out
                clear sL lL sR lR
                go_wp2_with (first
                  | (at_builtin; (refine Lib.wpList_append_run _ rfl (.tmp 29) (.tmp 32) 22 22 rfl _ _ rfl rfl _ _ HR1.out ?_))
                  | (at_builtin; (refine Lib.wpList_append_run _ rfl (.tmp 34) (.tmp 36) 22 22 rfl _ _ rfl rfl _ _ HR2.out ?_))
                  | (at_builtin; (refine Lib.wpList_append_run _ rfl (.tmp 38) (.tmp 41) 22 22 rfl _ _ rfl rfl _ _ HR3.out ?_)))
                go_roundw
                case rel => exact ⟨j + 1, v3, D ++ [(⟨k, id, ix, pl, hl⟩ : WD)] ++ [], HJ.out.1, by go_num, rfl, HPT2.out, HP.out, HN6.out, HB6.out⟩
                case measure => have h := HJ.out.2; clear hw1 hw2; simp only [idxD]; omega
              · obtain rfl : dc = D.length := by omega
                clear hic hcap1
                have sL : SrcS WD.enc wc (.slice (some ⟨gd, 0, none⟩) D.length D.length) D := (by have h := src_take (c := D.length) (Nat.le_refl D.length) (HFL.out _ HWY.out); rw [List.take_length] at h; exact h)
                have lL : ∀ a c n, (.slice (some ⟨gd, 0, none⟩) D.length D.length : Value) = .slice (some a) n c → a.block < wc.heap.size := (fun a c n h => by injection h with h1 _ _; injection h1 with h1; rw [← h1]; exact Nat.lt_of_lt_of_le HGL.out HWY.out.size)
                have sR : SrcS WD.enc wc (.slice (some ⟨gd, 0, none⟩) 0 0) ([] : List WD) := src_none
                have lR : ∀ a c n, (.slice (some ⟨gd, 0, none⟩) 0 0 : Value) = .slice (some a) n c → a.block < wc.heap.size := (fun a c n h => by injection h with h1 _ _; injection h1 with h1; rw [← h1]; exact Nat.lt_of_lt_of_le HGL.out HWY.out.size)
                obtain ⟨v1, w4, r1, v2, w5, r2, v3, w6, r3, hn6, hb6⟩ := ins_wd k id ix pl hl sL lL sR lR (by have := HDL.out; simp; omega)
                obtain ⟨y0, y1, y2, y3, y4⟩ := HXX.out _ (HWY.out.trans ((app_belowD sL lL (by have := HDL.out; simp; omega) r1).mono HWY.out.size))
                have HR1 := Lib.hid r1
                have HR2 := Lib.hid r2
                have HR3 := Lib.hid r3
                have HSY : Hid (w.heap.size ≤ _) := Lib.hid (Nat.le_trans HBX.out.size HWY.out.size)
                have HN6 := Lib.hid (own_lowD hn6 HSY.out)
                have HB6 : Hid (Below w.heap.size w w6) := Lib.hid ((HBX.out.trans (HWY.out.mono HBX.out.size)).trans (hb6.mono HSY.out))
                clear r1 r2 r3 hn6 hb6
                obtain ⟨hw1, hw2⟩ := HW.out
                clear sL lL sR lR
                go_wp2_with (first
                  | (at_builtin; (refine Lib.wpList_append_run _ rfl (.tmp 29) (.tmp 32) 22 22 rfl _ _ rfl rfl _ _ HR1.out ?_))
                  | (at_builtin; (refine Lib.wpList_append_run _ rfl (.tmp 34) (.tmp 36) 22 22 rfl _ _ rfl rfl _ _ HR2.out ?_))
                  | (at_builtin; (refine Lib.wpList_append_run _ rfl (.tmp 38) (.tmp 41) 22 22 rfl _ _ rfl rfl _ _ HR3.out ?_)))
                go_roundw
                case rel => exact ⟨j + 1, v3, D ++ [(⟨k, id, ix, pl, hl⟩ : WD)] ++ [], HJ.out.1, by go_num, rfl, HPT2.out, HP.out, HN6.out, HB6.out⟩
                case measure => have h := HJ.out.2; clear hw1 hw2; simp only [idxD]; omega
    · obtain rfl : j = N := by omega
      have hnl : decide ((j : Int) < (j : Int)) = false := decide_eq_false (by omega)
      have HSR : Hid (D = srt L) := Lib.hid (srt_uniq (by have h := HPM.out; rw [HN.out, List.take_length] at h; exact h) HSD.out)
      clear hlt hj
      go_wp2
      go_ret
      exact ⟨_, rfl, by rw [← HSR.out]; exact StS.of_own WD.enc_len HO.out, HB.out⟩
end Go.Proofs.YtobbcekehmmdhaaGreatDoor
