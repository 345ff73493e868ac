/- Spans: Merge, the program's. -/
import Derived.Test.YtdcpgjkaimekbaaSpnO
import Derived.Test.YtdcpgjkaimekbaaSeq
import Derived.Test.YtdcpgjkaimekbaaDed
import Derived.Laws.OwnMore
namespace Go.Proofs.Ytdcpgjkaimekbaa
open Go.RowKit Go.Sort Go.Shelf

theorem compact_le (zs : List Int) : (Go.Lib.compact zs).length ≤ zs.length := by
  unfold Go.Lib.compact Go.Lib.compactUpTo
  rw [List.length_map]
  exact Nat.le_trans (List.length_filter_le _ _) (by rw [List.length_range]; exact Nat.le_refl _)
theorem intV_eq (L : List Int) : intV L = ints L := rfl
set_option maxHeartbeats 1000000 in
/-- slices.Compact of a row of the call's own. -/
theorem compactI_any {w : World} {base : Nat} {r : Value} {L : List Int} (h : w.ownsRow base 3 1 r L.length (intV L)) (hb : base ≤ w.heap.size) :
    Calls Try.prog 48 #[r] w fun e w' => ∃ v, e = .returned v ∧ IdxS w' v (Go.Lib.compact L) ∧ Below base w w' := by
  rcases h.2 with ⟨rfl, h0⟩ | ⟨g, cap, cur, rfl, hbs, hh, h1, h2, h3, h4⟩
  · have hL0 : L = [] := List.eq_nil_of_length_eq_zero h0
    subst hL0
    refine (AnyG.slices_Compact_int_empty Try.compactI none 0 w).mono ?_
    rintro e w' ⟨rfl, rfl⟩
    exact ⟨_, rfl, ⟨none, 0, rfl, Nat.le_refl _, Nat.zero_le _, .inl rfl⟩, Below.refl _ _⟩
  · obtain ⟨q1, q2, q3, _, _⟩ := holds_own h
    have hcl : (Go.Lib.compact L).length ≤ L.length := compact_le L
    refine (AnyG.slices_Compact_int Try.compactI g 0 cap L w q1 (by unfold maxLen at h2; omega) h1).mono ?_
    rintro e w' ⟨rfl, q, rfl⟩
    obtain ⟨D, hD⟩ : ∃ D, D = (Go.Lib.compact L ++ List.replicate (L.length - (Go.Lib.compact L).length) 0).toArray := ⟨_, rfl⟩
    have hDs : D.size = L.toArray.size := by rw [hD]; simp; omega
    have hg := grownBy_sorted_i (w := w) (g := g) (n := q) (os := #[]) D
    rw [grow_empty] at hg
    rw [← hD]
    refine ⟨_, rfl, ⟨_, cap, rfl, by omega, h2, .inr ⟨g, 0, rfl, Nat.lt_of_lt_of_le q2 hg.size, fun j hj => ?_⟩⟩, (Below.refl base w).grown hg hb (fun k hk => by injection hk with hk; omega)⟩
    have hc := cell?_putRow (Value.int .i64) (Sort.ahead w q) g 0 L.toArray D q1 hDs j (by rw [hDs]; simp; omega)
    have e1 : D[j]! = (Go.Lib.compact L).getD j 0 := by
      rw [getElem!_pos D j (by rw [hDs]; simp; omega)]
      simp only [hD, List.getElem_toArray]
      rw [List.getElem_append_left hj, List.getD, List.getElem?_eq_getElem hj]; rfl
    rw [e1] at hc
    exact hc
/-! ### ranges, one by one -/
theorem merL_snoc (l : List Int) (b : Int) : merL (l ++ [b]) = merA (merL l) b := by unfold merL; rw [List.foldl_append]; rfl
theorem merA_nil (b : Int) : merA [] b = [⟨b, b + 1⟩] := rfl
theorem merA_join {R0 : List RG} {f b : Int} : merA (R0 ++ [⟨f, b⟩]) b = R0 ++ [⟨f, b + 1⟩] := by
  show (match (R0 ++ [(⟨f, b⟩ : RG)]).getLast? with | none => _ | some r => _) = _
  rw [List.getLast?_append, List.getLast?_singleton]
  simp
theorem merA_apart {R0 : List RG} {r : RG} {b : Int} (h : r.t ≠ b) : merA (R0 ++ [r]) b = R0 ++ [r] ++ [⟨b, b + 1⟩] := by
  show (match (R0 ++ [r]).getLast? with | none => _ | some r => _) = _
  rw [List.getLast?_append, List.getLast?_singleton]
  simp [h]
theorem merA_len (R : List RG) (b : Int) : (merA R b).length ≤ R.length + 1 := by
  rcases List.eq_nil_or_concat R with rfl | ⟨R0, r, rfl⟩
  · simp [merA_nil]
  · rw [List.concat_eq_append]
    by_cases h : r.t = b
    · obtain ⟨f, t⟩ := r
      dsimp only at h
      subst h
      rw [merA_join]; simp
    · rw [merA_apart h]; simp
theorem merL_len (l : List Int) : (merL l).length ≤ l.length := by
  have key : ∀ (l : List Int) (R : List RG), (l.foldl merA R).length ≤ R.length + l.length := by
    intro l
    induction l with
    | nil => intro R; simp
    | cons b l ih =>
      intro R
      have := ih (merA R b)
      have := merA_len R b
      rw [List.foldl_cons, List.length_cons]; omega
  have := key l []
  unfold merL; simpa using this
def rgF (R : List RG) : List Value := R.flatMap RG.cells
theorem rgF_len (R : List RG) : (rgF R).length = R.length * 2 := flat_len rg_len R
theorem rgF_snoc (R : List RG) (r : RG) : rgF (R ++ [r]) = rgF R ++ [.int .i64 r.f, .int .i64 r.t] := flat_snoc R r
theorem rgF_last (R0 : List RG) (r : RG) : (rgF (R0 ++ [r]))[R0.length * 2 + 1]? = some (.int .i64 r.t) := by
  rw [rgF_snoc, List.getElem?_append_right (by rw [rgF_len]; omega), rgF_len]
  rw [show R0.length * 2 + 1 - R0.length * 2 = 1 by omega]; rfl
theorem rgF_set (R0 : List RG) (f t u : Int) : (rgF (R0 ++ [⟨f, t⟩])).set (R0.length * 2 + 1) (.int .i64 u) = rgF (R0 ++ [⟨f, u⟩]) := by
  rw [rgF_snoc, rgF_snoc, List.set_append_right _ _ (by rw [rgF_len]; omega), rgF_len, show R0.length * 2 + 1 - R0.length * 2 = 1 by omega]; rfl
theorem own_some {w : World} {base s n : Nat} {e : TypeId} {v : Value} {xs : List Value} (h : w.ownsRow base e s v n xs) (hn : n ≠ 0) : ∃ g cap, v = .slice (some ⟨g, 0, none⟩) n cap ∧ n ≤ cap ∧ cap ≤ maxLen ∧ base ≤ g := by
  rcases h.2 with ⟨_, h0⟩ | ⟨g, cap, cur, rfl, hb, _, h1, h2, _⟩
  · exact absurd h0 hn
  · exact ⟨g, cap, rfl, h1, h2, hb⟩
set_option maxRecDepth 100000 in
set_option maxHeartbeats 4000000 in
theorem spanMerge_any (L : List Int) (v : Value) (w : World) (hv : IdxS w v L) (hL : L.length ≤ 100000) (hb : ∀ b ∈ L, -9223372036854775808 ≤ b ∧ b ≤ 1099511627776) :
    Calls Try.prog 36 #[v] w fun e w' => ∃ x, e = .returned x ∧ RgsS w' x (merL (dedU L)) ∧ Below w.heap.size w w' := by
  obtain ⟨C, hC0⟩ : ∃ C, C = dedU L := ⟨_, rfl⟩
  rw [← hC0]
  have HDE : Hid (Go.Lib.compact (sortL L) = C) := Lib.hid (by rw [hC0]; exact ded_eq L)
  have HBC : Hid (∀ b ∈ C, -9223372036854775808 ≤ b ∧ b ≤ 1099511627776) := Lib.hid (fun x hx => hb x (((dedU_ris L).2 x).1 (by rw [← hC0]; exact hx)))
  have HCL : Hid (C.length ≤ 100000) := Lib.hid (by rw [hC0]; exact Nat.le_trans (dedU_len L) hL)
  have hS := sortedV_any hv (by omega)
  obtain ⟨A, cap, rfl, _⟩ := hv
  have hV := values_any A L.length cap w
  obtain ⟨i0, hi, hz0, hz1, hz2⟩ := rgInfo
  clear hb hC0
  go_enter Try.func36, Try.ntmps36
  go_wp2_with (first
    | (go_at_call 50; refine hV.mono ?_; rintro e w1 ⟨rfl, rfl⟩)
    | (go_at_call 49; refine hS.mono ?_; rintro e w2 ⟨r, rfl, hr, hb2⟩; have hC := compactI_any (L := sortL L) (by rw [sortL_len]; exact hr) hb2.size; have HB2 := Lib.hid hb2; clear hr hb2)
    | (go_at_call 48; refine hC.mono ?_; rintro e w3 ⟨x, rfl, hx, hb3⟩; have HB3 := Lib.hid (HB2.out.trans hb3); rw [HDE.out] at hx; obtain ⟨A3, cap3, rfl, hq1, hq2, hq3⟩ := hx; have HQ3 := Lib.hid hq3; clear hq3 hb3))
  clear hS hV hL
  go_loopw [3, 12] (fun vx ix wr => ∃ (k : Nat) (z : Value), k ≤ C.length ∧ ix = .int .i64 (k : Int) ∧ z = vx ∧ wr.ownsRow w3.heap.size 51 2 z (merL (C.take k)).length (rgF (merL (C.take k))) ∧ Below w3.heap.size w3 wr) (fun _ ix _ => C.length - (intOf ix).toNat)
  case atStart => exact ⟨0, .slice none 0 0, Nat.zero_le _, rfl, rfl, World.ownsRow_nil _ _ _ _, Below.refl _ _⟩
  case round =>
    obtain ⟨k, z, hk, rfl, rfl, hown, hB⟩ := hrel
    have HBW := Lib.hid hB
    have HOWN := Lib.hid hown
    have HB := Lib.hid (HB3.out.trans (hB.mono HB3.out.size))
    clear hB hown
    by_cases hlt : k < C.length
    · obtain ⟨b, off, rfl, hbl, hcell⟩ := HQ3.out.resolve_left (by intro e; rw [e] at hlt; simp at hlt)
      have q0 : wr.cell? ⟨b, off + k, none⟩ = some (.int .i64 (C.getD k 0)) := (HBW.out.cell (p := ⟨b, off + k, none⟩) hbl).trans (hcell k hlt)
      have HNX : Hid (merL (C.take (k + 1)) = merA (merL (C.take k)) (C.getD k 0)) := Lib.hid (by rw [getD_snoc 0 hlt, merL_snoc])
      have HRL : Hid ((merL (C.take k)).length ≤ 100000) := Lib.hid (by have := merL_len (C.take k); have := HCL.out; rw [List.length_take] at *; omega)
      obtain ⟨hx1, hx2⟩ := HBC.out (C.getD k 0) (by rw [List.getD, List.getElem?_eq_getElem hlt]; exact List.getElem_mem _)
      have hkb : k ≤ 100000 := by have := HCL.out; omega
      generalize C.getD k 0 = x at q0 HNX hx1 hx2
      generalize merL (C.take k) = R at HOWN HNX HRL ⊢
      clear hcell hbl
      rcases List.eq_nil_or_concat R with rfl | ⟨R0, r, rfl⟩
      · have ho := HOWN.out
        rw [List.length_nil] at ho
        obtain ⟨zA, zc, rfl, _⟩ := ownS_form ho
        rw [merA_nil] at HNX
        clear ho
        go_wp2_with (at_builtin; (refine wpList_append_own _ rfl _ _ 56 rfl w3.heap.size 51 i0 _ 2 16 Try.underlying56 hi hz0 hz1 hz2 rfl (by decide) _ _ _ rfl (HOWN.out.alloc _) ⟨wr.heap.size, 0, none⟩ 1 1 [.int .i64 x, .int .i64 (x + 1)] rfl rfl (new_cells wr [.int .i64 x, .int .i64 (x + 1)] _) (rg_one ⟨x, x + 1⟩) (by unfold maxLen; simp) (by simp) (by have := HBW.out.size; simp; omega) ?_); intro v' w4 hown4 hgrow _)
        have hB4 : Below w3.heap.size w3 w4 := (HBW.out.alloc HBW.out.size _).grown hgrow (by have := HBW.out.size; simp; omega) (fun g hg => (World.ownsRow.lt HOWN.out g hg).1)
        go_roundw
        case rel => exact ⟨k + 1, v', hlt, by go_num, rfl, by rw [HNX.out]; exact hown4, hB4⟩
        case measure => simp [intOf]; omega
      · rw [List.concat_eq_append] at HOWN HNX HRL
        rw [List.length_append, List.length_singleton] at HOWN HRL
        obtain ⟨g, zc, rfl, hz1', hz2', hgb⟩ := own_some HOWN.out (by omega)
        obtain ⟨rf, rt⟩ := r
        have c1 : wr.cell? ⟨g, R0.length * 2 + 1, none⟩ = some (.int .i64 rt) := by rw [World.ownsRow.cellAt HOWN.out _ (by omega)]; exact rgF_last R0 ⟨rf, rt⟩
        have f1 := World.ownsRow.frozenAt HOWN.out (R0.length * 2 + 1)
        have hn0 : R0.length ≤ 100000 := by have := HRL.out; omega
        have d0 : decide ((0 : Int) < (R0.length : Int) + 1) = true := decide_eq_true (by omega)
        have d1 : decide (R0.length < R0.length + 1) = true := decide_eq_true (by omega)
        by_cases he : rt = x
        · subst he
          rw [merA_join] at HNX
          have HST := Lib.hid (World.ownsRow.stored HOWN.out (R0.length * 2 + 1) (.int .i64 (rt + 1)))
          rw [rgF_set] at HST
          have hd2 : (rt == rt) = true := by simp
          go_wp2
          go_roundw
          case rel => exact ⟨k + 1, _, hlt, by go_num, rfl, by rw [HNX.out, List.length_append, List.length_singleton]; exact HST.out.1, HBW.out.setCell (p := ⟨g, R0.length * 2 + 1, none⟩) hgb _⟩
          case measure => simp [intOf]; omega
        · have hd2 : (rt == x) = false := by rw [beq_eq_false_iff_ne]; exact he
          rw [merA_apart (r := ⟨rf, rt⟩) he] at HNX
          clear he
          go_wp2_with (at_builtin; (refine wpList_append_own _ rfl _ _ 56 rfl w3.heap.size 51 i0 _ 2 16 Try.underlying56 hi hz0 hz1 hz2 rfl (by decide) _ _ _ rfl (HOWN.out.alloc _) ⟨wr.heap.size, 0, none⟩ 1 1 [.int .i64 x, .int .i64 (x + 1)] rfl rfl (new_cells wr [.int .i64 x, .int .i64 (x + 1)] _) (rg_one ⟨x, x + 1⟩) (by unfold maxLen; omega) (by omega) (by have := HBW.out.size; simp; omega) ?_); intro v' w4 hown4 hgrow _)
          have hB4 : Below w3.heap.size w3 w4 := (HBW.out.alloc HBW.out.size _).grown hgrow (by have := HBW.out.size; simp; omega) (fun g hg => (World.ownsRow.lt HOWN.out g hg).1)
          go_roundw
          case rel => exact ⟨k + 1, v', hlt, by go_num, rfl, by rw [HNX.out, List.length_append, List.length_append, List.length_singleton, List.length_singleton, rgF_snoc]; exact hown4, hB4⟩
          case measure => simp [intOf]; omega
    · obtain rfl : k = C.length := by omega
      have ho := HOWN.out
      rw [List.take_of_length_le (Nat.le_refl _)] at ho
      have HO := Lib.hid ho
      clear ho
      go_wp2
      go_ret
      exact ⟨_, rfl, StS.of_own rg_len HO.out, HB.out⟩
end Go.Proofs.Ytdcpgjkaimekbaa
