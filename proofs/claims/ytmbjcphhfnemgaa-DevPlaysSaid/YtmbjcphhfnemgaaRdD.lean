/- The document's answers for devices: Waiting, Bad. -/
import Derived.Test.YtmbjcphhfnemgaaRdC
namespace Go.Proofs.Ytmbjcphhfnemgaa
open Go.RowKit Go.Maps

theorem own_below {W W' : World} {B e s n : Nat} {v : Value} {xs : List Value} (h : W.ownsRow B e s v n xs) (hb : Below W.heap.size W W') : W'.ownsRow B e s v n xs := by
  refine ⟨h.1, ?_⟩
  rcases h.2 with h0 | ⟨g, cap, cur, hv, hg, hh, r⟩
  · exact .inl h0
  · exact .inr ⟨g, cap, cur, hv, hg, (hb.block g (Array.getElem?_eq_some_iff.1 hh).1).trans hh, r⟩
def intL (l : List Nat) : List Value := l.map fun i : Nat => .int .i64 (i : Int)
theorem own_ints {W : World} {B : Nat} {v : Value} {l : List Nat} (h : W.ownsRow B 3 1 v l.length (intL l)) : IntsR W v (l.map fun i : Nat => (i : Int)) := by
  rcases h.2 with ⟨rfl, h0⟩ | ⟨g, cap, cur, rfl, _, hh, hn, hm, _, ht⟩
  · have : l = [] := List.eq_nil_of_length_eq_zero h0
    subst this
    exact ⟨none, 0, rfl, Nat.le_refl _, by omega, .inl rfl⟩
  · refine ⟨some ⟨g, 0, none⟩, cap, by rw [List.length_map], by rw [List.length_map]; exact hn, by unfold maxLen at hm; omega, .inr ⟨g, 0, rfl, fun j hj => ?_⟩⟩
    rw [List.length_map] at hj
    rw [Nat.zero_add, cell_of_row W g j cur 3 (0, 0) hh]
    have h1 : (cur.toList.take (l.length * 1))[j]? = (intL l)[j]? := by rw [ht]
    rw [List.getElem?_take, if_pos (by omega), Array.getElem?_toList] at h1
    rw [h1]
    simp [intL, List.getD, hj]
theorem infoIntX : ∃ i, Try.prog.info? 3 = some i ∧ i.zero = some (.int .i64 0) ∧ i.size = 1 ∧ i.bytes = 8 := by
  have h : (Try.prog.info? 3).map (fun i => (i.zero, i.size, i.bytes)) = some (some (.int .i64 0), 1, 8) := by kernel_rfl
  cases hq : Try.prog.info? 3 with
  | none => rw [hq] at h; cases h
  | some i => rw [hq] at h; simp only [Option.map_some, Option.some.injEq, Prod.mk.injEq] at h; exact ⟨i, rfl, h.1, h.2.1, h.2.2⟩
theorem fl_len (p : Nat → Bool) (n : Nat) : (fl p n).length ≤ n := by
  have := List.length_filter_le p (List.range n)
  rw [List.length_range] at this
  exact this
/-- append(out, j). -/
theorem wpList_app_int {W : World} {ops : Array Oper} {rest : List Oper} {o : Oper} {a : Act} {K : Exit → Act → World → Prop} (hgd : o.guard = none) (s x : Operand)
    (ho : o.op = .call { callee := .builtin .append, args := #[s, x], argTypes := #[40, 40] }) {B : Nat} {v : Value} {l : List Nat} {j gb : Nat} (hs : a.eval s = v) (hown : W.ownsRow B 3 1 v l.length (intL l)) (hB : B ≤ W.heap.size)
    (hgb : gb = W.heap.size) (hx : a.eval x = .slice (some ⟨gb, 0, none⟩) 1 1) (hl : l.length ≤ 100)
    (hK : ∀ v' w', w'.ownsRow B 3 1 v' (l ++ [j]).length (intL (l ++ [j])) → Below B W w' → wpList Try.prog ops K rest (a.put o.dst v') w') :
    wpList Try.prog ops K (o :: rest) a (W.alloc (.cells #[.int .i64 (j : Int)] 3)) := by
  subst hgb
  obtain ⟨i, hi, hz, hsz, hby⟩ := infoIntX
  refine wpList_append_own_at _ hgd s x 40 ho B 3 i _ 1 8 Try.underlying40 hi hz hsz hby rfl (by decide) v l.length (intL l) hs (own_below hown (below1 _ _)) ⟨W.heap.size, 0, none⟩ 1 1 [.int .i64 (j : Int)] hx rfl (fun q u hu => ?_) (fun u hu => ?_) (by unfold maxLen; omega) (by omega) (by simp; omega) ?_
  · have hq : q = 0 := by have := (List.getElem?_eq_some_iff.1 hu).1; simpa using this
    subst hq
    rw [adr_add]
    have e : u = .int .i64 (j : Int) := by simpa using hu.symm
    rw [e]
    simp [go_sem]
  · have e : u = .int .i64 (j : Int) := by simpa using hu
    rw [e]; rfl
  · intro v' w' hown' hg _ _
    refine hK v' w' ?_ ?_
    · rw [List.length_append, show intL (l ++ [j]) = intL l ++ [.int .i64 (j : Int)] by simp [intL]]
      exact hown'
    · exact ((below1 W (.cells #[.int .i64 (j : Int)] 3)).mono hB).trans (Below.grown (Below.refl _ _) hg (by simp; omega) (fun k hk => (World.ownsRow.lt hown k hk).1))
set_option maxRecDepth 10000 in
set_option maxHeartbeats 1000000 in
theorem refWaiting_any {w : World} {v : Value} {M : DM} (k : RefAt w v M) (hn : M.n ≤ 64) :
    Calls Try.prog 16 #[v] w fun e w' => ∃ v', e = .returned v' ∧ IntsR w' v' (numsI M.n (fun i => (M.fresh i).isSome)) ∧ Below w.heap.size w w' := by
  obtain ⟨n, su, fr, bd, ct, dn, lf⟩ := M
  obtain ⟨b, cap, rfl, h1, h2, h3⟩ := k
  dsimp only at h1 h3
  have hblt := h3.1
  have HB := Lib.hid (below1 w (.cells #[.slice (some ⟨b, 0, none⟩) n cap, .bool dn, .int .i64 lf, .int .i64 (ct : Int)] 30))
  have HX := Lib.hid (Bx.new w (.slice (some ⟨b, 0, none⟩) n cap) (.bool dn) (.int .i64 lf) (.int .i64 (ct : Int)) 30)
  have HL := Lib.hid (h3.below HB.out)
  obtain ⟨W0, hW⟩ : ∃ W0 : World, W0 = w.alloc (.cells #[.slice (some ⟨b, 0, none⟩) n cap, .bool dn, .int .i64 lf, .int .i64 (ct : Int)] 30) := ⟨_, rfl⟩
  rw [← hW] at HB HX HL
  clear h3 hblt
  obtain ⟨_, x0, x1, x2, x3, _, _, _, _⟩ := HX.out
  dsimp only at hn
  obtain ⟨p, hp⟩ : ∃ p : Nat → Bool, p = (fun i => (fr i).isSome) := ⟨_, rfl⟩
  have HP := Lib.hid hp
  show Calls Try.prog 16 _ w fun e w' => ∃ v', e = .returned v' ∧ IntsR w' v' ((fl (fun i => (fr i).isSome) n).map fun i : Nat => (i : Int)) ∧ Below w.heap.size w w'
  rw [← hp]
  clear hp
  go_enter Try.func16, Try.ntmps16
  go_upto_region 1 with fail
  rw [← hW]
  clear hW
  go_upto_region 3 with fail
  clear x0 x1 x2 x3 HX
  go_loopw [3, 9] (fun o ix wr => ∃ j : Nat, j ≤ n ∧ ix = .int .i64 (j : Int) ∧ wr.ownsRow W0.heap.size 3 1 o (fl p j).length (intL (fl p j)) ∧ Below W0.heap.size W0 wr) (fun _ ix _ => n - (intOf ix).toNat)
  case atStart => exact ⟨0, Nat.zero_le _, rfl, ⟨rfl, .inl ⟨rfl, rfl⟩⟩, Below.refl _ _⟩
  case round =>
    obtain ⟨j, hj, rfl, ho, hb⟩ := hrel
    have HO := Lib.hid ho
    have HBW := Lib.hid hb
    have HLR := Lib.hid (HL.out.below hb)
    have hsz := hb.size
    clear ho hb
    by_cases hlt : j < n
    · obtain ⟨g0, g1, g2, g3⟩ := HLR.out.2.1 j hlt
      dsimp only [sM] at g0 g1 g2 g3
      have hpe : p j = (fr j).isSome := by rw [HP.out]
      rw [← hpe] at g2
      cases hpj : p j with
      | false =>
        rw [hpj] at g2
        have HF : Hid (fl p (j + 1) = fl p j) := Lib.hid (by rw [fl_succ, hpj]; simp)
        have HO2 := Lib.hid (own_below HO.out (below1 wr (.cells #[.string ⟨(su j).toArray⟩, .string ⟨((fr j).getD []).toArray⟩, .bool false, .bool (bd j)] 75)))
        have HB2 := Lib.hid (HBW.out.trans ((below1 wr (.cells #[.string ⟨(su j).toArray⟩, .string ⟨((fr j).getD []).toArray⟩, .bool false, .bool (bd j)] 75)).mono hsz))
        clear hpj hpe HLR
        go_wp2_with fail
        go_roundw
        case rel => exact ⟨j + 1, by omega, by go_num, by rw [HF.out]; exact HO2.out, HB2.out⟩
        case measure => simp [intOf]; omega
      | true =>
        rw [hpj] at g2
        have HF : Hid (fl p (j + 1) = fl p j ++ [j]) := Lib.hid (by rw [fl_succ, hpj]; simp)
        have HO2 := Lib.hid (own_below HO.out (below1 wr (.cells #[.string ⟨(su j).toArray⟩, .string ⟨((fr j).getD []).toArray⟩, .bool true, .bool (bd j)] 75)))
        have HB2 := Lib.hid (HBW.out.trans ((below1 wr (.cells #[.string ⟨(su j).toArray⟩, .string ⟨((fr j).getD []).toArray⟩, .bool true, .bool (bd j)] 75)).mono hsz))
        have HGB : Hid (wr.heap.size + 1 = (wr.alloc (.cells #[.string ⟨(su j).toArray⟩, .string ⟨((fr j).getD []).toArray⟩, .bool true, .bool (bd j)] 75)).heap.size) := Lib.hid (by simp)
        have HBS : Hid (W0.heap.size ≤ (wr.alloc (.cells #[.string ⟨(su j).toArray⟩, .string ⟨((fr j).getD []).toArray⟩, .bool true, .bool (bd j)] 75)).heap.size) := Lib.hid (by simp; omega)
        have HLN : Hid ((fl p j).length ≤ 100) := Lib.hid (by have := fl_len p j; omega)
        clear hpj hpe HLR
        go_wp2_with (at_builtin; refine wpList_app_int rfl (.tmp 16) (.tmp 18) rfl rfl HO2.out HBS.out HGB.out rfl HLN.out ?_; intro v' w1 ho1 hb1; have HO3 := Lib.hid ho1; have HB3 := Lib.hid (HB2.out.trans hb1); clear ho1 hb1)
        go_roundw
        case rel => exact ⟨j + 1, by omega, by go_num, by rw [HF.out]; exact HO3.out, HB3.out⟩
        case measure => simp [intOf]; omega
    · obtain rfl : j = n := by omega
      clear HLR hlt hj hsz
      go_wp2_with fail
      go_ret
      exact ⟨_, rfl, own_ints HO.out, HB.out.trans (HBW.out.mono HB.out.size)⟩
set_option maxRecDepth 10000 in
set_option maxHeartbeats 1000000 in
theorem refBad_any {w : World} {v : Value} {M : DM} (k : RefAt w v M) (hn : M.n ≤ 64) :
    Calls Try.prog 18 #[v] w fun e w' => ∃ v', e = .returned v' ∧ IntsR w' v' (numsI M.n M.bad) ∧ Below w.heap.size w w' := by
  obtain ⟨n, su, fr, bd, ct, dn, lf⟩ := M
  obtain ⟨b, cap, rfl, h1, h2, h3⟩ := k
  dsimp only at h1 h3
  have hblt := h3.1
  have HB := Lib.hid (below1 w (.cells #[.slice (some ⟨b, 0, none⟩) n cap, .bool dn, .int .i64 lf, .int .i64 (ct : Int)] 30))
  have HX := Lib.hid (Bx.new w (.slice (some ⟨b, 0, none⟩) n cap) (.bool dn) (.int .i64 lf) (.int .i64 (ct : Int)) 30)
  have HL := Lib.hid (h3.below HB.out)
  obtain ⟨W0, hW⟩ : ∃ W0 : World, W0 = w.alloc (.cells #[.slice (some ⟨b, 0, none⟩) n cap, .bool dn, .int .i64 lf, .int .i64 (ct : Int)] 30) := ⟨_, rfl⟩
  rw [← hW] at HB HX HL
  clear h3 hblt
  obtain ⟨_, x0, x1, x2, x3, _, _, _, _⟩ := HX.out
  dsimp only at hn
  obtain ⟨p, hp⟩ : ∃ p : Nat → Bool, p = bd := ⟨_, rfl⟩
  have HP := Lib.hid hp
  show Calls Try.prog 18 _ w fun e w' => ∃ v', e = .returned v' ∧ IntsR w' v' ((fl bd n).map fun i : Nat => (i : Int)) ∧ Below w.heap.size w w'
  rw [← hp]
  clear hp
  go_enter Try.func18, Try.ntmps18
  go_upto_region 1 with fail
  rw [← hW]
  clear hW
  go_upto_region 3 with fail
  clear x0 x1 x2 x3 HX
  go_loopw [3, 9] (fun o ix wr => ∃ j : Nat, j ≤ n ∧ ix = .int .i64 (j : Int) ∧ wr.ownsRow W0.heap.size 3 1 o (fl p j).length (intL (fl p j)) ∧ Below W0.heap.size W0 wr) (fun _ ix _ => n - (intOf ix).toNat)
  case atStart => exact ⟨0, Nat.zero_le _, rfl, ⟨rfl, .inl ⟨rfl, rfl⟩⟩, Below.refl _ _⟩
  case round =>
    obtain ⟨j, hj, rfl, ho, hb⟩ := hrel
    have HO := Lib.hid ho
    have HBW := Lib.hid hb
    have HLR := Lib.hid (HL.out.below hb)
    have hsz := hb.size
    clear ho hb
    by_cases hlt : j < n
    · obtain ⟨g0, g1, g2, g3⟩ := HLR.out.2.1 j hlt
      dsimp only [sM] at g0 g1 g2 g3
      have hpe : p j = bd j := by rw [HP.out]
      rw [← hpe] at g3
      cases hpj : p j with
      | false =>
        rw [hpj] at g3
        have HF : Hid (fl p (j + 1) = fl p j) := Lib.hid (by rw [fl_succ, hpj]; simp)
        have HO2 := Lib.hid (own_below HO.out (below1 wr (.cells #[.string ⟨(su j).toArray⟩, .string ⟨((fr j).getD []).toArray⟩, .bool (fr j).isSome, .bool false] 75)))
        have HB2 := Lib.hid (HBW.out.trans ((below1 wr (.cells #[.string ⟨(su j).toArray⟩, .string ⟨((fr j).getD []).toArray⟩, .bool (fr j).isSome, .bool false] 75)).mono hsz))
        clear hpj hpe HLR
        go_wp2_with fail
        go_roundw
        case rel => exact ⟨j + 1, by omega, by go_num, by rw [HF.out]; exact HO2.out, HB2.out⟩
        case measure => simp [intOf]; omega
      | true =>
        rw [hpj] at g3
        have HF : Hid (fl p (j + 1) = fl p j ++ [j]) := Lib.hid (by rw [fl_succ, hpj]; simp)
        have HO2 := Lib.hid (own_below HO.out (below1 wr (.cells #[.string ⟨(su j).toArray⟩, .string ⟨((fr j).getD []).toArray⟩, .bool (fr j).isSome, .bool true] 75)))
        have HB2 := Lib.hid (HBW.out.trans ((below1 wr (.cells #[.string ⟨(su j).toArray⟩, .string ⟨((fr j).getD []).toArray⟩, .bool (fr j).isSome, .bool true] 75)).mono hsz))
        have HGB : Hid (wr.heap.size + 1 = (wr.alloc (.cells #[.string ⟨(su j).toArray⟩, .string ⟨((fr j).getD []).toArray⟩, .bool (fr j).isSome, .bool true] 75)).heap.size) := Lib.hid (by simp)
        have HBS : Hid (W0.heap.size ≤ (wr.alloc (.cells #[.string ⟨(su j).toArray⟩, .string ⟨((fr j).getD []).toArray⟩, .bool (fr j).isSome, .bool true] 75)).heap.size) := Lib.hid (by simp; omega)
        have HLN : Hid ((fl p j).length ≤ 100) := Lib.hid (by have := fl_len p j; omega)
        clear hpj hpe HLR
        go_wp2_with (at_builtin; refine wpList_app_int rfl (.tmp 16) (.tmp 18) rfl rfl HO2.out HBS.out HGB.out rfl HLN.out ?_; intro v' w1 ho1 hb1; have HO3 := Lib.hid ho1; have HB3 := Lib.hid (HB2.out.trans hb1); clear ho1 hb1)
        go_roundw
        case rel => exact ⟨j + 1, by omega, by go_num, by rw [HF.out]; exact HO3.out, HB3.out⟩
        case measure => simp [intOf]; omega
    · obtain rfl : j = n := by omega
      clear HLR hlt hj hsz
      go_wp2_with fail
      go_ret
      exact ⟨_, rfl, own_ints HO.out, HB.out.trans (HBW.out.mono HB.out.size)⟩
end Go.Proofs.Ytmbjcphhfnemgaa
