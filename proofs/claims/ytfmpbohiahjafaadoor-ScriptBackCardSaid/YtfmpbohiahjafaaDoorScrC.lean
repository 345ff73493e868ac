/- Scripts: the program's word of a text. -/
import Derived.Test.YtfmpbohiahjafaaDoorScrB
import Derived.Test.YtfmpbohiahjafaaDoorOwnB
import Derived.Deep.RegionLaw
import Derived.Laws.MakeOwn
namespace Go.Proofs.YtfmpbohiahjafaaDoor
open Go.RowKit Go.Lib Go.Shelf Go.Sort

theorem u8Inf : ∃ i, Tryd.prog.info? 5 = some i ∧ i.zero = some (.int .u8 0) ∧ i.size = 1 ∧ i.bytes = 1 := by
  have e : (Tryd.prog.info? 5).map (fun i => (i.zero, i.size, i.bytes)) = some (some (.int .u8 0), 1, 1) := by kernel_rfl
  obtain ⟨i, hi, hz⟩ := Option.map_eq_some_iff.1 e
  simp only [Prod.mk.injEq] at hz
  exact ⟨i, hi, hz.1, hz.2.1, hz.2.2⟩
theorem and15 : ∀ m : Nat, m < 256 → bits .and .u8 (m : Int) 15 = (m : Int) % 16 := by decide +kernel
abbrev hexS : ByteArray := ⟨#[48, 49, 50, 51, 52, 53, 54, 55, 56, 57, 97, 98, 99, 100, 101, 102]⟩
theorem hexS_at : ∀ k (h : k < 16), (hexS[k]'h) = hx1 k := by decide
theorem hexS_int {x : Int} (h0 : 0 ≤ x) (h1 : x < 16) (h : x.toNat < hexS.size) : ((hexS[x.toNat]'h).toNat : Int) = ((hx1 x.toNat).toNat : Int) := by
  rw [hexS_at x.toNat (by omega)]
theorem hexW_snoc (l : List UInt8) (b : UInt8) : hexW (l ++ [b]) = hexW l ++ [hx1 (b.toNat / 16), hx1 (b.toNat % 16)] := by
  induction l with
  | nil => rfl
  | cons a r ih => simp only [List.cons_append, hexW, ih]
theorem step_append_own_at {P : Program} {ops : Array Oper} {o : Oper} {a : Act} {K : Act → World → Prop} {Q : Exit → Act → World → Prop} {E : Prop} (w : World) (hgd : o.guard = none) (s x : Operand) (t : TypeId)
    (ho : o.op = .call { callee := .builtin .append, args := #[s, x], argTypes := #[t, t] })
    (base : Nat) (e : TypeId) (i : TypeInfo) (z : Value) (size bytes : Nat) (ht : P.underlying t = some (.slice e)) (hi : P.info? e = some i) (hz : i.zero = some z)
    (hsize : i.size = size) (hby : i.bytes = bytes) (hzs : z.cells.size = size) (hsz : 0 < size)
    (v : Value) (n : Nat) (xs : List Value) (hs : a.eval s = v) (hown : w.ownsRow base e size v n xs)
    (ad : Addr) (m c : Nat) (news : List Value) (hx : a.eval x = .slice (some ad) m c) (hl : news.length = m * size) (hnews : ∀ j u, news[j]? = some u → w.cell? (ad.add j) = some u) (h1 : ∀ u ∈ news, u.oneCell' = true)
    (h63 : n + m ≤ maxLen) (hbytes : (n + m) * bytes ≤ 140737488355328) (hbase : base ≤ w.heap.size)
    (h : ∀ v' w', w'.ownsRow base e size v' (n + m) (xs ++ news) → w.grownBy w' v.ownBlock → (v'.ownBlock = v.ownBlock ∨ v'.ownBlock = some w.heap.size) → K (a.put o.dst v') w') :
    if Region.wanted o (yielded ops a.tmps) = true then Oper.wp P o a w K Q else E := by
  have hw : Region.wanted o (yielded ops a.tmps) = true := by simp [Region.wanted, hgd]
  rw [if_pos hw]
  obtain ⟨v', w', hr, h2, h3, h4, h5⟩ := run_append_own_at (P := P) w base t o.type e i z size bytes ht hi hz hsize hby hzs hsz v n xs hown ad m c news hl hnews h1 h63 hbytes hbase
  unfold Oper.wp execOp
  simp only [ho, resolve, invoke, builtin, Sem.run_bind, Sem.run_pure, Result.andThen_ok, List.map_toArray, List.map_cons, List.map_nil, hs, hx, hr]
  exact h _ _ h2 h3 h5
def u8v (l : List UInt8) : List Value := l.map fun b => .int .u8 (b.toNat : Int)
set_option maxHeartbeats 8000000 in
set_option maxRecDepth 100000 in
theorem textW_any {t : List UInt8} (ht : t.length ≤ 8192) (w : World) :
    Calls Tryd.prog 36 #[.string ⟨t.toArray⟩] w fun e w' => e = .returned (Bs (texW t)) ∧ Below w.heap.size w w' := by
  obtain ⟨i0, hi0, hz0, hz1, hz2⟩ := u8Inf
  by_cases h0 : t = []
  · subst h0
    go_enter Tryd.func36, Tryd.ntmps36
    go_wp2
    go_ret
    exact ⟨rfl, Below.refl _ _⟩
  obtain ⟨s, hs⟩ : ∃ s : ByteArray, s = ⟨t.toArray⟩ := ⟨_, rfl⟩
  have hst : s.data.toList = t := by rw [hs]
  have hsz : s.size = t.length := by rw [hs]; exact bsz t
  rw [← hs]
  obtain ⟨n, hn⟩ : ∃ n, n = s.size := ⟨_, rfl⟩
  have HN := Lib.hid hn
  have HT := Lib.hid hst
  have HSZ := Lib.hid hsz
  have k0 : s.toList.isEmpty = false := by
    rw [hs]
    cases t with
    | nil => exact absurd rfl h0
    | cons a r => simp
  have hsz2 : (s.size : Int) = (n : Int) := by rw [hn]
  have hn1 : n ≤ 8192 := by omega
  have hmk := run_make (P := Tryd.prog) w 62 5 i0 _ Tryd.underlying62 hi0 hz0 .i64 .i64 0 (2 * (n : Int)) (Int.le_refl _) (by omega) (by rw [hz2]; omega) (by omega)
  obtain ⟨w1, hw1⟩ : ∃ w1, w1 = w.alloc (.cells (madeCells (Value.int .u8 0).cells ((2 * (n : Int)).toNat * i0.size)) 5) := ⟨_, rfl⟩
  rw [← hw1] at hmk
  have ho1 : OwnB w1 w.heap.size (.slice (some ⟨w.heap.size, 0, none⟩) (0 : Int).toNat (2 * (n : Int)).toNat) [] := by
    rw [hw1]
    exact World.ownsRow_made w _ _ (Nat.le_refl _) (by unfold maxLen; omega) (by rw [size_madeCells, hz1])
  have HB1 : Hid (Below w.heap.size w w1) := Lib.hid (by rw [hw1]; exact below_new w _)
  have HO1 := Lib.hid ho1
  have HN1 := Lib.hid hn1
  clear hw1 ho1 hs hst hsz hn ht h0
  go_enter Tryd.func36, Tryd.ntmps36
  go_upto_region 5 with fail
  clear hmk
  go_loopw [3, 4, 13] (fun vx _ ix wr => ∃ (i : Nat) (z : Value), ix = .int .i64 (i : Int) ∧ z = vx ∧ i ≤ n ∧ OwnB wr w.heap.size z (hexW (t.take i)) ∧ Below w.heap.size w wr) (fun _ _ ix _ => n - (RowKit.intOf ix).toNat)
  case atStart => exact ⟨0, _, rfl, rfl, Nat.zero_le _, HO1.out, HB1.out⟩
  case round =>
    obtain ⟨i, z, rfl, rfl, hi, ho, hb⟩ := hrel
    have HB := Lib.hid hb
    have HO := Lib.hid ho
    clear ho hb
    by_cases hlt : i < n
    · have k1 : decide ((i : Int) < (n : Int)) = true := decide_eq_true (by omega)
      have k2 : (i : Int) < (n : Int) := by omega
      have hsi : i < s.size := by have := HN.out; omega
      have hb8 := (s[i]).toNat_lt
      have c0 : (0 : Int) ≤ ((s[i]).toNat : Int) / 16 := by omega
      have c1 : ((s[i]).toNat : Int) / 16 < 16 := by omega
      have c2 : (0 : Int) ≤ ((s[i]).toNat : Int) % 16 := by omega
      have c3 : ((s[i]).toNat : Int) % 16 < 16 := by omega
      have ca := and15 (s[i]).toNat hb8
      have q1 := hexS_int c0 c1 (by show _ < 16; omega)
      have q2 := hexS_int c2 c3 (by show _ < 16; omega)
      obtain ⟨x1, hx1e⟩ : ∃ x1, x1 = ((hx1 (((s[i]).toNat : Int) / 16).toNat).toNat : Int) := ⟨_, rfl⟩
      obtain ⟨x2, hx2e⟩ : ∃ x2, x2 = ((hx1 (((s[i]).toNat : Int) % 16).toNat).toNat : Int) := ⟨_, rfl⟩
      rw [← hx1e] at q1
      rw [← hx2e] at q2
      have hel : t[i]? = some s[i] := by
        rw [← HT.out]
        simp [ByteArray.getElem_eq_getElem_data, hsi]
      have HV : Hid (U8s (hexW (t.take (i + 1))) = U8s (hexW (t.take i)) ++ [.int .u8 x1, .int .u8 x2] ∧ (hexW (t.take i)).length = 2 * i) := Lib.hid (by
        have e1 : (((s[i]).toNat : Int) / 16).toNat = (s[i]).toNat / 16 := by omega
        have e2 : (((s[i]).toNat : Int) % 16).toNat = (s[i]).toNat % 16 := by omega
        refine ⟨?_, by rw [hexW_len, List.length_take]; have := HN.out; have := HSZ.out; omega⟩
        rw [List.take_add_one, hel, hx1e, hx2e, e1, e2]
        show U8s (hexW (t.take i ++ [s[i]])) = _
        rw [hexW_snoc]
        unfold U8s
        rw [List.map_append]; rfl)
      have hw1 : wrap64 ((i : Int) + 1) = (i : Int) + 1 := by unfold wrap64; omega
      have HW1 := Lib.hid hw1
      clear hb8 hx1e hx2e hel hw1
      have HO2 : Hid (OwnB ((wr.alloc (.cells #[.int .u8 x1, .int .u8 x2] 5)).drew) w.heap.size z (hexW (t.take i))) := Lib.hid (own_keep HO.out ((below_new wr _).drew))
      have HNV : Hid (∀ j q, ([.int .u8 x1, .int .u8 x2] : List Value)[j]? = some q → (wr.alloc (.cells #[.int .u8 x1, .int .u8 x2] 5)).drew.cell? ((⟨wr.heap.size, 0, none⟩ : Addr).add j) = some q) := Lib.hid (new_cells wr _ _)
      have HBV : Hid (Below w.heap.size w (wr.alloc (.cells #[.int .u8 x1, .int .u8 x2] 5)).drew) := Lib.hid (HB.out.alloc HB.out.size _).drew
      have HLN : Hid ((hexW (t.take i)).length + 2 ≤ maxLen ∧ ((hexW (t.take i)).length + 2) * 1 ≤ 140737488355328) := Lib.hid (by rw [HV.out.2]; have := HN1.out; unfold maxLen; omega)
      have HXO : Hid (∀ u ∈ ([.int .u8 x1, .int .u8 x2] : List Value), u.oneCell' = true) := Lib.hid (by intro u hu; simp only [List.mem_cons, List.not_mem_nil, or_false] at hu; rcases hu with rfl | rfl <;> rfl)
      go_upto_region 7 with fail
      go_region_law (first
        | (refine step_append_own_at _ (by rfl) (.tmp 16) (.tmp 27) 62 (by rfl) w.heap.size 5 i0 _ 1 1 Tryd.underlying62 hi0 hz0 hz1 hz2 (by rfl) (by decide) z (hexW (t.take i)).length (U8s (hexW (t.take i))) (by rfl) HO2.out (⟨wr.heap.size, 0, none⟩ : Addr) 2 2 [.int .u8 x1, .int .u8 x2] (by rfl) (by rfl) HNV.out HXO.out HLN.out.1 HLN.out.2 HBV.out.size ?_
           intro v' w4 ho4 hg4 hat4; have HO4 := Lib.hid ho4; have HB4 : Hid (Below w.heap.size w w4) := Lib.hid (HBV.out.grown hg4 HBV.out.size (fun g hg => (World.ownsRow.lt HO2.out g hg).1)); clear ho4 hg4 hat4))
      all_goals
        go_wp2
        (try rw [HW1.out])
        go_roundw
        case rel =>
          refine ⟨i + 1, _, by go_num, rfl, hlt, ?_, HB4.out⟩
          unfold OwnB
          rw [HV.out.1, show (hexW (t.take (i + 1))).length = (hexW (t.take i)).length + 2 by rw [hexW_len, HV.out.2, List.length_take]; have := HN.out; have := HSZ.out; omega]
          exact HO4.out
        case measure => simp only [RowKit.intOf]; omega
    · have k1 : decide ((i : Int) < (n : Int)) = false := decide_eq_false (by omega)
      have k1n : ¬ (i : Int) < (n : Int) := by omega
      have hin : i = n := by omega
      have htk : t.take i = t := List.take_of_length_le (by have := HN.out; have := HSZ.out; omega)
      rw [htk] at HO
      have hcv := own_string (P := Tryd.prog) HO.out Tryd.underlying62 Tryd.underlying5 Tryd.underlying9
      have HX : Hid (texW t = hexW t) := Lib.hid (by
        unfold texW
        rw [if_neg]
        intro e
        have := HT.out
        subst e
        have h2 := congrArg List.length this
        have h3 := k0
        simp only [List.length_nil, List.length_eq_zero_iff, Array.toList_eq_nil_iff] at h2
        obtain ⟨d⟩ := s
        simp only at h2
        subst h2
        simp at h3)
      clear htk hin
      go_wp2
      go_ret
      exact ⟨by rw [HX.out]; rfl, HB.out⟩
end Go.Proofs.YtfmpbohiahjafaaDoor
