/- Charts: tables of holes alone dropped: slices.DeleteFunc, prune. Charts: maps in memory of their own, that may be written: clone. -/
import Derived.Test.YtngkbcaflkinhaaDoorChvMB
namespace Go.Proofs.YtngkbcaflkinhaaDoor
open Go.RowKit

def keepB (p : PT) : Bool := p.1.l.any fullB
theorem keep_drop (p : PT) : keepB p = !dropB p := by unfold keepB dropB; simp
theorem take_snocP {L : List PT} {k : Nat} (hk : k < L.length) : L.take (k + 1) = L.take k ++ [L.getD k PT.zero] := by
  rw [List.take_succ_eq_append_getElem hk, List.getD, List.getElem?_eq_getElem hk]; rfl
theorem filter_one (p : PT) : [p].filter keepB = if keepB p = true then [p] else [] := by
  by_cases h : keepB p = true
  · rw [if_pos h, List.filter_cons_of_pos h]; rfl
  · rw [if_neg h, List.filter_cons_of_neg h]; rfl
/-- Under way: what was kept of the first j, and all from j on. -/
structure DI (P X : List PT) (i j : Nat) : Prop where
  len : X.length = P.length
  fst : X.take i = (P.take j).filter keepB
  snd : X.drop j = P.drop j
  ij : i < j
  jn : j ≤ P.length
theorem filter_full {P : List PT} (h : ∀ k, k < P.length → dropB (P.getD k PT.zero) = false) : P.filter keepB = P := by
  rw [List.filter_eq_self]
  intro p hp
  rw [keep_drop, all_false dropB PT.zero P h p hp]; rfl
theorem DI.start {P : List PT} {k : Nat} (hk : k < P.length) (h0 : ∀ i, i < k → dropB (P.getD i PT.zero) = false) (h1 : dropB (P.getD k PT.zero) = true) : DI P P k (k + 1) := by
  refine ⟨rfl, ?_, rfl, by omega, by omega⟩
  rw [take_snocP hk, List.filter_append, filter_one, keep_drop, h1]
  have : (P.take k).filter keepB = P.take k := filter_full (fun i hi => by
    rw [List.length_take] at hi
    rw [List.getD, List.getElem?_take, if_pos (by omega)]
    exact h0 i (by omega))
  rw [this]; simp
theorem DI.at {P X : List PT} {i j : Nat} (k : DI P X i j) : X.getD j PT.zero = P.getD j PT.zero := by
  have h1 : (X.drop j)[0]? = (P.drop j)[0]? := by rw [k.snd]
  rw [List.getElem?_drop, List.getElem?_drop, Nat.add_zero] at h1
  rw [List.getD, List.getD, h1]
theorem DI.skip {P X : List PT} {i j : Nat} (k : DI P X i j) (hj : j < P.length) (hd : dropB (P.getD j PT.zero) = true) : DI P X i (j + 1) := by
  refine ⟨k.len, ?_, ?_, by have := k.ij; omega, by omega⟩
  · rw [take_snocP hj, List.filter_append, filter_one, keep_drop, hd, k.fst]; simp
  · have h := congrArg (List.drop 1) k.snd
    rw [List.drop_drop, List.drop_drop] at h; exact h
theorem DI.keep {P X : List PT} {i j : Nat} (k : DI P X i j) (hj : j < P.length) (hd : dropB (P.getD j PT.zero) = false) : DI P (X.set i (P.getD j PT.zero)) (i + 1) (j + 1) := by
  have hij := k.ij
  have hl := k.len
  refine ⟨by rw [List.length_set]; exact hl, ?_, ?_, by omega, by omega⟩
  · rw [take_snocP hj, List.filter_append, filter_one, keep_drop, hd, ← k.fst]
    have e := take_snocP (L := X.set i (P.getD j PT.zero)) (k := i) (by rw [List.length_set]; omega)
    rw [e, List.take_set_of_le (Nat.le_refl _)]
    congr 1
    rw [List.getD, List.getElem?_set_self (by omega)]; rfl
  · rw [List.drop_set_of_lt (by omega)]
    have h := congrArg (List.drop 1) k.snd
    rw [List.drop_drop, List.drop_drop] at h; exact h
theorem DI.done {P X : List PT} {i : Nat} (k : DI P X i P.length) : X.take i = P.filter keepB := by
  have := k.fst
  rwa [List.take_of_length_le (Nat.le_refl _)] at this
theorem idx_cases (P : List PT) : (idxI dropB P 0 = -1 ∧ P.filter keepB = P) ∨ ∃ k, k < P.length ∧ idxI dropB P 0 = (k : Int) ∧ DI P P k (k + 1) := by
  by_cases h : P.findIdx dropB < P.length
  · right
    refine ⟨P.findIdx dropB, h, ?_, ?_⟩
    · have h1 : ∀ k, k < P.findIdx dropB → dropB (P.getD k PT.zero) = false := fun k hk => by
        rw [List.getD, List.getElem?_eq_getElem (by omega)]; exact List.not_of_lt_findIdx hk
      have h2 : dropB (P.getD (P.findIdx dropB) PT.zero) = true := by
        rw [List.getD, List.getElem?_eq_getElem h]; exact List.findIdx_getElem (w := h)
      rw [idxI_at dropB PT.zero P 0 _ h h1 h2]; simp
    · exact DI.start h (fun k hk => by rw [List.getD, List.getElem?_eq_getElem (by omega)]; exact List.not_of_lt_findIdx hk) (by rw [List.getD, List.getElem?_eq_getElem h]; exact List.findIdx_getElem (w := h))
  · left
    have h1 : ∀ k, k < P.length → dropB (P.getD k PT.zero) = false := fun k hk => by
      rw [List.getD, List.getElem?_eq_getElem hk]; exact List.not_of_lt_findIdx (by omega)
    exact ⟨idxI_none dropB P 0 (all_false dropB PT.zero P h1), filter_full h1⟩
/-! ### clear, of elements of two cells -/
theorem run_clear_two {P : Program} (w : World) (t e ty : TypeId) (z a b' : Value) (ht : P.underlying t = some (.slice e)) (hv : ∀ w, (zeroValue e).run P w = .ok z w) (hz : z.cells = #[a, b']) (h1 : a.oneCell' = true) (h2 : b'.oneCell' = true) (b o n c : Nat) (hn : 0 < n)
    (hc : ∀ j, j < n * 2 → (w.cell? ⟨b, o + j, none⟩).isSome = true) (hf : ∀ j, j < n * 2 → w.frozen? ⟨b, o + j, none⟩ = false) :
    ∃ zs : List Value, zs.length = n * 2 ∧ (Builtin.clear_ #[t] ty #[.slice (some ⟨b, o, none⟩) n c]).run P w = .ok (.tuple #[]) (w.setCells b o zs) := by
  refine ⟨(Builtin.zeroCells z.cells n).toList, by rw [hz]; simp [Builtin.zeroCells], ?_⟩
  have hl : (Builtin.zeroCells z.cells n).toList.length = n * 2 := by rw [hz]; simp [Builtin.zeroCells]
  have hone : ∀ v ∈ (Builtin.zeroCells z.cells n).toList, v.oneCell' = true := by
    intro v hv'
    rw [hz] at hv'
    unfold Builtin.zeroCells at hv'
    simp only [Array.toList_map, List.mem_map] at hv'
    obtain ⟨i, _, rfl⟩ := hv'
    have : i % #[a, b'].size = 0 ∨ i % #[a, b'].size = 1 := by show i % 2 = 0 ∨ i % 2 = 1; omega
    rcases this with e0 | e0
    · rw [e0]; exact h1
    · rw [e0]; exact h2
  have hst := run_storeCells_cells (P := P) b o _ 0 w (by rw [hl]; simpa using hc) (by rw [hl]; simpa using hf) hone
  simp only [Nat.add_zero] at hst
  obtain ⟨m, rfl⟩ : ∃ m, n = m + 1 := ⟨n - 1, by omega⟩
  simp [Builtin.clear_, run_underlying ht, hv, hst]
theorem tabZero (w : World) : (zeroValue 42).run Tryd.prog w = .ok (.agg #[.int .i64 0, .slice none 0 0]) w := Tryd.zeroValue42 w
set_option maxRecDepth 100000 in
set_option maxHeartbeats 4000000 in
theorem delT_any (P : List PT) (v : Value) (B U : Nat) (w : World) (hv : PO w B U v P) (hlen : P.length ≤ 65537) :
    Calls Tryd.prog 41 #[v, .func (.func 42) #[] #[]] w fun e w' => ∃ v', e = .returned v' ∧ PO w' B U v' (P.filter keepB) ∧ Ap (fun q => some q = v.ownBlock) w w' := by
  have hI := idxDrop_any P v B U w hv
  have HV := Lib.hid hv
  rcases idx_cases P with ⟨he, hf⟩ | ⟨k0, hk0, he, hD0⟩
  · rw [he] at hI
    obtain ⟨A, cap, rfl, hA⟩ := own_form hv.own
    clear hv hA he
    go_enter Tryd.func41, Tryd.ntmps41
    go_wp2_with (go_at_call 53; (with_reducible refine hI.mono ?_); rintro e w2 ⟨rfl, hb2⟩; have HB2 := Lib.hid hb2; clear hb2)
    go_ret
    exact ⟨_, rfl, by rw [hf]; exact HV.out.below HB2.out, Ap.of_below HB2.out⟩
  · rw [he] at hI
    obtain ⟨g, cap, cur, rfl, hgB, hgh, hnc, hcm, _⟩ := own_split hv.own (by omega)
    have HGW : Hid (g < w.heap.size) := Lib.hid (Array.getElem?_eq_some_iff.1 hgh).1
    have HEACH := Lib.hid hv.each
    have HD0 := Lib.hid hD0
    have HLN := Lib.hid hlen
    have HNC := Lib.hid (And.intro hnc hcm)
    have b0 : ((k0 : Int) == -1) = false := beq_eq_false_iff_ne.2 (by omega)
    have hw0 : wrap64 ((k0 : Int) + 1) = (k0 : Int) + 1 := by unfold wrap64; omega
    have HGB := Lib.hid hgB
    have HUP := Lib.hid hv.up
    have HUPS := Lib.hid hv.ups
    clear hv he hD0 hgh hgB hlen
    go_enter Tryd.func41, Tryd.ntmps41
    go_upto_region 5 with (go_at_call 53; (with_reducible refine hI.mono ?_); rintro e w2 ⟨rfl, hb2⟩; have HB2 := Lib.hid hb2; clear hb2)
    rw [hw0]
    clear hw0 hI
    have HO2 := Lib.hid (own_keepE HV.out.own HB2.out)
    have HA2 : Hid (Ap (fun q => q = g) w w2) := Lib.hid (Ap.of_below HB2.out)
    go_wp2
    go_loopw [5, 6] (fun ix jx wr => ∃ (i j : Nat) (X : List PT), ix = .int .i64 (i : Int) ∧ jx = .int .i64 (j : Int) ∧ DI P X i j ∧ wr.ownsRow B 42 2 (.slice (some ⟨g, 0, none⟩) P.length cap) P.length (pC X) ∧ Ap (fun q => q = g) w wr) (fun _ jx _ => P.length - (intOf jx).toNat)
    case atStart => exact ⟨k0, k0 + 1, P, rfl, by go_num, HD0.out, HO2.out, HA2.out⟩
    case round =>
      obtain ⟨i, j, X, rfl, rfl, hD, hO, hA⟩ := hrel
      have HD := Lib.hid hD
      have HO := Lib.hid hO
      have HA := Lib.hid hA
      have hij := hD.ij
      have hjn := hD.jn
      have HXL : Hid (X.length = P.length) := Lib.hid hD.len
      clear hD hO hA HO2 HA2 HB2 HD0
      by_cases hlt : j < P.length
      · have hil : i < P.length := by omega
        obtain ⟨a1, a2⟩ := pC_at X j (by rw [HXL.out]; exact hlt)
        rw [HD.out.at] at a1 a2
        have q0 := (World.ownsRow.cellAt HO.out (j * 2) (by omega)).trans a1
        have q1 := (World.ownsRow.cellAt HO.out (j * 2 + 1) (by omega)).trans a2
        have HE := Lib.hid ((HEACH.out _ (getD_memP hlt)).ap HA.out (fun q e => .inr (.inl (by rw [e]; rfl)))).1
        have HSK : Hid (dropB (P.getD j PT.zero) = true → DI P X i (j + 1)) := Lib.hid (HD.out.skip hlt)
        have HKP : Hid (dropB (P.getD j PT.zero) = false → DI P (X.set i (P.getD j PT.zero)) (i + 1) (j + 1)) := Lib.hid (HD.out.keep hlt)
        have hw1 : Hid (wrap64 ((j : Int) + 1) = (j : Int) + 1) := Lib.hid (by have := HLN.out; unfold wrap64; omega)
        have hw2 : Hid (wrap64 ((i : Int) + 1) = (i : Int) + 1) := Lib.hid (by have := HLN.out; unfold wrap64; omega)
        have hdl : decide ((j : Int) < (P.length : Int)) = true := decide_eq_true (by omega)
        have hdl2 : decide (j < P.length) = true := decide_eq_true hlt
        clear a1 a2
        unfold dropB at HSK HKP
        generalize P.getD j PT.zero = p at q0 q1 HE HSK HKP
        obtain ⟨⟨a, l⟩, u⟩ := p
        dsimp only at q0 q1 HE HSK HKP
        obtain ⟨ua, un, uc, rfl⟩ : ∃ ua un uc, u = .slice ua un uc := by obtain ⟨A', c', h, _⟩ := HE.out; exact ⟨A', _, c', h⟩
        have HB3 := Lib.hid (below1 wr (.cells #[.int .i64 a, .slice ua un uc] 42))
        have HX3 := Lib.hid (B2.new wr (.int .i64 a) (.slice ua un uc) 42)
        have HGR : Hid (g ≠ wr.heap.size) := Lib.hid (by have := HGW.out; have := HA.out.size; omega)
        go_upto_region 8 with fail
        clear q0 q1
        generalize wr.alloc (.cells #[.int .i64 a, .slice ua un uc] 42) = w3 at HB3 HX3 ⊢
        have hPj := prune1_any a l (.slice ua un uc) w3 (HE.out.below HB3.out (Nat.le_refl _))
        generalize (!l.any fullB) = bb at hPj HSK HKP
        obtain ⟨_, y0, y1, _, _⟩ := HX3.out
        cases bb with
        | true =>
          have HN := Lib.hid (HSK.out rfl)
          clear HSK HKP
          go_wp2_with (go_at_call 42; (with_reducible refine hPj.mono ?_); rintro e w4 ⟨rfl, hb4⟩; have HB4 := Lib.hid (HB3.out.trans (hb4.mono HB3.out.size)); clear hb4)
          have hww := hw1.out
          rw [hww]
          clear hww
          go_roundw
          case rel => exact ⟨i, j + 1, X, rfl, by go_num, HN.out, own_keepE HO.out HB4.out, HA.out.trans (Ap.of_below HB4.out)⟩
          case measure => simp [intOf]; omega
        | false =>
          have HN := Lib.hid (HKP.out rfl)
          clear HSK HKP
          go_upto_region 9 with (go_at_call 42; (with_reducible refine hPj.mono ?_); rintro e w4 ⟨rfl, hb4⟩; have HB4 := Lib.hid (HB3.out.trans (hb4.mono HB3.out.size)); have HX4 := Lib.hid (HX3.out.below hb4); clear hb4 y0 y1; obtain ⟨_, y0, y1, _, _⟩ := HX4.out)
          have HO4 := Lib.hid (own_keepE HO.out HB4.out)
          obtain ⟨c1, c2⟩ := pC_at X i (by rw [HXL.out]; exact hil)
          have r0 := (World.ownsRow.cellAt HO4.out (i * 2) (by omega)).trans c1
          have r1 := (World.ownsRow.cellAt HO4.out (i * 2 + 1) (by omega)).trans c2
          have f0 := World.ownsRow.frozenAt HO4.out (i * 2)
          have f1 := World.ownsRow.frozenAt HO4.out (i * 2 + 1)
          have HST := Lib.hid (World.ownsRow.stored (World.ownsRow.stored HO4.out (i * 2) (.int .i64 a)).1 (i * 2 + 1) (.slice ua un uc)).1
          have HPS : Hid (((pC X).set (i * 2) (.int .i64 a)).set (i * 2 + 1) (.slice ua un uc) = pC (X.set i (⟨a, l⟩, .slice ua un uc))) := Lib.hid (pC_set X i ⟨a, l⟩ (.slice ua un uc) (by rw [HXL.out]; exact hil))
          clear c1 c2
          go_wp2
          have hww := hw1.out
          have hww2 := hw2.out
          rw [hww, hww2]
          clear hww hww2
          go_roundw
          case rel => exact ⟨i + 1, j + 1, X.set i (⟨a, l⟩, .slice ua un uc), by go_num, by go_num, HN.out, by rw [← HPS.out]; exact HST.out, (HA.out.trans (Ap.of_below HB4.out)).trans ((ap_put _ g (i * 2) _).trans (ap_put _ g (i * 2 + 1) _))⟩
          case measure => simp [intOf]; omega
      · obtain rfl : j = P.length := by omega
        have hdl : decide ((P.length : Int) < (P.length : Int)) = false := decide_eq_false (by omega)
        have hdl2 : decide (P.length < P.length) = false := decide_eq_false (by omega)
        have hnc := HNC.out
        have hci : ¬ cap = i := by omega
        have hil : i ≤ P.length := by omega
        obtain ⟨zs, hzl, hcl⟩ : ∃ zs : List Value, zs.length = (P.length - i) * 2 ∧ ∀ ty, (Builtin.clear_ #[25] ty #[.slice (some ⟨g, i * 2, none⟩) (P.length - i) (cap - i)]).run Tryd.prog wr = .ok (.tuple #[]) (wr.setCells g (i * 2) zs) := by
          have hsome : ∀ q, q < (P.length - i) * 2 → (wr.cell? ⟨g, i * 2 + q, none⟩).isSome = true := fun q hq => by
            rw [World.ownsRow.cellAt HO.out _ (by omega), List.getElem?_eq_getElem (by rw [pC_len, HXL.out]; omega)]; rfl
          obtain ⟨zs, h1, h2⟩ := run_clear_two wr 25 42 0 _ _ _ Tryd.underlying25 tabZero rfl rfl rfl g (i * 2) (P.length - i) (cap - i) (by omega) hsome (fun q _ => World.ownsRow.frozenAt HO.out _)
          exact ⟨zs, h1, fun ty => h2⟩
        have HZL := Lib.hid hzl
        have hi2 : i ≤ cap := by omega
        clear hzl
        go_wp2
        go_ret
        have hO := HO.out
        obtain ⟨g', cap', cur', hv', _, hh', h1', h2', h3'⟩ := own_split hO (by omega)
        injection hv' with e1 _ e3
        injection e1 with e1
        injection e1 with e1 _ _
        subst e1 e3
        obtain ⟨cur2, hk1, hk2⟩ := cells_kind g zs (i * 2) wr cur' hh'
        have hfl : (P.filter keepB).length = i := by rw [← HD.out.done, List.length_take, HXL.out]; omega
        have hap : Ap (fun q => q = g) w (wr.setCells g (i * 2) zs) := Ap.setCells (S := fun q => q = g) (.inl rfl) zs (i * 2) wr HA.out
        refine ⟨_, rfl, ⟨?_, fun p hp => (HEACH.out p (List.mem_filter.1 hp).1).ap hap (fun q e => .inr (.inl (by rw [e]; rfl))), fun q hq => HUP.out q hq, fun p hp => HUPS.out p (List.mem_filter.1 hp).1⟩, hap.weak (fun q e => by rw [e]; rfl)⟩
        rw [hfl]
        refine own_build HGB.out hk1 (by rw [hk2]; exact h3') hi2 h2' (by rw [pC_len, hfl]) (fun q hq => ?_)
        rw [World.cell?_setCells_out g zs (i * 2) wr ⟨g, q, none⟩ (fun _ _ => .inl hq), World.ownsRow.cellAt hO q (by omega), ← HD.out.done, ← pC_take, List.getElem?_take, if_pos hq]
set_option maxRecDepth 100000 in
set_option maxHeartbeats 4000000 in
theorem prune_any (P : List PT) (v : Value) (B U : Nat) (b : Int) (w : World) (hv : PO w B U v P) (hU : U ≤ w.heap.size) (hlen : P.length ≤ 65537) :
    Calls Tryd.prog 21 #[.agg #[.int .i64 b, v]] w fun e w' => ∃ v', e = .returned (.agg #[.int .i64 b, v']) ∧ PO w' B U v' (P.filter keepB) ∧ Ap (fun q => some q = v.ownBlock) w w' := by
  have hD := fun W h => delT_any P v B U W h hlen
  obtain ⟨A, cap, rfl, hA⟩ := own_form hv.own
  have HOB : Hid (∀ q, some q = (Value.slice A P.length cap).ownBlock → q < w.heap.size) := Lib.hid (fun q e => Nat.lt_of_lt_of_le (hv.up q e.symm) hU)
  have HB0 := Lib.hid ((below1 w (.cells #[.int .i64 b, .slice A P.length cap] 27)).alloc (by simp) (.cells #[.int .i64 0, .slice none 0 0] 27))
  have HG1 := Lib.hid ((B2.new w (.int .i64 b) (.slice A P.length cap) 27).below (below1 _ (.cells #[.int .i64 0, .slice none 0 0] 27)))
  have HR1 := Lib.hid (B2.new (w.alloc (.cells #[.int .i64 b, .slice A P.length cap] 27)) (.int .i64 0) (.slice none 0 0) 27)
  rw [World.size_alloc] at HR1
  have HV := Lib.hid (hv.below HB0.out)
  have HU := Lib.hid hU
  clear hv hlen hU hA
  go_enter Tryd.func21, Tryd.ntmps21
  go_upto_region 1 with fail
  generalize (w.alloc (.cells #[.int .i64 b, .slice A P.length cap] 27)).alloc (.cells #[.int .i64 0, .slice none 0 0] 27) = w1 at HB0 HG1 HR1 HV ⊢
  obtain ⟨_, y0, y1, g0, g1⟩ := HG1.out
  go_upto_region 2 with (go_at_call 41; (with_reducible refine (hD _ HV.out).mono ?_); rintro e w2 ⟨v2, rfl, hp2, ha2⟩; (obtain ⟨A2, cap2, rfl, _⟩ := own_form hp2.own); have HP2 := Lib.hid hp2; have HA2 := Lib.hid ha2; have HG2 := Lib.hid (HG1.out.ap ha2 (fun e => by have := HOB.out _ e; omega)); have HR2 := Lib.hid (HR1.out.ap ha2 (fun e => by have := HOB.out _ e; omega)); clear hp2 ha2 y0 y1 g0 g1; obtain ⟨_, y0, y1, g0, g1⟩ := HG2.out)
  have HAP := Lib.hid (ap_put w2 w.heap.size 1 (.slice A2 (P.filter keepB).length cap2))
  have HG3 := Lib.hid (HG2.out.put1 (.slice A2 (P.filter keepB).length cap2))
  have HR3 := Lib.hid (HR2.out.ap HAP.out (by omega))
  have HP3 := Lib.hid (HP2.out.ap HAP.out (fun q e => .inr (by have := HU.out; omega)))
  clear y0 y1 g0 g1
  generalize w2.setCell ⟨w.heap.size, 1, none⟩ (.slice A2 (P.filter keepB).length cap2) = w3 at HAP HG3 HR3 HP3 ⊢
  obtain ⟨_, y0, y1, _, _⟩ := HG3.out
  obtain ⟨_, z0, z1, f0, f1⟩ := HR3.out
  go_wp2
  have hap : Ap (fun q => q = w.heap.size + 1) w3 ((w3.setCell ⟨w.heap.size + 1, 0, none⟩ (.int .i64 b)).setCell ⟨w.heap.size + 1, 1, none⟩ (.slice A2 (P.filter keepB).length cap2)) := (ap_put w3 (w.heap.size + 1) 0 _).trans (ap_put _ (w.heap.size + 1) 1 _)
  have z0' : ((w3.setCell ⟨w.heap.size + 1, 0, none⟩ (.int .i64 b)).setCell ⟨w.heap.size + 1, 1, none⟩ (.slice A2 (P.filter keepB).length cap2)).cell? ⟨w.heap.size + 1, 0, none⟩ = some (.int .i64 b) := (cell_putne _ _ _ _ _ (by omega)).trans (cell_put z0 _)
  have z1' : ((w3.setCell ⟨w.heap.size + 1, 0, none⟩ (.int .i64 b)).setCell ⟨w.heap.size + 1, 1, none⟩ (.slice A2 (P.filter keepB).length cap2)).cell? ⟨w.heap.size + 1, 1, none⟩ = some (.slice A2 (P.filter keepB).length cap2) := cell_put ((cell_putne _ _ _ _ _ (by omega)).trans z1) _
  refine bodyPost_ret (v := .agg #[.int .i64 b, .slice A2 (P.filter keepB).length cap2]) (by simp [results, Tryd.results21, go_sem, z0', z1']) rfl ?_
  refine ⟨_, rfl, HP3.out.ap hap (fun q e => .inr (by have := HU.out; omega)), ?_⟩
  have a1 : Ap (fun q => some q = (Value.slice A P.length cap).ownBlock ∨ w.heap.size ≤ q) w w2 := (Ap.of_below HB0.out).trans (HA2.out.weak (fun q h => .inl h))
  have a2 := (a1.trans (HAP.out.weak (fun q h => .inr (by omega)))).trans (hap.weak (fun q h => .inr (by omega)))
  exact ⟨a2.os, a2.tape, a2.output, a2.size, fun q hq hn => a2.block q hq (fun h => h.elim hn (fun h => by omega))⟩
end Go.Proofs.YtngkbcaflkinhaaDoor
namespace Go.Proofs.YtngkbcaflkinhaaDoor
open Go.RowKit

/-- One table's entries, in a block of their own. -/
def RowO (W : World) (B E : Nat) (ob : Option Nat) (p : PT) : Prop := ∃ g c, p.2 = .slice (some ⟨g, 0, none⟩) E c ∧ RowE W g p.1.l ∧ p.1.l.length = E ∧ E ≤ c ∧ c ≤ maxLen ∧ B ≤ g ∧ some g ≠ ob
theorem RowO.one {W : World} {B E : Nat} {ob : Option Nat} {p : PT} (h : RowO W B E ob p) : OneO W B p.2 p.1.l ob := by
  obtain ⟨g, c, h1, h2, h3, h4, h5, h6, h7⟩ := h
  rw [h1]
  refine ⟨?_, g, E, c, rfl, h6, h2.1, h7⟩
  have := h2.ents c (by omega) h5
  rwa [h3] at this
theorem RowO.ap {S : Nat → Prop} {W W' : World} {B E : Nat} {ob : Option Nat} {p : PT} (h : RowO W B E ob p) (a : Ap S W W') (hS : ∀ q, S q → q < B ∨ some q = ob ∨ some q ≠ p.2.ownBlock) : RowO W' B E ob p := by
  obtain ⟨g, c, h1, h2, h3, h4, h5, h6, h7⟩ := h
  refine ⟨g, c, h1, h2.ap a (fun e => ?_), h3, h4, h5, h6, h7⟩
  rcases hS g e with h | h | h
  · omega
  · exact h7 h
  · rw [h1] at h; exact h rfl
structure PW (W : World) (B U E : Nat) (v : Value) (P : List PT) : Prop where
  own : W.ownsRow B 42 2 v P.length (pC P)
  row : ∀ p ∈ P, RowO W B E v.ownBlock p
  nd : P.Pairwise (fun p q => p.2.ownBlock ≠ q.2.ownBlock)
  up : ∀ g, v.ownBlock = some g → g < U
  ups : ∀ p ∈ P, ∀ g, p.2.ownBlock = some g → g < U
theorem PW.po {W : World} {B U E : Nat} {v : Value} {P : List PT} (k : PW W B U E v P) : PO W B U v P := ⟨k.own, fun p hp => (k.row p hp).one, k.up, k.ups⟩
theorem PW.ap {S : Nat → Prop} {W W' : World} {B U E : Nat} {v : Value} {P : List PT} (k : PW W B U E v P) (a : Ap S W W') (hS : ∀ q, S q → q < B ∨ U ≤ q) : PW W' B U E v P := by
  refine ⟨(k.po.ap a hS).own, fun p hp => (k.row p hp).ap a (fun q h => ?_), k.nd, k.up, k.ups⟩
  rcases hS q h with h1 | h1
  · exact .inl h1
  · exact .inr (.inr (fun e => by have := k.ups p hp q e.symm; omega))
theorem PW.below {W W' : World} {B U E : Nat} {v : Value} {P : List PT} (k : PW W B U E v P) (hb : Below W.heap.size W W') : PW W' B U E v P := k.ap (S := fun _ => False) (Ap.of_below hb) (fun _ h => h.elim)
theorem PW.upto {W : World} {B U U' E : Nat} {v : Value} {P : List PT} (k : PW W B U E v P) (h : U ≤ U') : PW W B U' E v P :=
  ⟨k.own, k.row, k.nd, fun g hg => Nat.lt_of_lt_of_le (k.up g hg) h, fun p hp g hg => Nat.lt_of_lt_of_le (k.ups p hp g hg) h⟩
theorem pC_same : ∀ (P : List PT) (j : Nat) (t : TB), t.at' = (P.getD j PT.zero).1.at' → pC (P.set j (t, (P.getD j PT.zero).2)) = pC P
  | [], _, _, _ => rfl
  | p :: r, 0, t, h => by
    show .int .i64 t.at' :: p.2 :: pC r = .int .i64 p.1.at' :: p.2 :: pC r
    rw [show t.at' = p.1.at' from h]
  | p :: r, j + 1, t, h => by
    show .int .i64 p.1.at' :: p.2 :: pC (r.set j (t, (r.getD j PT.zero).2)) = .int .i64 p.1.at' :: p.2 :: pC r
    rw [pC_same r j t h]
/-- An entry is set. -/
theorem PW.put {W : World} {B U E : Nat} {v : Value} {P : List PT} (k : PW W B U E v P) {j r : Nat} (hj : j < P.length) (hr : r < E) (x : EN) {g c : Nat} (hg : (P.getD j PT.zero).2 = .slice (some ⟨g, 0, none⟩) E c) :
    PW (putN W g (r * 4) x) B U E v (P.set j (⟨(P.getD j PT.zero).1.at', (P.getD j PT.zero).1.l.set r x⟩, (P.getD j PT.zero).2)) := by
  have hap := ap_putN W g (r * 4) x
  have hm := getD_memP hj
  obtain ⟨g', c', h1, h2, h3, h4, h5, h6, h7⟩ := k.row _ hm
  rw [hg] at h1
  injection h1 with e1 _ e3
  injection e1 with e1
  injection e1 with e1 _ _
  subst e1 e3
  have hmem : ∀ p, p ∈ P.set j (⟨(P.getD j PT.zero).1.at', (P.getD j PT.zero).1.l.set r x⟩, (P.getD j PT.zero).2) → p = (⟨(P.getD j PT.zero).1.at', (P.getD j PT.zero).1.l.set r x⟩, (P.getD j PT.zero).2) ∨ (p ∈ P ∧ some g ≠ p.2.ownBlock) := fun p hp => by
    obtain ⟨i, hi, rfl⟩ := List.mem_iff_getElem.1 hp
    rw [List.length_set] at hi
    by_cases e : i = j
    · subst e; left; rw [List.getElem_set_self]
    · right
      rw [List.getElem_set_ne (by omega)]
      refine ⟨List.getElem_mem _, fun eq => ?_⟩
      have e2 : (P.getD j PT.zero).2.ownBlock = some g := by rw [hg]; rfl
      have e3 : P.getD j PT.zero = P[j] := by rw [List.getD, List.getElem?_eq_getElem hj]; rfl
      rw [e3] at e2
      have hp := List.pairwise_iff_getElem.1 k.nd
      rcases Nat.lt_or_gt_of_ne e with h | h
      · exact hp i j hi hj h (by rw [e2]; exact eq.symm)
      · exact hp j i hj hi h (by rw [e2]; exact eq)
  refine ⟨⟨?_, ?_⟩, fun p hp => ?_, ?_, k.up, fun p hp q hq => ?_⟩
  · rw [pC_len, List.length_set]
  · rw [List.length_set, pC_same P j ⟨(P.getD j PT.zero).1.at', (P.getD j PT.zero).1.l.set r x⟩ rfl]
    rcases k.own.2 with h0 | ⟨gv, cap, cur, rfl, hgv, hh, rr⟩
    · exact .inl h0
    · exact .inr ⟨gv, cap, cur, rfl, hgv, (hap.block gv (Array.getElem?_eq_some_iff.1 hh).1 (fun e => h7 (by rw [← e]; rfl))).trans hh, rr⟩
  · rcases hmem p hp with rfl | ⟨hp', hne⟩
    · exact ⟨g, c, hg, h2.put r (by rw [h3]; exact hr) x, by rw [List.length_set]; exact h3, h4, h5, h6, h7⟩
    · exact (k.row p hp').ap hap (fun q e => .inr (.inr (by rw [e]; exact hne)))
  · have : (P.set j (⟨(P.getD j PT.zero).1.at', (P.getD j PT.zero).1.l.set r x⟩, (P.getD j PT.zero).2)).map (fun p => p.2.ownBlock) = P.map (fun p => p.2.ownBlock) := by
      rw [List.map_set]
      apply List.ext_getElem?
      intro i
      rw [List.getElem?_set]
      by_cases e : j = i
      · subst e
        rw [if_pos rfl, List.length_map, if_pos hj, List.getElem?_map, List.getD, List.getElem?_eq_getElem hj]; rfl
      · rw [if_neg e]
    have h8 : (P.map (fun p : PT => p.2.ownBlock)).Pairwise (fun a b => a ≠ b) := List.pairwise_map.2 k.nd
    rw [← this] at h8
    exact List.pairwise_map.1 h8
  · rcases hmem p hp with rfl | ⟨hp', _⟩
    · exact k.ups _ hm q hq
    · exact k.ups p hp' q hq
/-! ### where tables lie, told as a list -/
theorem tabs_us {w : World} {v : Value} {T : List TB} (h : TabsS w v T) : ∃ A cap us, v = .slice A T.length cap ∧ T.length ≤ cap ∧ cap ≤ maxLen ∧ us.length = T.length ∧ (A = none → T.length = 0) ∧
    (∀ j u, (tCells T us)[j]? = some u → ∀ ad, A = some ad → w.cell? (ad.add j) = some u) ∧ (∀ ad, A = some ad → T.length ≠ 0 → ad.block < w.heap.size) ∧ (∀ u ∈ us, u.oneCell' = true) ∧ ∀ j, j < T.length → EntsS w (us.getD j (.slice none 0 0)) (T.getD j TB.zero).l := by
  obtain ⟨A, cap, hv, h1, h2, h3⟩ := h
  rcases h3 with rfl | ⟨b, off, rfl, hlt, hc⟩
  · exact ⟨A, cap, [], hv, h1, h2, rfl, fun _ => rfl, fun j u hu => by simp [tCells] at hu, fun _ _ h => absurd rfl h, fun u hu => by simp at hu, fun j hj => absurd hj (by simp)⟩
  · obtain ⟨us, hus⟩ : ∃ us : List Value, us = (List.range T.length).map (fun j => (w.cell? ⟨b, off + j * 2 + 1, none⟩).getD (.slice none 0 0)) := ⟨_, rfl⟩
    have hl : us.length = T.length := by rw [hus]; simp
    have hat : ∀ j, j < T.length → us[j]? = w.cell? ⟨b, off + j * 2 + 1, none⟩ := fun j hj => by
      obtain ⟨u, _, h2, _⟩ := hc j hj
      rw [hus, List.getElem?_map, List.getElem?_range hj, h2]; simp [h2]
    refine ⟨some ⟨b, off, none⟩, cap, us, hv, h1, h2, hl, fun h => by (cases h), fun j u hu ad had => ?_, fun ad had _ => ?_, fun u hu => ?_, fun j hj => ?_⟩
    · injection had with had
      subst had
      exact tabs_cells hl (fun j hj => by
        obtain ⟨u, e1, _, _⟩ := hc j hj
        exact ⟨e1, (hat j hj).symm⟩) j u hu
    · injection had with had
      subst had
      exact hlt
    · obtain ⟨j, hj, rfl⟩ := List.mem_iff_getElem.1 hu
      rw [hl] at hj
      obtain ⟨x, _, e2, e3⟩ := hc j hj
      have h9 := hat j hj
      rw [e2, List.getElem?_eq_getElem (by omega)] at h9
      injection h9 with h9
      rw [h9]
      obtain ⟨A', c', e4, _⟩ := e3
      rw [e4]; rfl
    · obtain ⟨x, _, e2, e3⟩ := hc j hj
      rw [List.getD, hat j hj, e2]; exact e3
end Go.Proofs.YtngkbcaflkinhaaDoor
