/- Pools: only, Keep. -/
import Derived.Test.YtmnjcmpikbihaaaPoolA
import Derived.Test.YtmnjcmpikbihaaaIdx
namespace Go.Proofs.Ytmnjcmpikbihaaa
open Go.RowKit Go.Maps Go.Sort Go.Shelf

theorem keepP_mem {L : PL} {K : List Int} {p : Int × List UInt8} : p ∈ keepP L K ↔ p ∈ L ∧ p.1 ∈ K := by
  unfold keepP; rw [List.mem_filter]; simp
theorem idsP_keep {L : PL} {K : List Int} {x : Int} : x ∈ idsP (keepP L K) ↔ x ∈ idsP L ∧ x ∈ K := by
  unfold idsP
  simp only [List.mem_map]
  constructor
  · rintro ⟨p, hp, rfl⟩
    obtain ⟨h1, h2⟩ := keepP_mem.1 hp
    exact ⟨⟨p, h1, rfl⟩, h2⟩
  · rintro ⟨⟨p, hp, rfl⟩, h2⟩
    exact ⟨p, keepP_mem.2 ⟨hp, h2⟩, rfl⟩
theorem mem_takeS {K : List Int} {k : Nat} (h : k < K.length) {y : Int} : y ∈ K.take (k + 1) ↔ y = K.getD k 0 ∨ y ∈ K.take k := by
  rw [List.take_succ_eq_append_getElem h, List.mem_append, List.mem_singleton, List.getD, List.getElem?_eq_getElem h]
  exact or_comm
theorem keepP_nil (L : PL) : keepP L [] = [] := by unfold keepP; simp
theorem keepP_no {L : PL} {K : List Int} {k : Nat} (h : k < K.length) (hn : K.getD k 0 ∉ idsP L) : keepP L (K.take (k + 1)) = keepP L (K.take k) := by
  unfold keepP
  refine List.filter_congr fun p hp => ?_
  have hne : p.1 ≠ K.getD k 0 := fun e => hn (by rw [← e]; exact List.mem_map.2 ⟨p, hp, rfl⟩)
  rw [Bool.eq_iff_iff]
  simp only [List.contains_iff_mem]
  rw [mem_takeS h]
  exact ⟨fun h => h.resolve_left hne, .inr⟩
theorem keep_len (L : PL) (K : List Int) : (keepP L K).length ≤ L.length := List.length_filter_le _ _
theorem keep_put {w w' : World} {b m n : Nat} {L : PL} {K : List Int} {k : Nat} {x : Int} {l : List UInt8} {D : DataW Unit} (hr : (idsP L).Pairwise (· < ·)) (h : k < K.length) (hx : K.getD k 0 = x) (hg : getP L x = some l)
    (ho : w.ownsMap Try.prog 3 datElem b m D) (hh : ∀ x : Int, has D (kI x) = true ↔ x ∈ idsP (keepP L (K.take k))) (hv : ∀ p ∈ keepP L (K.take k), ∀ z, D.atKey (kI p.1) z = .lit (.string p.2))
    (h' : w'.ownsMap Try.prog 3 datElem b n (D.put (kI x) (.lit (.string l)))) : PMap w' b (keepP L (K.take (k + 1))) := by
  have hm : x ∈ idsP L := getP_has.2 (by rw [hg]; rfl)
  refine PMap.put ho hh hv x l h' (fun y => ?_) (fun p hp => ?_)
  · rw [idsP_keep, idsP_keep, mem_takeS h, hx]
    constructor
    · rintro ⟨h1, h2 | h2⟩
      · exact .inl h2
      · exact .inr ⟨h1, h2⟩
    · rintro (h1 | ⟨h1, h2⟩)
      · exact ⟨by rw [h1]; exact hm, .inl h1⟩
      · exact ⟨h1, .inr h2⟩
  · obtain ⟨h1, h2⟩ := keepP_mem.1 hp
    rw [mem_takeS h, hx] at h2
    by_cases e : p.1 = x
    · left
      have := getP_some hr h1
      rw [e, hg] at this
      injection this with this
      exact Prod.ext e this.symm
    · exact .inr ⟨keepP_mem.2 ⟨h1, h2.resolve_left e⟩, e⟩
set_option maxHeartbeats 2000000 in
set_option maxRecDepth 100000 in
theorem only_any {w : World} {m : Nat} {L : PL} (hm : PMap w m L) (hr : (idsP L).Pairwise (· < ·)) (hlen : L.length ≤ 1073741824) {v : Value} {K : List Int} (hv : IdxS w v K) (hwf : ∀ x ∈ K, -9223372036854775808 ≤ x ∧ x ≤ 9223372036854775807) :
    Calls Try.prog 19 #[.map (some m), v] w fun e w' => e = .returned (.map (some w.heap.size)) ∧ PMap w' w.heap.size (keepP L K) ∧ Below w.heap.size w w' := by
  obtain ⟨A, c1, rfl, k1, k2, k3⟩ := hv
  have hmm := @run_makeMap Try.prog
  have hZ : ∀ W : World, (zeroValue 55).run Try.prog W = .ok (.agg #[.string ⟨#[]⟩]) W := zDat
  have HZ := Lib.hid hZ
  have HP0 := Lib.hid (pmap_new w)
  have HB0 := Lib.hid (below1P w (.map #[] 0))
  have HM := Lib.hid hm
  have HR := Lib.hid hr
  have HK := Lib.hid k3
  have HWF := Lib.hid hwf
  have HLN := Lib.hid hlen
  have hmlt := hm.lt
  have HML := Lib.hid hmlt
  obtain ⟨n, hn⟩ : ∃ n, n = K.length := ⟨_, rfl⟩
  have HN := Lib.hid hn
  rw [← hn] at k1 ⊢
  obtain ⟨R, hRR⟩ : ∃ R, R = keepP L K := ⟨_, rfl⟩
  rw [← hRR]
  have HRR := Lib.hid hRR
  clear hm hr hlen k3 hwf hZ hmlt hn hRR
  go_enter Try.func19, Try.ntmps19
  go_wp2_with fail
  go_loopw [13] (fun ix wr => ∃ j : Nat, j ≤ n ∧ ix = .int .i64 (j : Int) ∧ PMap wr w.heap.size (keepP L (K.take j)) ∧ Below w.heap.size w wr) (fun ix _ => n - idxOf ix)
  case atStart => exact ⟨0, Nat.zero_le _, rfl, by rw [List.take_zero, keepP_nil]; exact HP0.out, HB0.out⟩
  case round =>
    obtain ⟨j, hj, rfl, hp, hb⟩ := hrel
    have HB := Lib.hid hb
    have HP := Lib.hid hp
    clear hp hb
    by_cases hlt : j < n
    · obtain ⟨g, o, rfl, hglt, hk⟩ := HK.out.resolve_left (by intro e; have := HN.out; rw [e] at this; simp at this; omega)
      have hjK : j < K.length := by rw [← HN.out]; exact hlt
      have ck : wr.cell? ⟨g, o + j, none⟩ = some (.int .i64 (K.getD j 0)) := (HB.out.cell (p := ⟨g, o + j, none⟩) hglt).trans (hk j hjK)
      have hmem : K.getD j 0 ∈ K := by rw [List.getD, List.getElem?_eq_getElem hjK]; exact List.getElem_mem hjK
      have hx := HWF.out _ hmem
      obtain ⟨x, hxe⟩ : ∃ x, K.getD j 0 = x := ⟨_, rfl⟩
      rw [hxe] at ck hx
      have HX := Lib.hid hxe
      have hkey : keyOf Try.prog 3 (.int .i64 x) = some (kI x) := Maps.keyOf_int_mk Try.underlying3 (by simp [Lit.wf, IntKind.min, IntKind.max, IntKind.signed, IntKind.bits]; omega)
      have HKY := Lib.hid hkey
      have HJK := Lib.hid hjK
      have hsz := HB.out.size
      have hpm : PMap wr m L := by
        obtain ⟨D, ho, r⟩ := HM.out
        obtain ⟨es, clock, e1, r1⟩ := ho
        exact ⟨D, ⟨es, clock, (HB.out.block m HML.out).trans e1, r1⟩, r⟩
      obtain ⟨D, ho, hh, hv⟩ := hpm
      clear hk hxe hmem hjK hkey hx
      have hi0 : (0 : Int) ≤ (j : Int) := by omega
      have hi1 : (j : Int) < (n : Int) := by omega
      have hw1 : wrap64 ((j : Int) + 1) = (j : Int) + 1 := by unfold wrap64; unfold maxLen at *; omega
      have hw2 : IntKind.i64.wrap ((j : Int) + 1) = (j : Int) + 1 := by rw [IntKind.wrap_i64]; unfold maxLen at *; omega
      have HSZ := Lib.hid hsz
      clear hsz
      cases hg : getP L x with
      | some l =>
        have hhas : Maps.has D (kI x) = true := (hh x).2 (getP_has.2 (by rw [hg]; rfl))
        have hat := hv _ (getP_mem hg)
        have HG : Hid (∀ v ps, datElem v = some (D.atKey (kI x) (.lit (.string [])), ps) → v = .agg #[.string ⟨l.toArray⟩]) := Lib.hid (fun v ps hv => by
          obtain ⟨s, hv', hz⟩ := datElem_inv hv
          rw [hat] at hz
          injection hz with hz _
          injection hz with hz
          injection hz with hz
          rw [hv', show l = s.data.toList from hz, Array.toArray_toList])
        have HHas := Lib.hid hhas
        have HGP := Lib.hid hg
        have hBA := below1P wr (.cells #[.string ⟨l.toArray⟩] 55)
        obtain ⟨D2, ho2, hh2, hv2⟩ := HP.out.below hBA
        have HBA := Lib.hid hBA
        have HH2 := Lib.hid hh2
        have HV2 := Lib.hid hv2
        have hroom : Maps.size D2 < maxLen := by
          have e := sizeP ho2 intKP Try.underlying3 (idsP_rise HR.out _) hh2
          have h1 := keep_len L (K.take j)
          have h2 := HLN.out
          have h3 : (idsP (keepP L (K.take j))).length = (keepP L (K.take j)).length := by simp [idsP]
          have h4 : Maps.size D2 = (keepP L (K.take j)).length := e.trans h3
          unfold maxLen; omega
        have HRM := Lib.hid hroom
        clear hh hv hhas hat hg hBA hh2 hv2 hroom
        go_wp2_with (first
          | (at_lookup; refine wpList_lookup_own_ok _ rfl _ _ 48 rfl 3 55 intKP Try.underlying48 datElem (HZ.out _) _ [] (datElem_mk ⟨#[]⟩) m (Maps.size D) D rfl ho _ _ rfl HKY.out ?_; intro v ps hv; have hv2 := HG.out v ps hv; subst hv2; clear hv; rw [HHas.out])
          | (at_mapUpdate; refine wpList_mapUpdate_in _ rfl _ _ _ 48 rfl 3 55 intKP Try.underlying48 datElem w.heap.size (Maps.size D2) D2 rfl ho2 HRM.out _ _ _ rfl rfl HKY.out _ _ (datElem_mk ⟨l.toArray⟩) ?_; intro w1 ho1 ht1))
        go_roundw
        case rel =>
          have ha : Ap (fun k => k = w.heap.size) wr w1 := (Ap.of_below HBA.out).turned (.inl rfl) ht1
          exact ⟨j + 1, by omega, by go_num, keep_put HR.out HJK.out HX.out HGP.out ho2 HH2.out HV2.out ho1, HB.out.trans (ha.below HSZ.out (fun k hk => by omega))⟩
        case measure => simp [idxOf]; omega
      | none =>
        have hhas : Maps.has D (kI x) = false := by
          cases hc : Maps.has D (kI x)
          · rfl
          · have := getP_has.1 ((hh x).1 hc); rw [hg] at this; cases this
        have HG : Hid (∀ v ps, datElem v = some (D.atKey (kI x) (.lit (.string [])), ps) → v = .agg #[.string ⟨#[]⟩]) := Lib.hid (fun v ps hv => by
          obtain ⟨s, hv', hz⟩ := datElem_inv hv
          rw [atKey_of_not_has hhas] at hz
          injection hz with hz _
          injection hz with hz
          injection hz with hz
          rw [hv', show s = ⟨#[]⟩ from ByteArray.ext (Array.ext' hz.symm)])
        have HHas := Lib.hid hhas
        have HBA := Lib.hid (below1P wr (.cells #[.string ⟨#[]⟩] 55))
        have HNO : Hid (keepP L (K.take (j + 1)) = keepP L (K.take j)) := Lib.hid (keepP_no HJK.out (by rw [HX.out]; intro h; have := getP_has.1 h; rw [hg] at this; cases this))
        clear hh hv hhas hg
        go_wp2_with (first
          | (at_lookup; refine wpList_lookup_own_ok _ rfl _ _ 48 rfl 3 55 intKP Try.underlying48 datElem (HZ.out _) _ [] (datElem_mk ⟨#[]⟩) m (Maps.size D) D rfl ho _ _ rfl HKY.out ?_; intro v ps hv; have hv2 := HG.out v ps hv; subst hv2; clear hv; rw [HHas.out]))
        go_roundw
        case rel => exact ⟨j + 1, by omega, by go_num, by rw [HNO.out]; exact HP.out.below HBA.out, HB.out.trans (HBA.out.mono HSZ.out)⟩
        case measure => simp [idxOf]; omega
    · obtain rfl : j = n := by omega
      have hno : ¬ ((j : Int) < (j : Int)) := by omega
      go_wp2_with fail
      go_ret
      have e : K.take j = K := by rw [HN.out, List.take_length]
      refine ⟨rfl, ?_, HB.out⟩
      rw [HRR.out, ← e]; exact HP.out
end Go.Proofs.Ytmnjcmpikbihaaa
