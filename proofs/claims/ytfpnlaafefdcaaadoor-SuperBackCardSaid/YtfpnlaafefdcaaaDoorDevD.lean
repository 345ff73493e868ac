/- The contract of a device's Read. -/
import Derived.Test.YtfpnlaafefdcaaaDoorDevC
namespace Go.Proofs.YtfpnlaafefdcaaaDoor
open Go.RowKit Go.Maps

theorem u8a_size (l : List UInt8) : (U8s l).toArray.size = l.length := by rw [List.size_toArray, u8s_len]
theorem string_at {w : World} {b off cap : Nat} {l : List UInt8} (n : Nat) (hn : n = l.length) (h : Row8 w b off l) :
    (convert 87 9 (.slice (some ⟨b, off, none⟩) n cap)).run Tryd.prog w = .ok (.string ⟨l.toArray⟩) w := by
  subst hn
  refine run_convert_bytes_back w 87 9 5 ⟨b, off, none⟩ cap l Tryd.underlying87 Tryd.underlying5 Tryd.underlying9 (fun j hj => ?_)
  rw [Addr.add_mid, (h.2 j hj).1, List.getD, List.getElem?_eq_getElem hj]; rfl
theorem zc_elem (w : World) : secElem (.agg Tryd.zeroCells117) = some (.lit (.string blankB), []) := by rw [zc_eq w]; exact secElem_mk blankB_len
/-- A sector put into a new variable. -/
theorem var_facts {w : World} {h : DH} {M : DM} (d : DevAt w h M) {l : List UInt8} (hl : l.length = 512) :
    ∃ W2 : World, W2 = (w.alloc (.cells Tryd.zeroCells117 117)).setCells w.heap.size 0 (U8s l) ∧ DevAt W2 h M ∧ Below w.heap.size w W2 ∧ Row8 W2 w.heap.size 0 l := by
  have ht : (w.alloc (.cells Tryd.zeroCells117 117)).there w.heap.size 0 (U8s l).length := by rw [u8s_len, hl]; exact zc_there w
  refine ⟨_, rfl, ?_, ?_, ?_⟩
  · refine DevAt.ap (S := fun k => k = w.heap.size) (d.alloc _) (ap_setCells _ _ _ _) (fun k hk e => ?_)
    have h1 := d.ltb; have h2 := d.ltbs; have h3 := d.wait.lt; have h4 := d.badm.lt
    rcases hk with hk | hk | hk | hk <;> omega
  · exact Ap.below (S := fun k => k = w.heap.size) (Ap.setCells (S := fun k => k = w.heap.size) (.inl rfl) _ _ _ ((Ap.refl w).alloc _)) (Nat.le_refl _) (fun k hk => by omega)
  · exact Row8.of_range (by rw [size_setCells]; simp) (World.rangeAt_setCells_same _ _ _ _ ht) (by rw [← u8s_len l]; exact World.there_setCells ht _ _ _)
def readE (M : DM) (a : Int) : Int := if M.down = true then 12 else if hasB M.n a = false then 1 else match M.fresh a.toNat with
  | some _ => 0
  | none => if M.bad a.toNat = true then 9 else 0
def readV (M : DM) (a : Int) : List UInt8 := if readE M a = 0 then (match M.fresh a.toNat with
  | some l => l
  | none => M.sure a.toNat) else []
theorem emptyStr : (⟨([] : List UInt8).toArray⟩ : ByteArray) = ⟨#[]⟩ := rfl
set_option maxHeartbeats 1000000 in
set_option maxRecDepth 100000 in
theorem devRead_fresh {w : World} {h : DH} {M : DM} (d : DevAt w h M) (hdn : M.down = false) (i : Nat) (hi : i < M.n) (l : List UInt8) (hf : M.fresh i = some l) :
    Calls Tryd.prog 126 #[.pointer (some ⟨h.b, 0, none⟩), .int .i64 (i : Int)] w fun e w' => e = .returned (.tuple #[.string ⟨l.toArray⟩, .int .i64 0]) ∧ Below w.heap.size w w' := by
  have hH := devHas_any d (i : Int)
  rw [show hasB M.n (i : Int) = true by unfold hasB; exact decide_eq_true (by omega)] at hH
  have hDn := devDown_any d
  rw [hdn] at hDn
  have hl := d.flen i l hi hf
  obtain ⟨W2, hW2, hd2, hb2, hr2⟩ := var_facts d hl
  have c1 := d.c1
  obtain ⟨D, ho, hh, hv, hsz⟩ := d.wait
  have hhas : Maps.has D (kLit i) = true := by
    have := (hh (i : Int)).2 ⟨by omega, by simpa using hi, by simp [hf]⟩
    exact this
  have hat := hv i l hi hf
  have hkey : keyOf Tryd.prog 3 (.int .i64 (i : Int)) = some (kLit i) := Maps.keyOf_int_mk Tryd.underlying3 (wf_nat (by have := d.n2; omega))
  have HG : Hid (∀ v ps, secElem v = some (D.atKey (kLit i) (.lit (.string blankB)), ps) → v = .agg (U8s l).toArray) := Lib.hid (fun v ps hv => by
    obtain ⟨l', _, hv', hz⟩ := secElem_inv hv
    rw [hat] at hz
    injection hz with hz _
    injection hz with hz
    injection hz with hz
    rw [hv', hz])
  have hZ := zc_elem w
  have HT : Hid ((w.alloc (.cells Tryd.zeroCells117 117)).there w.heap.size 0 (U8s l).toArray.size) := Lib.hid (by rw [u8a_size, hl]; exact zc_there w)
  have HII : Hid ((Tryd.prog.info? 117).map (·.size) = some (U8s l).toArray.size) := Lib.hid (by rw [secSize, u8a_size, hl])
  have H1 : Hid ((U8s l).toArray.all (·.oneCell') = true) := Lib.hid (all_oneCell_toArray (u8s_one l))
  have hcv := string_at (cap := 512) 512 hl.symm hr2
  rw [hW2] at hcv hb2
  have HK := Lib.hid hkey
  have HHas := Lib.hid hhas
  have HZ := Lib.hid hZ
  have HB := Lib.hid hb2
  clear d hdn hl hW2 hd2 hb2 hr2 hh hv hsz hhas hat hkey hZ hf
  go_enter Tryd.func126, Tryd.ntmps126
  go_wp2_with (first
    | (go_at_call 89; refine hDn.mono ?_; rintro e w' ⟨rfl, rfl⟩)
    | (go_at_call 61; refine hH.mono ?_; rintro e w' ⟨rfl, rfl⟩)
    | (at_lookup; refine wpList_lookup_own_ok _ rfl _ _ 109 rfl 3 117 intK Tryd.underlying109 secElem (Tryd.zeroValue117 _) _ [] HZ.out h.bw (Maps.size D) D rfl ho _ _ rfl HK.out ?_; intro v ps hv; have hv2 := HG.out v ps hv; subst hv2; clear hv; rw [HHas.out])
    | (with_reducible refine wpList_store_mid rfl 117 (.tmp 6) (.tmp 21) rfl w.heap.size 0 (U8s l).toArray rfl rfl HT.out HII.out H1.out ?_))
  go_ret2
  exact ⟨rfl, HB.out⟩

set_option maxHeartbeats 1000000 in
set_option maxRecDepth 100000 in
theorem devRead_sure {w : World} {h : DH} {M : DM} (d : DevAt w h M) (hdn : M.down = false) (i : Nat) (hi : i < M.n) (hf : M.fresh i = none) :
    Calls Tryd.prog 126 #[.pointer (some ⟨h.b, 0, none⟩), .int .i64 (i : Int)] w fun e w' => e = .returned (.tuple #[.string ⟨(if M.bad i = true then [] else M.sure i).toArray⟩, .int .i64 (if M.bad i = true then 9 else 0)]) ∧ Below w.heap.size w w' := by
  have hH := devHas_any d (i : Int)
  rw [show hasB M.n (i : Int) = true by unfold hasB; exact decide_eq_true (by omega)] at hH
  have hDn := devDown_any d
  rw [hdn] at hDn
  have hl := blankB_len
  obtain ⟨W2, hW2, hd2, hb2, _⟩ := var_facts d hl
  have hIB := devIsBad_any hd2 i hi
  have c1 := d.c1
  obtain ⟨D, ho, hh, hv, hsz⟩ := d.wait
  have hhas : Maps.has D (kLit i) = false := by
    have := hh (i : Int)
    cases hc : Maps.has D (kLit i)
    · rfl
    · have := (this.1 hc).2.2; simp [hf] at this
  have hkey : keyOf Tryd.prog 3 (.int .i64 (i : Int)) = some (kLit i) := Maps.keyOf_int_mk Tryd.underlying3 (wf_nat (by have := d.n2; omega))
  have HG : Hid (∀ v ps, secElem v = some (D.atKey (kLit i) (.lit (.string blankB)), ps) → v = .agg (U8s blankB).toArray) := Lib.hid (fun v ps hv => by
    obtain ⟨l', _, hv', hz⟩ := secElem_inv hv
    rw [atKey_of_not_has hhas] at hz
    injection hz with hz _
    injection hz with hz
    injection hz with hz
    rw [hv', hz])
  have hZ := zc_elem w
  have HT : Hid ((w.alloc (.cells Tryd.zeroCells117 117)).there w.heap.size 0 (U8s blankB).toArray.size) := Lib.hid (by rw [u8a_size, hl]; exact zc_there w)
  have HII : Hid ((Tryd.prog.info? 117).map (·.size) = some (U8s blankB).toArray.size) := Lib.hid (by rw [secSize, u8a_size, hl])
  have H1 : Hid ((U8s blankB).toArray.all (·.oneCell') = true) := Lib.hid (all_oneCell_toArray (u8s_one blankB))
  have hn2 := d.n2
  have hlen := d.lens i hi
  have hcap1 := d.cap1
  have hcap2 := d.cap2
  have HC3 : Hid (∀ w3 : World, Below W2.heap.size W2 w3 → w3.cell? ⟨h.b, 0, none⟩ = some (.slice (some ⟨h.bs, 0, none⟩) M.n h.cap) ∧ (convert 87 9 (.slice (some ⟨h.bs, i * 512, none⟩) 512 512)).run Tryd.prog w3 = .ok (.string ⟨(M.sure i).toArray⟩) w3) := Lib.hid (fun w3 hb => by
    have hd3 := hd2.below hb
    exact ⟨hd3.c0, string_at (cap := 512) 512 (hd3.lens i hi).symm (hd3.rows i hi)⟩)
  have hsz2 : w.heap.size ≤ W2.heap.size := hb2.size
  have HSZ := Lib.hid hsz2
  rw [hW2] at hIB hb2 HC3 HSZ
  have HK := Lib.hid hkey
  have HHas := Lib.hid hhas
  have HZ := Lib.hid hZ
  have HB := Lib.hid hb2
  clear d hdn hW2 hd2 hb2 hh hv hsz hhas hkey hZ hf hsz2 hl hlen
  have hi0 : (0 : Int) ≤ (i : Int) := by omega
  have hi1 : (i : Int) < (M.n : Int) := by omega
  cases hbad : M.bad i
  all_goals rw [hbad] at hIB
  all_goals simp only [Bool.false_eq_true, if_false, if_true]
  all_goals clear hbad
  all_goals go_enter Tryd.func126, Tryd.ntmps126
  all_goals go_wp2_with (first
    | (go_at_call 89; refine hDn.mono ?_; rintro e w' ⟨rfl, rfl⟩)
    | (go_at_call 61; refine hH.mono ?_; rintro e w' ⟨rfl, rfl⟩)
    | (go_at_call 131; refine hIB.mono ?_; rintro e w3 ⟨rfl, hb3⟩; obtain ⟨c0, hcv⟩ := HC3.out w3 hb3; have HB3 := Lib.hid hb3; clear hb3)
    | (at_lookup; refine wpList_lookup_own_ok _ rfl _ _ 109 rfl 3 117 intK Tryd.underlying109 secElem (Tryd.zeroValue117 _) _ [] HZ.out h.bw (Maps.size D) D rfl ho _ _ rfl HK.out ?_; intro v ps hv; have hv2 := HG.out v ps hv; subst hv2; clear hv; rw [HHas.out])
    | (with_reducible refine wpList_store_mid rfl 117 (.tmp 6) (.tmp 21) rfl w.heap.size 0 (U8s blankB).toArray rfl rfl HT.out HII.out H1.out ?_))
  all_goals go_ret2
  all_goals exact ⟨rfl, HB.out.trans (HB3.out.mono HSZ.out)⟩
theorem devRead_any {w : World} {h : DH} {M : DM} (d : DevAt w h M) (a : Int) :
    Calls Tryd.prog 126 #[.pointer (some ⟨h.b, 0, none⟩), .int .i64 a] w fun e w' => e = .returned (.tuple #[.string ⟨(readV M a).toArray⟩, .int .i64 (readE M a)]) ∧ Below w.heap.size w w' := by
  have hH := devHas_any d a
  have hDn := devDown_any d
  by_cases h1 : M.down = true
  · have e1 : readE M a = 12 := if_pos h1
    have e2 : readV M a = [] := by unfold readV; rw [e1, if_neg (by omega)]
    rw [e1, e2]
    rw [h1] at hDn
    clear d e1 e2 h1
    go_enter Tryd.func126, Tryd.ntmps126
    go_wp2_with (first
      | (go_at_call 89; refine hDn.mono ?_; rintro e w' ⟨rfl, rfl⟩)
      | (go_at_call 61; refine hH.mono ?_; rintro e w' ⟨rfl, rfl⟩))
    go_ret2
    exact ⟨rfl, Below.refl _ _⟩
  have h1' : M.down = false := by simpa using h1
  by_cases h2 : hasB M.n a = false
  · have e1 : readE M a = 1 := by unfold readE; rw [if_neg h1, if_pos h2]
    have e2 : readV M a = [] := by unfold readV; rw [e1, if_neg (by omega)]
    rw [e1, e2]
    rw [h1'] at hDn
    rw [h2] at hH
    clear d e1 e2 h1 h1' h2
    go_enter Tryd.func126, Tryd.ntmps126
    go_wp2_with (first
      | (go_at_call 89; refine hDn.mono ?_; rintro e w' ⟨rfl, rfl⟩)
      | (go_at_call 61; refine hH.mono ?_; rintro e w' ⟨rfl, rfl⟩))
    go_ret2
    exact ⟨rfl, Below.refl _ _⟩
  have h2' : hasB M.n a = true := by simpa using h2
  have ha : 0 ≤ a ∧ a < (M.n : Int) := by unfold hasB at h2'; simpa using h2'
  cases hf : M.fresh a.toNat with
  | some l =>
    have e1 : readE M a = 0 := by unfold readE; rw [if_neg h1, if_neg h2]; simp only [hf]
    have e2 : readV M a = l := by unfold readV; rw [e1, if_pos rfl]; simp only [hf]
    rw [e1, e2]
    have := devRead_fresh d h1' a.toNat (by omega) l hf
    rw [Int.toNat_of_nonneg ha.1] at this
    exact this
  | none =>
    have := devRead_sure d h1' a.toNat (by omega) hf
    rw [Int.toNat_of_nonneg ha.1] at this
    have e1 : readE M a = if M.bad a.toNat = true then 9 else 0 := by unfold readE; rw [if_neg h1, if_neg h2]; simp only [hf]
    have e2 : readV M a = if M.bad a.toNat = true then [] else M.sure a.toNat := by
      unfold readV
      rw [e1]
      by_cases g : M.bad a.toNat = true
      · rw [if_pos g, if_pos g, if_neg (by omega)]
      · rw [if_neg g, if_neg g, if_pos rfl]; simp only [hf]
    rw [e1, e2]
    exact this
end Go.Proofs.YtfpnlaafefdcaaaDoor
