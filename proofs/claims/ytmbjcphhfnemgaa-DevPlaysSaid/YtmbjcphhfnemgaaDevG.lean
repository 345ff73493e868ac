/- The contract of a device's Crash. -/
import Derived.Test.YtmbjcphhfnemgaaDevF
namespace Go.Proofs.Ytmbjcphhfnemgaa
open Go.RowKit Go.Maps

/-- A slice of bools that lies beside the device. -/
def BoolsAt (w : World) (h : DH) (v : Value) (Q : List Bool) : Prop :=
  ∃ A cap, v = .slice A Q.length cap ∧ Q.length ≤ cap ∧ cap ≤ 9223372036854775807 ∧ (Q = [] ∨ ∃ b off, A = some ⟨b, off, none⟩ ∧ b < w.heap.size ∧ ¬ h.S b ∧ ∀ j, j < Q.length → w.cell? ⟨b, off + j, none⟩ = some (.bool (Q.getD j false)))
theorem BoolsAt.ap {S : Nat → Prop} {w w' : World} {h : DH} {v : Value} {Q : List Bool} (k : BoolsAt w h v Q) (a : Ap S w w') (hS : ∀ x, S x → h.S x) : BoolsAt w' h v Q := by
  obtain ⟨A, cap, hv, h1, h2, h3⟩ := k
  refine ⟨A, cap, hv, h1, h2, ?_⟩
  rcases h3 with h3 | ⟨b, off, hA, hb, hn, hc⟩
  · exact .inl h3
  · exact .inr ⟨b, off, hA, Nat.lt_of_lt_of_le hb a.size, hn, fun j hj => (a.cell hb (fun e => hn (hS _ e)) _).trans (hc j hj)⟩
/-- Which of the sectors that wait are kept: those at whose place keep is true. -/
def keptB (L : List Nat) (Q : List Bool) (i : Nat) : Bool := (L.zip Q).any (fun p => p.1 == i && p.2)
def crashN (M : DM) (L : List Nat) (Q : List Bool) : DM := { M with sure := fun i => if keptB L Q i = true then (M.fresh i).getD [] else M.sure i, bad := fun i => M.bad i && !keptB L Q i }
def waitL (M : DM) : List Nat := (List.range M.n).filter (fun i => (M.fresh i).isSome)
def crashM (M : DM) (Q : List Bool) : DM := { crashN M (waitL M) Q with fresh := fun _ => none, down := false, left := -1 }
theorem take_step {L : List Nat} {k : Nat} (hk : k < L.length) : L.take (k + 1) = L.take k ++ [L.getD k 0] := by
  rw [List.take_succ_eq_append_getElem hk, List.getD, List.getElem?_eq_getElem hk]; rfl
theorem zip_snoc : ∀ (A : List Nat) (x : Nat) (Q : List Bool), (A ++ [x]).zip Q = A.zip Q ++ (if A.length < Q.length then [(x, Q.getD A.length false)] else [])
  | [], x, [] => rfl
  | [], x, q :: r => by simp [List.zip]
  | a :: A, x, [] => by simp
  | a :: A, x, q :: r => by
    have := zip_snoc A x r
    simp only [List.cons_append, List.zip_cons_cons, List.length_cons, Nat.add_lt_add_iff_right, List.getD_cons_succ]
    rw [this]
theorem kept_step {L : List Nat} {Q : List Bool} {k : Nat} (hk : k < L.length) (i : Nat) :
    keptB (L.take (k + 1)) Q i = (keptB (L.take k) Q i || (L.getD k 0 == i && (decide (k < Q.length) && Q.getD k false))) := by
  have hl : (L.take k).length = k := by rw [List.length_take]; omega
  unfold keptB
  rw [take_step hk, zip_snoc, hl, List.any_append]
  congr 1
  by_cases h : k < Q.length
  · rw [if_pos h]; simp [h]
  · rw [if_neg h]; simp [h]
theorem nums_eq (M : DM) : numsI M.n (fun i => (M.fresh i).isSome) = (waitL M).map (fun i : Nat => (i : Int)) := rfl
/-- The numbers of a slice of the call's own, read. -/
theorem IntsOf.reads {w : World} {base : Nat} {v : Value} {L : List Int} (h : IntsOf w base v L) : (L = [] ∧ v = .slice none 0 0) ∨ ∃ g cap, v = .slice (some ⟨g, 0, none⟩) L.length cap ∧ base ≤ g ∧ g < w.heap.size ∧ L.length ≤ cap ∧ cap ≤ 9223372036854775807 ∧ ∀ j, j < L.length → w.cell? ⟨g, j, none⟩ = some (.int .i64 (L.getD j 0)) := by
  by_cases hL : L = []
  · exact .inl ⟨hL, h.2.2 hL⟩
  · right
    rcases h.1.2 with ⟨e, _⟩ | ⟨g, cap, cur, e, hb, hh, hn, hm, hs, ht⟩
    · exact absurd (h.2.1 e) hL
    · refine ⟨g, cap, e, hb, (Array.getElem?_eq_some_iff.1 hh).1, hn, by unfold maxLen at hm; omega, fun j hj => ?_⟩
      rw [cell_of_row w g j cur 3 (0, 0) hh]
      rw [Nat.mul_one] at ht
      have h1 : (cur.toList.take L.length)[j]? = (L.map (Value.int .i64))[j]? := by rw [ht]
      rw [List.getElem?_take, if_pos hj, List.getElem?_map, List.getElem?_eq_getElem hj, Array.getElem?_toList] at h1
      rw [h1, List.getD, List.getElem?_eq_getElem hj]; rfl
/-- m[k], without ok. -/
theorem wpList_lookup_sec {w : World} {ops : Array Oper} {rest : List Oper} {o : Oper} {a : Act} {Q : Exit → Act → World → Prop} (hg : o.guard = none) (m x : Operand) (hop : o.op = Op.lookup 69 m x false)
    {b n i : Nat} {D : DataW Unit} {l : List UInt8} (hm : a.eval m = .map (some b)) (hown : w.ownsMap Try.prog 3 secElem b n D) (hx : a.eval x = .int .i64 (i : Int)) (hkey : keyOf Try.prog 3 (.int .i64 (i : Int)) = some (kLit i)) (hat : ∀ z, D.atKey (kLit i) z = .lit (.string l))
    (hK : wpList Try.prog ops Q rest (a.put o.dst (.agg (U8s l).toArray)) w) : wpList Try.prog ops Q (o :: rest) a w := by
  refine wpList_plain hg fun K' hK' => ?_
  obtain ⟨v, ps, hrun, hv⟩ := hown.lookup intK Try.underlying69 (Try.zeroValue85 w) (zc_elem w) hkey
  rw [hat] at hv
  obtain ⟨l', _, hv', hz⟩ := secElem_inv hv
  injection hz with hz _
  injection hz with hz
  injection hz with hz
  subst hz hv'
  unfold Oper.wp
  simp [execOp, hop, hm, hx, hrun, Result.andThen]
  exact hK' _ _ hK
theorem crash_step {w : World} {h : DH} {M : DM} {L : List Nat} {Q : List Bool} {k i : Nat} {l : List UInt8} (hk : k < L.length) (hi : L.getD k 0 = i) (hq : (decide (k < Q.length) && Q.getD k false) = true) (hf : M.fresh i = some l)
    (d : DevAt w h { crashN M (L.take k) Q with sure := upd (crashN M (L.take k) Q).sure i l, bad := upd (crashN M (L.take k) Q).bad i false }) : DevAt w h (crashN M (L.take (k + 1)) Q) := by
  refine d.congr rfl (fun j _ => ?_) (fun j _ => rfl) (fun j _ => ?_) rfl rfl rfl
  · show (if keptB (L.take (k + 1)) Q j = true then _ else _) = upd _ i l j
    rw [kept_step hk, hi, hq]
    by_cases e : j = i
    · subst e; rw [upd_same]; simp [hf]
    · have e' : (i == j) = false := by simpa using Ne.symm e
      rw [upd_ne _ _ e]; simp [e', crashN]
  · show (M.bad j && !keptB (L.take (k + 1)) Q j) = upd _ i false j
    rw [kept_step hk, hi, hq]
    by_cases e : j = i
    · subst e; rw [upd_same]; simp
    · have e' : (i == j) = false := by simpa using Ne.symm e
      rw [upd_ne _ _ e]; simp [e', crashN]
theorem crash_skip {M : DM} {L : List Nat} {Q : List Bool} {k : Nat} (hk : k < L.length) (hq : (decide (k < Q.length) && Q.getD k false) = false) : crashN M (L.take (k + 1)) Q = crashN M (L.take k) Q := by
  unfold crashN
  have e : keptB (L.take (k + 1)) Q = keptB (L.take k) Q := by funext j; rw [kept_step hk, hq]; simp
  rw [e]
theorem crash_zero (M : DM) (L : List Nat) (Q : List Bool) : crashN M (L.take 0) Q = M := by
  unfold crashN keptB
  simp
theorem mem_waitL {M : DM} (k : Nat) (hk : k < (waitL M).length) : (waitL M).getD k 0 < M.n ∧ (M.fresh ((waitL M).getD k 0)).isSome = true := by
  have : (waitL M).getD k 0 ∈ waitL M := by rw [List.getD, List.getElem?_eq_getElem hk]; exact List.getElem_mem hk
  unfold waitL at this
  rw [List.mem_filter, List.mem_range] at this
  exact this

/-- Behind the loop: nothing waits, the device is up, without a fuse. -/
theorem crash_end {w : World} {h : DH} {N : DM} (d : DevAt w h { N with fresh := fun _ => none }) :
    DevAt (((w.setCell ⟨h.b, 4, none⟩ (.bool false)).setCell ⟨h.b, 5, none⟩ (.bool false)).setCell ⟨h.b, 6, none⟩ (.int .i64 0)) h { N with fresh := fun _ => none, down := false, left := -1 } := by
  have h1 := (d.setDown false).setFuse (-1) 0 (fun h => absurd h (by omega)) ⟨by omega, by omega⟩
  rw [show decide ((0 : Int) ≤ -1) = false by decide] at h1
  exact h1
set_option maxHeartbeats 2000000 in
set_option maxRecDepth 100000 in
theorem devCrash_any {w : World} {h : DH} {M : DM} (d : DevAt w h M) {v : Value} {Q : List Bool} (hQ : BoolsAt w h v Q) :
    Calls Try.prog 28 #[.pointer (some ⟨h.b, 0, none⟩), v] w fun e w' => e = .returned (.tuple #[]) ∧ DevAt w' h (crashM M Q) ∧ Ap h.S w w' := by
  have hW := devWaiting_any d
  rw [nums_eq] at hW
  have hmem := @mem_waitL M
  have HZ := crash_zero M (waitL M) Q
  have HCM : Hid (crashM M Q = { crashN M (waitL M) Q with fresh := fun _ => none, down := false, left := -1 }) := Lib.hid rfl
  obtain ⟨L, hL⟩ : ∃ L, L = waitL M := ⟨_, rfl⟩
  rw [← hL] at hW hmem HZ HCM
  have HD := Lib.hid d
  have HQ := Lib.hid hQ
  have HBL : Hid (∀ x, h.S x → x < w.heap.size) := Lib.hid (by
    have h1 := d.ltb; have h2 := d.ltbs; have h3 := d.wait.lt; have h4 := d.badm.lt
    rintro x (e | e | e | e) <;> omega)
  obtain ⟨A, qc, rfl, hq1, hq2, hq3⟩ := hQ
  have HQ3 := Lib.hid hq3
  have HMEM := Lib.hid hmem
  have HZZ := Lib.hid HZ
  have hn2 := d.n2
  clear d hL hq3 hmem HZ
  by_cases hL0 : L = []
  · subst hL0
    have HZ0 : Hid (crashN M [] Q = M) := Lib.hid (by have := HZZ.out; simpa using this)
    clear HZZ HMEM
    go_enter Try.func28, Try.ntmps28
    go_wp2_with (go_at_call 15; refine hW.mono ?_; rintro e w1 ⟨v1, rfl, hI, hb1⟩; obtain rfl : v1 = .slice none 0 0 := hI.2.2 rfl; have HB1 := Lib.hid hb1; clear hI hb1)
    refine wp_loop_rounds 1 ?_
    rw [rounds_succ]
    have hd1 := HD.out.below HB1.out
    have c1 := hd1.c1
    obtain ⟨D, ho, hh, hv, hsz⟩ := hd1.wait
    have HD1 := Lib.hid hd1
    clear hh hv hsz hd1
    go_wp2_with (with_reducible refine wpList_clear_own rfl (.tmp 39) 69 rfl 3 85 Try.underlying69 secElem h.bw (Maps.size D) D rfl ho ?_; intro w5 ho5 ht5; have hd5 := HD1.out.withWait (ap_turned ht5) (waitMap_none ho5) (fun i l _ h => by cases h); have c4 := hd5.c4; have c5 := hd5.c5; obtain ⟨f6, c6, _, _, _⟩ := hd5.c6; have fz4 := hd5.fz 4 (by omega); have fz5 := hd5.fz 5 (by omega); have fz6 := hd5.fz 6 (by omega); have HD5 := Lib.hid hd5; have HT5 := Lib.hid ht5; clear hd5 ht5)
    go_end0
    refine ⟨rfl, ?_, ((Ap.of_below HB1.out).trans ((ap_turned HT5.out).weak (S_bw h))).trans ((((ap_put _ h.b 4 _).weak (S_b h)).trans ((ap_put _ h.b 5 _).weak (S_b h))).trans ((ap_put _ h.b 6 _).weak (S_b h)))⟩
    rw [HCM.out, HZ0.out]
    exact crash_end HD5.out
  · go_enter Try.func28, Try.ntmps28
    go_wp2_with (go_at_call 15; refine hW.mono ?_; rintro e w1 ⟨v1, rfl, hI, hb1⟩; obtain ⟨g, cap, rfl, hg1, hg2, hc1, hc2, hcell⟩ := hI.reads.resolve_left (fun hh => hL0 (by simpa using hh.1)); have HB1 := Lib.hid hb1; have HCELL := Lib.hid hcell; rw [List.length_map] at hc1; clear hI hb1 hcell)
    go_loopw [11] (fun ix wr => ∃ k : Nat, k ≤ L.length ∧ ix = .int .i64 (k : Int) ∧ DevAt wr h (crashN M (L.take k) Q) ∧ Ap h.S w wr ∧ Ap h.S2 w1 wr) (fun ix _ => L.length - (intOf ix).toNat)
    case atStart => exact ⟨0, Nat.zero_le _, rfl, by rw [HZZ.out]; exact HD.out.below HB1.out, Ap.of_below HB1.out, Ap.refl _⟩
    case round =>
      obtain ⟨k, hk, rfl, hd, ha, ha1⟩ := hrel
      have HDR := Lib.hid hd
      have HAR := Lib.hid ha
      have HAR1 := Lib.hid ha1
      clear hd ha ha1 HD HZZ
      by_cases hlt : k < L.length
      · have hgn : ¬ h.S2 g := by
          have h1 := HDR.out.ltb
          intro e
          have hbs := HB1.out.size
          have hd0 : ∀ x, h.S x → x < w.heap.size := HBL.out
          have := hd0 g (S2_S h g e)
          omega
        have hcg : wr.cell? ⟨g, k, none⟩ = some (.int .i64 ((L.getD k 0 : Nat) : Int)) := by
          rw [HAR1.out.cell hg2 hgn, HCELL.out k (by rw [List.length_map]; exact hlt)]
          simp [List.getD, hlt]
        obtain ⟨hi1, hi2⟩ := HMEM.out k hlt
        obtain ⟨i, hi⟩ : ∃ i, i = L.getD k 0 := ⟨_, rfl⟩
        rw [← hi] at hcg hi1 hi2
        have HI := Lib.hid hi
        have hi0 : (0 : Int) ≤ (i : Int) := by omega
        clear hi HMEM hgn
        by_cases hkq : k < Q.length
        · obtain ⟨b, off, rfl, hb, hbn, hbc⟩ := HQ3.out.resolve_left (by intro e; rw [e] at hkq; simp at hkq)
          have hcq : wr.cell? ⟨b, off + k, none⟩ = some (.bool (Q.getD k false)) := (HAR.out.cell hb hbn _).trans (hbc k hkq)
          have dq : decide ((k : Int) < (Q.length : Int)) = true := decide_eq_true (by omega)
          clear HQ3 hb hbn hbc HQ
          cases hq : Q.getD k false
          · rw [hq] at hcq
            have HS := Lib.hid (crash_skip (M := M) (L := L) (Q := Q) hlt (by rw [hq]; simp))
            clear hq
            go_wp2
            go_roundw
            case rel => exact ⟨k + 1, by omega, by go_num, by rw [HS.out]; exact HDR.out, HAR.out, HAR1.out⟩
            case measure => simp [intOf]; omega
          · rw [hq] at hcq
            obtain ⟨l, hl⟩ := Option.isSome_iff_exists.1 hi2
            have c1 := HDR.out.c1
            obtain ⟨D, ho, hh, hv, hsz⟩ := HDR.out.wait
            have HAT : Hid (∀ z, D.atKey (kLit i) z = .lit (.string l)) := Lib.hid (hv i l hi1 hl)
            have hlen : l.length = 512 := HDR.out.flen i l hi1 hl
            have hset := devSettle_any HDR.out i hi1 l hlen
            have HK : Hid (keyOf Try.prog 3 (.int .i64 (i : Int)) = some (kLit i)) := Lib.hid (Maps.keyOf_int_mk Try.underlying3 (wf_nat (by omega)))
            have HS : Hid (∀ W, _ → DevAt W h (crashN M (L.take (k + 1)) Q)) := Lib.hid (fun W hdW => crash_step (w := W) hlt HI.out.symm (by rw [hq]; simp [hkq]) hl hdW)
            clear hh hv hsz hlen hl hi2 hq HCELL
            go_wp2_with (first
          | (at_lookup; refine wpList_lookup_sec rfl _ _ rfl rfl ho rfl HK.out HAT.out ?_)
          | (go_at_call 67; refine hset.mono ?_; rintro e w6 ⟨rfl, hd6, ha6⟩))
            go_roundw
            case rel => exact ⟨k + 1, by omega, by go_num, HS.out w6 hd6, HAR.out.trans (ha6.weak (S2_S h)), HAR1.out.trans ha6⟩
            case measure => simp [intOf]; omega
        · have dq : decide ((k : Int) < (Q.length : Int)) = false := decide_eq_false (by omega)
          have HS := Lib.hid (crash_skip (M := M) (L := L) (Q := Q) hlt (by simp [hkq]))
          clear HQ3 HQ
          go_wp2
          go_roundw
          case rel => exact ⟨k + 1, by omega, by go_num, by rw [HS.out]; exact HDR.out, HAR.out, HAR1.out⟩
          case measure => simp [intOf]; omega
      · obtain rfl : k = L.length := by omega
        have c1 := HDR.out.c1
        obtain ⟨D, ho, hh, hv, hsz⟩ := HDR.out.wait
        clear hh hv hsz
        have HT : Hid (∀ W, DevAt W h (crashN M (L.take L.length) Q) → DevAt W h (crashN M L Q)) := Lib.hid (fun W hW => by rw [List.take_length] at hW; exact hW)
        go_wp2_with (with_reducible refine wpList_clear_own rfl (.tmp 39) 69 rfl 3 85 Try.underlying69 secElem h.bw (Maps.size D) D rfl ho ?_; intro w5 ho5 ht5; have hd5 := (HT.out _ HDR.out).withWait (ap_turned ht5) (waitMap_none ho5) (fun i l _ h => by cases h); have c4 := hd5.c4; have c5 := hd5.c5; obtain ⟨f6, c6, _, _, _⟩ := hd5.c6; have fz4 := hd5.fz 4 (by omega); have fz5 := hd5.fz 5 (by omega); have fz6 := hd5.fz 6 (by omega); have HD5 := Lib.hid hd5; have HT5 := Lib.hid ht5; clear hd5 ht5)
        go_end0
        refine ⟨rfl, ?_, (HAR.out.trans ((ap_turned HT5.out).weak (S_bw h))).trans ((((ap_put _ h.b 4 _).weak (S_b h)).trans ((ap_put _ h.b 5 _).weak (S_b h))).trans ((ap_put _ h.b 6 _).weak (S_b h)))⟩
        rw [HCM.out]
        exact crash_end HD5.out
end Go.Proofs.Ytmbjcphhfnemgaa
