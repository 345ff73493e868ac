/- The contract of a device's Write. -/
import Derived.Test.YtfpnlaafefdcaaaDoorDevB
import Derived.StillTailTactics
import Derived.Lib.LazyBuf
namespace Go.Proofs.YtfpnlaafefdcaaaDoor
open Go.RowKit Go.Maps

/-- A load of many cells in a region whose other operations only read. -/
theorem wpStill_load {P : Program} {ops : Array Oper} {w : World} {Q : Act → Prop} {a : Act} {o : Oper} {rest : List Oper} (hg : o.guard = none) (ty : TypeId) (x : Operand) (ho : o.op = .load ty x)
    (b off : Nat) (hx : a.eval x = .pointer (some ⟨b, off, none⟩)) (cs : List Value) (d : TypeDesc) (hc : w.rangeAt b off cs)
    (hu : P.underlying ty = some d) (hd : d.isRow = true) (hi : (P.info? ty).map (·.size) = some cs.length)
    (h : wpStill P ops w Q rest (a.put o.dst (.agg cs.toArray))) : wpStill P ops w Q (o :: rest) a := by
  have hw : Region.wanted o (yielded ops a.tmps) = true := by simp [Region.wanted, hg]
  unfold wpStill
  rw [if_pos hw]
  unfold Oper.still execOp
  simp only [ho, hx, Instr.loadAt, Instr.sureAddr, Sem.run_bind, Sem.run_pure, Result.andThen_ok, run_loadVar_mid w b off ty cs d hc hu hd hi, Oper.stillUpon_value]
  exact h
/-- copy from a string into cells that are there. -/
theorem wpList_copy_str {P : Program} {w : World} {ops : Array Oper} {rest : List Oper} {o : Oper} {a : Act} {Q : Exit → Act → World → Prop} (hgd : o.guard = none) (d x : Operand) (dT sT : TypeId)
    (hop : o.op = Op.call { callee := Callee.builtin Builtin.copy, args := #[d, x], argTypes := #[dT, sT] })
    (elem : TypeId) (hu : P.underlying dT = some (.slice elem)) (hz : ∀ w, (Go.sizeOf elem).run P w = .ok 1 w)
    (b off dLen dCap : Nat) (hd : a.eval d = .slice (some ⟨b, off, none⟩) dLen dCap) (t : ByteArray) (hx : a.eval x = .string t) (hle : t.size ≤ dLen)
    (ht : w.there b off t.size) (hK : wpList P ops Q rest (a.put o.dst (goInt t.size)) (w.setCells b off (U8s t.data.toList))) : wpList P ops Q (o :: rest) a w := by
  refine wpList_plain hgd fun K' hK' => ?_
  have hrun := run_copy_string (P := P) w dT sT o.type elem b off dLen dCap t hu hz hle (fun j hj => (ht j hj).1) (fun j hj => (ht j hj).2)
  unfold Oper.wp
  simp [execOp, hop, resolve, invoke, builtin, hd, hx, hrun, Result.andThen]
  exact hK' _ _ hK
theorem blankA_eq : (U8s blankB).toArray = Array.replicate 512 (.int .u8 0) := by
  unfold U8s blankB
  rw [List.map_replicate, List.toArray_replicate]; rfl
theorem zc_eq (w : World) : Tryd.zeroCells117 = (U8s blankB).toArray := by
  obtain ⟨i, hi, hz, _, _⟩ := secZero
  have h := Tryd.zeroValue117 w
  rw [blankA_eq]
  generalize Array.replicate 512 (Value.int .u8 0) = z at hz ⊢
  simp [zeroValue, typeInfo, hi, hz] at h
  exact h.symm
/-- A blank sector in a block of its own. -/
theorem zc_there (w : World) : (w.alloc (.cells Tryd.zeroCells117 117)).there w.heap.size 0 512 := by
  rw [zc_eq w]
  have h := range_new w (U8s blankB) 117
  intro j hj
  refine ⟨h.isSome j (by rw [u8s_len, blankB_len]; exact hj), ?_⟩
  rw [Nat.zero_add]
  exact frozen_of_row _ _ _ _ _ (heap_alloc_new w _)
theorem WaitMap.put {w w' : World} {b n i m : Nat} {f : Nat → Option (List UInt8)} {D : DataW Unit} (ho : w.ownsMap Tryd.prog 3 secElem b m D) (hi : i < n)
    (hh : ∀ x : Int, Maps.has D (.int .i64 x) = true ↔ 0 ≤ x ∧ x.toNat < n ∧ (f x.toNat).isSome = true) (hv : ∀ i l, i < n → f i = some l → ∀ z, D.atKey (kLit i) z = .lit (.string l))
    {k : Nat} (l : List UInt8) (h' : w'.ownsMap Tryd.prog 3 secElem b k (D.put (kLit i) (.lit (.string l)))) : WaitMap w' b n (upd f i (some l)) := by
  have hp := has_after_put ho.isMap hi (p := fun j => (f j).isSome) hh (.lit (.string l))
  have e : ∀ j, (upd f i (some l) j).isSome = upd (fun j => (f j).isSome) i true j := by
    intro j
    by_cases hj : j = i
    · rw [hj, upd_same, upd_same]; rfl
    · rw [upd_ne _ _ hj, upd_ne _ _ hj]
  have hp' : ∀ x : Int, Maps.has (D.put (kLit i) (.lit (.string l))) (.int .i64 x) = true ↔ 0 ≤ x ∧ x.toNat < n ∧ (upd f i (some l) x.toNat).isSome = true := by
    intro x; rw [e]; exact hp x
  refine ⟨_, owns_tight h', hp', fun j l' hj hjl z => ?_, size_keys (p := fun j => (upd f i (some l) j).isSome) h' intK Tryd.underlying3 hp'⟩
  by_cases hji : j = i
  · rw [hji, upd_same] at hjl
    injection hjl with hjl
    rw [hji, atKey_put_same ho.isMap (kLit_key i), hjl]
  · rw [upd_ne _ _ hji] at hjl
    rw [atKey_put_other (kLit_ne hji)]; exact hv j l' hj hjl z

def writeE (M : DM) (a : Int) (s : ByteArray) : Int := if M.down = true then 12 else if hasB M.n a = false then 1 else if s.size ≠ 512 then 2 else burnE M
def writeM (M : DM) (a : Int) (s : ByteArray) : DM :=
  if writeE M a s = 0 then { burnM M with fresh := upd M.fresh a.toNat (some s.data.toList), writes := M.writes + 1 } else if M.down = true ∨ hasB M.n a = false ∨ s.size ≠ 512 then M else burnM M
theorem burnM_fresh (M : DM) : (burnM M).fresh = M.fresh ∧ (burnM M).n = M.n ∧ (burnM M).writes = M.writes ∧ (burnM M).sure = M.sure ∧ (burnM M).bad = M.bad := by
  unfold burnM
  by_cases h : M.left = 0
  · rw [if_pos h]; exact ⟨rfl, rfl, rfl, rfl, rfl⟩
  · rw [if_neg h]
    by_cases g : 0 < M.left
    · rw [if_pos g]; exact ⟨rfl, rfl, rfl, rfl, rfl⟩
    · rw [if_neg g]; exact ⟨rfl, rfl, rfl, rfl, rfl⟩
/-- Behind the copy into the new block. -/
theorem write_facts {w w1 : World} {h : DH} {N : DM} {l : List UInt8} (hl : l.length = 512) (hd1 : DevAt w1 h N) (ha1 : Ap h.S w w1) :
    ∃ W3 : World, W3 = (w1.alloc (.cells Tryd.zeroCells117 117)).setCells w1.heap.size 0 (U8s l) ∧ DevAt W3.drew h N ∧ Ap h.S w W3.drew ∧ W3.drew.rangeAt w1.heap.size 0 (U8s l) := by
  refine ⟨_, rfl, ?_, ?_, ?_⟩
  · refine (DevAt.ap (S := fun k => k = w1.heap.size) (hd1.alloc _) (ap_setCells _ _ _ _) (fun k hk e => ?_)).drew
    have h1 := hd1.ltb; have h2 := hd1.ltbs; have h3 := hd1.wait.lt; have h4 := hd1.badm.lt
    rcases hk with hk | hk | hk | hk <;> omega
  · refine Ap.drew ?_
    exact Ap.setCells (.inr ha1.size) _ _ _ (ha1.alloc _)
  · have := zc_there w1
    exact World.rangeAt_setCells_same _ _ _ _ (by rw [u8s_len, hl]; exact this)
set_option maxHeartbeats 1000000 in
set_option maxRecDepth 100000 in
theorem devWrite_ok {w : World} {h : DH} {M : DM} (d : DevAt w h M) (hdn : M.down = false) (i : Nat) (hi : i < M.n) (s : ByteArray) (hs : s.size = 512) (hE : burnE M = 0) (hwr : M.writes < 4611686018427387904) :
    Calls Tryd.prog 82 #[.pointer (some ⟨h.b, 0, none⟩), .int .i64 (i : Int), .string s] w fun e w' => e = .returned (.int .i64 0) ∧ DevAt w' h { burnM M with fresh := upd M.fresh i (some s.data.toList), writes := M.writes + 1 } ∧ Ap h.S w w' := by
  have hH := devHas_any d (i : Int)
  rw [show hasB M.n (i : Int) = true by unfold hasB; exact decide_eq_true (by omega)] at hH
  have hDn := devDown_any d
  rw [hdn] at hDn
  have hB := devBurn_any d
  rw [hE] at hB
  have hsl : s.data.toList.length = 512 := by rw [← hs]; rfl
  have hb := burnM_fresh M
  have hn2 := d.n2
  have HF : Hid (∀ w1 : World, DevAt w1 h (burnM M) → Ap h.S w w1 → _) := Lib.hid (fun w1 hd1 ha1 => write_facts hsl hd1 ha1)
  have hkey : keyOf Tryd.prog 3 (.int .i64 (i : Int)) = some (kLit i) := Maps.keyOf_int_mk Tryd.underlying3 (wf_nat (by omega))
  have HK := Lib.hid hkey
  have hval := secElem_mk hsl
  have HV := Lib.hid hval
  obtain ⟨N, hN⟩ : ∃ N, N = burnM M := ⟨_, rfl⟩
  rw [← hN] at hB hb HF ⊢
  clear d hE hdn hN hkey hval
  obtain ⟨hf, hnn, hw0, hx1, hx2⟩ := hb
  clear hx1 hx2
  have HFr := Lib.hid hf
  have HNn := Lib.hid hnn
  have HW0 := Lib.hid hw0
  have HSL := Lib.hid hsl
  have hss : s.size ≤ 512 := by omega
  have HT : Hid (∀ w1 : World, (w1.alloc (.cells Tryd.zeroCells117 117)).there w1.heap.size 0 s.size) := Lib.hid (fun w1 => by rw [hs]; exact zc_there w1)
  have hu := Tryd.underlying117
  have HU := Lib.hid hu
  have hii : (Tryd.prog.info? 117).map (·.size) = some (U8s s.data.toList).length := by rw [secSize, u8s_len, hsl]
  have HII := Lib.hid hii
  have hi0 : (0 : Int) ≤ (i : Int) := by omega
  clear hf hnn hw0 hsl hu hii
  go_enter Tryd.func82, Tryd.ntmps82
  go_wp2_with (first
    | (go_at_call 89; refine hDn.mono ?_; rintro e w' ⟨rfl, rfl⟩)
    | (go_at_call 61; refine hH.mono ?_; rintro e w' ⟨rfl, rfl⟩)
    | (go_at_call 58; refine hB.mono ?_; rintro e w1 ⟨rfl, hd1, ha1⟩; have HD1 := Lib.hid hd1; have HA1 := Lib.hid ha1; clear hd1 ha1)
    | (with_reducible refine wpList_copy_str rfl (.tmp 23) (.tmp 24) 87 9 rfl 5 Tryd.underlying87 Tryd.sizeOf5 w1.heap.size 0 512 512 rfl s rfl hss (HT.out _) ?_))
  obtain ⟨W3, hW3, hd3, ha3, hr3⟩ := HF.out w1 HD1.out HA1.out
  rw [← hW3]
  clear HF HT hW3
  have c1 := hd3.c1
  obtain ⟨D, ho, hh, hv, hsz⟩ := hd3.wait
  have hroom : Maps.size D < maxLen := by have := HNn.out; unfold maxLen; omega
  have HD3 := Lib.hid hd3
  have HA3 := Lib.hid ha3
  have HH := Lib.hid hh
  have HVV := Lib.hid hv
  have HR := Lib.hid hroom
  have HR3 := Lib.hid hr3
  clear hd3 ha3 hh hv hsz hroom hr3
  refine wp_region_still_tail 6 (by kernel_rfl) (by kernel_rfl) ?_
  simp only [List.take_succ_cons, List.take_zero, List.drop_succ_cons, List.drop_zero]
  iterate 5 still_step
  refine wpStill_load rfl 117 (.tmp 8) rfl w1.heap.size 0 rfl _ _ HR3.out HU.out rfl HII.out ?_
  refine wpStill_nil ?_
  refine wpList_mapUpdate_in _ rfl _ _ _ 109 rfl 3 117 intK Tryd.underlying109 secElem h.bw (Maps.size D) D rfl ho HR.out _ _ _ rfl rfl HK.out _ _ HV.out ?_
  intro w4 ho4 ht4
  have hd4 : DevAt w4 h { N with fresh := upd N.fresh i (some s.data.toList) } := HD3.out.withWait (ap_turned ht4) (WaitMap.put ho (by rw [HNn.out]; exact hi) HH.out HVV.out _ ho4) (fun j l hj hjl => by
    by_cases e : j = i
    · rw [e, upd_same] at hjl; injection hjl with hjl; rw [← hjl]; exact HSL.out
    · rw [upd_ne _ _ e] at hjl; exact HD3.out.flen j l hj hjl)
  have ha4 : Ap h.S w w4 := HA3.out.trans ((ap_turned ht4).weak (S_bw h))
  have hd5 := hd4.setWrites (M.writes + 1)
  have c3 := hd4.c3
  have fz3 := hd4.fz 3 (by omega)
  rw [show ((M.writes + 1 : Nat) : Int) = (M.writes : Int) + 1 by omega] at hd5
  rw [HFr.out] at hd5
  have c3' : w4.cell? ⟨h.b, 3, none⟩ = some (.int .i64 (M.writes : Int)) := by rw [c3, ← HW0.out]
  have HD5 := Lib.hid hd5
  have HA5 : Hid (Ap h.S w (w4.setCell ⟨h.b, 3, none⟩ (.int .i64 ((M.writes : Int) + 1)))) := Lib.hid (ha4.trans ((ap_put _ _ _ _).weak (S_b h)))
  clear hd4 ha4 hd5 c3 ho ho4 ht4 HD3 HA3 HH HVV HR HR3
  go_wp2
  go_ret
  exact ⟨rfl, HD5.out, HA5.out⟩

/-- Whatever is asked, Write answers, and the device has, what the document says. -/
theorem devWrite_any {w : World} {h : DH} {M : DM} (d : DevAt w h M) (a : Int) (s : ByteArray) (hwr : M.writes < 4611686018427387904) :
    Calls Tryd.prog 82 #[.pointer (some ⟨h.b, 0, none⟩), .int .i64 a, .string s] w fun e w' => e = .returned (.int .i64 (writeE M a s)) ∧ DevAt w' h (writeM M a s) ∧ Ap h.S w w' := by
  have hH := devHas_any d a
  have hDn := devDown_any d
  have hB := devBurn_any d

  by_cases h1 : M.down = true
  · have e1 : writeE M a s = 12 := if_pos h1
    have e2 : writeM M a s = M := by unfold writeM; rw [e1, if_neg (by omega), if_pos (.inl h1)]
    rw [e1, e2]
    rw [h1] at hDn
    have HD := Lib.hid d
    clear d e1 e2 h1
    go_enter Tryd.func82, Tryd.ntmps82
    go_wp2_with (first
      | (go_at_call 89; refine hDn.mono ?_; rintro e w' ⟨rfl, rfl⟩)
      | (go_at_call 61; refine hH.mono ?_; rintro e w' ⟨rfl, rfl⟩)
      | (go_at_call 58; refine hB.mono ?_; rintro e w1 ⟨rfl, hd1, ha1⟩))
    go_ret
    exact ⟨rfl, HD.out, Ap.refl _⟩
  have h1' : M.down = false := by simpa using h1
  rw [h1'] at hDn
  by_cases h2 : hasB M.n a = false
  · have e1 : writeE M a s = 1 := by unfold writeE; rw [if_neg h1, if_pos h2]
    have e2 : writeM M a s = M := by unfold writeM; rw [e1, if_neg (by omega), if_pos (.inr (.inl h2))]
    rw [e1, e2]
    rw [h2] at hH
    have HD := Lib.hid d
    clear d e1 e2 h1 h1' h2
    go_enter Tryd.func82, Tryd.ntmps82
    go_wp2_with (first
      | (go_at_call 89; refine hDn.mono ?_; rintro e w' ⟨rfl, rfl⟩)
      | (go_at_call 61; refine hH.mono ?_; rintro e w' ⟨rfl, rfl⟩)
      | (go_at_call 58; refine hB.mono ?_; rintro e w1 ⟨rfl, hd1, ha1⟩))
    go_ret
    exact ⟨rfl, HD.out, Ap.refl _⟩
  have h2' : hasB M.n a = true := by simpa using h2
  by_cases h3 : s.size = 512
  · by_cases h4 : burnE M = 0
    · have e1 : writeE M a s = 0 := by unfold writeE; rw [if_neg h1, if_neg h2, if_neg (by omega), h4]
      have e2 : writeM M a s = { burnM M with fresh := upd M.fresh a.toNat (some s.data.toList), writes := M.writes + 1 } := by unfold writeM; rw [if_pos e1]
      rw [e1, e2]
      have ha : 0 ≤ a ∧ a < (M.n : Int) := by unfold hasB at h2'; simpa using h2'
      have := devWrite_ok d h1' a.toNat (by omega) s h3 h4 hwr
      rw [Int.toNat_of_nonneg ha.1] at this
      exact this
    · have hE : burnE M = 12 := by
        unfold burnE at h4 ⊢
        by_cases g : M.left = 0
        · rw [if_pos g]
        · rw [if_neg g] at h4; exact absurd rfl h4
      have e1 : writeE M a s = 12 := by unfold writeE; rw [if_neg h1, if_neg h2, if_neg (by omega), hE]
      have e2 : writeM M a s = burnM M := by unfold writeM; rw [e1, if_neg (by omega), if_neg (by rintro (g | g | g); exact h1 g; exact h2 g; omega)]
      rw [e1, e2]
      rw [h2'] at hH
      rw [hE] at hB
      obtain ⟨N, hN⟩ : ∃ N, N = burnM M := ⟨_, rfl⟩
      rw [← hN] at hB ⊢
      clear d e1 e2 h1 h1' h2 h2' hN h4 hE
      go_enter Tryd.func82, Tryd.ntmps82
      go_wp2_with (first
        | (go_at_call 89; refine hDn.mono ?_; rintro e w' ⟨rfl, rfl⟩)
        | (go_at_call 61; refine hH.mono ?_; rintro e w' ⟨rfl, rfl⟩)
        | (go_at_call 58; refine hB.mono ?_; rintro e w1 ⟨rfl, hd1, ha1⟩))
      go_ret
      exact ⟨rfl, hd1, ha1⟩
  · have e1 : writeE M a s = 2 := by unfold writeE; rw [if_neg h1, if_neg h2, if_pos h3]
    have e2 : writeM M a s = M := by unfold writeM; rw [e1, if_neg (by omega), if_pos (.inr (.inr h3))]
    rw [e1, e2]
    rw [h2'] at hH
    have HD := Lib.hid d
    have h3' : ((s.size : Int) == 512) = false := by simp; omega
    have h3'' : ((s.size : Int) != 512) = true := by simp; omega
    clear d e1 e2 h1 h1' h2 h2'
    go_enter Tryd.func82, Tryd.ntmps82
    go_wp2_with (first
      | (go_at_call 89; refine hDn.mono ?_; rintro e w' ⟨rfl, rfl⟩)
      | (go_at_call 61; refine hH.mono ?_; rintro e w' ⟨rfl, rfl⟩)
      | (go_at_call 58; refine hB.mono ?_; rintro e w1 ⟨rfl, hd1, ha1⟩))
    go_ret
    exact ⟨rfl, HD.out, Ap.refl _⟩
end Go.Proofs.YtfpnlaafefdcaaaDoor
