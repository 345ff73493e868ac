/- The contract of a device's Write. The contract of a device's Read. -/
import Derived.Test.YtjhpheepimbbdaaGreatDoorZDevA
import Derived.StillTailTactics
import Derived.Lib.LazyBuf
namespace Go.Proofs.YtjhpheepimbbdaaGreatDoor
open Go.RowKit Go.Maps

/-- A load of many cells in a region whose other operations only read. -/
theorem wpStill_load {P : Program} {ops : Array Oper} {w : World} {Q : Act → Prop} {a : Act} {o : Oper} {rest : List Oper} (hg : o.guard = none) (ty : TypeId) (x : Operand) (ho : o.op = .load ty x)
    (b off : Nat) (hx : a.eval x = .pointer (some ⟨b, off, none⟩)) (cs : List Value) (d : TypeDesc) (hc : w.rangeAt b off cs)
    (hu : P.underlying ty = some d) (hd : d.isRow = true) (hi : (P.info? ty).map (·.size) = some cs.length)
    (h : wpStill P ops w Q rest (a.put o.dst (.agg cs.toArray))) : wpStill P ops w Q (o :: rest) a := by
  have hw : Region.wanted o (yielded ops a.tmps) = true := by simp [Region.wanted, hg]
  unfold wpStill
  rw [if_pos hw]
  unfold Oper.still execOp
  simp only [ho, hx, Instr.loadAt, Instr.sureAddr, Sem.run_bind, Sem.run_pure, Result.andThen_ok, run_loadVar_mid w b off ty cs d hc hu hd hi, Oper.stillUpon_value]
  exact h
/-- copy from a string into cells that are there. -/
theorem wpList_copy_str {P : Program} {w : World} {ops : Array Oper} {rest : List Oper} {o : Oper} {a : Act} {Q : Exit → Act → World → Prop} (hgd : o.guard = none) (d x : Operand) (dT sT : TypeId)
    (hop : o.op = Op.call { callee := Callee.builtin Builtin.copy, args := #[d, x], argTypes := #[dT, sT] })
    (elem : TypeId) (hu : P.underlying dT = some (.slice elem)) (hz : ∀ w, (Go.sizeOf elem).run P w = .ok 1 w)
    (b off dLen dCap : Nat) (hd : a.eval d = .slice (some ⟨b, off, none⟩) dLen dCap) (t : ByteArray) (hx : a.eval x = .string t) (hle : t.size ≤ dLen)
    (ht : w.there b off t.size) (hK : wpList P ops Q rest (a.put o.dst (goInt t.size)) (w.setCells b off (U8s t.data.toList))) : wpList P ops Q (o :: rest) a w := by
  refine wpList_plain hgd fun K' hK' => ?_
  have hrun := run_copy_string (P := P) w dT sT o.type elem b off dLen dCap t hu hz hle (fun j hj => (ht j hj).1) (fun j hj => (ht j hj).2)
  unfold Oper.wp
  simp [execOp, hop, resolve, invoke, builtin, hd, hx, hrun, Result.andThen]
  exact hK' _ _ hK
theorem blankA_eq : (U8s blankB).toArray = Array.replicate 512 (.int .u8 0) := by
  unfold U8s blankB
  rw [List.map_replicate, List.toArray_replicate]; rfl
theorem zc_eq (w : World) : Tryz.zeroCells78 = (U8s blankB).toArray := by
  obtain ⟨i, hi, hz, _, _⟩ := secZero
  have h := Tryz.zeroValue78 w
  rw [blankA_eq]
  generalize Array.replicate 512 (Value.int .u8 0) = z at hz ⊢
  simp [zeroValue, typeInfo, hi, hz] at h
  exact h.symm
/-- A blank sector in a block of its own. -/
theorem zc_there (w : World) : (w.alloc (.cells Tryz.zeroCells78 78)).there w.heap.size 0 512 := by
  rw [zc_eq w]
  have h := range_new w (U8s blankB) 78
  intro j hj
  refine ⟨h.isSome j (by rw [u8s_len, blankB_len]; exact hj), ?_⟩
  rw [Nat.zero_add]
  exact frozen_of_row _ _ _ _ _ (heap_alloc_new w _)
theorem WaitMap.put {w w' : World} {b n i m : Nat} {f : Nat → Option (List UInt8)} {D : DataW Unit} (ho : w.ownsMap Tryz.prog 3 secElem b m D) (hi : i < n)
    (hh : ∀ x : Int, Maps.has D (.int .i64 x) = true ↔ 0 ≤ x ∧ x.toNat < n ∧ (f x.toNat).isSome = true) (hv : ∀ i l, i < n → f i = some l → ∀ z, D.atKey (kLit i) z = .lit (.string l))
    {k : Nat} (l : List UInt8) (h' : w'.ownsMap Tryz.prog 3 secElem b k (D.put (kLit i) (.lit (.string l)))) : WaitMap w' b n (upd f i (some l)) := by
  have hp := has_after_put ho.isMap hi (p := fun j => (f j).isSome) hh (.lit (.string l))
  have e : ∀ j, (upd f i (some l) j).isSome = upd (fun j => (f j).isSome) i true j := by
    intro j
    by_cases hj : j = i
    · rw [hj, upd_same, upd_same]; rfl
    · rw [upd_ne _ _ hj, upd_ne _ _ hj]
  have hp' : ∀ x : Int, Maps.has (D.put (kLit i) (.lit (.string l))) (.int .i64 x) = true ↔ 0 ≤ x ∧ x.toNat < n ∧ (upd f i (some l) x.toNat).isSome = true := by
    intro x; rw [e]; exact hp x
  refine ⟨_, owns_tight h', hp', fun j l' hj hjl z => ?_, size_keys (p := fun j => (upd f i (some l) j).isSome) h' intK Tryz.underlying3 hp'⟩
  by_cases hji : j = i
  · rw [hji, upd_same] at hjl
    injection hjl with hjl
    rw [hji, atKey_put_same ho.isMap (kLit_key i), hjl]
  · rw [upd_ne _ _ hji] at hjl
    rw [atKey_put_other (kLit_ne hji)]; exact hv j l' hj hjl z

def writeE (M : DM) (a : Int) (s : ByteArray) : Int := if M.down = true then 12 else if hasB M.n a = false then 1 else if s.size ≠ 512 then 2 else burnE M
def writeM (M : DM) (a : Int) (s : ByteArray) : DM :=
  if writeE M a s = 0 then { burnM M with fresh := upd M.fresh a.toNat (some s.data.toList), writes := M.writes + 1 } else if M.down = true ∨ hasB M.n a = false ∨ s.size ≠ 512 then M else burnM M
theorem burnM_fresh (M : DM) : (burnM M).fresh = M.fresh ∧ (burnM M).n = M.n ∧ (burnM M).writes = M.writes ∧ (burnM M).sure = M.sure ∧ (burnM M).bad = M.bad := by
  unfold burnM
  by_cases h : M.left = 0
  · rw [if_pos h]; exact ⟨rfl, rfl, rfl, rfl, rfl⟩
  · rw [if_neg h]
    by_cases g : 0 < M.left
    · rw [if_pos g]; exact ⟨rfl, rfl, rfl, rfl, rfl⟩
    · rw [if_neg g]; exact ⟨rfl, rfl, rfl, rfl, rfl⟩
/-- Behind the copy into the new block. -/
theorem write_facts {w w1 : World} {h : DH} {N : DM} {l : List UInt8} (hl : l.length = 512) (hd1 : DevAt w1 h N) (ha1 : Ap h.S w w1) :
    ∃ W3 : World, W3 = (w1.alloc (.cells Tryz.zeroCells78 78)).setCells w1.heap.size 0 (U8s l) ∧ DevAt W3.drew h N ∧ Ap h.S w W3.drew ∧ W3.drew.rangeAt w1.heap.size 0 (U8s l) := by
  refine ⟨_, rfl, ?_, ?_, ?_⟩
  · refine (DevAt.ap (S := fun k => k = w1.heap.size) (hd1.alloc _) (ap_setCells _ _ _ _) (fun k hk e => ?_)).drew
    have h1 := hd1.ltb; have h2 := hd1.ltbs; have h3 := hd1.wait.lt; have h4 := hd1.badm.lt
    rcases hk with hk | hk | hk | hk <;> omega
  · refine Ap.drew ?_
    exact Ap.setCells (.inr ha1.size) _ _ _ (ha1.alloc _)
  · have := zc_there w1
    exact World.rangeAt_setCells_same _ _ _ _ (by rw [u8s_len, hl]; exact this)
set_option maxHeartbeats 1000000 in
set_option maxRecDepth 100000 in
theorem devWrite_ok {w : World} {h : DH} {M : DM} (d : DevAt w h M) (hdn : M.down = false) (i : Nat) (hi : i < M.n) (s : ByteArray) (hs : s.size = 512) (hE : burnE M = 0) (hwr : M.writes < 4611686018427387904) :
    Calls Tryz.prog 41 #[.pointer (some ⟨h.b, 0, none⟩), .int .i64 (i : Int), .string s] w fun e w' => e = .returned (.int .i64 0) ∧ DevAt w' h { burnM M with fresh := upd M.fresh i (some s.data.toList), writes := M.writes + 1 } ∧ Ap h.S w w' := by
  have hH := devHas_any d (i : Int)
  rw [show hasB M.n (i : Int) = true by unfold hasB; exact decide_eq_true (by omega)] at hH
  have hDn := devDown_any d
  rw [hdn] at hDn
  have hB := devBurn_any d
  rw [hE] at hB
  have hsl : s.data.toList.length = 512 := by rw [← hs]; rfl
  have hb := burnM_fresh M
  have hn2 := d.n2
  have HF : Hid (∀ w1 : World, DevAt w1 h (burnM M) → Ap h.S w w1 → _) := Lib.hid (fun w1 hd1 ha1 => write_facts hsl hd1 ha1)
  have hkey : keyOf Tryz.prog 3 (.int .i64 (i : Int)) = some (kLit i) := Maps.keyOf_int_mk Tryz.underlying3 (wf_nat (by omega))
  have HK := Lib.hid hkey
  have hval := secElem_mk hsl
  have HV := Lib.hid hval
  obtain ⟨N, hN⟩ : ∃ N, N = burnM M := ⟨_, rfl⟩
  rw [← hN] at hB hb HF ⊢
  clear d hE hdn hN hkey hval
  obtain ⟨hf, hnn, hw0, hx1, hx2⟩ := hb
  clear hx1 hx2
  have HFr := Lib.hid hf
  have HNn := Lib.hid hnn
  have HW0 := Lib.hid hw0
  have HSL := Lib.hid hsl
  have hss : s.size ≤ 512 := by omega
  have HT : Hid (∀ w1 : World, (w1.alloc (.cells Tryz.zeroCells78 78)).there w1.heap.size 0 s.size) := Lib.hid (fun w1 => by rw [hs]; exact zc_there w1)
  have hu := Tryz.underlying78
  have HU := Lib.hid hu
  have hii : (Tryz.prog.info? 78).map (·.size) = some (U8s s.data.toList).length := by rw [secSize, u8s_len, hsl]
  have HII := Lib.hid hii
  have hi0 : (0 : Int) ≤ (i : Int) := by omega
  clear hf hnn hw0 hsl hu hii
  go_enter Tryz.func41, Tryz.ntmps41
  go_wp2_with (first
    | (go_at_call 8; refine hDn.mono ?_; rintro e w' ⟨rfl, rfl⟩)
    | (go_at_call 55; refine hH.mono ?_; rintro e w' ⟨rfl, rfl⟩)
    | (go_at_call 57; refine hB.mono ?_; rintro e w1 ⟨rfl, hd1, ha1⟩; have HD1 := Lib.hid hd1; have HA1 := Lib.hid ha1; clear hd1 ha1)
    | (with_reducible refine wpList_copy_str rfl (.tmp 23) (.tmp 24) 56 9 rfl 5 Tryz.underlying56 Tryz.sizeOf5 w1.heap.size 0 512 512 rfl s rfl hss (HT.out _) ?_))
  obtain ⟨W3, hW3, hd3, ha3, hr3⟩ := HF.out w1 HD1.out HA1.out
  rw [← hW3]
  clear HF HT hW3
  have c1 := hd3.c1
  obtain ⟨D, ho, hh, hv, hsz⟩ := hd3.wait
  have hroom : Maps.size D < maxLen := by have := HNn.out; unfold maxLen; omega
  have HD3 := Lib.hid hd3
  have HA3 := Lib.hid ha3
  have HH := Lib.hid hh
  have HVV := Lib.hid hv
  have HR := Lib.hid hroom
  have HR3 := Lib.hid hr3
  clear hd3 ha3 hh hv hsz hroom hr3
  refine wp_region_still_tail 6 (by kernel_rfl) (by kernel_rfl) ?_
  simp only [List.take_succ_cons, List.take_zero, List.drop_succ_cons, List.drop_zero]
  iterate 5 still_step
  refine wpStill_load rfl 78 (.tmp 8) rfl w1.heap.size 0 rfl _ _ HR3.out HU.out rfl HII.out ?_
  refine wpStill_nil ?_
  refine wpList_mapUpdate_in _ rfl _ _ _ 52 rfl 3 78 intK Tryz.underlying52 secElem h.bw (Maps.size D) D rfl ho HR.out _ _ _ rfl rfl HK.out _ _ HV.out ?_
  intro w4 ho4 ht4
  have hd4 : DevAt w4 h { N with fresh := upd N.fresh i (some s.data.toList) } := HD3.out.withWait (ap_turned ht4) (WaitMap.put ho (by rw [HNn.out]; exact hi) HH.out HVV.out _ ho4) (fun j l hj hjl => by
    by_cases e : j = i
    · rw [e, upd_same] at hjl; injection hjl with hjl; rw [← hjl]; exact HSL.out
    · rw [upd_ne _ _ e] at hjl; exact HD3.out.flen j l hj hjl)
  have ha4 : Ap h.S w w4 := HA3.out.trans ((ap_turned ht4).weak (S_bw h))
  have hd5 := hd4.setWrites (M.writes + 1)
  have c3 := hd4.c3
  have fz3 := hd4.fz 3 (by omega)
  rw [show ((M.writes + 1 : Nat) : Int) = (M.writes : Int) + 1 by omega] at hd5
  rw [HFr.out] at hd5
  have c3' : w4.cell? ⟨h.b, 3, none⟩ = some (.int .i64 (M.writes : Int)) := by rw [c3, ← HW0.out]
  have HD5 := Lib.hid hd5
  have HA5 : Hid (Ap h.S w (w4.setCell ⟨h.b, 3, none⟩ (.int .i64 ((M.writes : Int) + 1)))) := Lib.hid (ha4.trans ((ap_put _ _ _ _).weak (S_b h)))
  clear hd4 ha4 hd5 c3 ho ho4 ht4 HD3 HA3 HH HVV HR HR3
  go_wp2
  go_ret
  exact ⟨rfl, HD5.out, HA5.out⟩

/-- Whatever is asked, Write answers, and the device has, what the document says. -/
theorem devWrite_any {w : World} {h : DH} {M : DM} (d : DevAt w h M) (a : Int) (s : ByteArray) (hwr : M.writes < 4611686018427387904) :
    Calls Tryz.prog 41 #[.pointer (some ⟨h.b, 0, none⟩), .int .i64 a, .string s] w fun e w' => e = .returned (.int .i64 (writeE M a s)) ∧ DevAt w' h (writeM M a s) ∧ Ap h.S w w' := by
  have hH := devHas_any d a
  have hDn := devDown_any d
  have hB := devBurn_any d

  by_cases h1 : M.down = true
  · have e1 : writeE M a s = 12 := if_pos h1
    have e2 : writeM M a s = M := by unfold writeM; rw [e1, if_neg (by omega), if_pos (.inl h1)]
    rw [e1, e2]
    rw [h1] at hDn
    have HD := Lib.hid d
    clear d e1 e2 h1
    go_enter Tryz.func41, Tryz.ntmps41
    go_wp2_with (first
      | (go_at_call 8; refine hDn.mono ?_; rintro e w' ⟨rfl, rfl⟩)
      | (go_at_call 55; refine hH.mono ?_; rintro e w' ⟨rfl, rfl⟩)
      | (go_at_call 57; refine hB.mono ?_; rintro e w1 ⟨rfl, hd1, ha1⟩))
    go_ret
    exact ⟨rfl, HD.out, Ap.refl _⟩
  have h1' : M.down = false := by simpa using h1
  rw [h1'] at hDn
  by_cases h2 : hasB M.n a = false
  · have e1 : writeE M a s = 1 := by unfold writeE; rw [if_neg h1, if_pos h2]
    have e2 : writeM M a s = M := by unfold writeM; rw [e1, if_neg (by omega), if_pos (.inr (.inl h2))]
    rw [e1, e2]
    rw [h2] at hH
    have HD := Lib.hid d
    clear d e1 e2 h1 h1' h2
    go_enter Tryz.func41, Tryz.ntmps41
    go_wp2_with (first
      | (go_at_call 8; refine hDn.mono ?_; rintro e w' ⟨rfl, rfl⟩)
      | (go_at_call 55; refine hH.mono ?_; rintro e w' ⟨rfl, rfl⟩)
      | (go_at_call 57; refine hB.mono ?_; rintro e w1 ⟨rfl, hd1, ha1⟩))
    go_ret
    exact ⟨rfl, HD.out, Ap.refl _⟩
  have h2' : hasB M.n a = true := by simpa using h2
  by_cases h3 : s.size = 512
  · by_cases h4 : burnE M = 0
    · have e1 : writeE M a s = 0 := by unfold writeE; rw [if_neg h1, if_neg h2, if_neg (by omega), h4]
      have e2 : writeM M a s = { burnM M with fresh := upd M.fresh a.toNat (some s.data.toList), writes := M.writes + 1 } := by unfold writeM; rw [if_pos e1]
      rw [e1, e2]
      have ha : 0 ≤ a ∧ a < (M.n : Int) := by unfold hasB at h2'; simpa using h2'
      have := devWrite_ok d h1' a.toNat (by omega) s h3 h4 hwr
      rw [Int.toNat_of_nonneg ha.1] at this
      exact this
    · have hE : burnE M = 12 := by
        unfold burnE at h4 ⊢
        by_cases g : M.left = 0
        · rw [if_pos g]
        · rw [if_neg g] at h4; exact absurd rfl h4
      have e1 : writeE M a s = 12 := by unfold writeE; rw [if_neg h1, if_neg h2, if_neg (by omega), hE]
      have e2 : writeM M a s = burnM M := by unfold writeM; rw [e1, if_neg (by omega), if_neg (by rintro (g | g | g); exact h1 g; exact h2 g; omega)]
      rw [e1, e2]
      rw [h2'] at hH
      rw [hE] at hB
      obtain ⟨N, hN⟩ : ∃ N, N = burnM M := ⟨_, rfl⟩
      rw [← hN] at hB ⊢
      clear d e1 e2 h1 h1' h2 h2' hN h4 hE
      go_enter Tryz.func41, Tryz.ntmps41
      go_wp2_with (first
        | (go_at_call 8; refine hDn.mono ?_; rintro e w' ⟨rfl, rfl⟩)
        | (go_at_call 55; refine hH.mono ?_; rintro e w' ⟨rfl, rfl⟩)
        | (go_at_call 57; refine hB.mono ?_; rintro e w1 ⟨rfl, hd1, ha1⟩))
      go_ret
      exact ⟨rfl, hd1, ha1⟩
  · have e1 : writeE M a s = 2 := by unfold writeE; rw [if_neg h1, if_neg h2, if_pos h3]
    have e2 : writeM M a s = M := by unfold writeM; rw [e1, if_neg (by omega), if_pos (.inr (.inr h3))]
    rw [e1, e2]
    rw [h2'] at hH
    have HD := Lib.hid d
    have h3' : ((s.size : Int) == 512) = false := by simp; omega
    have h3'' : ((s.size : Int) != 512) = true := by simp; omega
    clear d e1 e2 h1 h1' h2 h2'
    go_enter Tryz.func41, Tryz.ntmps41
    go_wp2_with (first
      | (go_at_call 8; refine hDn.mono ?_; rintro e w' ⟨rfl, rfl⟩)
      | (go_at_call 55; refine hH.mono ?_; rintro e w' ⟨rfl, rfl⟩)
      | (go_at_call 57; refine hB.mono ?_; rintro e w1 ⟨rfl, hd1, ha1⟩))
    go_ret
    exact ⟨rfl, HD.out, Ap.refl _⟩
end Go.Proofs.YtjhpheepimbbdaaGreatDoor
namespace Go.Proofs.YtjhpheepimbbdaaGreatDoor
open Go.RowKit Go.Maps

theorem u8a_size (l : List UInt8) : (U8s l).toArray.size = l.length := by rw [List.size_toArray, u8s_len]
theorem string_at {w : World} {b off cap : Nat} {l : List UInt8} (n : Nat) (hn : n = l.length) (h : Row8 w b off l) :
    (convert 56 9 (.slice (some ⟨b, off, none⟩) n cap)).run Tryz.prog w = .ok (.string ⟨l.toArray⟩) w := by
  subst hn
  refine run_convert_bytes_back w 56 9 5 ⟨b, off, none⟩ cap l Tryz.underlying56 Tryz.underlying5 Tryz.underlying9 (fun j hj => ?_)
  rw [Addr.add_mid, (h.2 j hj).1, List.getD, List.getElem?_eq_getElem hj]; rfl
theorem zc_elem (w : World) : secElem (.agg Tryz.zeroCells78) = some (.lit (.string blankB), []) := by rw [zc_eq w]; exact secElem_mk blankB_len
/-- A sector put into a new variable. -/
theorem var_facts {w : World} {h : DH} {M : DM} (d : DevAt w h M) {l : List UInt8} (hl : l.length = 512) :
    ∃ W2 : World, W2 = (w.alloc (.cells Tryz.zeroCells78 78)).setCells w.heap.size 0 (U8s l) ∧ DevAt W2 h M ∧ Below w.heap.size w W2 ∧ Row8 W2 w.heap.size 0 l := by
  have ht : (w.alloc (.cells Tryz.zeroCells78 78)).there w.heap.size 0 (U8s l).length := by rw [u8s_len, hl]; exact zc_there w
  refine ⟨_, rfl, ?_, ?_, ?_⟩
  · refine DevAt.ap (S := fun k => k = w.heap.size) (d.alloc _) (ap_setCells _ _ _ _) (fun k hk e => ?_)
    have h1 := d.ltb; have h2 := d.ltbs; have h3 := d.wait.lt; have h4 := d.badm.lt
    rcases hk with hk | hk | hk | hk <;> omega
  · exact Ap.below (S := fun k => k = w.heap.size) (Ap.setCells (S := fun k => k = w.heap.size) (.inl rfl) _ _ _ ((Ap.refl w).alloc _)) (Nat.le_refl _) (fun k hk => by omega)
  · exact Row8.of_range (by rw [size_setCells]; simp) (World.rangeAt_setCells_same _ _ _ _ ht) (by rw [← u8s_len l]; exact World.there_setCells ht _ _ _)
def readE (M : DM) (a : Int) : Int := if M.down = true then 12 else if hasB M.n a = false then 1 else match M.fresh a.toNat with
  | some _ => 0
  | none => if M.bad a.toNat = true then 9 else 0
def readV (M : DM) (a : Int) : List UInt8 := if readE M a = 0 then (match M.fresh a.toNat with
  | some l => l
  | none => M.sure a.toNat) else []
theorem emptyStr : (⟨([] : List UInt8).toArray⟩ : ByteArray) = ⟨#[]⟩ := rfl
set_option maxHeartbeats 1000000 in
set_option maxRecDepth 100000 in
theorem devRead_fresh {w : World} {h : DH} {M : DM} (d : DevAt w h M) (hdn : M.down = false) (i : Nat) (hi : i < M.n) (l : List UInt8) (hf : M.fresh i = some l) :
    Calls Tryz.prog 45 #[.pointer (some ⟨h.b, 0, none⟩), .int .i64 (i : Int)] w fun e w' => e = .returned (.tuple #[.string ⟨l.toArray⟩, .int .i64 0]) ∧ Below w.heap.size w w' := by
  have hH := devHas_any d (i : Int)
  rw [show hasB M.n (i : Int) = true by unfold hasB; exact decide_eq_true (by omega)] at hH
  have hDn := devDown_any d
  rw [hdn] at hDn
  have hl := d.flen i l hi hf
  obtain ⟨W2, hW2, hd2, hb2, hr2⟩ := var_facts d hl
  have c1 := d.c1
  obtain ⟨D, ho, hh, hv, hsz⟩ := d.wait
  have hhas : Maps.has D (kLit i) = true := by
    have := (hh (i : Int)).2 ⟨by omega, by simpa using hi, by simp [hf]⟩
    exact this
  have hat := hv i l hi hf
  have hkey : keyOf Tryz.prog 3 (.int .i64 (i : Int)) = some (kLit i) := Maps.keyOf_int_mk Tryz.underlying3 (wf_nat (by have := d.n2; omega))
  have HG : Hid (∀ v ps, secElem v = some (D.atKey (kLit i) (.lit (.string blankB)), ps) → v = .agg (U8s l).toArray) := Lib.hid (fun v ps hv => by
    obtain ⟨l', _, hv', hz⟩ := secElem_inv hv
    rw [hat] at hz
    injection hz with hz _
    injection hz with hz
    injection hz with hz
    rw [hv', hz])
  have hZ := zc_elem w
  have HT : Hid ((w.alloc (.cells Tryz.zeroCells78 78)).there w.heap.size 0 (U8s l).toArray.size) := Lib.hid (by rw [u8a_size, hl]; exact zc_there w)
  have HII : Hid ((Tryz.prog.info? 78).map (·.size) = some (U8s l).toArray.size) := Lib.hid (by rw [secSize, u8a_size, hl])
  have H1 : Hid ((U8s l).toArray.all (·.oneCell') = true) := Lib.hid (all_oneCell_toArray (u8s_one l))
  have hcv := string_at (cap := 512) 512 hl.symm hr2
  rw [hW2] at hcv hb2
  have HK := Lib.hid hkey
  have HHas := Lib.hid hhas
  have HZ := Lib.hid hZ
  have HB := Lib.hid hb2
  clear d hdn hl hW2 hd2 hb2 hr2 hh hv hsz hhas hat hkey hZ hf
  go_enter Tryz.func45, Tryz.ntmps45
  go_wp2_with (first
    | (go_at_call 8; refine hDn.mono ?_; rintro e w' ⟨rfl, rfl⟩)
    | (go_at_call 55; refine hH.mono ?_; rintro e w' ⟨rfl, rfl⟩)
    | (at_lookup; refine wpList_lookup_own_ok _ rfl _ _ 52 rfl 3 78 intK Tryz.underlying52 secElem (Tryz.zeroValue78 _) _ [] HZ.out h.bw (Maps.size D) D rfl ho _ _ rfl HK.out ?_; intro v ps hv; have hv2 := HG.out v ps hv; subst hv2; clear hv; rw [HHas.out])
    | (with_reducible refine wpList_store_mid rfl 78 (.tmp 6) (.tmp 21) rfl w.heap.size 0 (U8s l).toArray rfl rfl HT.out HII.out H1.out ?_))
  go_ret2
  exact ⟨rfl, HB.out⟩

set_option maxHeartbeats 1000000 in
set_option maxRecDepth 100000 in
theorem devRead_sure {w : World} {h : DH} {M : DM} (d : DevAt w h M) (hdn : M.down = false) (i : Nat) (hi : i < M.n) (hf : M.fresh i = none) :
    Calls Tryz.prog 45 #[.pointer (some ⟨h.b, 0, none⟩), .int .i64 (i : Int)] w fun e w' => e = .returned (.tuple #[.string ⟨(if M.bad i = true then [] else M.sure i).toArray⟩, .int .i64 (if M.bad i = true then 9 else 0)]) ∧ Below w.heap.size w w' := by
  have hH := devHas_any d (i : Int)
  rw [show hasB M.n (i : Int) = true by unfold hasB; exact decide_eq_true (by omega)] at hH
  have hDn := devDown_any d
  rw [hdn] at hDn
  have hl := blankB_len
  obtain ⟨W2, hW2, hd2, hb2, _⟩ := var_facts d hl
  have hIB := devIsBad_any hd2 i hi
  have c1 := d.c1
  obtain ⟨D, ho, hh, hv, hsz⟩ := d.wait
  have hhas : Maps.has D (kLit i) = false := by
    have := hh (i : Int)
    cases hc : Maps.has D (kLit i)
    · rfl
    · have := (this.1 hc).2.2; simp [hf] at this
  have hkey : keyOf Tryz.prog 3 (.int .i64 (i : Int)) = some (kLit i) := Maps.keyOf_int_mk Tryz.underlying3 (wf_nat (by have := d.n2; omega))
  have HG : Hid (∀ v ps, secElem v = some (D.atKey (kLit i) (.lit (.string blankB)), ps) → v = .agg (U8s blankB).toArray) := Lib.hid (fun v ps hv => by
    obtain ⟨l', _, hv', hz⟩ := secElem_inv hv
    rw [atKey_of_not_has hhas] at hz
    injection hz with hz _
    injection hz with hz
    injection hz with hz
    rw [hv', hz])
  have hZ := zc_elem w
  have HT : Hid ((w.alloc (.cells Tryz.zeroCells78 78)).there w.heap.size 0 (U8s blankB).toArray.size) := Lib.hid (by rw [u8a_size, hl]; exact zc_there w)
  have HII : Hid ((Tryz.prog.info? 78).map (·.size) = some (U8s blankB).toArray.size) := Lib.hid (by rw [secSize, u8a_size, hl])
  have H1 : Hid ((U8s blankB).toArray.all (·.oneCell') = true) := Lib.hid (all_oneCell_toArray (u8s_one blankB))
  have hn2 := d.n2
  have hlen := d.lens i hi
  have hcap1 := d.cap1
  have hcap2 := d.cap2
  have HC3 : Hid (∀ w3 : World, Below W2.heap.size W2 w3 → w3.cell? ⟨h.b, 0, none⟩ = some (.slice (some ⟨h.bs, 0, none⟩) M.n h.cap) ∧ (convert 56 9 (.slice (some ⟨h.bs, i * 512, none⟩) 512 512)).run Tryz.prog w3 = .ok (.string ⟨(M.sure i).toArray⟩) w3) := Lib.hid (fun w3 hb => by
    have hd3 := hd2.below hb
    exact ⟨hd3.c0, string_at (cap := 512) 512 (hd3.lens i hi).symm (hd3.rows i hi)⟩)
  have hsz2 : w.heap.size ≤ W2.heap.size := hb2.size
  have HSZ := Lib.hid hsz2
  rw [hW2] at hIB hb2 HC3 HSZ
  have HK := Lib.hid hkey
  have HHas := Lib.hid hhas
  have HZ := Lib.hid hZ
  have HB := Lib.hid hb2
  clear d hdn hW2 hd2 hb2 hh hv hsz hhas hkey hZ hf hsz2 hl hlen
  have hi0 : (0 : Int) ≤ (i : Int) := by omega
  have hi1 : (i : Int) < (M.n : Int) := by omega
  cases hbad : M.bad i
  all_goals rw [hbad] at hIB
  all_goals simp only [Bool.false_eq_true, if_false, if_true]
  all_goals clear hbad
  all_goals go_enter Tryz.func45, Tryz.ntmps45
  all_goals go_wp2_with (first
    | (go_at_call 8; refine hDn.mono ?_; rintro e w' ⟨rfl, rfl⟩)
    | (go_at_call 55; refine hH.mono ?_; rintro e w' ⟨rfl, rfl⟩)
    | (go_at_call 62; refine hIB.mono ?_; rintro e w3 ⟨rfl, hb3⟩; obtain ⟨c0, hcv⟩ := HC3.out w3 hb3; have HB3 := Lib.hid hb3; clear hb3)
    | (at_lookup; refine wpList_lookup_own_ok _ rfl _ _ 52 rfl 3 78 intK Tryz.underlying52 secElem (Tryz.zeroValue78 _) _ [] HZ.out h.bw (Maps.size D) D rfl ho _ _ rfl HK.out ?_; intro v ps hv; have hv2 := HG.out v ps hv; subst hv2; clear hv; rw [HHas.out])
    | (with_reducible refine wpList_store_mid rfl 78 (.tmp 6) (.tmp 21) rfl w.heap.size 0 (U8s blankB).toArray rfl rfl HT.out HII.out H1.out ?_))
  all_goals go_ret2
  all_goals exact ⟨rfl, HB.out.trans (HB3.out.mono HSZ.out)⟩
theorem devRead_any {w : World} {h : DH} {M : DM} (d : DevAt w h M) (a : Int) :
    Calls Tryz.prog 45 #[.pointer (some ⟨h.b, 0, none⟩), .int .i64 a] w fun e w' => e = .returned (.tuple #[.string ⟨(readV M a).toArray⟩, .int .i64 (readE M a)]) ∧ Below w.heap.size w w' := by
  have hH := devHas_any d a
  have hDn := devDown_any d
  by_cases h1 : M.down = true
  · have e1 : readE M a = 12 := if_pos h1
    have e2 : readV M a = [] := by unfold readV; rw [e1, if_neg (by omega)]
    rw [e1, e2]
    rw [h1] at hDn
    clear d e1 e2 h1
    go_enter Tryz.func45, Tryz.ntmps45
    go_wp2_with (first
      | (go_at_call 8; refine hDn.mono ?_; rintro e w' ⟨rfl, rfl⟩)
      | (go_at_call 55; refine hH.mono ?_; rintro e w' ⟨rfl, rfl⟩))
    go_ret2
    exact ⟨rfl, Below.refl _ _⟩
  have h1' : M.down = false := by simpa using h1
  by_cases h2 : hasB M.n a = false
  · have e1 : readE M a = 1 := by unfold readE; rw [if_neg h1, if_pos h2]
    have e2 : readV M a = [] := by unfold readV; rw [e1, if_neg (by omega)]
    rw [e1, e2]
    rw [h1'] at hDn
    rw [h2] at hH
    clear d e1 e2 h1 h1' h2
    go_enter Tryz.func45, Tryz.ntmps45
    go_wp2_with (first
      | (go_at_call 8; refine hDn.mono ?_; rintro e w' ⟨rfl, rfl⟩)
      | (go_at_call 55; refine hH.mono ?_; rintro e w' ⟨rfl, rfl⟩))
    go_ret2
    exact ⟨rfl, Below.refl _ _⟩
  have h2' : hasB M.n a = true := by simpa using h2
  have ha : 0 ≤ a ∧ a < (M.n : Int) := by unfold hasB at h2'; simpa using h2'
  cases hf : M.fresh a.toNat with
  | some l =>
    have e1 : readE M a = 0 := by unfold readE; rw [if_neg h1, if_neg h2]; simp only [hf]
    have e2 : readV M a = l := by unfold readV; rw [e1, if_pos rfl]; simp only [hf]
    rw [e1, e2]
    have := devRead_fresh d h1' a.toNat (by omega) l hf
    rw [Int.toNat_of_nonneg ha.1] at this
    exact this
  | none =>
    have := devRead_sure d h1' a.toNat (by omega) hf
    rw [Int.toNat_of_nonneg ha.1] at this
    have e1 : readE M a = if M.bad a.toNat = true then 9 else 0 := by unfold readE; rw [if_neg h1, if_neg h2]; simp only [hf]
    have e2 : readV M a = if M.bad a.toNat = true then [] else M.sure a.toNat := by
      unfold readV
      rw [e1]
      by_cases g : M.bad a.toNat = true
      · rw [if_pos g, if_pos g, if_neg (by omega)]
      · rw [if_neg g, if_neg g, if_pos rfl]; simp only [hf]
    rw [e1, e2]
    exact this
end Go.Proofs.YtjhpheepimbbdaaGreatDoor
