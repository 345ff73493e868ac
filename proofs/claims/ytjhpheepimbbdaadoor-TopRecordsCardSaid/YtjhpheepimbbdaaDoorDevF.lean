/- The contract of a device's Flush. -/
import Derived.Test.YtjhpheepimbbdaaDoorDevD
import Derived.Maps.RangeWalk
namespace Go.Proofs.YtjhpheepimbbdaaDoor
open Go.RowKit Go.Maps

theorem DevAt.congr {w : World} {h : DH} {M M' : DM} (d : DevAt w h M) (hn : M'.n = M.n) (hs : ∀ i, i < M.n → M'.sure i = M.sure i) (hf : ∀ i, i < M.n → M'.fresh i = M.fresh i) (hb : ∀ i, i < M.n → M'.bad i = M.bad i)
    (hw : M'.writes = M.writes) (hd : M'.down = M.down) (hl : M'.left = M.left) : DevAt w h M' := by
  refine ⟨d.ltb, by rw [hn]; exact d.c0, d.c1, d.c2, by rw [hw]; exact d.c3, by rw [hd]; exact d.c4, by rw [hl]; exact d.c5, by rw [hl]; exact d.c6, d.fz, fun i hi => ?_, fun i hi => ?_, fun i l hi h => ?_, ?_, ?_, by rw [hn]; exact d.n1, by rw [hn]; exact d.n2, by rw [hn]; exact d.cap1, d.cap2, d.ne⟩
  · rw [hn] at hi; rw [hs i hi]; exact d.rows i hi
  · rw [hn] at hi; rw [hs i hi]; exact d.lens i hi
  · rw [hn] at hi; rw [hf i hi] at h; exact d.flen i l hi h
  · rw [hn]
    obtain ⟨D, ho, hh, hv, hsz⟩ := d.wait
    refine ⟨D, ho, fun x => ?_, fun i l hi hfi z => hv i l hi (by rw [← hf i hi]; exact hfi) z, hsz⟩
    rw [hh x]
    constructor
    · rintro ⟨a, b, c⟩; exact ⟨a, b, by rw [hf _ b]; exact c⟩
    · rintro ⟨a, b, c⟩; exact ⟨a, b, by rw [hf _ b] at c; exact c⟩
  · rw [hn]
    obtain ⟨D, ho, hh, hsz⟩ := d.badm
    refine ⟨D, ho, fun x => ?_, hsz⟩
    rw [hh x]
    constructor
    · rintro ⟨a, b, c⟩; exact ⟨a, b, by rw [hb _ b]; exact c⟩
    · rintro ⟨a, b, c⟩; exact ⟨a, b, by rw [hb _ b] at c; exact c⟩
/-! ### clear, and a range under way -/
theorem owns_clear {H : Type} {P : Program} {k t e : TypeId} {R : Value → Option (DataW H × List MemPlace)} {w : World} {b n : Nat} {D : DataW H} (ho : w.ownsMap P k R b n D) (ht : P.underlying t = some (.map k e)) (ty : TypeId) :
    ∃ w', (Builtin.clear_ #[t] ty #[.map (some b)]).run P w = .ok (.tuple #[]) w' ∧ w'.ownsMap P k R b 0 (.map []) ∧ w.mapTurned w' b := by
  obtain ⟨es, clock, hb, F, hs, rfl⟩ := ho
  refine ⟨_, by simp [Builtin.clear_, run_underlying ht, MapKept.run_getObj_map hb, MapKept.run_setObj_map _ hb, Result.andThen]; rfl, ⟨#[], clock, ChangeMaps.heap_setBlock_same hb _, ⟨by simp, MapKept.stamped_empty _, by simp⟩, Nat.le_refl _, rfl⟩, ⟨es, clock, #[], clock, hb, rfl⟩⟩
theorem wpList_clear_own {H : Type} {P : Program} {w : World} {ops : Array Oper} {rest : List Oper} {o : Oper} {a : Act} {Q : Exit → Act → World → Prop} (hg : o.guard = none) (m : Operand) (t : TypeId) (hop : o.op = Op.call { callee := Callee.builtin Builtin.clear, args := #[m], argTypes := #[t] })
    (k e : TypeId) (ht : P.underlying t = some (.map k e)) (R : Value → Option (DataW H × List MemPlace)) (b n : Nat) (D : DataW H) (hm : a.eval m = .map (some b)) (hown : w.ownsMap P k R b n D)
    (hK : ∀ w', w'.ownsMap P k R b 0 (.map []) → w.mapTurned w' b → wpList P ops Q rest (a.put o.dst (.tuple #[])) w') : wpList P ops Q (o :: rest) a w := by
  refine wpList_plain hg fun K' hK' => ?_
  obtain ⟨w', hrun, r1, r2⟩ := owns_clear hown ht o.type
  unfold Oper.wp
  simp [execOp, hop, resolve, invoke, builtin, hm, hrun, Result.andThen]
  exact hK' _ _ (hK w' r1 r2)
theorem ranges_ap {H : Type} {P : Program} {k : TypeId} {R : Value → Option (DataW H × List MemPlace)} {S : Nat → Prop} {w w' : World} {b r n : Nat} {D : DataW H} {left : Lit → Bool} {cnt : Nat} (h : w.ranges P k R b r n D left cnt) (a : Ap S w w') (hb : ¬ S b) (hr : ¬ S r) : w'.ranges P k R b r n D left cnt := by
  have h1 := h.owns.lt
  have h2 := h.lt
  obtain ⟨es, clock, since, seen, c0, e1, F, e2, e3, e4, r⟩ := h
  exact ⟨es, clock, since, seen, c0, (a.block b h1 hb).trans e1, F, e2, e3, (a.block _ h2 hr).trans e4, r⟩
/-! ### Flush -/
/-- Which sectors are through. -/
def dnB (f : Nat → Option (List UInt8)) (left : Lit → Bool) (i : Nat) : Bool := (f i).isSome && !left (kLit i)
def sureL (M : DM) (left : Lit → Bool) (i : Nat) : List UInt8 := if dnB M.fresh left i = true then (M.fresh i).getD [] else M.sure i
def badL (M : DM) (left : Lit → Bool) (i : Nat) : Bool := M.bad i && !dnB M.fresh left i
def leftM (M : DM) (left : Lit → Bool) : DM := { M with sure := sureL M left, bad := badL M left }
def landM (M : DM) : DM := { M with sure := fun i => (M.fresh i).getD (M.sure i), bad := fun i => M.bad i && (M.fresh i).isNone, fresh := fun _ => none }
def flushE (M : DM) : Int := if M.down = true then 12 else burnE M
def flushM (M : DM) : DM := if M.down = true then M else if burnE M = 0 then landM (burnM M) else burnM M
theorem sameK {i j : Nat} : (kLit i).sameKey (kLit j) = decide (i = j) := by
  unfold kLit
  simp [Lit.sameKey]
  omega
theorem invK (key : Value) (kl : Lit) (h : keyOf Tryd.prog 3 key = some kl) : ∃ x : Int, key = (fun x : Int => Value.int .i64 x) x := by
  obtain ⟨x, hx, _⟩ := Maps.keyOf_int_inv Tryd.underlying3 h
  exact ⟨x, hx⟩
theorem invV (v : Value) (y : DataW Unit × List MemPlace) (h : secElem v = some y) : ∃ c : List UInt8, v = (fun l : List UInt8 => Value.agg (U8s l).toArray) c := by
  obtain ⟨l, _, hv, _⟩ := secElem_inv h
  exact ⟨l, hv⟩
/-- What an entry that comes is. -/
theorem entry_facts {D : DataW Unit} {M : DM} (hh : ∀ x : Int, Maps.has D (.int .i64 x) = true ↔ 0 ≤ x ∧ x.toNat < M.n ∧ (M.fresh x.toNat).isSome = true) (hv : ∀ i l, i < M.n → M.fresh i = some l → ∀ z, D.atKey (kLit i) z = .lit (.string l))
    {x : Int} {c : List UInt8} {kl : Lit} {y : DataW Unit × List MemPlace} (hk : keyOf Tryd.prog 3 (Value.int .i64 x) = some kl) (hR : secElem (.agg (U8s c).toArray) = some y) (hat : ∀ zd, D.atKey kl zd = y.1) :
    ∃ i : Nat, x = (i : Int) ∧ kl = kLit i ∧ i < M.n ∧ M.fresh i = some c ∧ c.length = 512 := by
  obtain ⟨x', hx, hkl, _⟩ := Maps.keyOf_int_inv Tryd.underlying3 hk
  injection hx with _ hx
  subst hx
  have hhas : Maps.has D kl = true := has_true_of_atKey hat
  rw [hkl] at hhas
  obtain ⟨h0, h1, h2⟩ := (hh x).1 hhas
  obtain ⟨l, hl⟩ := Option.isSome_iff_exists.1 h2
  have ha := hv x.toNat l h1 hl .nil
  rw [← klit_of h0, ← hkl, hat] at ha
  obtain ⟨c', hc, he, hz⟩ := secElem_inv hR
  rw [hz] at ha
  injection ha with ha
  injection ha with ha
  have hcc : c = c' := by
    have e1 := bytesV_mk c
    have e2 := bytesV_mk c'
    have he2 : U8s c = U8s c' := by
      have := congrArg Array.toList (Value.agg.inj he)
      exact this
    rw [he2, e2] at e1
    exact (Option.some.inj e1).symm
  subst hcc
  exact ⟨x.toNat, by omega, by rw [hkl, klit_of h0], h1, by rw [hl, ha], hc⟩
theorem dnB_step (f : Nat → Option (List UInt8)) (left : Lit → Bool) {i : Nat} (hi : (f i).isSome = true) (j : Nat) : dnB f (fun z => left z && !z.sameKey (kLit i)) j = if j = i then true else dnB f left j := by
  unfold dnB
  simp only [sameK]
  by_cases e : j = i
  · subst e; simp [hi]
  · simp [e]
theorem leftM_step {w : World} {h : DH} {M : DM} {left : Lit → Bool} {i : Nat} {c : List UInt8} (hf : M.fresh i = some c)
    (d : DevAt w h { leftM M left with sure := upd (leftM M left).sure i c, bad := upd (leftM M left).bad i false }) : DevAt w h (leftM M (fun z => left z && !z.sameKey (kLit i))) := by
  refine d.congr rfl (fun j _ => ?_) (fun j _ => rfl) (fun j _ => ?_) rfl rfl rfl
  · show sureL M _ j = upd (sureL M left) i c j
    unfold sureL
    rw [dnB_step M.fresh left (by rw [hf]; rfl) j]
    by_cases e : j = i
    · subst e; rw [upd_same, if_pos rfl, if_pos rfl, hf]; rfl
    · rw [upd_ne _ _ e, if_neg e]
  · show badL M _ j = upd (badL M left) i false j
    unfold badL
    rw [dnB_step M.fresh left (by rw [hf]; rfl) j]
    by_cases e : j = i
    · subst e; rw [upd_same, if_pos rfl]; simp
    · rw [upd_ne _ _ e, if_neg e]
theorem leftM_start {w : World} {h : DH} {M : DM} (d : DevAt w h M) {D : DataW Unit} (hh : ∀ x : Int, Maps.has D (.int .i64 x) = true ↔ 0 ≤ x ∧ x.toNat < M.n ∧ (M.fresh x.toNat).isSome = true) : DevAt w h (leftM M (Maps.has D)) := by
  have e : ∀ i, i < M.n → dnB M.fresh (Maps.has D) i = false := by
    intro i hi
    unfold dnB
    cases hf : (M.fresh i).isSome
    · rfl
    · have : Maps.has D (kLit i) = true := (hh (i : Int)).2 ⟨by omega, by simpa using hi, by simpa using hf⟩
      simp [this]
  refine d.congr rfl (fun j hj => ?_) (fun j _ => rfl) (fun j hj => ?_) rfl rfl rfl
  · show sureL M _ j = _
    unfold sureL; rw [e j hj]; simp
  · show badL M _ j = _
    unfold badL; rw [e j hj]; simp
theorem leftM_end {w : World} {h : DH} {M : DM} {left : Lit → Bool} (hl : ∀ kl, left kl = false) (d : DevAt w h { leftM M left with fresh := fun _ => none }) : DevAt w h (landM M) := by
  have e : ∀ i, dnB M.fresh left i = (M.fresh i).isSome := by intro i; unfold dnB; rw [hl]; simp
  refine d.congr rfl (fun j _ => ?_) (fun j _ => rfl) (fun j _ => ?_) rfl rfl rfl
  · show _ = sureL M left j
    unfold sureL; rw [e j]
    cases hf : M.fresh j <;> simp [landM, hf]
  · show _ = badL M left j
    unfold badL; rw [e j]
    cases hf : M.fresh j <;> simp [landM, hf]
theorem waitMap_none {w : World} {b n : Nat} (h : w.ownsMap Tryd.prog 3 secElem b 0 (.map [])) : WaitMap w b n (fun _ => none) :=
  ⟨.map [], h, fun x => by simp [Maps.has], fun i l _ h => (by cases h), by simp [Maps.size]⟩

set_option maxHeartbeats 2000000 in
set_option maxRecDepth 100000 in
theorem devFlush_ok {w : World} {h : DH} {M : DM} (d : DevAt w h M) (hdn : M.down = false) (hE : burnE M = 0) :
    Calls Tryd.prog 15 #[.pointer (some ⟨h.b, 0, none⟩)] w fun e w' => e = .returned (.int .i64 0) ∧ DevAt w' h (landM (burnM M)) ∧ Ap h.S w w' := by
  have c4 := d.c4
  rw [hdn] at c4
  have hB := devBurn_any d
  rw [hE] at hB
  obtain ⟨N, hN⟩ : ∃ N, N = burnM M := ⟨_, rfl⟩
  rw [← hN] at hB ⊢
  clear d hE hdn hN
  go_enter Tryd.func15, Tryd.ntmps15
  go_wp2_with (first
    | (go_at_call 34; refine hB.mono ?_; rintro e w1 ⟨rfl, hd1, ha1⟩; have HD1 := Lib.hid hd1; have HA1 := Lib.hid ha1; have c1 := hd1.c1; obtain ⟨D, ho, hh, hv, hsz⟩ := hd1.wait; have HH := Lib.hid hh; have HV := Lib.hid hv; clear hd1 ha1 hh hv hsz)
    | (at_range; refine wpList_range_own _ rfl _ 52 rfl 3 78 intK Tryd.underlying52 secElem h.bw (Maps.size D) D rfl ho ?_; intro w2 hrg0 hg0 hs0))
  go_frame
  have hwr : Ap (fun _ => False) w1 w2 := (Ap.refl w1).grown hg0 (fun k hk => by cases hk)
  have hd2 := leftM_start (HD1.out.ap hwr (fun _ _ => id)) HH.out
  have ha2 : Ap h.S w w2 := HA1.out.trans (hwr.weak (fun _ hk => hk.elim))
  have hrne : ∀ k, h.S k → k ≠ w1.heap.size := by
    have h1 := HD1.out.ltb; have h2 := HD1.out.ltbs; have h3 := HD1.out.wait.lt; have h4 := HD1.out.badm.lt
    intro k hk
    rcases hk with hk | hk | hk | hk <;> omega
  have hwr1 : w.heap.size ≤ w1.heap.size := HA1.out.size
  have HWR1 := Lib.hid hwr1
  have HRNE := Lib.hid hrne
  have HHD := Lib.hid hd2
  have HHA := Lib.hid ha2
  have HRG := Lib.hid hrg0
  clear ho c1 hB c4 hg0 hs0 HD1 HA1 hwr hd2 ha2 hrg0 hwr1 hrne
  go_loopw [4] (fun _ wr => ∃ (left : Lit → Bool) (cnt : Nat), wr.ranges Tryd.prog 3 secElem h.bw w1.heap.size (Maps.size D) D left cnt ∧ DevAt wr h (leftM N left) ∧ Ap h.S w wr)
    (fun _ wr => wr.rangeLeft h.bw w1.heap.size)
  case atStart => exact ⟨_, _, HRG.out, HHD.out, HHA.out⟩
  case round =>
    obtain ⟨left, cnt, hrg, hd3, ha3⟩ := hrel
    have HD3 := Lib.hid hd3
    have HA3 := Lib.hid ha3
    clear hd3 ha3 HRG HHD HHA
    go_wp2_with (at_next; refine wpList_next_ranges _ rfl _ rfl 3 intK secElem (fun x : Int => Value.int .i64 x) (fun l : List UInt8 => Value.agg (U8s l).toArray) invK invV h.bw w1.heap.size (Maps.size D) D left cnt rfl hrg ?_ ?_)
    · intro _ hl0
      have ho := hrg.owns
      have c1 := HD3.out.c1
      have HL0 := Lib.hid hl0
      clear hl0 hrg HH HV
      go_wp2_with (with_reducible refine wpList_clear_own rfl (.tmp 34) 52 rfl 3 78 Tryd.underlying52 secElem h.bw (Maps.size D) D rfl ho ?_; intro w5 ho5 ht5)
      go_ret
      exact ⟨rfl, leftM_end HL0.out (HD3.out.withWait (ap_turned ht5) (waitMap_none ho5) (fun i l _ h => by cases h)), HA3.out.trans ((ap_turned ht5).weak (S_bw h))⟩
    · intro x c kl y1 y2 w4 cnt1 hk hlk hR hat hrg1 hlt hg1 hs1 hen
      obtain ⟨i, rfl, rfl, hi, hf, hc⟩ := entry_facts HH.out HV.out hk hR hat
      have hap : Ap (fun k => k = w1.heap.size) wr w4 := Ap.grown (S := fun k => k = w1.heap.size) (Ap.refl wr) hg1 (fun k hk => by injection hk with hk; exact .inl hk.symm)
      have hd4 : DevAt w4 h (leftM N left) := HD3.out.ap hap (fun k hk e => HRNE.out k hk e)
      have ha4 : Ap h.S w w4 := HA3.out.grown hg1 (fun k hk => by injection hk with hk; right; have := HWR1.out; omega)
      obtain ⟨W5, hW5, hd5, hb5, hr5⟩ := var_facts hd4 hc
      have hset := devSettle_any hd5 i hi c hc
      have hrl := hr5.range
      have ht4 : (w4.alloc (.cells Tryd.zeroCells78 78)).there w4.heap.size 0 (U8s c).toArray.size := by rw [u8a_size, hc]; exact zc_there w4
      have HII : Hid ((Tryd.prog.info? 78).map (·.size) = some (U8s c).toArray.size) := Lib.hid (by rw [secSize, u8a_size, hc])
      have HIL : Hid ((Tryd.prog.info? 78).map (·.size) = some (U8s c).length) := Lib.hid (by rw [secSize, u8s_len, hc])
      have H1 : Hid ((U8s c).toArray.all (·.oneCell') = true) := Lib.hid (all_oneCell_toArray (u8s_one c))
      have HU := Lib.hid Tryd.underlying78
      have hrg5 : W5.ranges Tryd.prog 3 secElem h.bw w1.heap.size (Maps.size D) D _ cnt1 := ranges_ap (S := fun k => w4.heap.size ≤ k) hrg1 ⟨hb5.os, hb5.tape, hb5.output, hb5.size, fun k hk _ => hb5.block k hk⟩ (by have := hrg1.owns.lt; omega) (by have := hrg1.lt; omega)
      have HRG5 := Lib.hid hrg5
      have HA5 : Hid (Ap h.S w W5) := Lib.hid (ha4.trans (Ap.of_below hb5))
      have HF := Lib.hid hf
      have HLT := Lib.hid hlt
      have HRG := Lib.hid hrg
      have HTT := Lib.hid ht4
      have HRL := Lib.hid hrl
      have hbn := HD3.out.ne
      have HNE : Hid (¬ h.S2 h.bw ∧ ¬ h.S2 w1.heap.size) := Lib.hid (by
        refine ⟨?_, fun e => HRNE.out _ (S2_S h _ e) rfl⟩
        rintro (e | e)
        · exact hbn.2.2.2.1 e.symm
        · exact hbn.2.2.2.2.2 e)
      rw [hW5] at hset HA5 HRG5 HRL
      clear hW5 hd5 hb5 hr5 hrl ht4 hrg5 ha4 hd4 hap hf hlt hrg hrg1 hg1 hs1 hk hlk hR hat HH HV hbn hi hc HD3
      go_wp2_with (first
        | (with_reducible refine wpList_store_mid rfl 78 (.tmp 5) (.tmp 26) rfl w4.heap.size 0 (U8s c).toArray rfl rfl HTT.out HII.out H1.out ?_)
        | (with_reducible refine wpList_load_mid rfl 78 (.tmp 5) rfl w4.heap.size 0 rfl (U8s c) _ HRL.out HU.out rfl HIL.out ?_)
        | (go_at_call 35; refine hset.mono ?_; rintro e w6 ⟨rfl, hd6, ha6⟩))
      go_roundw
      case rel => exact ⟨_, cnt1, ranges_ap HRG5.out ha6 HNE.out.1 HNE.out.2, leftM_step HF.out hd6, HA5.out.trans (ha6.weak (S2_S h))⟩
      case measure => rw [(ranges_ap HRG5.out ha6 HNE.out.1 HNE.out.2).left_eq, HRG.out.left_eq]; exact HLT.out

/-- Flush, whatever the device is. -/
theorem devFlush_any {w : World} {h : DH} {M : DM} (d : DevAt w h M) :
    Calls Tryd.prog 15 #[.pointer (some ⟨h.b, 0, none⟩)] w fun e w' => e = .returned (.int .i64 (flushE M)) ∧ DevAt w' h (flushM M) ∧ Ap h.S w w' := by
  by_cases h1 : M.down = true
  · have c4 := d.c4
    rw [h1] at c4
    rw [show flushE M = 12 from if_pos h1, show flushM M = M from if_pos h1]
    have HD := Lib.hid d
    clear d h1
    go_enter Tryd.func15, Tryd.ntmps15
    go_wp2
    go_ret
    exact ⟨rfl, HD.out, Ap.refl _⟩
  have h1' : M.down = false := by simpa using h1
  by_cases h4 : burnE M = 0
  · rw [show flushE M = 0 by unfold flushE; rw [if_neg h1, h4], show flushM M = landM (burnM M) by unfold flushM; rw [if_neg h1, if_pos h4]]
    exact devFlush_ok d h1' h4
  · have hE : burnE M = 12 := by
      unfold burnE at h4 ⊢
      by_cases g : M.left = 0
      · rw [if_pos g]
      · rw [if_neg g] at h4; exact absurd rfl h4
    rw [show flushE M = 12 by unfold flushE; rw [if_neg h1, hE], show flushM M = burnM M by unfold flushM; rw [if_neg h1, if_neg h4]]
    have c4 := d.c4
    rw [h1'] at c4
    have hB := devBurn_any d
    rw [hE] at hB
    obtain ⟨N, hN⟩ : ∃ N, N = burnM M := ⟨_, rfl⟩
    rw [← hN] at hB ⊢
    clear d h1 h1' hN h4 hE
    go_enter Tryd.func15, Tryd.ntmps15
    go_wp2_with (go_at_call 34; refine hB.mono ?_; rintro e w1 ⟨rfl, hd1, ha1⟩)
    go_ret
    exact ⟨rfl, hd1, ha1⟩
end Go.Proofs.YtjhpheepimbbdaaDoor
