/- Erase at any place. The contract of a device's Flush. Superblocks: what is found of one that was written to both slots, and of which one was erased. Superblocks: one that comes in. Superblocks: the walk of SuperBack. -/
import Derived.Test.YtfpnlaafefdcaaaDoorDevB
import Derived.Test.YtfpnlaafefdcaaaDoorDevD
import Derived.Maps.RangeWalk
import Derived.Test.YtfpnlaafefdcaaaDoorSupN
import Derived.Test.YtfpnlaafefdcaaaDoorSupM
import Derived.OpenShut
import Derived.Lib.SmallJoins
import Derived.Test.YtfpnlaafefdcaaaDoorSupR
import Derived.Test.YtfpnlaafefdcaaaDoorGeoD
import Derived.Deep.Cut
import Derived.Deep.QuietTactic
import Derived.BigQuiet
namespace Go.Proofs.YtfpnlaafefdcaaaDoor
open Go.RowKit Go.Maps

def eraseE (M : DM) (a : Int) : Int := if hasB M.n a = true then 0 else 1
def eraseM (M : DM) (a : Int) : DM := if hasB M.n a = true then { M with bad := upd M.bad a.toNat true } else M
theorem devErase_any {w : World} {h : DH} {M : DM} (d : DevAt w h M) (a : Int) :
    Calls Tryd.prog 19 #[.pointer (some ⟨h.b, 0, none⟩), .int .i64 a] w fun e w' => e = .returned (.int .i64 (eraseE M a)) ∧ DevAt w' h (eraseM M a) ∧ Ap h.S w w' := by
  unfold eraseE eraseM
  by_cases g : hasB M.n a = true
  · rw [if_pos g, if_pos g]
    have g' := g
    unfold hasB at g'
    have g'' := of_decide_eq_true g'
    obtain ⟨i, rfl⟩ : ∃ i : Nat, a = (i : Int) := ⟨a.toNat, by omega⟩
    exact devErase_yes d i (by omega)
  · rw [if_neg g, if_neg g]
    exact (devErase_no d a (by simpa using g)).mono fun e w' ⟨he, hw⟩ => ⟨he, by rw [← hw]; exact d, by rw [← hw]; exact Ap.refl _⟩
end Go.Proofs.YtfpnlaafefdcaaaDoor
namespace Go.Proofs.YtfpnlaafefdcaaaDoor
open Go.RowKit Go.Maps

theorem DevAt.congr {w : World} {h : DH} {M M' : DM} (d : DevAt w h M) (hn : M'.n = M.n) (hs : ∀ i, i < M.n → M'.sure i = M.sure i) (hf : ∀ i, i < M.n → M'.fresh i = M.fresh i) (hb : ∀ i, i < M.n → M'.bad i = M.bad i)
    (hw : M'.writes = M.writes) (hd : M'.down = M.down) (hl : M'.left = M.left) : DevAt w h M' := by
  refine ⟨d.ltb, by rw [hn]; exact d.c0, d.c1, d.c2, by rw [hw]; exact d.c3, by rw [hd]; exact d.c4, by rw [hl]; exact d.c5, by rw [hl]; exact d.c6, d.fz, fun i hi => ?_, fun i hi => ?_, fun i l hi h => ?_, ?_, ?_, by rw [hn]; exact d.n1, by rw [hn]; exact d.n2, by rw [hn]; exact d.cap1, d.cap2, d.ne⟩
  · rw [hn] at hi; rw [hs i hi]; exact d.rows i hi
  · rw [hn] at hi; rw [hs i hi]; exact d.lens i hi
  · rw [hn] at hi; rw [hf i hi] at h; exact d.flen i l hi h
  · rw [hn]
    obtain ⟨D, ho, hh, hv, hsz⟩ := d.wait
    refine ⟨D, ho, fun x => ?_, fun i l hi hfi z => hv i l hi (by rw [← hf i hi]; exact hfi) z, hsz⟩
    rw [hh x]
    constructor
    · rintro ⟨a, b, c⟩; exact ⟨a, b, by rw [hf _ b]; exact c⟩
    · rintro ⟨a, b, c⟩; exact ⟨a, b, by rw [hf _ b] at c; exact c⟩
  · rw [hn]
    obtain ⟨D, ho, hh, hsz⟩ := d.badm
    refine ⟨D, ho, fun x => ?_, hsz⟩
    rw [hh x]
    constructor
    · rintro ⟨a, b, c⟩; exact ⟨a, b, by rw [hb _ b]; exact c⟩
    · rintro ⟨a, b, c⟩; exact ⟨a, b, by rw [hb _ b] at c; exact c⟩
/-! ### clear, and a range under way -/
theorem owns_clear {H : Type} {P : Program} {k t e : TypeId} {R : Value → Option (DataW H × List MemPlace)} {w : World} {b n : Nat} {D : DataW H} (ho : w.ownsMap P k R b n D) (ht : P.underlying t = some (.map k e)) (ty : TypeId) :
    ∃ w', (Builtin.clear_ #[t] ty #[.map (some b)]).run P w = .ok (.tuple #[]) w' ∧ w'.ownsMap P k R b 0 (.map []) ∧ w.mapTurned w' b := by
  obtain ⟨es, clock, hb, F, hs, rfl⟩ := ho
  refine ⟨_, by simp [Builtin.clear_, run_underlying ht, MapKept.run_getObj_map hb, MapKept.run_setObj_map _ hb, Result.andThen]; rfl, ⟨#[], clock, ChangeMaps.heap_setBlock_same hb _, ⟨by simp, MapKept.stamped_empty _, by simp⟩, Nat.le_refl _, rfl⟩, ⟨es, clock, #[], clock, hb, rfl⟩⟩
theorem wpList_clear_own {H : Type} {P : Program} {w : World} {ops : Array Oper} {rest : List Oper} {o : Oper} {a : Act} {Q : Exit → Act → World → Prop} (hg : o.guard = none) (m : Operand) (t : TypeId) (hop : o.op = Op.call { callee := Callee.builtin Builtin.clear, args := #[m], argTypes := #[t] })
    (k e : TypeId) (ht : P.underlying t = some (.map k e)) (R : Value → Option (DataW H × List MemPlace)) (b n : Nat) (D : DataW H) (hm : a.eval m = .map (some b)) (hown : w.ownsMap P k R b n D)
    (hK : ∀ w', w'.ownsMap P k R b 0 (.map []) → w.mapTurned w' b → wpList P ops Q rest (a.put o.dst (.tuple #[])) w') : wpList P ops Q (o :: rest) a w := by
  refine wpList_plain hg fun K' hK' => ?_
  obtain ⟨w', hrun, r1, r2⟩ := owns_clear hown ht o.type
  unfold Oper.wp
  simp [execOp, hop, resolve, invoke, builtin, hm, hrun, Result.andThen]
  exact hK' _ _ (hK w' r1 r2)
theorem ranges_ap {H : Type} {P : Program} {k : TypeId} {R : Value → Option (DataW H × List MemPlace)} {S : Nat → Prop} {w w' : World} {b r n : Nat} {D : DataW H} {left : Lit → Bool} {cnt : Nat} (h : w.ranges P k R b r n D left cnt) (a : Ap S w w') (hb : ¬ S b) (hr : ¬ S r) : w'.ranges P k R b r n D left cnt := by
  have h1 := h.owns.lt
  have h2 := h.lt
  obtain ⟨es, clock, since, seen, c0, e1, F, e2, e3, e4, r⟩ := h
  exact ⟨es, clock, since, seen, c0, (a.block b h1 hb).trans e1, F, e2, e3, (a.block _ h2 hr).trans e4, r⟩
/-! ### Flush -/
/-- Which sectors are through. -/
def dnB (f : Nat → Option (List UInt8)) (left : Lit → Bool) (i : Nat) : Bool := (f i).isSome && !left (kLit i)
def sureL (M : DM) (left : Lit → Bool) (i : Nat) : List UInt8 := if dnB M.fresh left i = true then (M.fresh i).getD [] else M.sure i
def badL (M : DM) (left : Lit → Bool) (i : Nat) : Bool := M.bad i && !dnB M.fresh left i
def leftM (M : DM) (left : Lit → Bool) : DM := { M with sure := sureL M left, bad := badL M left }
def landM (M : DM) : DM := { M with sure := fun i => (M.fresh i).getD (M.sure i), bad := fun i => M.bad i && (M.fresh i).isNone, fresh := fun _ => none }
def flushE (M : DM) : Int := if M.down = true then 12 else burnE M
def flushM (M : DM) : DM := if M.down = true then M else if burnE M = 0 then landM (burnM M) else burnM M
theorem sameK {i j : Nat} : (kLit i).sameKey (kLit j) = decide (i = j) := by
  unfold kLit
  simp [Lit.sameKey]
  omega
theorem invK (key : Value) (kl : Lit) (h : keyOf Tryd.prog 3 key = some kl) : ∃ x : Int, key = (fun x : Int => Value.int .i64 x) x := by
  obtain ⟨x, hx, _⟩ := Maps.keyOf_int_inv Tryd.underlying3 h
  exact ⟨x, hx⟩
theorem invV (v : Value) (y : DataW Unit × List MemPlace) (h : secElem v = some y) : ∃ c : List UInt8, v = (fun l : List UInt8 => Value.agg (U8s l).toArray) c := by
  obtain ⟨l, _, hv, _⟩ := secElem_inv h
  exact ⟨l, hv⟩
/-- What an entry that comes is. -/
theorem entry_facts {D : DataW Unit} {M : DM} (hh : ∀ x : Int, Maps.has D (.int .i64 x) = true ↔ 0 ≤ x ∧ x.toNat < M.n ∧ (M.fresh x.toNat).isSome = true) (hv : ∀ i l, i < M.n → M.fresh i = some l → ∀ z, D.atKey (kLit i) z = .lit (.string l))
    {x : Int} {c : List UInt8} {kl : Lit} {y : DataW Unit × List MemPlace} (hk : keyOf Tryd.prog 3 (Value.int .i64 x) = some kl) (hR : secElem (.agg (U8s c).toArray) = some y) (hat : ∀ zd, D.atKey kl zd = y.1) :
    ∃ i : Nat, x = (i : Int) ∧ kl = kLit i ∧ i < M.n ∧ M.fresh i = some c ∧ c.length = 512 := by
  obtain ⟨x', hx, hkl, _⟩ := Maps.keyOf_int_inv Tryd.underlying3 hk
  injection hx with _ hx
  subst hx
  have hhas : Maps.has D kl = true := has_true_of_atKey hat
  rw [hkl] at hhas
  obtain ⟨h0, h1, h2⟩ := (hh x).1 hhas
  obtain ⟨l, hl⟩ := Option.isSome_iff_exists.1 h2
  have ha := hv x.toNat l h1 hl .nil
  rw [← klit_of h0, ← hkl, hat] at ha
  obtain ⟨c', hc, he, hz⟩ := secElem_inv hR
  rw [hz] at ha
  injection ha with ha
  injection ha with ha
  have hcc : c = c' := by
    have e1 := bytesV_mk c
    have e2 := bytesV_mk c'
    have he2 : U8s c = U8s c' := by
      have := congrArg Array.toList (Value.agg.inj he)
      exact this
    rw [he2, e2] at e1
    exact (Option.some.inj e1).symm
  subst hcc
  exact ⟨x.toNat, by omega, by rw [hkl, klit_of h0], h1, by rw [hl, ha], hc⟩
theorem dnB_step (f : Nat → Option (List UInt8)) (left : Lit → Bool) {i : Nat} (hi : (f i).isSome = true) (j : Nat) : dnB f (fun z => left z && !z.sameKey (kLit i)) j = if j = i then true else dnB f left j := by
  unfold dnB
  simp only [sameK]
  by_cases e : j = i
  · subst e; simp [hi]
  · simp [e]
theorem leftM_step {w : World} {h : DH} {M : DM} {left : Lit → Bool} {i : Nat} {c : List UInt8} (hf : M.fresh i = some c)
    (d : DevAt w h { leftM M left with sure := upd (leftM M left).sure i c, bad := upd (leftM M left).bad i false }) : DevAt w h (leftM M (fun z => left z && !z.sameKey (kLit i))) := by
  refine d.congr rfl (fun j _ => ?_) (fun j _ => rfl) (fun j _ => ?_) rfl rfl rfl
  · show sureL M _ j = upd (sureL M left) i c j
    unfold sureL
    rw [dnB_step M.fresh left (by rw [hf]; rfl) j]
    by_cases e : j = i
    · subst e; rw [upd_same, if_pos rfl, if_pos rfl, hf]; rfl
    · rw [upd_ne _ _ e, if_neg e]
  · show badL M _ j = upd (badL M left) i false j
    unfold badL
    rw [dnB_step M.fresh left (by rw [hf]; rfl) j]
    by_cases e : j = i
    · subst e; rw [upd_same, if_pos rfl]; simp
    · rw [upd_ne _ _ e, if_neg e]
theorem leftM_start {w : World} {h : DH} {M : DM} (d : DevAt w h M) {D : DataW Unit} (hh : ∀ x : Int, Maps.has D (.int .i64 x) = true ↔ 0 ≤ x ∧ x.toNat < M.n ∧ (M.fresh x.toNat).isSome = true) : DevAt w h (leftM M (Maps.has D)) := by
  have e : ∀ i, i < M.n → dnB M.fresh (Maps.has D) i = false := by
    intro i hi
    unfold dnB
    cases hf : (M.fresh i).isSome
    · rfl
    · have : Maps.has D (kLit i) = true := (hh (i : Int)).2 ⟨by omega, by simpa using hi, by simpa using hf⟩
      simp [this]
  refine d.congr rfl (fun j hj => ?_) (fun j _ => rfl) (fun j hj => ?_) rfl rfl rfl
  · show sureL M _ j = _
    unfold sureL; rw [e j hj]; simp
  · show badL M _ j = _
    unfold badL; rw [e j hj]; simp
theorem leftM_end {w : World} {h : DH} {M : DM} {left : Lit → Bool} (hl : ∀ kl, left kl = false) (d : DevAt w h { leftM M left with fresh := fun _ => none }) : DevAt w h (landM M) := by
  have e : ∀ i, dnB M.fresh left i = (M.fresh i).isSome := by intro i; unfold dnB; rw [hl]; simp
  refine d.congr rfl (fun j _ => ?_) (fun j _ => rfl) (fun j _ => ?_) rfl rfl rfl
  · show _ = sureL M left j
    unfold sureL; rw [e j]
    cases hf : M.fresh j <;> simp [landM, hf]
  · show _ = badL M left j
    unfold badL; rw [e j]
    cases hf : M.fresh j <;> simp [landM, hf]
theorem waitMap_none {w : World} {b n : Nat} (h : w.ownsMap Tryd.prog 3 secElem b 0 (.map [])) : WaitMap w b n (fun _ => none) :=
  ⟨.map [], h, fun x => by simp [Maps.has], fun i l _ h => (by cases h), by simp [Maps.size]⟩

set_option maxHeartbeats 2000000 in
set_option maxRecDepth 100000 in
theorem devFlush_ok {w : World} {h : DH} {M : DM} (d : DevAt w h M) (hdn : M.down = false) (hE : burnE M = 0) :
    Calls Tryd.prog 17 #[.pointer (some ⟨h.b, 0, none⟩)] w fun e w' => e = .returned (.int .i64 0) ∧ DevAt w' h (landM (burnM M)) ∧ Ap h.S w w' := by
  have c4 := d.c4
  rw [hdn] at c4
  have hB := devBurn_any d
  rw [hE] at hB
  obtain ⟨N, hN⟩ : ∃ N, N = burnM M := ⟨_, rfl⟩
  rw [← hN] at hB ⊢
  clear d hE hdn hN
  go_enter Tryd.func17, Tryd.ntmps17
  go_wp2_with (first
    | (go_at_call 58; refine hB.mono ?_; rintro e w1 ⟨rfl, hd1, ha1⟩; have HD1 := Lib.hid hd1; have HA1 := Lib.hid ha1; have c1 := hd1.c1; obtain ⟨D, ho, hh, hv, hsz⟩ := hd1.wait; have HH := Lib.hid hh; have HV := Lib.hid hv; clear hd1 ha1 hh hv hsz)
    | (at_range; refine wpList_range_own _ rfl _ 109 rfl 3 117 intK Tryd.underlying109 secElem h.bw (Maps.size D) D rfl ho ?_; intro w2 hrg0 hg0 hs0))
  go_frame
  have hwr : Ap (fun _ => False) w1 w2 := (Ap.refl w1).grown hg0 (fun k hk => by cases hk)
  have hd2 := leftM_start (HD1.out.ap hwr (fun _ _ => id)) HH.out
  have ha2 : Ap h.S w w2 := HA1.out.trans (hwr.weak (fun _ hk => hk.elim))
  have hrne : ∀ k, h.S k → k ≠ w1.heap.size := by
    have h1 := HD1.out.ltb; have h2 := HD1.out.ltbs; have h3 := HD1.out.wait.lt; have h4 := HD1.out.badm.lt
    intro k hk
    rcases hk with hk | hk | hk | hk <;> omega
  have hwr1 : w.heap.size ≤ w1.heap.size := HA1.out.size
  have HWR1 := Lib.hid hwr1
  have HRNE := Lib.hid hrne
  have HHD := Lib.hid hd2
  have HHA := Lib.hid ha2
  have HRG := Lib.hid hrg0
  clear ho c1 hB c4 hg0 hs0 HD1 HA1 hwr hd2 ha2 hrg0 hwr1 hrne
  go_loopw [4] (fun _ wr => ∃ (left : Lit → Bool) (cnt : Nat), wr.ranges Tryd.prog 3 secElem h.bw w1.heap.size (Maps.size D) D left cnt ∧ DevAt wr h (leftM N left) ∧ Ap h.S w wr)
    (fun _ wr => wr.rangeLeft h.bw w1.heap.size)
  case atStart => exact ⟨_, _, HRG.out, HHD.out, HHA.out⟩
  case round =>
    obtain ⟨left, cnt, hrg, hd3, ha3⟩ := hrel
    have HD3 := Lib.hid hd3
    have HA3 := Lib.hid ha3
    clear hd3 ha3 HRG HHD HHA
    go_wp2_with (at_next; refine wpList_next_ranges _ rfl _ rfl 3 intK secElem (fun x : Int => Value.int .i64 x) (fun l : List UInt8 => Value.agg (U8s l).toArray) invK invV h.bw w1.heap.size (Maps.size D) D left cnt rfl hrg ?_ ?_)
    · intro _ hl0
      have ho := hrg.owns
      have c1 := HD3.out.c1
      have HL0 := Lib.hid hl0
      clear hl0 hrg HH HV
      go_wp2_with (with_reducible refine wpList_clear_own rfl (.tmp 34) 109 rfl 3 117 Tryd.underlying109 secElem h.bw (Maps.size D) D rfl ho ?_; intro w5 ho5 ht5)
      go_ret
      exact ⟨rfl, leftM_end HL0.out (HD3.out.withWait (ap_turned ht5) (waitMap_none ho5) (fun i l _ h => by cases h)), HA3.out.trans ((ap_turned ht5).weak (S_bw h))⟩
    · intro x c kl y1 y2 w4 cnt1 hk hlk hR hat hrg1 hlt hg1 hs1 hen
      obtain ⟨i, rfl, rfl, hi, hf, hc⟩ := entry_facts HH.out HV.out hk hR hat
      have hap : Ap (fun k => k = w1.heap.size) wr w4 := Ap.grown (S := fun k => k = w1.heap.size) (Ap.refl wr) hg1 (fun k hk => by injection hk with hk; exact .inl hk.symm)
      have hd4 : DevAt w4 h (leftM N left) := HD3.out.ap hap (fun k hk e => HRNE.out k hk e)
      have ha4 : Ap h.S w w4 := HA3.out.grown hg1 (fun k hk => by injection hk with hk; right; have := HWR1.out; omega)
      obtain ⟨W5, hW5, hd5, hb5, hr5⟩ := var_facts hd4 hc
      have hset := devSettle_any hd5 i hi c hc
      have hrl := hr5.range
      have ht4 : (w4.alloc (.cells Tryd.zeroCells117 117)).there w4.heap.size 0 (U8s c).toArray.size := by rw [u8a_size, hc]; exact zc_there w4
      have HII : Hid ((Tryd.prog.info? 117).map (·.size) = some (U8s c).toArray.size) := Lib.hid (by rw [secSize, u8a_size, hc])
      have HIL : Hid ((Tryd.prog.info? 117).map (·.size) = some (U8s c).length) := Lib.hid (by rw [secSize, u8s_len, hc])
      have H1 : Hid ((U8s c).toArray.all (·.oneCell') = true) := Lib.hid (all_oneCell_toArray (u8s_one c))
      have HU := Lib.hid Tryd.underlying117
      have hrg5 : W5.ranges Tryd.prog 3 secElem h.bw w1.heap.size (Maps.size D) D _ cnt1 := ranges_ap (S := fun k => w4.heap.size ≤ k) hrg1 ⟨hb5.os, hb5.tape, hb5.output, hb5.size, fun k hk _ => hb5.block k hk⟩ (by have := hrg1.owns.lt; omega) (by have := hrg1.lt; omega)
      have HRG5 := Lib.hid hrg5
      have HA5 : Hid (Ap h.S w W5) := Lib.hid (ha4.trans (Ap.of_below hb5))
      have HF := Lib.hid hf
      have HLT := Lib.hid hlt
      have HRG := Lib.hid hrg
      have HTT := Lib.hid ht4
      have HRL := Lib.hid hrl
      have hbn := HD3.out.ne
      have HNE : Hid (¬ h.S2 h.bw ∧ ¬ h.S2 w1.heap.size) := Lib.hid (by
        refine ⟨?_, fun e => HRNE.out _ (S2_S h _ e) rfl⟩
        rintro (e | e)
        · exact hbn.2.2.2.1 e.symm
        · exact hbn.2.2.2.2.2 e)
      rw [hW5] at hset HA5 HRG5 HRL
      clear hW5 hd5 hb5 hr5 hrl ht4 hrg5 ha4 hd4 hap hf hlt hrg hrg1 hg1 hs1 hk hlk hR hat HH HV hbn hi hc HD3
      go_wp2_with (first
        | (with_reducible refine wpList_store_mid rfl 117 (.tmp 5) (.tmp 26) rfl w4.heap.size 0 (U8s c).toArray rfl rfl HTT.out HII.out H1.out ?_)
        | (with_reducible refine wpList_load_mid rfl 117 (.tmp 5) rfl w4.heap.size 0 rfl (U8s c) _ HRL.out HU.out rfl HIL.out ?_)
        | (go_at_call 59; refine hset.mono ?_; rintro e w6 ⟨rfl, hd6, ha6⟩))
      go_roundw
      case rel => exact ⟨_, cnt1, ranges_ap HRG5.out ha6 HNE.out.1 HNE.out.2, leftM_step HF.out hd6, HA5.out.trans (ha6.weak (S2_S h))⟩
      case measure => rw [(ranges_ap HRG5.out ha6 HNE.out.1 HNE.out.2).left_eq, HRG.out.left_eq]; exact HLT.out

/-- Flush, whatever the device is. -/
theorem devFlush_any {w : World} {h : DH} {M : DM} (d : DevAt w h M) :
    Calls Tryd.prog 17 #[.pointer (some ⟨h.b, 0, none⟩)] w fun e w' => e = .returned (.int .i64 (flushE M)) ∧ DevAt w' h (flushM M) ∧ Ap h.S w w' := by
  by_cases h1 : M.down = true
  · have c4 := d.c4
    rw [h1] at c4
    rw [show flushE M = 12 from if_pos h1, show flushM M = M from if_pos h1]
    have HD := Lib.hid d
    clear d h1
    go_enter Tryd.func17, Tryd.ntmps17
    go_wp2
    go_ret
    exact ⟨rfl, HD.out, Ap.refl _⟩
  have h1' : M.down = false := by simpa using h1
  by_cases h4 : burnE M = 0
  · rw [show flushE M = 0 by unfold flushE; rw [if_neg h1, h4], show flushM M = landM (burnM M) by unfold flushM; rw [if_neg h1, if_pos h4]]
    exact devFlush_ok d h1' h4
  · have hE : burnE M = 12 := by
      unfold burnE at h4 ⊢
      by_cases g : M.left = 0
      · rw [if_pos g]
      · rw [if_neg g] at h4; exact absurd rfl h4
    rw [show flushE M = 12 by unfold flushE; rw [if_neg h1, hE], show flushM M = burnM M by unfold flushM; rw [if_neg h1, if_neg h4]]
    have c4 := d.c4
    rw [h1'] at c4
    have hB := devBurn_any d
    rw [hE] at hB
    obtain ⟨N, hN⟩ : ∃ N, N = burnM M := ⟨_, rfl⟩
    rw [← hN] at hB ⊢
    clear d h1 h1' hN h4 hE
    go_enter Tryd.func17, Tryd.ntmps17
    go_wp2_with (go_at_call 58; refine hB.mono ?_; rintro e w1 ⟨rfl, hd1, ha1⟩)
    go_ret
    exact ⟨rfl, hd1, ha1⟩
end Go.Proofs.YtfpnlaafefdcaaaDoor
namespace Go.Proofs.YtfpnlaafefdcaaaDoor
open Go.RowKit Go.Shelf

theorem sw_is {M : DM} {j : Nat} {p : SP} (hd : M.down = false) (hl : M.left < 0) (hn : 2 ≤ M.n) (hj : j < 2) (hO : SupOk p) (hs : p.sum < 4294967296) :
    swE M (j : Int) p = 0 ∧ swM M (j : Int) p = { M with fresh := upd M.fresh j (some (supL p)), writes := M.writes + 1 } := by
  have hsz : (⟨(supL p).toArray⟩ : ByteArray).size = 512 := supL_len hs hO
  have hb : burnE M = 0 := by unfold burnE; rw [if_neg (by omega)]
  have hbm : burnM M = M := by unfold burnM; rw [if_neg (by omega), if_neg (by omega)]
  have hE : writeE M (j : Int) ⟨(supL p).toArray⟩ = 0 := by
    unfold writeE
    rw [if_neg (by simp [hd]), if_neg (by unfold hasB; rw [decide_eq_false_iff_not]; omega), if_neg (by omega), hb]
  refine ⟨by unfold swE; rw [if_neg (by omega), if_pos hO, hE], ?_⟩
  unfold swM
  rw [if_neg (by omega), if_pos hO]
  unfold writeM
  rw [if_pos hE, hbm, Int.toNat_natCast]
def sdN (b : Bool) : Nat := if b then 1 else 0
/-- The device behind both writes; behind the flush; behind the erasing. -/
def k1 (n : Nat) (p : SP) : DM := { newM n with fresh := upd (fun _ => none) 0 (some (supL p)), writes := 1 }
def k2 (n : Nat) (p : SP) : DM := { newM n with fresh := upd (upd (fun _ => none) 0 (some (supL p))) 1 (some (supL p)), writes := 2 }
def k3 (n : Nat) (p : SP) : DM := landM (k2 n p)
def k4 (n : Nat) (p : SP) (b : Bool) : DM := { k3 n p with bad := upd (k3 n p).bad (sdN b) true }
theorem k3_bad (n : Nat) (p : SP) (i : Nat) : (k3 n p).bad i = false := by unfold k3 landM; simp only; show (false && _) = false; rfl
theorem k3_sure (n : Nat) (p : SP) {i : Nat} (hi : i < 2) : (k3 n p).sure i = supL p := by
  unfold k3 landM
  simp only
  have : i = 0 ∨ i = 1 := by omega
  rcases this with rfl | rfl
  · show (upd (upd (fun _ => none) 0 (some (supL p))) 1 (some (supL p)) 0).getD _ = _
    rw [upd_ne _ _ (by omega), upd_same]; rfl
  · show (upd (upd (fun _ => none) 0 (some (supL p))) 1 (some (supL p)) 1).getD _ = _
    rw [upd_same]; rfl
theorem fnd_yes {M : DM} {j : Nat} {p : SP} (hin : p.In) (hO : SupOk p) (hs : geoSec p.s p.k p.m p.c ≤ (M.n : Int)) (h : readV M (j : Int) = supL p) : fndOne M j = [⟨(j : Int), p⟩] := by
  obtain ⟨q, q'⟩ := supP_of hin hO
  have g : SupFnd M j := by unfold SupFnd; rw [h, q']; exact ⟨q, hs⟩
  unfold fndOne; rw [if_pos g, h, q']
theorem fnd_none {M : DM} {j : Nat} (h : readV M (j : Int) = []) : fndOne M j = [] := by
  unfold fndOne
  rw [if_neg (fun g : SupFnd M j => by have := supIs_len g.1; rw [h] at this; simp at this)]
theorem srt_same (a b : Int) (p : SP) : srtL [⟨a, p⟩, ⟨b, p⟩] = [⟨a, p⟩, ⟨b, p⟩] := by
  unfold srtL srt2
  simp
theorem readE_none {M : DM} {i : Nat} (hd : M.down = false) (hi : i < M.n) (hf : M.fresh i = none) : readE M (i : Int) = if M.bad i = true then 9 else 0 := by
  unfold readE
  rw [hd, if_neg (by simp), if_neg (by unfold hasB; rw [decide_eq_false_iff_not]; omega), Int.toNat_natCast, hf]
theorem readV_none {M : DM} {i : Nat} (hd : M.down = false) (hi : i < M.n) (hf : M.fresh i = none) : readV M (i : Int) = if M.bad i = true then [] else M.sure i := by
  unfold readV
  rw [readE_none hd hi hf, Int.toNat_natCast, hf]
  by_cases h : M.bad i = true
  · rw [if_pos h, if_pos h, if_neg (by omega)]
  · rw [if_neg h, if_neg h, if_pos rfl]
theorem flush_up {M : DM} (hd : M.down = false) (hl : M.left < 0) : flushE M = 0 ∧ flushM M = landM M := by
  have hb : burnE M = 0 := by unfold burnE; rw [if_neg (by omega)]
  have hbm : burnM M = M := by unfold burnM; rw [if_neg (by omega), if_neg (by omega)]
  refine ⟨by unfold flushE; rw [hd, if_neg (by simp), hb], by unfold flushM; rw [hd, if_neg (by simp), if_pos hb, hbm]⟩
theorem find_up {M : DM} (hd : M.down = false) : findE M = 0 ∧ findL M = srtL (fndOne M 0 ++ fndOne M 1) := by
  refine ⟨by unfold findE; rw [hd]; rfl, ?_⟩
  unfold findL
  rw [hd, if_neg (by simp)]
  unfold fndP
  simp only [List.flatMap_cons, List.flatMap_nil, List.append_nil]
theorem back_facts {n : Nat} {p : SP} (hin : p.In) (hO : SupOk p) (hs : geoSec p.s p.k p.m p.c = (n : Int)) (hn : 2 ≤ n) (b : Bool) :
    swE (newM n) 0 p = 0 ∧ swM (newM n) 0 p = k1 n p ∧ swE (k1 n p) 1 p = 0 ∧ swM (k1 n p) 1 p = k2 n p ∧ flushE (k2 n p) = 0 ∧ flushM (k2 n p) = k3 n p ∧ findE (k3 n p) = 0 ∧ findL (k3 n p) = [⟨0, p⟩, ⟨1, p⟩] ∧
    eraseM (k3 n p) (sdN b : Int) = k4 n p b ∧ findE (k4 n p b) = 0 ∧ findL (k4 n p b) = [⟨1 - (sdN b : Int), p⟩] := by
  obtain ⟨a1, a2⟩ := sw_is (M := newM n) (j := 0) (p := p) rfl (by show (-1 : Int) < 0; omega) hn (by omega) hO hin.sum
  obtain ⟨b1, b2⟩ := sw_is (M := k1 n p) (j := 1) (p := p) rfl (by show (-1 : Int) < 0; omega) hn (by omega) hO hin.sum
  obtain ⟨f1, f2⟩ := flush_up (M := k2 n p) rfl (by show (-1 : Int) < 0; omega)
  obtain ⟨g1, g2⟩ := find_up (M := k3 n p) rfl
  obtain ⟨h1, h2⟩ := find_up (M := k4 n p b) rfl
  have hz : geoSec p.s p.k p.m p.c ≤ (n : Int) := by omega
  have hr3 : ∀ i : Nat, i < 2 → readV (k3 n p) (i : Int) = supL p := fun i hi => by
    rw [readV_none (M := k3 n p) (i := i) rfl (show i < n by omega) rfl, k3_bad, if_neg (by simp)]
    exact k3_sure n p hi
  have hsb : sdN b < 2 := by unfold sdN; split <;> omega
  have hr4 : ∀ i : Nat, i < 2 → i ≠ sdN b → readV (k4 n p b) (i : Int) = supL p := fun i hi hne => by
    have hb : (k4 n p b).bad i = false := by show upd (k3 n p).bad (sdN b) true i = false; rw [upd_ne _ _ hne, k3_bad]
    rw [readV_none (M := k4 n p b) (i := i) rfl (show i < n by omega) rfl, hb, if_neg (by simp)]
    exact k3_sure n p hi
  have hr5 : readV (k4 n p b) (sdN b : Int) = [] := by
    have hb : (k4 n p b).bad (sdN b) = true := by show upd (k3 n p).bad (sdN b) true (sdN b) = true; rw [upd_same]
    rw [readV_none (M := k4 n p b) (i := sdN b) rfl (show sdN b < n by omega) rfl, hb, if_pos rfl]
  have z4 : geoSec p.s p.k p.m p.c ≤ ((k4 n p b).n : Int) := hz
  have z3 : geoSec p.s p.k p.m p.c ≤ ((k3 n p).n : Int) := hz
  refine ⟨a1, a2, b1, b2, f1, f2, g1, ?_, ?_, h1, ?_⟩
  · rw [g2, fnd_yes hin hO z3 (hr3 0 (by omega)), fnd_yes hin hO z3 (hr3 1 (by omega))]
    exact srt_same _ _ _
  · unfold eraseM
    rw [if_pos (by unfold hasB; rw [decide_eq_true_eq]; show 0 ≤ (sdN b : Int) ∧ (sdN b : Int) < (n : Int); omega), Int.toNat_natCast]; rfl
  · rw [h2]
    cases b
    · rw [show fndOne (k4 n p false) 0 = [] from fnd_none hr5, fnd_yes hin hO z4 (hr4 1 (by omega) (by decide))]; rfl
    · rw [fnd_yes hin hO z4 (hr4 0 (by omega) (by decide)), show fndOne (k4 n p true) 1 = [] from fnd_none hr5]; rfl
theorem sec_pos {p : SP} (hO : SupOk p) : 2 ≤ geoSec p.s p.k p.m p.c := by
  have hg := hO.2.2.1
  unfold geoSec
  rw [if_pos hg]
  have h1 := tw_le hg.1 hg.2.1
  have h2 : (4 : Int) * 1 ≤ p.c * tw p.s := Int.mul_le_mul hg.2.2.2.1 h1.1 (by omega) (by have := hg.2.2.2.1; omega)
  omega
end Go.Proofs.YtfpnlaafefdcaaaDoor
namespace Go.Proofs.YtfpnlaafefdcaaaDoor
open Go.RowKit Go.Joins Go.WideShapes Go.ChangeShapes

/-- A value that is a superblock. -/
def SupVal (v : Value) : Prop := ∃ p : SP, v = p.v ∧ p.In
theorem array9 {cs : Array Value} (h : cs.size = 9) : ∃ a b c d e f g i j, cs = #[a, b, c, d, e, f, g, i, j] := by
  obtain ⟨l⟩ := cs
  match l, h with
  | [a, b, c, d, e, f, g, i, j], _ => exact ⟨a, b, c, d, e, f, g, i, j, rfl⟩
theorem su32_of_wf {n : Int} (h : (Lit.int .u32 n).wf = true) : 0 ≤ n ∧ n < 4294967296 := by
  simp [Lit.wf, IntKind.min, IntKind.max, IntKind.signed, IntKind.bits] at h
  omega
theorem sup_struct3 {H : Type} {enc : TypeId × Value → H} {P : Program} {w : World} {base : Nat} {spare : Nat → Bool} {held : Bool} {t : TypeId} {f0 f1 f2 : Field} {fuel : Nat} {cs : List Value} {x : DataW H × List MemPlace} (ht : P.underlying t = some (.struct #[f0, f1, f2])) (h : DataW.trod enc P w base spare held fuel t cs = some x) :
    ∃ y0 y1 y2 n, DataW.trod enc P w base spare held n f0.type ((cs.drop f0.offset).take (P.cellsOf f0.type)) = some y0 ∧ DataW.trod enc P w base spare held n f1.type ((cs.drop f1.offset).take (P.cellsOf f1.type)) = some y1 ∧ DataW.trod enc P w base spare held n f2.type ((cs.drop f2.offset).take (P.cellsOf f2.type)) = some y2 := by
  obtain ⟨xs, n, _, rfl, hl, hlen, hf⟩ := DataW.trod_struct ht h
  match xs, hlen with
  | [y0, y1, y2], _ => exact ⟨y0, y1, y2, n, by simpa using hf 0 f0 rfl, by simpa using hf 1 f1 rfl, by simpa using hf 2 f2 rfl⟩
set_option maxRecDepth 100000 in
theorem supVal_of {H : Type} {enc : TypeId × Value → H} {w : World} {base : Nat} {spare : Nat → Bool} {held : Bool} {r : Reach} {b0 : Nat} {v : Value} {d : DataW H} {p : List MemPlace}
    (hv : Value.okWide Tryd.prog w r b0 53 v) (h : DataW.Trod enc Tryd.prog w base spare held 53 v d p) : SupVal v := by
  have kC : Tryd.prog.cellsOf 53 = 9 := by kernel_rfl
  have kN : Tryd.prog.cellsOf 2 = 1 := by kernel_rfl
  have kG : Tryd.prog.cellsOf 23 = 4 := by kernel_rfl
  have kI : Tryd.prog.cellsOf 3 = 1 := by kernel_rfl
  have kP : Tryd.prog.cellsOf 32 = 3 := by kernel_rfl
  have kU : Tryd.prog.cellsOf 30 = 1 := by kernel_rfl
  obtain ⟨cs, rfl, hsz⟩ := okWide_struct Tryd.underlying53 hv
  obtain ⟨c0, c1, c2, c3, c4, c5, c6, c7, c8, rfl⟩ := array9 (hsz.trans kC)
  obtain ⟨fuel, hf⟩ := h
  obtain ⟨y0, y1, y2, y3, n, _, _, h0, h1, h2, h3⟩ := trod_struct4 Tryd.underlying53 hf
  simp only [Value.cells, kN, kG, kI, kP, List.drop_zero, List.drop_succ_cons, List.take_succ_cons, List.take_zero] at h0 h1 h2 h3
  obtain ⟨_, _, _, _, n1, _, _, g0, g1, g2, g3⟩ := trod_struct4 Tryd.underlying23 h1
  obtain ⟨_, _, _, n3, q0, q1, q2⟩ := sup_struct3 Tryd.underlying32 h3
  simp only [kI, kU, List.drop_zero, List.drop_succ_cons, List.take_succ_cons, List.take_zero] at g0 g1 g2 g3 q0 q1 q2
  obtain ⟨x0, e0, _, w0⟩ := DataW.trod_int Tryd.underlying2 h0
  obtain ⟨x1, e1, _, w1⟩ := DataW.trod_int Tryd.underlying3 g0
  obtain ⟨x2, e2, _, w2⟩ := DataW.trod_int Tryd.underlying3 g1
  obtain ⟨x3, e3, _, w3⟩ := DataW.trod_int Tryd.underlying3 g2
  obtain ⟨x4, e4, _, w4⟩ := DataW.trod_int Tryd.underlying3 g3
  obtain ⟨x5, e5, _, w5⟩ := DataW.trod_int Tryd.underlying3 h2
  obtain ⟨x6, e6, _, w6⟩ := DataW.trod_int Tryd.underlying3 q0
  obtain ⟨x7, e7, _, w7⟩ := DataW.trod_int Tryd.underlying3 q1
  obtain ⟨x8, e8, _, w8⟩ := DataW.trod_int Tryd.underlying30 q2
  simp only [List.cons.injEq, and_true] at e0 e1 e2 e3 e4 e5 e6 e7 e8
  subst e0 e1 e2 e3 e4 e5 e6 e7 e8
  have hu := su32_of_wf w8
  refine ⟨⟨x0, x1, x2, x3, x4, x5, x6, x7, x8.toNat⟩, ?_, ⟨w64_of_wf w0, w64_of_wf w1, w64_of_wf w2, w64_of_wf w3, w64_of_wf w4, w64_of_wf w5, w64_of_wf w6, w64_of_wf w7, by show x8.toNat < 4294967296; omega⟩⟩
  unfold SP.v
  dsimp only
  rw [Int.toNat_of_nonneg hu.1]
end Go.Proofs.YtfpnlaafefdcaaaDoor
namespace Go.Proofs.YtfpnlaafefdcaaaDoor
open Go.RowKit Go.Shelf

set_option maxRecDepth 100000 in
set_option maxHeartbeats 8000000 in
theorem superBack_walk (p : SP) (hp : p.In) (s : ByteArray) (b : Bool) (w : World) (hT : Tab w) : Calls Tryd.prog 7 #[p.v, .string s, .bool b] w fun e w' => e = .returned (.bool true) ∧ Below w.heap.size w w' := by
  have hTB := Lib.hid (fun W (hb : Below w.heap.size w W) => hT.below hb (Nat.le_refl _))
  have hL := Lib.hid (fun W (hb : Below w.heap.size w W) => supLives_any W (hTB.out W hb))
  have hB := Lib.hid (fun W (hb : Below w.heap.size w W) => supBytes_any p hp W (hTB.out W hb))
  obtain ⟨X, hX⟩ : ∃ X : ByteArray, X = ⟨(supL p).toArray⟩ := ⟨_, rfl⟩
  have hP1 := Lib.hid (fun W (hb : Below w.heap.size w W) => supParse_any X W (hTB.out W hb))
  have hP2 := Lib.hid (fun W (hb : Below w.heap.size w W) => supParse_any s W (hTB.out W hb))
  have hB2 := Lib.hid (fun W (hb : Below w.heap.size w W) => supBytes_any (supP s.data.toList) (supP_in _) W (hTB.out W hb))
  have hXl : X.data.toList = supL p := by rw [hX]
  have HF1 : Hid (supE p = 0 → supPE X.data.toList = 0 ∧ supP X.data.toList = p) := Lib.hid (fun h => by
    have hO : SupOk p := by unfold supE at h; by_cases g : SupOk p; exact g; rw [if_neg g] at h; omega
    obtain ⟨q, q'⟩ := supP_of hp hO
    rw [hXl]
    exact ⟨if_pos q, q'⟩)
  have HF2 : Hid (supPE s.data.toList = 0 → supE (supP s.data.toList) = 0 ∧ (⟨(supL (supP s.data.toList)).toArray⟩ : ByteArray) = s) := Lib.hid (fun h => by
    have hI : SupIs s.data.toList := by unfold supPE at h; by_cases g : SupIs s.data.toList; exact g; rw [if_neg g] at h; omega
    have e : supP s.data.toList = supD s.data.toList := if_pos hI
    rw [e]
    refine ⟨if_pos hI.1, ?_⟩
    rw [hI.2])
  have HOK : Hid (supE p = 0 → SupOk p) := Lib.hid (fun h => by unfold supE at h; by_cases g : SupOk p; exact g; rw [if_neg g] at h; omega)
  have hSec := fun W => refSectors_any p.s p.k p.m p.c hp.k hp.m W
  have hDev := Lib.hid (fun (hO : SupOk p) (n : Nat) (hs : geoSec p.s p.k p.m p.c = (n : Int)) (hn : 2 ≤ n) => back_facts hp hO hs hn b)
  have hPos := Lib.hid (fun (hO : SupOk p) => sec_pos hO)
  have HIN := Lib.hid hp
  have HX0 := Lib.hid (B9.new w p 53)
  have hWr := Lib.hid (fun (W : World) (h : DH) (M : DM) (j : Int) (d : DevAt W h M) (hb : Below w.heap.size w W) (hw : M.writes ≤ 5) => supWrite_any d j p hp (hTB.out W hb) (by omega))
  dsimp only [SP.v] at hB hP1 hP2 hB2 hWr ⊢
  rw [← hX] at hB
  generalize supE p = z at hB HF1 HOK
  generalize supPE X.data.toList = y1 at hP1 HF1
  generalize supP X.data.toList = r1 at hP1 HF1
  generalize supPE s.data.toList = y2 at hP2 HF2
  generalize supP s.data.toList = r2 at hP2 HF2 hB2
  generalize supE r2 = z2 at hB2 HF2
  generalize (⟨(supL r2).toArray⟩ : ByteArray) = X2 at hB2 HF2
  generalize geoSec p.s p.k p.m p.c = gs at hSec hDev hPos
  clear hp hT hX hXl
  go_enter Tryd.func7, Tryd.ntmps7
  go_upto_region 1 with fail
  generalize w.alloc (.cells #[.int .i64 p.gen, .int .i64 p.s, .int .i64 p.k, .int .i64 p.m, .int .i64 p.c, .int .i64 p.len, .int .i64 p.a, .int .i64 p.b, .int .u32 (p.sum : Int)] 53) = w0 at HX0 ⊢
  go_upto_region 3 with (go_at_call 22; refine (hL.out _ HX0.out.be).mono ?_; rintro e w1 ⟨rfl, hb1⟩; have HX1 := Lib.hid (HX0.out.below hb1); clear hb1)
  obtain ⟨_, _, ⟨_, c0, c1, c2, c3, c4, c5, c6, c7, c8⟩, _⟩ := HX1.out
  go_upto_region 4 with (go_at_call 23; refine (hB.out _ HX1.out.be).mono ?_; rintro e w2 ⟨rfl, hb2⟩; have HX2 := Lib.hid (HX1.out.below hb2); clear hb2)
  clear c0 c1 c2 c3 c4 c5 c6 c7 c8 HX0 HX1
  go_upto_region 5 with (go_at_call 25; refine (hP1.out _ HX2.out.be).mono ?_; rintro e w3 ⟨rfl, hb3⟩; have HX3 := Lib.hid (HX2.out.below hb3); clear hb3)
  have HA3 := Lib.hid (B9.new w3 r1 53)
  have HY3 := Lib.hid (HX3.out.below HA3.out.be)
  have hlt3 := HX3.out.bx.lt
  generalize w3.alloc (.cells #[.int .i64 r1.gen, .int .i64 r1.s, .int .i64 r1.k, .int .i64 r1.m, .int .i64 r1.c, .int .i64 r1.len, .int .i64 r1.a, .int .i64 r1.b, .int .u32 (r1.sum : Int)] 53) = w4 at HA3 HY3 ⊢
  have HS3 := Lib.hid HA3.out.bx
  generalize w3.heap.size = b9 at HS3 hlt3 ⊢
  clear HA3 HX2 HX3
  go_upto_region 6 with (go_at_call 25; refine (hP2.out _ HY3.out.be).mono ?_; rintro e w5 ⟨rfl, hb5⟩; have HX5 := Lib.hid (HY3.out.below hb5); have HS5 := Lib.hid (HS3.out.below hb5); clear hb5)
  have HA5 := Lib.hid (B9.new w5 r2 53)
  have HY5 := Lib.hid (HX5.out.below HA5.out.be)
  have HS6 := Lib.hid (HS5.out.below HA5.out.be)
  generalize w5.alloc (.cells #[.int .i64 r2.gen, .int .i64 r2.s, .int .i64 r2.k, .int .i64 r2.m, .int .i64 r2.c, .int .i64 r2.len, .int .i64 r2.a, .int .i64 r2.b, .int .u32 (r2.sum : Int)] 53) = w6 at HA5 HY5 HS6 ⊢
  have HT6 := Lib.hid HA5.out.bx
  generalize w5.heap.size = b11 at HT6 ⊢
  clear HA5 HX5 HY3 HS3 HS5
  obtain ⟨_, k0, k1, k2, k3, k4, k5, k6, k7, k8⟩ := HT6.out
  go_upto_region 7 with (go_at_call 23; refine (hB2.out _ HY5.out.be).mono ?_; rintro e w7 ⟨rfl, hb7⟩; have HX7 := Lib.hid (HY5.out.below hb7); have HS7 := Lib.hid (HS6.out.below hb7); clear hb7)
  clear k0 k1 k2 k3 k4 k5 k6 k7 k8 HY5 HS6 HT6
  have hy2 : y2 = 0 ∨ y2 ≠ 0 := by omega
  by_cases hz : z = 0
  · subst hz
    obtain ⟨hy1, hr1⟩ := HF1.out rfl
    subst hy1
    obtain rfl := hr1.symm
    have hO := HOK.out rfl
    have HO := Lib.hid hO
    have hpos := hPos.out hO
    obtain ⟨n, hn⟩ : ∃ n : Nat, gs = (n : Int) := ⟨gs.toNat, by omega⟩
    have HDF := Lib.hid (fun h2 => hDev.out hO n hn h2)
    subst hn
    have hn2 : 2 ≤ n := by omega
    have HN2 := Lib.hid hn2
    have HDD := HDF.out HN2.out
    obtain ⟨a1, a2, a3, a4, a5, a6, a7, a8, a9, a10, a11⟩ := HDD
    have hW0 := Lib.hid (fun (W : World) (h : DH) (d : DevAt W h (newM n)) (hb : Below w.heap.size w W) => (show Calls Tryd.prog 31 #[.pointer (some ⟨h.b, 0, none⟩), .int .i64 0, .agg #[.int .i64 p.gen, .int .i64 p.s, .int .i64 p.k, .int .i64 p.m, .int .i64 p.c, .int .i64 p.len, .int .i64 p.a, .int .i64 p.b, .int .u32 (p.sum : Int)]] W fun e w' => e = .returned (.int .i64 0) ∧ DevAt w' h (k1 n p) ∧ Ap h.S W w' by
      have := hWr.out W h _ 0 d hb (show 0 ≤ 5 by omega)
      rw [a1, a2] at this; exact this))
    have hW1 := Lib.hid (fun (W : World) (h : DH) (d : DevAt W h (k1 n p)) (hb : Below w.heap.size w W) => (show Calls Tryd.prog 31 #[.pointer (some ⟨h.b, 0, none⟩), .int .i64 1, .agg #[.int .i64 p.gen, .int .i64 p.s, .int .i64 p.k, .int .i64 p.m, .int .i64 p.c, .int .i64 p.len, .int .i64 p.a, .int .i64 p.b, .int .u32 (p.sum : Int)]] W fun e w' => e = .returned (.int .i64 0) ∧ DevAt w' h (k2 n p) ∧ Ap h.S W w' by
      have := hWr.out W h _ 1 d hb (show 1 ≤ 5 by omega)
      rw [a3, a4] at this; exact this))
    have hFl := Lib.hid (fun (W : World) (h : DH) (d : DevAt W h (k2 n p)) => (show Calls Tryd.prog 17 #[.pointer (some ⟨h.b, 0, none⟩)] W fun e w' => e = .returned (.int .i64 0) ∧ DevAt w' h (k3 n p) ∧ Ap h.S W w' by
      have := devFlush_any d
      rw [a5, a6] at this; exact this))
    have hF3 := Lib.hid (fun (W : World) (h : DH) (d : DevAt W h (k3 n p)) (hb : Below w.heap.size w W) => (show Calls Tryd.prog 33 #[.pointer (some ⟨h.b, 0, none⟩)] W fun e w' => ∃ v, e = .returned (.tuple #[v, .int .i64 0]) ∧ w'.ownsRow W.heap.size 85 10 v 2 (slCells [⟨0, p⟩, ⟨1, p⟩]) ∧ DevAt w' h (k3 n p) ∧ Below W.heap.size W w' by
      have := supFind_any d (hTB.out W hb)
      rw [a7, a8] at this; exact this))
    obtain ⟨sd, hsd⟩ : ∃ sd : Int, sd = (sdN b : Int) := ⟨_, rfl⟩
    rw [← hsd] at a9 a11
    have HSD := Lib.hid hsd
    clear hsd
    have hEr := Lib.hid (fun (W : World) (h : DH) (d : DevAt W h (k3 n p)) => (show Calls Tryd.prog 19 #[.pointer (some ⟨h.b, 0, none⟩), .int .i64 sd] W fun e w' => ∃ z : Int, e = .returned (.int .i64 z) ∧ DevAt w' h (k4 n p b) ∧ Ap h.S W w' by
      have := devErase_any d sd
      rw [a9] at this; exact this.mono fun _ _ k => ⟨_, k⟩))
    have hF4 := Lib.hid (fun (W : World) (h : DH) (d : DevAt W h (k4 n p b)) (hb : Below w.heap.size w W) => (show Calls Tryd.prog 33 #[.pointer (some ⟨h.b, 0, none⟩)] W fun e w' => ∃ v, e = .returned (.tuple #[v, .int .i64 0]) ∧ w'.ownsRow W.heap.size 85 10 v 1 (slCells [⟨1 - sd, p⟩]) ∧ DevAt w' h (k4 n p b) ∧ Below W.heap.size W w' by
      have := supFind_any d (hTB.out W hb)
      rw [a10, a11] at this; exact this))
    clear a1 a2 a3 a4 a5 a6 a7 a8 a9 a10 a11 HDF
    obtain ⟨_, _, ⟨_, c0, c1, c2, c3, c4, c5, c6, c7, c8⟩, _⟩ := HX7.out
    obtain ⟨_, u0, u1, u2, u3, u4, u5, u6, u7, u8⟩ := HS7.out
    clear hO hpos hn2
    have g7 : (y2 = 0 ∧ z2 = 0 ∧ X2 = s) ∨ ((y2 == 0) = false) := by
      rcases hy2 with h | h
      · exact .inl ⟨h, HF2.out h⟩
      · exact .inr (by rw [beq_eq_false_iff_ne]; exact h)
    clear hy2
    rcases g7 with ⟨rfl, rfl, rfl⟩ | g7
    all_goals go_upto_region 9 with fail
    all_goals clear u0 u1 u2 u3 u4 u5 u6 u7 u8 HS7
    all_goals go_upto_region 10 with (go_at_call 42; refine (hSec _).mono ?_; rintro e w8 ⟨rfl, hb8⟩; have HX8 := Lib.hid (HX7.out.below hb8); clear hb8)
    all_goals clear c0 c1 c2 c3 c4 c5 c6 c7 c8 HX7
    all_goals by_cases hw : n ≤ 256
    case' neg =>
      (have d10 : decide ((n : Int) > 256) = true := decide_eq_true (by omega))
      go_wp2_with fail
      go_ret
      exact ⟨rfl, HX8.out.be⟩
    case' neg =>
      (have d10 : decide ((n : Int) > 256) = true := decide_eq_true (by omega))
      go_wp2_with fail
      go_ret
      exact ⟨rfl, HX8.out.be⟩
    all_goals have d10 : decide ((n : Int) > 256) = false := decide_eq_false (by omega)
    all_goals have HNw := Lib.hid hw
    all_goals clear hw
    all_goals go_upto_region 13 with (go_at_call 15; refine (liNew n (by have := HN2.out; omega) (by have := HNw.out; omega) _).mono ?_; rintro e w9 ⟨h, rfl, hd9, hab, hb9⟩; have HL9 : Hid (LV w w9 h (newM n) w.heap.size p) := Lib.hid ⟨HX8.out.below hb9, hd9, fun q hq => Nat.lt_of_lt_of_le HX8.out.bx.lt (DH.above_S hab q hq), devS_lt hd9⟩; clear hd9 hab hb9)
    all_goals clear HX8 d10
    all_goals obtain ⟨_, _, ⟨_, c0, c1, c2, c3, c4, c5, c6, c7, c8⟩, _⟩ := HL9.out.k
    all_goals go_upto_region 15 with (first
      | (go_at_call 31; (with_reducible refine (hW0.out _ h HL9.out.d HL9.out.k.be).mono ?_); rintro e w10 ⟨rfl, hd, ha⟩; have HL10 := Lib.hid (HL9.out.dev hd ha); clear hd ha c0 c1 c2 c3 c4 c5 c6 c7 c8; obtain ⟨_, _, ⟨_, c0, c1, c2, c3, c4, c5, c6, c7, c8⟩, _⟩ := HL10.out.k)
      | (go_at_call 31; (with_reducible refine (hW1.out _ h HL10.out.d HL10.out.k.be).mono ?_); rintro e w11 ⟨rfl, hd, ha⟩; have HL11 := Lib.hid (HL10.out.dev hd ha); clear hd ha c0 c1 c2 c3 c4 c5 c6 c7 c8)
      | (go_at_call 17; (with_reducible refine (hFl.out _ h HL11.out.d).mono ?_); rintro e w12 ⟨rfl, hd, ha⟩; have HL12 := Lib.hid (HL11.out.dev hd ha); clear hd ha))
    all_goals clear HL9 HL10 HL11
    all_goals go_upto_region 17 with (go_at_call 33; refine (hF3.out _ h HL12.out.d HL12.out.k.be).mono ?_; rintro e w13 ⟨v, rfl, ho, hd, hb⟩; obtain ⟨g18, p18, rfl⟩ := ownsRow_succ ho; have HR13 := Lib.hid ho; have HN18 := Lib.hid HL12.out.all; have HL13 := Lib.hid (HL12.out.dev hd (Ap.of_below hb)); clear ho hd hb)
    all_goals generalize w12.heap.size = B18 at HR13 HN18
    all_goals clear HL12
    all_goals cases b
    all_goals first | (obtain rfl : sd = 0 := HSD.out) | (obtain rfl : sd = 1 := HSD.out)
    all_goals go_upto_region 20 with (go_at_call 19; refine (hEr.out _ h HL13.out.d).mono ?_; rintro e w14 ⟨ze, rfl, hd, ha⟩; have HL14 := Lib.hid (HL13.out.dev hd ha); have HR14 := Lib.hid (row_ap2 HR13.out ha (fun q hq => HN18.out q (.inl hq))); clear hd ha)
    all_goals go_upto_region 21 with (go_at_call 33; refine (hF4.out _ h HL14.out.d HL14.out.k.be).mono ?_; rintro e w15 ⟨v, rfl, ho, hd, hb⟩; obtain ⟨g21, p21, rfl⟩ := ownsRow_succ ho; have HM20 := Lib.hid ho; have HR20 := Lib.hid (row_ap2 (S := fun _ => False) HR14.out (Ap.of_below hb) (fun q hq => hq.elim)); have HL15 := Lib.hid (HL14.out.dev hd (Ap.of_below hb)); clear ho hd hb)
    all_goals clear HL13 HL14 HR13 HR14
    all_goals go_upto_region 23 with fail
    all_goals have r0x0 : w15.cell? ⟨g18, 0, none⟩ = some (.int .i64 0) := World.ownsRow.cells HR20.out (g := g18) rfl 0 _ rfl
    all_goals have r0x1 : w15.cell? ⟨g18, 1, none⟩ = some (.int .i64 p.gen) := World.ownsRow.cells HR20.out (g := g18) rfl 1 _ rfl
    all_goals have r0x2 : w15.cell? ⟨g18, 2, none⟩ = some (.int .i64 p.s) := World.ownsRow.cells HR20.out (g := g18) rfl 2 _ rfl
    all_goals have r0x3 : w15.cell? ⟨g18, 3, none⟩ = some (.int .i64 p.k) := World.ownsRow.cells HR20.out (g := g18) rfl 3 _ rfl
    all_goals have r0x4 : w15.cell? ⟨g18, 4, none⟩ = some (.int .i64 p.m) := World.ownsRow.cells HR20.out (g := g18) rfl 4 _ rfl
    all_goals have r0x5 : w15.cell? ⟨g18, 5, none⟩ = some (.int .i64 p.c) := World.ownsRow.cells HR20.out (g := g18) rfl 5 _ rfl
    all_goals have r0x6 : w15.cell? ⟨g18, 6, none⟩ = some (.int .i64 p.len) := World.ownsRow.cells HR20.out (g := g18) rfl 6 _ rfl
    all_goals have r0x7 : w15.cell? ⟨g18, 7, none⟩ = some (.int .i64 p.a) := World.ownsRow.cells HR20.out (g := g18) rfl 7 _ rfl
    all_goals have r0x8 : w15.cell? ⟨g18, 8, none⟩ = some (.int .i64 p.b) := World.ownsRow.cells HR20.out (g := g18) rfl 8 _ rfl
    all_goals have r0x9 : w15.cell? ⟨g18, 9, none⟩ = some (.int .u32 (p.sum : Int)) := World.ownsRow.cells HR20.out (g := g18) rfl 9 _ rfl
    all_goals have r1x0 : w15.cell? ⟨g18, 10, none⟩ = some (.int .i64 1) := World.ownsRow.cells HR20.out (g := g18) rfl 10 _ rfl
    all_goals have r1x1 : w15.cell? ⟨g18, 11, none⟩ = some (.int .i64 p.gen) := World.ownsRow.cells HR20.out (g := g18) rfl 11 _ rfl
    all_goals have r1x2 : w15.cell? ⟨g18, 12, none⟩ = some (.int .i64 p.s) := World.ownsRow.cells HR20.out (g := g18) rfl 12 _ rfl
    all_goals have r1x3 : w15.cell? ⟨g18, 13, none⟩ = some (.int .i64 p.k) := World.ownsRow.cells HR20.out (g := g18) rfl 13 _ rfl
    all_goals have r1x4 : w15.cell? ⟨g18, 14, none⟩ = some (.int .i64 p.m) := World.ownsRow.cells HR20.out (g := g18) rfl 14 _ rfl
    all_goals have r1x5 : w15.cell? ⟨g18, 15, none⟩ = some (.int .i64 p.c) := World.ownsRow.cells HR20.out (g := g18) rfl 15 _ rfl
    all_goals have r1x6 : w15.cell? ⟨g18, 16, none⟩ = some (.int .i64 p.len) := World.ownsRow.cells HR20.out (g := g18) rfl 16 _ rfl
    all_goals have r1x7 : w15.cell? ⟨g18, 17, none⟩ = some (.int .i64 p.a) := World.ownsRow.cells HR20.out (g := g18) rfl 17 _ rfl
    all_goals have r1x8 : w15.cell? ⟨g18, 18, none⟩ = some (.int .i64 p.b) := World.ownsRow.cells HR20.out (g := g18) rfl 18 _ rfl
    all_goals have r1x9 : w15.cell? ⟨g18, 19, none⟩ = some (.int .u32 (p.sum : Int)) := World.ownsRow.cells HR20.out (g := g18) rfl 19 _ rfl
    all_goals first | (have r2x0 : w15.cell? ⟨g21, 0, none⟩ = some (.int .i64 1) := World.ownsRow.cells HM20.out (g := g21) rfl 0 _ rfl) | (have r2x0 : w15.cell? ⟨g21, 0, none⟩ = some (.int .i64 0) := World.ownsRow.cells HM20.out (g := g21) rfl 0 _ rfl)
    all_goals have r2x1 : w15.cell? ⟨g21, 1, none⟩ = some (.int .i64 p.gen) := World.ownsRow.cells HM20.out (g := g21) rfl 1 _ rfl
    all_goals have r2x2 : w15.cell? ⟨g21, 2, none⟩ = some (.int .i64 p.s) := World.ownsRow.cells HM20.out (g := g21) rfl 2 _ rfl
    all_goals have r2x3 : w15.cell? ⟨g21, 3, none⟩ = some (.int .i64 p.k) := World.ownsRow.cells HM20.out (g := g21) rfl 3 _ rfl
    all_goals have r2x4 : w15.cell? ⟨g21, 4, none⟩ = some (.int .i64 p.m) := World.ownsRow.cells HM20.out (g := g21) rfl 4 _ rfl
    all_goals have r2x5 : w15.cell? ⟨g21, 5, none⟩ = some (.int .i64 p.c) := World.ownsRow.cells HM20.out (g := g21) rfl 5 _ rfl
    all_goals have r2x6 : w15.cell? ⟨g21, 6, none⟩ = some (.int .i64 p.len) := World.ownsRow.cells HM20.out (g := g21) rfl 6 _ rfl
    all_goals have r2x7 : w15.cell? ⟨g21, 7, none⟩ = some (.int .i64 p.a) := World.ownsRow.cells HM20.out (g := g21) rfl 7 _ rfl
    all_goals have r2x8 : w15.cell? ⟨g21, 8, none⟩ = some (.int .i64 p.b) := World.ownsRow.cells HM20.out (g := g21) rfl 8 _ rfl
    all_goals have r2x9 : w15.cell? ⟨g21, 9, none⟩ = some (.int .u32 (p.sum : Int)) := World.ownsRow.cells HM20.out (g := g21) rfl 9 _ rfl
    all_goals obtain ⟨_, _, ⟨_, c0, c1, c2, c3, c4, c5, c6, c7, c8⟩, _⟩ := HL15.out.k
    all_goals go_quiet (fail)
    all_goals go_wp2
    all_goals go_ret
    all_goals exact ⟨rfl, below_drewN HL15.out.k.be _⟩
  · have d0 : (z == 0) = false := by rw [beq_eq_false_iff_ne]; exact hz
    have d1 : (z != 0) = true := by rw [bne_iff_ne]; exact hz
    have g7 : (y2 = 0 ∧ z2 = 0 ∧ X2 = s) ∨ ((y2 == 0) = false) := by
      rcases hy2 with h | h
      · exact .inl ⟨h, HF2.out h⟩
      · exact .inr (by rw [beq_eq_false_iff_ne]; exact h)
    clear hy2 hz
    obtain ⟨_, _, ⟨_, c0, c1, c2, c3, c4, c5, c6, c7, c8⟩, _⟩ := HX7.out
    rcases g7 with ⟨rfl, rfl, rfl⟩ | g7
    all_goals go_wp2_with (go_at_call 42; refine (hSec _).mono ?_; rintro e w8 ⟨rfl, hb8⟩; have HB8 := Lib.hid hb8; clear hb8)
    all_goals go_ret
    all_goals exact ⟨rfl, HX7.out.be.trans (HB8.out.mono HX7.out.be.size)⟩
theorem superBack_any {w : World} {v : Value} (h : SupVal v) (s : ByteArray) {q : Prop} (_ : q) (b : Bool) (hT : Tab w) : Calls Tryd.prog 7 #[v, .string s, .bool b] w fun e w' => e = .returned (.bool true) ∧ Below w.heap.size w w' := by
  obtain ⟨p, rfl, hp⟩ := h
  exact superBack_walk p hp s b w hT
end Go.Proofs.YtfpnlaafefdcaaaDoor
