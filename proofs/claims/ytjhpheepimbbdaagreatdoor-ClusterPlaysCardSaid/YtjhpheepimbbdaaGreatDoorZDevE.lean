/- The contracts of a device's Waiting and Bad. The contract of a device's Flush. The contract of a device's Crash. The contract of a device's Garble. -/
import Derived.Test.YtjhpheepimbbdaaGreatDoorZDevC
import Derived.Test.YtjhpheepimbbdaaGreatDoorShelf
import Derived.Maps.RangeWalk
import Derived.IntWalk
namespace Go.Proofs.YtjhpheepimbbdaaGreatDoor
open Go.RowKit Go.Maps Go.Sort Go.Shelf

theorem sortsI (m : Nat) : AnyZI.SortsIn Tryz.prog Tryz.sortedI_ren Fence.wide m :=
  ⟨fun blk off cap ss W hH hblk hsz => callsIn_wide.2 (AnyM.slices_Sort_int Tryz.sortI blk off cap ss W hH hblk hsz),
   fun p cap W => callsIn_wide.2 (AnyM.slices_Sort_int_none Tryz.sortI p cap W)⟩
/-- A slice of the call's own that holds these numbers. -/
def IntsOf (w : World) (base : Nat) (v : Value) (L : List Int) : Prop := w.ownsRow base 3 1 v L.length (L.map (Value.int .i64)) ∧ (v = .slice none 0 0 ↔ L = [])
set_option maxHeartbeats 1000000 in
theorem risingW_any {R : Value → Option (DataW Unit × List MemPlace)} {b nn : Nat} {D0 : DataW Unit} {w : World} (hown : w.ownsMap Tryz.prog 3 R b nn D0) (hmax : Maps.size D0 ≤ maxLen) (hbytes : Maps.size D0 * 8 ≤ 140737488355328) :
    Calls Tryz.prog 71 #[.map (some b)] w fun e w' => ∃ (v : Value) (ss : List Int), e = .returned v ∧ ss.Perm (Go.intKeys D0) ∧
      w'.ownsRow w.heap.size 3 1 v ss.length ((ss.mergeSort (fun x y => decide (x ≤ y))).map encZ) ∧ (v = .slice none 0 0 ↔ ss = []) ∧ Below w.heap.size w w' := by
  refine (callsIn_wide (n := 6)).1 ?_
  have hbl := hown.lt
  have hseq : SeqGives Fence.wide 2 Tryz.prog 81 #[.pointer (some ⟨w.heap.size, 0, none⟩)] encZ (fun ss => ss.Perm (Go.intKeys D0)) (Maps.size D0) (w.alloc (.cells #[.map (some b)] 52)) :=
    AnyZI.keys_gives (ρ := Tryz.keysW_ren) { Tryz.keysW with } Fence.wide _ trivial rfl (by omega) w.heap.size b nn D0 _ (by simp) (by simp) (by
      obtain ⟨es, clock, hb, Ft, hs, hD⟩ := hown
      exact ⟨es, clock, (Below.heap_alloc _ _ b hbl).trans hb, Ft, hs, hD⟩)
  have cK : ∀ mb W, CallsIn Fence.wide 5 Tryz.prog 78 #[.map mb] W fun e w' => e = .returned (.func (.func 81) #[] #[.pointer (some ⟨W.heap.size, 0, none⟩)]) ∧ w' = W.alloc (.cells #[.map mb] 52) := fun mb W => AnyZI.keys_in Tryz.keysW Fence.wide 5 trivial rfl mb W
  have cS := AnyZI.sorted_in Tryz.sortedI Fence.wide 5 trivial trivial trivial trivial rfl (by omega) (sortsI _) (enters_of Tryz.func80 (by kernel_rfl) rfl) 81 #[.pointer (some ⟨w.heap.size, 0, none⟩)] trivial (enters_of Tryz.func81 (by kernel_rfl) rfl) _ _ hmax hbytes _ hseq
  change CallsIn _ _ Tryz.prog 77 _ _ _ at cS
  have hfK : Fence.wide.fn 78 := trivial
  have hfS : Fence.wide.fn 77 := trivial
  refine callsIn_of_wp Tryz.func71 rfl trivial ?_ rfl
  simp only [Tryz.ntmps71, List.size_toArray, List.length_cons, List.length_nil, Nat.reduceAdd, Nat.reduceSub, Array.replicate_succ, Array.replicate_zero, List.push_toArray, List.append_toArray, List.nil_append, List.cons_append]
  gi_wp2_with (first
    | (gi_at_call 78; refine (cK _ _).mono ?_; rintro e w' ⟨rfl, rfl⟩)
    | (gi_at_call 77; refine cS.mono ?_; rintro e w' ⟨v, ss, rfl, hS, hrow, hnil, hb⟩))
  go_ret
  exact ⟨v, ss, rfl, hS, ownsRow_base_a hrow (by simp), hnil, ((Below.refl _ w).alloc (Nat.le_refl _) _).trans (hb.mono (by simp))⟩
theorem devWaiting_any {w : World} {h : DH} {M : DM} (d : DevAt w h M) :
    Calls Tryz.prog 59 #[.pointer (some ⟨h.b, 0, none⟩)] w fun e w' => ∃ v, e = .returned v ∧ IntsOf w' w.heap.size v (numsI M.n (fun i => (M.fresh i).isSome)) ∧ Below w.heap.size w w' := by
  have c1 := d.c1
  obtain ⟨D, ho, hh, _, hsz⟩ := d.wait
  have hn2 := d.n2
  have hR := risingW_any ho (by unfold maxLen; omega) (by omega)
  have HK : Hid (∀ ss : List Int, ss.Perm (Go.intKeys D) → ss.mergeSort (fun x y => decide (x ≤ y)) = numsI M.n (fun i => (M.fresh i).isSome)) := Lib.hid (fun ss hs => keys_sorted ho intK Tryz.underlying3 (p := fun i => (M.fresh i).isSome) hh hs)
  clear d ho hh hsz
  go_enter Tryz.func59, Tryz.ntmps59
  go_wp2_with (go_at_call 71; refine hR.mono ?_; rintro e w' ⟨v, ss, rfl, hs, hrow, hnil, hb⟩)
  go_ret
  have hk := HK.out ss hs
  rw [hk] at hrow
  have hl : ss.length = (numsI M.n (fun i => (M.fresh i).isSome)).length := by rw [← hk, List.length_mergeSort]
  rw [hl] at hrow
  refine ⟨v, rfl, ⟨hrow, ?_⟩, hb⟩
  rw [hnil, ← List.length_eq_zero_iff, hl, List.length_eq_zero_iff]
end Go.Proofs.YtjhpheepimbbdaaGreatDoor
namespace Go.Proofs.YtjhpheepimbbdaaGreatDoor
open Go.RowKit Go.Maps

theorem DevAt.congr {w : World} {h : DH} {M M' : DM} (d : DevAt w h M) (hn : M'.n = M.n) (hs : ∀ i, i < M.n → M'.sure i = M.sure i) (hf : ∀ i, i < M.n → M'.fresh i = M.fresh i) (hb : ∀ i, i < M.n → M'.bad i = M.bad i)
    (hw : M'.writes = M.writes) (hd : M'.down = M.down) (hl : M'.left = M.left) : DevAt w h M' := by
  refine ⟨d.ltb, by rw [hn]; exact d.c0, d.c1, d.c2, by rw [hw]; exact d.c3, by rw [hd]; exact d.c4, by rw [hl]; exact d.c5, by rw [hl]; exact d.c6, d.fz, fun i hi => ?_, fun i hi => ?_, fun i l hi h => ?_, ?_, ?_, by rw [hn]; exact d.n1, by rw [hn]; exact d.n2, by rw [hn]; exact d.cap1, d.cap2, d.ne⟩
  · rw [hn] at hi; rw [hs i hi]; exact d.rows i hi
  · rw [hn] at hi; rw [hs i hi]; exact d.lens i hi
  · rw [hn] at hi; rw [hf i hi] at h; exact d.flen i l hi h
  · rw [hn]
    obtain ⟨D, ho, hh, hv, hsz⟩ := d.wait
    refine ⟨D, ho, fun x => ?_, fun i l hi hfi z => hv i l hi (by rw [← hf i hi]; exact hfi) z, hsz⟩
    rw [hh x]
    constructor
    · rintro ⟨a, b, c⟩; exact ⟨a, b, by rw [hf _ b]; exact c⟩
    · rintro ⟨a, b, c⟩; exact ⟨a, b, by rw [hf _ b] at c; exact c⟩
  · rw [hn]
    obtain ⟨D, ho, hh, hsz⟩ := d.badm
    refine ⟨D, ho, fun x => ?_, hsz⟩
    rw [hh x]
    constructor
    · rintro ⟨a, b, c⟩; exact ⟨a, b, by rw [hb _ b]; exact c⟩
    · rintro ⟨a, b, c⟩; exact ⟨a, b, by rw [hb _ b] at c; exact c⟩
/-! ### clear, and a range under way -/
theorem owns_clear {H : Type} {P : Program} {k t e : TypeId} {R : Value → Option (DataW H × List MemPlace)} {w : World} {b n : Nat} {D : DataW H} (ho : w.ownsMap P k R b n D) (ht : P.underlying t = some (.map k e)) (ty : TypeId) :
    ∃ w', (Builtin.clear_ #[t] ty #[.map (some b)]).run P w = .ok (.tuple #[]) w' ∧ w'.ownsMap P k R b 0 (.map []) ∧ w.mapTurned w' b := by
  obtain ⟨es, clock, hb, F, hs, rfl⟩ := ho
  refine ⟨_, by simp [Builtin.clear_, run_underlying ht, MapKept.run_getObj_map hb, MapKept.run_setObj_map _ hb, Result.andThen]; rfl, ⟨#[], clock, ChangeMaps.heap_setBlock_same hb _, ⟨by simp, MapKept.stamped_empty _, by simp⟩, Nat.le_refl _, rfl⟩, ⟨es, clock, #[], clock, hb, rfl⟩⟩
theorem wpList_clear_own {H : Type} {P : Program} {w : World} {ops : Array Oper} {rest : List Oper} {o : Oper} {a : Act} {Q : Exit → Act → World → Prop} (hg : o.guard = none) (m : Operand) (t : TypeId) (hop : o.op = Op.call { callee := Callee.builtin Builtin.clear, args := #[m], argTypes := #[t] })
    (k e : TypeId) (ht : P.underlying t = some (.map k e)) (R : Value → Option (DataW H × List MemPlace)) (b n : Nat) (D : DataW H) (hm : a.eval m = .map (some b)) (hown : w.ownsMap P k R b n D)
    (hK : ∀ w', w'.ownsMap P k R b 0 (.map []) → w.mapTurned w' b → wpList P ops Q rest (a.put o.dst (.tuple #[])) w') : wpList P ops Q (o :: rest) a w := by
  refine wpList_plain hg fun K' hK' => ?_
  obtain ⟨w', hrun, r1, r2⟩ := owns_clear hown ht o.type
  unfold Oper.wp
  simp [execOp, hop, resolve, invoke, builtin, hm, hrun, Result.andThen]
  exact hK' _ _ (hK w' r1 r2)
theorem ranges_ap {H : Type} {P : Program} {k : TypeId} {R : Value → Option (DataW H × List MemPlace)} {S : Nat → Prop} {w w' : World} {b r n : Nat} {D : DataW H} {left : Lit → Bool} {cnt : Nat} (h : w.ranges P k R b r n D left cnt) (a : Ap S w w') (hb : ¬ S b) (hr : ¬ S r) : w'.ranges P k R b r n D left cnt := by
  have h1 := h.owns.lt
  have h2 := h.lt
  obtain ⟨es, clock, since, seen, c0, e1, F, e2, e3, e4, r⟩ := h
  exact ⟨es, clock, since, seen, c0, (a.block b h1 hb).trans e1, F, e2, e3, (a.block _ h2 hr).trans e4, r⟩
/-! ### Flush -/
/-- Which sectors are through. -/
def dnB (f : Nat → Option (List UInt8)) (left : Lit → Bool) (i : Nat) : Bool := (f i).isSome && !left (kLit i)
def sureL (M : DM) (left : Lit → Bool) (i : Nat) : List UInt8 := if dnB M.fresh left i = true then (M.fresh i).getD [] else M.sure i
def badL (M : DM) (left : Lit → Bool) (i : Nat) : Bool := M.bad i && !dnB M.fresh left i
def leftM (M : DM) (left : Lit → Bool) : DM := { M with sure := sureL M left, bad := badL M left }
def landM (M : DM) : DM := { M with sure := fun i => (M.fresh i).getD (M.sure i), bad := fun i => M.bad i && (M.fresh i).isNone, fresh := fun _ => none }
def flushE (M : DM) : Int := if M.down = true then 12 else burnE M
def flushM (M : DM) : DM := if M.down = true then M else if burnE M = 0 then landM (burnM M) else burnM M
theorem sameK {i j : Nat} : (kLit i).sameKey (kLit j) = decide (i = j) := by
  unfold kLit
  simp [Lit.sameKey]
  omega
theorem invK (key : Value) (kl : Lit) (h : keyOf Tryz.prog 3 key = some kl) : ∃ x : Int, key = (fun x : Int => Value.int .i64 x) x := by
  obtain ⟨x, hx, _⟩ := Maps.keyOf_int_inv Tryz.underlying3 h
  exact ⟨x, hx⟩
theorem invV (v : Value) (y : DataW Unit × List MemPlace) (h : secElem v = some y) : ∃ c : List UInt8, v = (fun l : List UInt8 => Value.agg (U8s l).toArray) c := by
  obtain ⟨l, _, hv, _⟩ := secElem_inv h
  exact ⟨l, hv⟩
/-- What an entry that comes is. -/
theorem entry_facts {D : DataW Unit} {M : DM} (hh : ∀ x : Int, Maps.has D (.int .i64 x) = true ↔ 0 ≤ x ∧ x.toNat < M.n ∧ (M.fresh x.toNat).isSome = true) (hv : ∀ i l, i < M.n → M.fresh i = some l → ∀ z, D.atKey (kLit i) z = .lit (.string l))
    {x : Int} {c : List UInt8} {kl : Lit} {y : DataW Unit × List MemPlace} (hk : keyOf Tryz.prog 3 (Value.int .i64 x) = some kl) (hR : secElem (.agg (U8s c).toArray) = some y) (hat : ∀ zd, D.atKey kl zd = y.1) :
    ∃ i : Nat, x = (i : Int) ∧ kl = kLit i ∧ i < M.n ∧ M.fresh i = some c ∧ c.length = 512 := by
  obtain ⟨x', hx, hkl, _⟩ := Maps.keyOf_int_inv Tryz.underlying3 hk
  injection hx with _ hx
  subst hx
  have hhas : Maps.has D kl = true := has_true_of_atKey hat
  rw [hkl] at hhas
  obtain ⟨h0, h1, h2⟩ := (hh x).1 hhas
  obtain ⟨l, hl⟩ := Option.isSome_iff_exists.1 h2
  have ha := hv x.toNat l h1 hl .nil
  rw [← klit_of h0, ← hkl, hat] at ha
  obtain ⟨c', hc, he, hz⟩ := secElem_inv hR
  rw [hz] at ha
  injection ha with ha
  injection ha with ha
  have hcc : c = c' := by
    have e1 := bytesV_mk c
    have e2 := bytesV_mk c'
    have he2 : U8s c = U8s c' := by
      have := congrArg Array.toList (Value.agg.inj he)
      exact this
    rw [he2, e2] at e1
    exact (Option.some.inj e1).symm
  subst hcc
  exact ⟨x.toNat, by omega, by rw [hkl, klit_of h0], h1, by rw [hl, ha], hc⟩
theorem dnB_step (f : Nat → Option (List UInt8)) (left : Lit → Bool) {i : Nat} (hi : (f i).isSome = true) (j : Nat) : dnB f (fun z => left z && !z.sameKey (kLit i)) j = if j = i then true else dnB f left j := by
  unfold dnB
  simp only [sameK]
  by_cases e : j = i
  · subst e; simp [hi]
  · simp [e]
theorem leftM_step {w : World} {h : DH} {M : DM} {left : Lit → Bool} {i : Nat} {c : List UInt8} (hf : M.fresh i = some c)
    (d : DevAt w h { leftM M left with sure := upd (leftM M left).sure i c, bad := upd (leftM M left).bad i false }) : DevAt w h (leftM M (fun z => left z && !z.sameKey (kLit i))) := by
  refine d.congr rfl (fun j _ => ?_) (fun j _ => rfl) (fun j _ => ?_) rfl rfl rfl
  · show sureL M _ j = upd (sureL M left) i c j
    unfold sureL
    rw [dnB_step M.fresh left (by rw [hf]; rfl) j]
    by_cases e : j = i
    · subst e; rw [upd_same, if_pos rfl, if_pos rfl, hf]; rfl
    · rw [upd_ne _ _ e, if_neg e]
  · show badL M _ j = upd (badL M left) i false j
    unfold badL
    rw [dnB_step M.fresh left (by rw [hf]; rfl) j]
    by_cases e : j = i
    · subst e; rw [upd_same, if_pos rfl]; simp
    · rw [upd_ne _ _ e, if_neg e]
theorem leftM_start {w : World} {h : DH} {M : DM} (d : DevAt w h M) {D : DataW Unit} (hh : ∀ x : Int, Maps.has D (.int .i64 x) = true ↔ 0 ≤ x ∧ x.toNat < M.n ∧ (M.fresh x.toNat).isSome = true) : DevAt w h (leftM M (Maps.has D)) := by
  have e : ∀ i, i < M.n → dnB M.fresh (Maps.has D) i = false := by
    intro i hi
    unfold dnB
    cases hf : (M.fresh i).isSome
    · rfl
    · have : Maps.has D (kLit i) = true := (hh (i : Int)).2 ⟨by omega, by simpa using hi, by simpa using hf⟩
      simp [this]
  refine d.congr rfl (fun j hj => ?_) (fun j _ => rfl) (fun j hj => ?_) rfl rfl rfl
  · show sureL M _ j = _
    unfold sureL; rw [e j hj]; simp
  · show badL M _ j = _
    unfold badL; rw [e j hj]; simp
theorem leftM_end {w : World} {h : DH} {M : DM} {left : Lit → Bool} (hl : ∀ kl, left kl = false) (d : DevAt w h { leftM M left with fresh := fun _ => none }) : DevAt w h (landM M) := by
  have e : ∀ i, dnB M.fresh left i = (M.fresh i).isSome := by intro i; unfold dnB; rw [hl]; simp
  refine d.congr rfl (fun j _ => ?_) (fun j _ => rfl) (fun j _ => ?_) rfl rfl rfl
  · show _ = sureL M left j
    unfold sureL; rw [e j]
    cases hf : M.fresh j <;> simp [landM, hf]
  · show _ = badL M left j
    unfold badL; rw [e j]
    cases hf : M.fresh j <;> simp [landM, hf]
theorem waitMap_none {w : World} {b n : Nat} (h : w.ownsMap Tryz.prog 3 secElem b 0 (.map [])) : WaitMap w b n (fun _ => none) :=
  ⟨.map [], h, fun x => by simp [Maps.has], fun i l _ h => (by cases h), by simp [Maps.size]⟩

set_option maxHeartbeats 2000000 in
set_option maxRecDepth 100000 in
theorem devFlush_ok {w : World} {h : DH} {M : DM} (d : DevAt w h M) (hdn : M.down = false) (hE : burnE M = 0) :
    Calls Tryz.prog 26 #[.pointer (some ⟨h.b, 0, none⟩)] w fun e w' => e = .returned (.int .i64 0) ∧ DevAt w' h (landM (burnM M)) ∧ Ap h.S w w' := by
  have c4 := d.c4
  rw [hdn] at c4
  have hB := devBurn_any d
  rw [hE] at hB
  obtain ⟨N, hN⟩ : ∃ N, N = burnM M := ⟨_, rfl⟩
  rw [← hN] at hB ⊢
  clear d hE hdn hN
  go_enter Tryz.func26, Tryz.ntmps26
  go_wp2_with (first
    | (go_at_call 57; refine hB.mono ?_; rintro e w1 ⟨rfl, hd1, ha1⟩; have HD1 := Lib.hid hd1; have HA1 := Lib.hid ha1; have c1 := hd1.c1; obtain ⟨D, ho, hh, hv, hsz⟩ := hd1.wait; have HH := Lib.hid hh; have HV := Lib.hid hv; clear hd1 ha1 hh hv hsz)
    | (at_range; refine wpList_range_own _ rfl _ 52 rfl 3 78 intK Tryz.underlying52 secElem h.bw (Maps.size D) D rfl ho ?_; intro w2 hrg0 hg0 hs0))
  go_frame
  have hwr : Ap (fun _ => False) w1 w2 := (Ap.refl w1).grown hg0 (fun k hk => by cases hk)
  have hd2 := leftM_start (HD1.out.ap hwr (fun _ _ => id)) HH.out
  have ha2 : Ap h.S w w2 := HA1.out.trans (hwr.weak (fun _ hk => hk.elim))
  have hrne : ∀ k, h.S k → k ≠ w1.heap.size := by
    have h1 := HD1.out.ltb; have h2 := HD1.out.ltbs; have h3 := HD1.out.wait.lt; have h4 := HD1.out.badm.lt
    intro k hk
    rcases hk with hk | hk | hk | hk <;> omega
  have hwr1 : w.heap.size ≤ w1.heap.size := HA1.out.size
  have HWR1 := Lib.hid hwr1
  have HRNE := Lib.hid hrne
  have HHD := Lib.hid hd2
  have HHA := Lib.hid ha2
  have HRG := Lib.hid hrg0
  clear ho c1 hB c4 hg0 hs0 HD1 HA1 hwr hd2 ha2 hrg0 hwr1 hrne
  go_loopw [4] (fun _ wr => ∃ (left : Lit → Bool) (cnt : Nat), wr.ranges Tryz.prog 3 secElem h.bw w1.heap.size (Maps.size D) D left cnt ∧ DevAt wr h (leftM N left) ∧ Ap h.S w wr)
    (fun _ wr => wr.rangeLeft h.bw w1.heap.size)
  case atStart => exact ⟨_, _, HRG.out, HHD.out, HHA.out⟩
  case round =>
    obtain ⟨left, cnt, hrg, hd3, ha3⟩ := hrel
    have HD3 := Lib.hid hd3
    have HA3 := Lib.hid ha3
    clear hd3 ha3 HRG HHD HHA
    go_wp2_with (at_next; refine wpList_next_ranges _ rfl _ rfl 3 intK secElem (fun x : Int => Value.int .i64 x) (fun l : List UInt8 => Value.agg (U8s l).toArray) invK invV h.bw w1.heap.size (Maps.size D) D left cnt rfl hrg ?_ ?_)
    · intro _ hl0
      have ho := hrg.owns
      have c1 := HD3.out.c1
      have HL0 := Lib.hid hl0
      clear hl0 hrg HH HV
      go_wp2_with (with_reducible refine wpList_clear_own rfl (.tmp 34) 52 rfl 3 78 Tryz.underlying52 secElem h.bw (Maps.size D) D rfl ho ?_; intro w5 ho5 ht5)
      go_ret
      exact ⟨rfl, leftM_end HL0.out (HD3.out.withWait (ap_turned ht5) (waitMap_none ho5) (fun i l _ h => by cases h)), HA3.out.trans ((ap_turned ht5).weak (S_bw h))⟩
    · intro x c kl y1 y2 w4 cnt1 hk hlk hR hat hrg1 hlt hg1 hs1 hen
      obtain ⟨i, rfl, rfl, hi, hf, hc⟩ := entry_facts HH.out HV.out hk hR hat
      have hap : Ap (fun k => k = w1.heap.size) wr w4 := Ap.grown (S := fun k => k = w1.heap.size) (Ap.refl wr) hg1 (fun k hk => by injection hk with hk; exact .inl hk.symm)
      have hd4 : DevAt w4 h (leftM N left) := HD3.out.ap hap (fun k hk e => HRNE.out k hk e)
      have ha4 : Ap h.S w w4 := HA3.out.grown hg1 (fun k hk => by injection hk with hk; right; have := HWR1.out; omega)
      obtain ⟨W5, hW5, hd5, hb5, hr5⟩ := var_facts hd4 hc
      have hset := devSettle_any hd5 i hi c hc
      have hrl := hr5.range
      have ht4 : (w4.alloc (.cells Tryz.zeroCells78 78)).there w4.heap.size 0 (U8s c).toArray.size := by rw [u8a_size, hc]; exact zc_there w4
      have HII : Hid ((Tryz.prog.info? 78).map (·.size) = some (U8s c).toArray.size) := Lib.hid (by rw [secSize, u8a_size, hc])
      have HIL : Hid ((Tryz.prog.info? 78).map (·.size) = some (U8s c).length) := Lib.hid (by rw [secSize, u8s_len, hc])
      have H1 : Hid ((U8s c).toArray.all (·.oneCell') = true) := Lib.hid (all_oneCell_toArray (u8s_one c))
      have HU := Lib.hid Tryz.underlying78
      have hrg5 : W5.ranges Tryz.prog 3 secElem h.bw w1.heap.size (Maps.size D) D _ cnt1 := ranges_ap (S := fun k => w4.heap.size ≤ k) hrg1 ⟨hb5.os, hb5.tape, hb5.output, hb5.size, fun k hk _ => hb5.block k hk⟩ (by have := hrg1.owns.lt; omega) (by have := hrg1.lt; omega)
      have HRG5 := Lib.hid hrg5
      have HA5 : Hid (Ap h.S w W5) := Lib.hid (ha4.trans (Ap.of_below hb5))
      have HF := Lib.hid hf
      have HLT := Lib.hid hlt
      have HRG := Lib.hid hrg
      have HTT := Lib.hid ht4
      have HRL := Lib.hid hrl
      have hbn := HD3.out.ne
      have HNE : Hid (¬ h.S2 h.bw ∧ ¬ h.S2 w1.heap.size) := Lib.hid (by
        refine ⟨?_, fun e => HRNE.out _ (S2_S h _ e) rfl⟩
        rintro (e | e)
        · exact hbn.2.2.2.1 e.symm
        · exact hbn.2.2.2.2.2 e)
      rw [hW5] at hset HA5 HRG5 HRL
      clear hW5 hd5 hb5 hr5 hrl ht4 hrg5 ha4 hd4 hap hf hlt hrg hrg1 hg1 hs1 hk hlk hR hat HH HV hbn hi hc HD3
      go_wp2_with (first
        | (with_reducible refine wpList_store_mid rfl 78 (.tmp 5) (.tmp 26) rfl w4.heap.size 0 (U8s c).toArray rfl rfl HTT.out HII.out H1.out ?_)
        | (with_reducible refine wpList_load_mid rfl 78 (.tmp 5) rfl w4.heap.size 0 rfl (U8s c) _ HRL.out HU.out rfl HIL.out ?_)
        | (go_at_call 58; refine hset.mono ?_; rintro e w6 ⟨rfl, hd6, ha6⟩))
      go_roundw
      case rel => exact ⟨_, cnt1, ranges_ap HRG5.out ha6 HNE.out.1 HNE.out.2, leftM_step HF.out hd6, HA5.out.trans (ha6.weak (S2_S h))⟩
      case measure => rw [(ranges_ap HRG5.out ha6 HNE.out.1 HNE.out.2).left_eq, HRG.out.left_eq]; exact HLT.out

/-- Flush, whatever the device is. -/
theorem devFlush_any {w : World} {h : DH} {M : DM} (d : DevAt w h M) :
    Calls Tryz.prog 26 #[.pointer (some ⟨h.b, 0, none⟩)] w fun e w' => e = .returned (.int .i64 (flushE M)) ∧ DevAt w' h (flushM M) ∧ Ap h.S w w' := by
  by_cases h1 : M.down = true
  · have c4 := d.c4
    rw [h1] at c4
    rw [show flushE M = 12 from if_pos h1, show flushM M = M from if_pos h1]
    have HD := Lib.hid d
    clear d h1
    go_enter Tryz.func26, Tryz.ntmps26
    go_wp2
    go_ret
    exact ⟨rfl, HD.out, Ap.refl _⟩
  have h1' : M.down = false := by simpa using h1
  by_cases h4 : burnE M = 0
  · rw [show flushE M = 0 by unfold flushE; rw [if_neg h1, h4], show flushM M = landM (burnM M) by unfold flushM; rw [if_neg h1, if_pos h4]]
    exact devFlush_ok d h1' h4
  · have hE : burnE M = 12 := by
      unfold burnE at h4 ⊢
      by_cases g : M.left = 0
      · rw [if_pos g]
      · rw [if_neg g] at h4; exact absurd rfl h4
    rw [show flushE M = 12 by unfold flushE; rw [if_neg h1, hE], show flushM M = burnM M by unfold flushM; rw [if_neg h1, if_neg h4]]
    have c4 := d.c4
    rw [h1'] at c4
    have hB := devBurn_any d
    rw [hE] at hB
    obtain ⟨N, hN⟩ : ∃ N, N = burnM M := ⟨_, rfl⟩
    rw [← hN] at hB ⊢
    clear d h1 h1' hN h4 hE
    go_enter Tryz.func26, Tryz.ntmps26
    go_wp2_with (go_at_call 57; refine hB.mono ?_; rintro e w1 ⟨rfl, hd1, ha1⟩)
    go_ret
    exact ⟨rfl, hd1, ha1⟩
end Go.Proofs.YtjhpheepimbbdaaGreatDoor
namespace Go.Proofs.YtjhpheepimbbdaaGreatDoor
open Go.RowKit Go.Maps

/-- A slice of bools that lies beside the device. -/
def BoolsAt (w : World) (h : DH) (v : Value) (Q : List Bool) : Prop :=
  ∃ A cap, v = .slice A Q.length cap ∧ Q.length ≤ cap ∧ cap ≤ 9223372036854775807 ∧ (Q = [] ∨ ∃ b off, A = some ⟨b, off, none⟩ ∧ b < w.heap.size ∧ ¬ h.S b ∧ ∀ j, j < Q.length → w.cell? ⟨b, off + j, none⟩ = some (.bool (Q.getD j false)))
theorem BoolsAt.ap {S : Nat → Prop} {w w' : World} {h : DH} {v : Value} {Q : List Bool} (k : BoolsAt w h v Q) (a : Ap S w w') (hS : ∀ x, S x → h.S x) : BoolsAt w' h v Q := by
  obtain ⟨A, cap, hv, h1, h2, h3⟩ := k
  refine ⟨A, cap, hv, h1, h2, ?_⟩
  rcases h3 with h3 | ⟨b, off, hA, hb, hn, hc⟩
  · exact .inl h3
  · exact .inr ⟨b, off, hA, Nat.lt_of_lt_of_le hb a.size, hn, fun j hj => (a.cell hb (fun e => hn (hS _ e)) _).trans (hc j hj)⟩
/-- Which of the sectors that wait are kept: those at whose place keep is true. -/
def keptB (L : List Nat) (Q : List Bool) (i : Nat) : Bool := (L.zip Q).any (fun p => p.1 == i && p.2)
def crashN (M : DM) (L : List Nat) (Q : List Bool) : DM := { M with sure := fun i => if keptB L Q i = true then (M.fresh i).getD [] else M.sure i, bad := fun i => M.bad i && !keptB L Q i }
def waitL (M : DM) : List Nat := (List.range M.n).filter (fun i => (M.fresh i).isSome)
def crashM (M : DM) (Q : List Bool) : DM := { crashN M (waitL M) Q with fresh := fun _ => none, down := false, left := -1 }
theorem take_step {L : List Nat} {k : Nat} (hk : k < L.length) : L.take (k + 1) = L.take k ++ [L.getD k 0] := by
  rw [List.take_succ_eq_append_getElem hk, List.getD, List.getElem?_eq_getElem hk]; rfl
theorem zip_snoc : ∀ (A : List Nat) (x : Nat) (Q : List Bool), (A ++ [x]).zip Q = A.zip Q ++ (if A.length < Q.length then [(x, Q.getD A.length false)] else [])
  | [], x, [] => rfl
  | [], x, q :: r => by simp [List.zip]
  | a :: A, x, [] => by simp
  | a :: A, x, q :: r => by
    have := zip_snoc A x r
    simp only [List.cons_append, List.zip_cons_cons, List.length_cons, Nat.add_lt_add_iff_right, List.getD_cons_succ]
    rw [this]
theorem kept_step {L : List Nat} {Q : List Bool} {k : Nat} (hk : k < L.length) (i : Nat) :
    keptB (L.take (k + 1)) Q i = (keptB (L.take k) Q i || (L.getD k 0 == i && (decide (k < Q.length) && Q.getD k false))) := by
  have hl : (L.take k).length = k := by rw [List.length_take]; omega
  unfold keptB
  rw [take_step hk, zip_snoc, hl, List.any_append]
  congr 1
  by_cases h : k < Q.length
  · rw [if_pos h]; simp [h]
  · rw [if_neg h]; simp [h]
theorem nums_eq (M : DM) : numsI M.n (fun i => (M.fresh i).isSome) = (waitL M).map (fun i : Nat => (i : Int)) := rfl
/-- The numbers of a slice of the call's own, read. -/
theorem IntsOf.reads {w : World} {base : Nat} {v : Value} {L : List Int} (h : IntsOf w base v L) : (L = [] ∧ v = .slice none 0 0) ∨ ∃ g cap, v = .slice (some ⟨g, 0, none⟩) L.length cap ∧ base ≤ g ∧ g < w.heap.size ∧ L.length ≤ cap ∧ cap ≤ 9223372036854775807 ∧ ∀ j, j < L.length → w.cell? ⟨g, j, none⟩ = some (.int .i64 (L.getD j 0)) := by
  by_cases hL : L = []
  · exact .inl ⟨hL, h.2.2 hL⟩
  · right
    rcases h.1.2 with ⟨e, _⟩ | ⟨g, cap, cur, e, hb, hh, hn, hm, hs, ht⟩
    · exact absurd (h.2.1 e) hL
    · refine ⟨g, cap, e, hb, (Array.getElem?_eq_some_iff.1 hh).1, hn, by unfold maxLen at hm; omega, fun j hj => ?_⟩
      rw [cell_of_row w g j cur 3 (0, 0) hh]
      rw [Nat.mul_one] at ht
      have h1 : (cur.toList.take L.length)[j]? = (L.map (Value.int .i64))[j]? := by rw [ht]
      rw [List.getElem?_take, if_pos hj, List.getElem?_map, List.getElem?_eq_getElem hj, Array.getElem?_toList] at h1
      rw [h1, List.getD, List.getElem?_eq_getElem hj]; rfl
/-- m[k], without ok. -/
theorem wpList_lookup_sec {w : World} {ops : Array Oper} {rest : List Oper} {o : Oper} {a : Act} {Q : Exit → Act → World → Prop} (hg : o.guard = none) (m x : Operand) (hop : o.op = Op.lookup 52 m x false)
    {b n i : Nat} {D : DataW Unit} {l : List UInt8} (hm : a.eval m = .map (some b)) (hown : w.ownsMap Tryz.prog 3 secElem b n D) (hx : a.eval x = .int .i64 (i : Int)) (hkey : keyOf Tryz.prog 3 (.int .i64 (i : Int)) = some (kLit i)) (hat : ∀ z, D.atKey (kLit i) z = .lit (.string l))
    (hK : wpList Tryz.prog ops Q rest (a.put o.dst (.agg (U8s l).toArray)) w) : wpList Tryz.prog ops Q (o :: rest) a w := by
  refine wpList_plain hg fun K' hK' => ?_
  obtain ⟨v, ps, hrun, hv⟩ := hown.lookup intK Tryz.underlying52 (Tryz.zeroValue78 w) (zc_elem w) hkey
  rw [hat] at hv
  obtain ⟨l', _, hv', hz⟩ := secElem_inv hv
  injection hz with hz _
  injection hz with hz
  injection hz with hz
  subst hz hv'
  unfold Oper.wp
  simp [execOp, hop, hm, hx, hrun, Result.andThen]
  exact hK' _ _ hK
theorem crash_step {w : World} {h : DH} {M : DM} {L : List Nat} {Q : List Bool} {k i : Nat} {l : List UInt8} (hk : k < L.length) (hi : L.getD k 0 = i) (hq : (decide (k < Q.length) && Q.getD k false) = true) (hf : M.fresh i = some l)
    (d : DevAt w h { crashN M (L.take k) Q with sure := upd (crashN M (L.take k) Q).sure i l, bad := upd (crashN M (L.take k) Q).bad i false }) : DevAt w h (crashN M (L.take (k + 1)) Q) := by
  refine d.congr rfl (fun j _ => ?_) (fun j _ => rfl) (fun j _ => ?_) rfl rfl rfl
  · show (if keptB (L.take (k + 1)) Q j = true then _ else _) = upd _ i l j
    rw [kept_step hk, hi, hq]
    by_cases e : j = i
    · subst e; rw [upd_same]; simp [hf]
    · have e' : (i == j) = false := by simpa using Ne.symm e
      rw [upd_ne _ _ e]; simp [e', crashN]
  · show (M.bad j && !keptB (L.take (k + 1)) Q j) = upd _ i false j
    rw [kept_step hk, hi, hq]
    by_cases e : j = i
    · subst e; rw [upd_same]; simp
    · have e' : (i == j) = false := by simpa using Ne.symm e
      rw [upd_ne _ _ e]; simp [e', crashN]
theorem crash_skip {M : DM} {L : List Nat} {Q : List Bool} {k : Nat} (hk : k < L.length) (hq : (decide (k < Q.length) && Q.getD k false) = false) : crashN M (L.take (k + 1)) Q = crashN M (L.take k) Q := by
  unfold crashN
  have e : keptB (L.take (k + 1)) Q = keptB (L.take k) Q := by funext j; rw [kept_step hk, hq]; simp
  rw [e]
theorem crash_zero (M : DM) (L : List Nat) (Q : List Bool) : crashN M (L.take 0) Q = M := by
  unfold crashN keptB
  simp
theorem mem_waitL {M : DM} (k : Nat) (hk : k < (waitL M).length) : (waitL M).getD k 0 < M.n ∧ (M.fresh ((waitL M).getD k 0)).isSome = true := by
  have : (waitL M).getD k 0 ∈ waitL M := by rw [List.getD, List.getElem?_eq_getElem hk]; exact List.getElem_mem hk
  unfold waitL at this
  rw [List.mem_filter, List.mem_range] at this
  exact this

/-- Behind the loop: nothing waits, the device is up, without a fuse. -/
theorem crash_end {w : World} {h : DH} {N : DM} (d : DevAt w h { N with fresh := fun _ => none }) :
    DevAt (((w.setCell ⟨h.b, 4, none⟩ (.bool false)).setCell ⟨h.b, 5, none⟩ (.bool false)).setCell ⟨h.b, 6, none⟩ (.int .i64 0)) h { N with fresh := fun _ => none, down := false, left := -1 } := by
  have h1 := (d.setDown false).setFuse (-1) 0 (fun h => absurd h (by omega)) ⟨by omega, by omega⟩
  rw [show decide ((0 : Int) ≤ -1) = false by decide] at h1
  exact h1
set_option maxHeartbeats 2000000 in
set_option maxRecDepth 100000 in
theorem devCrash_any {w : World} {h : DH} {M : DM} (d : DevAt w h M) {v : Value} {Q : List Bool} (hQ : BoolsAt w h v Q) :
    Calls Tryz.prog 30 #[.pointer (some ⟨h.b, 0, none⟩), v] w fun e w' => e = .returned (.tuple #[]) ∧ DevAt w' h (crashM M Q) ∧ Ap h.S w w' := by
  have hW := devWaiting_any d
  rw [nums_eq] at hW
  have hmem := @mem_waitL M
  have HZ := crash_zero M (waitL M) Q
  have HCM : Hid (crashM M Q = { crashN M (waitL M) Q with fresh := fun _ => none, down := false, left := -1 }) := Lib.hid rfl
  obtain ⟨L, hL⟩ : ∃ L, L = waitL M := ⟨_, rfl⟩
  rw [← hL] at hW hmem HZ HCM
  have HD := Lib.hid d
  have HQ := Lib.hid hQ
  have HBL : Hid (∀ x, h.S x → x < w.heap.size) := Lib.hid (by
    have h1 := d.ltb; have h2 := d.ltbs; have h3 := d.wait.lt; have h4 := d.badm.lt
    rintro x (e | e | e | e) <;> omega)
  obtain ⟨A, qc, rfl, hq1, hq2, hq3⟩ := hQ
  have HQ3 := Lib.hid hq3
  have HMEM := Lib.hid hmem
  have HZZ := Lib.hid HZ
  have hn2 := d.n2
  clear d hL hq3 hmem HZ
  by_cases hL0 : L = []
  · subst hL0
    have HZ0 : Hid (crashN M [] Q = M) := Lib.hid (by have := HZZ.out; simpa using this)
    clear HZZ HMEM
    go_enter Tryz.func30, Tryz.ntmps30
    go_wp2_with (go_at_call 59; refine hW.mono ?_; rintro e w1 ⟨v1, rfl, hI, hb1⟩; obtain rfl : v1 = .slice none 0 0 := hI.2.2 rfl; have HB1 := Lib.hid hb1; clear hI hb1)
    refine wp_loop_rounds 1 ?_
    rw [rounds_succ]
    have hd1 := HD.out.below HB1.out
    have c1 := hd1.c1
    obtain ⟨D, ho, hh, hv, hsz⟩ := hd1.wait
    have HD1 := Lib.hid hd1
    clear hh hv hsz hd1
    go_wp2_with (with_reducible refine wpList_clear_own rfl (.tmp 39) 52 rfl 3 78 Tryz.underlying52 secElem h.bw (Maps.size D) D rfl ho ?_; intro w5 ho5 ht5; have hd5 := HD1.out.withWait (ap_turned ht5) (waitMap_none ho5) (fun i l _ h => by cases h); have c4 := hd5.c4; have c5 := hd5.c5; obtain ⟨f6, c6, _, _, _⟩ := hd5.c6; have fz4 := hd5.fz 4 (by omega); have fz5 := hd5.fz 5 (by omega); have fz6 := hd5.fz 6 (by omega); have HD5 := Lib.hid hd5; have HT5 := Lib.hid ht5; clear hd5 ht5)
    go_end0
    refine ⟨rfl, ?_, ((Ap.of_below HB1.out).trans ((ap_turned HT5.out).weak (S_bw h))).trans ((((ap_put _ h.b 4 _).weak (S_b h)).trans ((ap_put _ h.b 5 _).weak (S_b h))).trans ((ap_put _ h.b 6 _).weak (S_b h)))⟩
    rw [HCM.out, HZ0.out]
    exact crash_end HD5.out
  · go_enter Tryz.func30, Tryz.ntmps30
    go_wp2_with (go_at_call 59; refine hW.mono ?_; rintro e w1 ⟨v1, rfl, hI, hb1⟩; obtain ⟨g, cap, rfl, hg1, hg2, hc1, hc2, hcell⟩ := hI.reads.resolve_left (fun hh => hL0 (by simpa using hh.1)); have HB1 := Lib.hid hb1; have HCELL := Lib.hid hcell; rw [List.length_map] at hc1; clear hI hb1 hcell)
    go_loopw [11] (fun ix wr => ∃ k : Nat, k ≤ L.length ∧ ix = .int .i64 (k : Int) ∧ DevAt wr h (crashN M (L.take k) Q) ∧ Ap h.S w wr ∧ Ap h.S2 w1 wr) (fun ix _ => L.length - (intOf ix).toNat)
    case atStart => exact ⟨0, Nat.zero_le _, rfl, by rw [HZZ.out]; exact HD.out.below HB1.out, Ap.of_below HB1.out, Ap.refl _⟩
    case round =>
      obtain ⟨k, hk, rfl, hd, ha, ha1⟩ := hrel
      have HDR := Lib.hid hd
      have HAR := Lib.hid ha
      have HAR1 := Lib.hid ha1
      clear hd ha ha1 HD HZZ
      by_cases hlt : k < L.length
      · have hgn : ¬ h.S2 g := by
          have h1 := HDR.out.ltb
          intro e
          have hbs := HB1.out.size
          have hd0 : ∀ x, h.S x → x < w.heap.size := HBL.out
          have := hd0 g (S2_S h g e)
          omega
        have hcg : wr.cell? ⟨g, k, none⟩ = some (.int .i64 ((L.getD k 0 : Nat) : Int)) := by
          rw [HAR1.out.cell hg2 hgn, HCELL.out k (by rw [List.length_map]; exact hlt)]
          simp [List.getD, hlt]
        obtain ⟨hi1, hi2⟩ := HMEM.out k hlt
        obtain ⟨i, hi⟩ : ∃ i, i = L.getD k 0 := ⟨_, rfl⟩
        rw [← hi] at hcg hi1 hi2
        have HI := Lib.hid hi
        have hi0 : (0 : Int) ≤ (i : Int) := by omega
        clear hi HMEM hgn
        by_cases hkq : k < Q.length
        · obtain ⟨b, off, rfl, hb, hbn, hbc⟩ := HQ3.out.resolve_left (by intro e; rw [e] at hkq; simp at hkq)
          have hcq : wr.cell? ⟨b, off + k, none⟩ = some (.bool (Q.getD k false)) := (HAR.out.cell hb hbn _).trans (hbc k hkq)
          have dq : decide ((k : Int) < (Q.length : Int)) = true := decide_eq_true (by omega)
          clear HQ3 hb hbn hbc HQ
          cases hq : Q.getD k false
          · rw [hq] at hcq
            have HS := Lib.hid (crash_skip (M := M) (L := L) (Q := Q) hlt (by rw [hq]; simp))
            clear hq
            go_wp2
            go_roundw
            case rel => exact ⟨k + 1, by omega, by go_num, by rw [HS.out]; exact HDR.out, HAR.out, HAR1.out⟩
            case measure => simp [intOf]; omega
          · rw [hq] at hcq
            obtain ⟨l, hl⟩ := Option.isSome_iff_exists.1 hi2
            have c1 := HDR.out.c1
            obtain ⟨D, ho, hh, hv, hsz⟩ := HDR.out.wait
            have HAT : Hid (∀ z, D.atKey (kLit i) z = .lit (.string l)) := Lib.hid (hv i l hi1 hl)
            have hlen : l.length = 512 := HDR.out.flen i l hi1 hl
            have hset := devSettle_any HDR.out i hi1 l hlen
            have HK : Hid (keyOf Tryz.prog 3 (.int .i64 (i : Int)) = some (kLit i)) := Lib.hid (Maps.keyOf_int_mk Tryz.underlying3 (wf_nat (by omega)))
            have HS : Hid (∀ W, _ → DevAt W h (crashN M (L.take (k + 1)) Q)) := Lib.hid (fun W hdW => crash_step (w := W) hlt HI.out.symm (by rw [hq]; simp [hkq]) hl hdW)
            clear hh hv hsz hlen hl hi2 hq HCELL
            go_wp2_with (first
          | (at_lookup; refine wpList_lookup_sec rfl _ _ rfl rfl ho rfl HK.out HAT.out ?_)
          | (go_at_call 58; refine hset.mono ?_; rintro e w6 ⟨rfl, hd6, ha6⟩))
            go_roundw
            case rel => exact ⟨k + 1, by omega, by go_num, HS.out w6 hd6, HAR.out.trans (ha6.weak (S2_S h)), HAR1.out.trans ha6⟩
            case measure => simp [intOf]; omega
        · have dq : decide ((k : Int) < (Q.length : Int)) = false := decide_eq_false (by omega)
          have HS := Lib.hid (crash_skip (M := M) (L := L) (Q := Q) hlt (by simp [hkq]))
          clear HQ3 HQ
          go_wp2
          go_roundw
          case rel => exact ⟨k + 1, by omega, by go_num, by rw [HS.out]; exact HDR.out, HAR.out, HAR1.out⟩
          case measure => simp [intOf]; omega
      · obtain rfl : k = L.length := by omega
        have c1 := HDR.out.c1
        obtain ⟨D, ho, hh, hv, hsz⟩ := HDR.out.wait
        clear hh hv hsz
        have HT : Hid (∀ W, DevAt W h (crashN M (L.take L.length) Q) → DevAt W h (crashN M L Q)) := Lib.hid (fun W hW => by rw [List.take_length] at hW; exact hW)
        go_wp2_with (with_reducible refine wpList_clear_own rfl (.tmp 39) 52 rfl 3 78 Tryz.underlying52 secElem h.bw (Maps.size D) D rfl ho ?_; intro w5 ho5 ht5; have hd5 := (HT.out _ HDR.out).withWait (ap_turned ht5) (waitMap_none ho5) (fun i l _ h => by cases h); have c4 := hd5.c4; have c5 := hd5.c5; obtain ⟨f6, c6, _, _, _⟩ := hd5.c6; have fz4 := hd5.fz 4 (by omega); have fz5 := hd5.fz 5 (by omega); have fz6 := hd5.fz 6 (by omega); have HD5 := Lib.hid hd5; have HT5 := Lib.hid ht5; clear hd5 ht5)
        go_end0
        refine ⟨rfl, ?_, (HAR.out.trans ((ap_turned HT5.out).weak (S_bw h))).trans ((((ap_put _ h.b 4 _).weak (S_b h)).trans ((ap_put _ h.b 5 _).weak (S_b h))).trans ((ap_put _ h.b 6 _).weak (S_b h)))⟩
        rw [HCM.out]
        exact crash_end HD5.out
end Go.Proofs.YtjhpheepimbbdaaGreatDoor
namespace Go.Proofs.YtjhpheepimbbdaaGreatDoor
open Go.RowKit Go.Maps

/-- Byte k of a number, the lowest one first. -/
def garB (n : Int) (k : Nat) : UInt8 := UInt8.ofNat ((n / 2 ^ (8 * k)) % 256).toNat
/-- The first k of four bytes put together with those of a number. -/
def garL (l : List UInt8) (off : Nat) (n : Int) : Nat → List UInt8
  | 0 => l
  | k + 1 => (garL l off n k).set (off + k) ((garL l off n k).getD (off + k) 0 ^^^ garB n k)
def hNo : Value → Nat
  | .int _ q => q.toNat
  | _ => 0
theorem garL_len (l : List UInt8) (off : Nat) (n : Int) : ∀ k, (garL l off n k).length = l.length
  | 0 => rfl
  | k + 1 => by rw [garL, List.length_set, garL_len l off n k]
theorem upd_upd {α : Type} (f : Nat → α) (i : Nat) (x y : α) : upd (upd f i x) i y = upd f i y := by
  funext k
  by_cases e : k = i
  · rw [e, upd_same, upd_same]
  · rw [upd_ne _ _ e, upd_ne _ _ e, upd_ne _ _ e]
/-- One byte of a sector written. -/
theorem rows_put {w : World} {b n : Nat} {f : Nat → List UInt8} (hr : ∀ i, i < n → Row8 w b (i * 512) (f i)) (hl : ∀ i, i < n → (f i).length = 512) {i j : Nat} (hi : i < n) (hj : j < 512) (x : UInt8) :
    ∀ k, k < n → Row8 (w.setCell ⟨b, i * 512 + j, none⟩ (.int .u8 (x.toNat : Int))) b (k * 512) (upd f i ((f i).set j x) k) := by
  intro k hk
  by_cases e : k = i
  · subst e
    rw [upd_same]
    exact (hr k hi).set j (by rw [hl k hi]; exact hj) x
  · rw [upd_ne _ _ e]
    refine ⟨by rw [World.size_setCell]; exact (hr k hk).1, fun q hq => ⟨?_, by rw [World.frozen?_setCell]; exact ((hr k hk).2 q hq).2⟩⟩
    rw [hl k hk] at hq
    rw [World.cell?_setCell_other _ _ _ _ (by intro e'; injection e' with _ e2; omega)]
    exact ((hr k hk).2 q (by rw [hl k hk]; exact hq)).1
set_option maxHeartbeats 2000000 in
set_option maxRecDepth 100000 in
theorem devGarble_ok {w : World} {h : DH} {M : DM} (d : DevAt w h M) (i off : Nat) (hi : i < M.n) (ho : off ≤ 508) (n : Int) (_hn0 : 0 ≤ n) (_hn1 : n < 4294967296) :
    Calls Tryz.prog 24 #[.pointer (some ⟨h.b, 0, none⟩), .int .i64 (i : Int), .int .i64 (off : Int), .int .u32 n] w fun e w' => e = .returned (.int .i64 0) ∧ DevAt w' h { M with sure := upd M.sure i (garL (M.sure i) off n 4) } ∧ Ap h.S w w' := by
  have hH := devHas_any d (i : Int)
  rw [show hasB M.n (i : Int) = true by unfold hasB; exact decide_eq_true (by omega)] at hH
  have HD := Lib.hid d
  have hn2 := d.n2
  clear d
  have do0 : decide ((off : Int) < 0) = false := decide_eq_false (by omega)
  have do1 : decide (508 < (off : Int)) = false := decide_eq_false (by omega)
  go_enter Tryz.func24, Tryz.ntmps24
  go_wp2_with (go_at_call 55; refine hH.mono ?_; rintro e w' ⟨rfl, rfl⟩)
  clear do0 do1
  go_loopw [22] (fun ix wr => ∃ k : Nat, k ≤ 4 ∧ ix = .int .i64 (k : Int) ∧ DevAt wr h { M with sure := upd M.sure i (garL (M.sure i) off n k) } ∧ Ap h.S w wr) (fun ix _ => 4 - hNo ix)
  case atStart =>
    refine ⟨0, by omega, rfl, ?_, Ap.refl _⟩
    refine HD.out.congr rfl (fun j _ => ?_) (fun j _ => rfl) (fun j _ => rfl) rfl rfl rfl
    show upd M.sure i (garL (M.sure i) off n 0) j = M.sure j
    by_cases e : j = i
    · rw [e, upd_same]; rfl
    · rw [upd_ne _ _ e]
  case round =>
    obtain ⟨k, hk, rfl, hd, ha⟩ := hrel
    have HDR := Lib.hid hd
    have HAR := Lib.hid ha
    clear hd ha HD
    by_cases hlt : k < 4
    · have c0 := HDR.out.c0
      obtain ⟨l, hl⟩ : ∃ l, l = garL (M.sure i) off n k := ⟨_, rfl⟩
      have hrow := HDR.out.rows i hi
      have hlen := HDR.out.lens i hi
      simp only [upd_same] at hrow hlen
      rw [← hl] at hrow hlen
      obtain ⟨x, hx⟩ : ∃ x, x = l.getD (off + k) 0 := ⟨_, rfl⟩
      have hcell := (hrow.2 (off + k) (by omega)).1
      rw [← hx] at hcell
      have hfz := (hrow.2 (off + k) (by omega)).2
      have hi0 : (0 : Int) ≤ (i : Int) := by omega
      have hi1 : (i : Int) < (M.n : Int) := by omega
      have ho0 : (0 : Int) ≤ (off : Int) + (k : Int) := by omega
      have ho1 : (off : Int) + (k : Int) < 512 := by omega
      have HNEW : Hid (∀ W : World, W = wr.drew → DevAt (W.setCell ⟨h.bs, i * 512 + (off + k), none⟩ (.int .u8 ((x ^^^ garB n k).toNat : Int))) h { M with sure := upd M.sure i (garL (M.sure i) off n (k + 1)) }) := Lib.hid (fun W hW => by
        subst hW
        have hd := HDR.out.drew
        have hr := rows_put hd.rows hd.lens hi (j := off + k) (by omega) (x ^^^ garB n k)
        have e : upd (upd M.sure i (garL (M.sure i) off n k)) i ((upd M.sure i (garL (M.sure i) off n k) i).set (off + k) (x ^^^ garB n k)) = upd M.sure i (garL (M.sure i) off n (k + 1)) := by
          rw [upd_upd, upd_same, hx, hl]; rfl
        refine hd.withSure (Ap.setCell (S := fun k => k = h.bs) (Ap.refl _) (p := ⟨h.bs, i * 512 + (off + k), none⟩) (.inl rfl) _) (f := upd M.sure i (garL (M.sure i) off n (k + 1))) ?_ ?_
        · intro q hq
          have := hr q hq
          dsimp only at this
          rw [e] at this
          exact this
        · intro q hq
          by_cases g : q = i
          · rw [g, upd_same, garL_len, ← garL_len (M.sure i) off n k, ← hl]; exact hlen
          · rw [upd_ne _ _ g]
            have := HDR.out.lens q hq
            dsimp only at this
            rwa [upd_ne _ _ g] at this)
      have w1 : IntKind.i64.wrap ((off : Int) + (k : Int)) = (off : Int) + (k : Int) := IntWalk.i64_in _ (by omega)
      have w2 : IntKind.i64.wrap (8 * (k : Int)) = 8 * (k : Int) := IntWalk.i64_in _ (by omega)
      have w3 : ((off : Int) + (k : Int)).toNat = off + k := by omega
      have w4 : (8 * (k : Int)).toNat = 8 * k := by omega
      have w5 : (0 : Int) ≤ 8 * (k : Int) := by omega
      have w6 : IntKind.u8.wrap (n / 2 ^ (8 * k)) = ((garB n k).toNat : Int) := by
        rw [IntKind.wrap_u8']
        unfold garB
        rw [UInt8.toNat_ofNat']
        omega
      have w7 := u8_xorb x (garB n k)
      generalize (garB n k) = y at w6 w7 HNEW
      clear hl hrow hlen hx
      go_wp2_with fail
      refine wp_region_still_tail 19 (by kernel_rfl) (by kernel_rfl) ?_
      simp only [List.take_succ_cons, List.take_zero, List.drop_succ_cons, List.drop_zero]
      iterate 19 still_step
      refine wpStill_nil ?_
      clear w1 w2 w3 w4 w5
      go_wp2
      go_roundw
      case rel => exact ⟨k + 1, by omega, by go_num, HNEW.out _ rfl, HAR.out.drew.setCell (p := ⟨h.bs, i * 512 + (off + k), none⟩) (.inl (.inr (.inl rfl))) _⟩
      case measure => simp [hNo]; omega
    · obtain rfl : k = 4 := by omega
      go_wp2
      go_ret
      exact ⟨rfl, HDR.out, HAR.out⟩
def garE (M : DM) (a off : Int) : Int := if hasB M.n a = true ∧ 0 ≤ off ∧ off ≤ 508 then 0 else 1
def garM (M : DM) (a off n : Int) : DM := if garE M a off = 0 then { M with sure := upd M.sure a.toNat (garL (M.sure a.toNat) off.toNat n 4) } else M
set_option maxHeartbeats 1000000 in
theorem devGarble_any {w : World} {h : DH} {M : DM} (d : DevAt w h M) (a off : Int) (n : Int) (hn0 : 0 ≤ n) (hn1 : n < 4294967296) :
    Calls Tryz.prog 24 #[.pointer (some ⟨h.b, 0, none⟩), .int .i64 a, .int .i64 off, .int .u32 n] w fun e w' => e = .returned (.int .i64 (garE M a off)) ∧ DevAt w' h (garM M a off n) ∧ Ap h.S w w' := by
  by_cases hok : hasB M.n a = true ∧ 0 ≤ off ∧ off ≤ 508
  · have e1 : garE M a off = 0 := if_pos hok
    rw [show garM M a off n = { M with sure := upd M.sure a.toNat (garL (M.sure a.toNat) off.toNat n 4) } from if_pos e1, e1]
    have ha : 0 ≤ a ∧ a < (M.n : Int) := by have := hok.1; unfold hasB at this; simpa using this
    have := devGarble_ok d a.toNat off.toNat (by omega) (by omega) n hn0 hn1
    rw [Int.toNat_of_nonneg ha.1, Int.toNat_of_nonneg hok.2.1] at this
    exact this
  · have e1 : garE M a off = 1 := if_neg hok
    rw [show garM M a off n = M by unfold garM; rw [e1, if_neg (by omega)], e1]
    have hH := devHas_any d a
    have HD := Lib.hid d
    clear d
    cases hb : hasB M.n a
    · rw [hb] at hH
      clear hb hok e1
      go_enter Tryz.func24, Tryz.ntmps24
      go_wp2_with (go_at_call 55; refine hH.mono ?_; rintro e w' ⟨rfl, rfl⟩)
      go_ret
      exact ⟨rfl, HD.out, Ap.refl _⟩
    · rw [hb] at hH
      by_cases h0 : off < 0
      · have d0 : decide (off < 0) = true := decide_eq_true h0
        clear hb hok e1
        go_enter Tryz.func24, Tryz.ntmps24
        go_wp2_with (go_at_call 55; refine hH.mono ?_; rintro e w' ⟨rfl, rfl⟩)
        go_ret
        exact ⟨rfl, HD.out, Ap.refl _⟩
      · have d0 : decide (off < 0) = false := decide_eq_false h0
        have d1 : decide (508 < off) = true := decide_eq_true (by
          rcases Int.lt_or_le 508 off with g | g
          · exact g
          · exact absurd ⟨hb, by omega, g⟩ hok)
        clear hb hok e1
        go_enter Tryz.func24, Tryz.ntmps24
        go_wp2_with (go_at_call 55; refine hH.mono ?_; rintro e w' ⟨rfl, rfl⟩)
        go_ret
        exact ⟨rfl, HD.out, Ap.refl _⟩
end Go.Proofs.YtjhpheepimbbdaaGreatDoor
