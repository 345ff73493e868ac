/- A range over a method value that tells N things, one by one, and whose body never leaves it: a law for the walk inside a fence; loads and stores of many cells there. What dev.Bytes ranges over: the function told. strings.Builder, written and read; and the contract of a device's Bytes. -/
import Derived.Test.YtjhpheepimbbdaaGreatDoorZDevE
import Derived.RangeFuncNested
import Derived.RangeFuncBound
import Derived.RangeFuncCalls
import Derived.RangeFuncLeaves
import Derived.Shelf.Abstract
import Derived.Shelf.RegionOpen
import Derived.OwnWalkIn
import Derived.TacticsInMore
import Derived.LoopNIn
import Derived.LoopIn
import Derived.Test.YtjhpheepimbbdaaGreatDoorShelfB
namespace Go.Proofs.YtjhpheepimbbdaaGreatDoor
open Go.RowKit Go.Shelf

/-- All cells, and all that is older than B, lie as they lay. -/
structure KeepsCells (B : Nat) (A C : World) : Prop where
  os : C.os = A.os
  tape : C.tape = A.tape
  output : C.output = A.output
  size : A.heap.size ≤ C.heap.size
  same : ∀ (k : Nat) (o : Obj), A.heap[k]? = some o → (o.isCells = true ∨ k < B) → C.heap[k]? = some o
theorem KeepsCells.of_below {B : Nat} {A C : World} (h : Below A.heap.size A C) : KeepsCells B A C :=
  ⟨h.os, h.tape, h.output, h.size, fun k _ ho _ => (h.block k (Array.getElem?_eq_some_iff.1 ho).1).trans ho⟩
theorem KeepsCells.put {B l : Nat} {A : World} {o : Obj} (hB : B ≤ l) (hl : A.heap[l]? = some o) (ho : o.isCells = false) (o' : Obj) : KeepsCells B A (A.putObj l o') := by
  have hg := grownBy_putObj' A l o'
  refine ⟨hg.os, hg.tape, hg.output, hg.size, fun k x hx hc => ?_⟩
  have hne : k ≠ l := by
    rintro rfl
    rcases hc with hc | hc
    · rw [hl] at hx; cases hx; rw [ho] at hc; cases hc
    · omega
  exact (hg.block k (Array.getElem?_eq_some_iff.1 hx).1 (fun e => hne (by cases e; rfl))).trans hx
theorem KeepsCells.below {n₀ B : Nat} {A C : World} (h : KeepsCells B A C) (hn : n₀ ≤ B) (hA : n₀ ≤ A.heap.size) : Below n₀ A C := by
  refine ⟨h.os, h.tape, h.output, h.size, fun k hk => ?_⟩
  have hlt : k < A.heap.size := by omega
  rw [Array.getElem?_eq_getElem hlt]
  exact h.same k _ (Array.getElem?_eq_getElem hlt) (.inr (by omega))
section
variable {F : Fence} {n : Nat} {P : Program}
/-- The function tells N things, in order, to whatever round keeps what is older than n0. -/
def Tells (F : Fence) (n : Nat) (P : Program) (gf : Nat) (x0 : Value) (encs : Nat → Array Value) (N n₀ : Nat) (w : World) : Prop :=
  ∀ (l : Nat) (J : Nat → World → Prop) (W : World), Below w.heap.size w W → (∀ k A C, J k A → Below A.heap.size A C → J k C) →
    (∀ k A, J k A → k < N → YieldAt F (n - 1) P l (encs k) A fun e C => e = .returned (.bool true) ∧ J (k + 1) C ∧ Below n₀ A C) → J 0 W →
    CallsIn F n P gf #[x0, .func (.yield l) #[] #[]] W fun e C => (∃ v, e = .returned v) ∧ J N C
/-- What a body that never leaves owes. -/
def stays (n₀ : Nat) (I : Nat → World → Prop) (k : Nat) (W : World) : Exit → Act → World → Prop
  | .normal, _, W' => KeepsOthers W W' ∧ Below n₀ W W' ∧ I (k + 1) W'
  | _, _, _ => False
/-- The law. -/
theorem wpIn_range_told {g : Operand} {ps : Array Tmp} {assign body : Code} {Q : Exit → Act → World → Prop} {a : Act} {w : World} (hro : F.round = none) (h1 : 1 ≤ n)
    {gf : Nat} {x0 : Value} (hg : a.eval g = .func (.func gf) #[x0] #[]) (hFg : F.fn gf) (eg : ∀ args w, (callFunc gf args).run P w = .ok (.enter gf args) w)
    {encs : Nat → Array Value} (hps : ∀ k, (encs k).size = ps.size) {N n₀ : Nat} (hn₀ : n₀ ≤ w.heap.size) (hseq : Tells F (n - 1) P gf x0 encs N n₀ w)
    (I : Nat → World → Prop) (hI : ∀ k A C, I k A → KeepsCells w.heap.size A C → I k C) (h0 : I 0 w)
    (R : Nat → Act → World → Prop) (hR : ∀ k a' A C, R k a' A → KeepsCells w.heap.size A C → R k a' C)
    (hassign : ∀ (l k : Nat) (W : World) (K : Act → World → Prop), I k W → k < N → (∀ a' W', KeepsOthers W W' → Below n₀ W W' → R k a' W' → K a' W') →
      assign.wpIn (F.inRound l) (n - 1 - 1) P (Exit.then K (fun _ _ _ => False)) { tmps := (ps.zip (encs k)).foldl (fun t (p, v) => t.setIfInBounds p v) a.tmps, defers := [] } W)
    (hbody : ∀ (l k : Nat) (a' : Act) (W : World), R k a' W → k < N → body.wpIn (F.inRound l) (n - 1 - 1) P (stays n₀ I k W) a' W)
    (hdone : ∀ (D : Nat) (W : World), w.heap.size ≤ D → I N W → W.heap[D]? = some (.deferred (some [])) → Q .normal { a with defers := { target := .collected D, args := #[] } :: a.defers } W) :
    (Code.rangeFunc g ps assign body).wpIn F n P Q a w := by
  refine wpIn_rangeFunc fun fn hfn => ?_
  rw [hro]
  obtain ⟨rc, hrc⟩ : ∃ rc : LoopState → Option Code → Loop, rc = fun st pe => { state := st, pending := pe, fn, tmps := a.tmps, params := ps, assign, body, defers := w.heap.size } := ⟨_, rfl⟩
  obtain ⟨V, hV⟩ : ∃ V, V = (w.alloc (.deferred (some []))).alloc (.loop (rc .ready none)) := ⟨_, rfl⟩
  have hbV : Below w.heap.size w V := by rw [hV]; exact ((Below.refl _ _).alloc (Nat.le_refl _) _).alloc (by simp) _
  have hlV : V.heap[w.heap.size + 1]? = some (.loop (rc .ready none)) := by
    have h := World.alloc_heap_new (w.alloc (.deferred (some []))) (.loop (rc .ready none))
    rw [World.size_alloc] at h
    rw [hV]; exact h
  have hdV : V.heap[w.heap.size]? = some (.deferred (some [])) := by
    rw [hV]; exact (Below.heap_alloc _ _ _ (by simp)).trans (World.alloc_heap_new w _)
  refine ⟨w.heap.size + 1, [{ target := .collected w.heap.size, args := #[] }], V, { target := .fn (.func gf) #[], args := #[x0, .func (.yield (w.heap.size + 1)) #[] #[]] }, V, gf,
    #[x0, .func (.yield (w.heap.size + 1)) #[] #[]], V, ?_, ?_, ?_, ?_, fun _ => h1, ?_⟩
  · rw [hV, hrc]; exact run_enterLoop_outer _ _ _ _ _
  · simp only [resolve, hg]
    simp [go_sem]
  · intro f' hf'; simp [Target.leads] at hf'; subst hf'; exact hFg
  · simp [invoke, go_sem, eg]
  · refine (hseq (w.heap.size + 1) (fun k W => I k W ∧ W.heap[w.heap.size + 1]? = some (.loop (rc .ready none)) ∧ W.heap[w.heap.size]? = some (.deferred (some []))) V hbV
      (fun k A C hA hb => ⟨hI k A C hA.1 (KeepsCells.of_below hb), (hb.block _ (Array.getElem?_eq_some_iff.1 hA.2.1).1).trans hA.2.1, (hb.block _ (Array.getElem?_eq_some_iff.1 hA.2.2).1).trans hA.2.2⟩)
      ?_ ⟨hI 0 w V h0 (KeepsCells.of_below hbV), hlV, hdV⟩).mono ?_
    · rintro k A ⟨hi, hl, hd⟩ hkN
      have hy := run_yield (P := P) (args := encs k) hl (by rw [hrc]; exact hps k)
      rw [hrc] at hy
      refine ⟨fn, _, assign, body, hy, roundIn_of_wpIn hfn (hassign _ k A _ hi hkN fun a' A1 ho1 hb1 hr1 => ?_)⟩
      have hl1 := ho1.same _ _ hl rfl
      have hd1 := ho1.same _ _ hd rfl
      have hlt := (Array.getElem?_eq_some_iff.1 hl1).1
      have hp := run_beginRound (P := P) hl1 (by rw [hrc])
      refine ⟨_, hp, ?_⟩
      have hl2 : (A1.putObj (w.heap.size + 1) (.loop { rc .ready none with state := .busy })).heap[w.heap.size + 1]? = some (.loop { rc .ready none with state := .busy }) := World.putObj_heap_same hlt
      have hd2 : (A1.putObj (w.heap.size + 1) (.loop { rc .ready none with state := .busy })).heap[w.heap.size]? = some (.deferred (some [])) := (World.putObj_heap_other (by omega)).trans hd1
      have hk2 := KeepsCells.put (B := w.heap.size) (by omega) hl1 rfl (.loop { rc .ready none with state := .busy })
      have hnA : n₀ ≤ A1.heap.size := by omega
      refine wpIn_mono (hbody _ k a' _ (hR k a' _ _ hr1 hk2) hkN) ?_
      intro e a3 A3 hp3
      cases e with
      | normal =>
        obtain ⟨ho3, hb3, hi3⟩ := hp3
        have hl3 := ho3.same _ _ hl2 rfl
        have hd3 := ho3.same _ _ hd2 rfl
        have hlt3 := (Array.getElem?_eq_some_iff.1 hl3).1
        have he := run_endRound (P := P) none hl3
        have hk3 := KeepsCells.put (B := w.heap.size) (by omega) hl3 rfl (.loop (rc .ready none))
        have hnA3 : n₀ ≤ A3.heap.size := by omega
        have e1 : ({ ({ rc .ready none with state := .busy } : Loop) with state := .ready, pending := none } : Loop) = rc .ready none := by rw [hrc]
        simp only [Option.isNone_none, if_true, e1] at he
        exact ⟨_, _, he, rfl, ⟨hI _ _ _ hi3 hk3, World.putObj_heap_same hlt3, (World.putObj_heap_other (by omega)).trans hd3⟩,
          hb1.trans ((hk2.below hn₀ hnA).trans (hb3.trans (hk3.below hn₀ hnA3)))⟩
      | ret => exact hp3.elim
      | exit id => exact hp3.elim
      | goto t => exact hp3.elim
      | panic ch => exact hp3.elim
      | outgrown => exact hp3.elim
    · rintro e C ⟨⟨v, rfl⟩, hi, hl, hd⟩
      have he := run_endLoop (P := P) hl (by rw [hrc]; simp)
      have hk := KeepsCells.put (B := w.heap.size) (by omega) hl rfl (.loop { rc .ready none with state := .exhausted })
      refine ⟨none, _, by rw [hrc] at he ⊢; exact he, hdone _ _ (Nat.le_refl _) (hI _ _ _ hi hk) ((World.putObj_heap_other (by omega)).trans hd)⟩
end
section
variable {F : Fence} {nF : Nat} {P : Program} {ops : Array Oper} {rest : List Oper} {o : Oper} {a : Act} {w : World} {Q : Exit → Act → World → Prop}
theorem wpListIn_load_mid (hgd : o.guard = none) (ty : TypeId) (x : Operand) (ho : o.op = .load ty x)
    (b off : Nat) (hx : a.eval x = .pointer (some ⟨b, off, none⟩)) (cs : List Value) (d : TypeDesc) (hc : w.rangeAt b off cs)
    (hu : P.underlying ty = some d) (hd : d.isRow = true) (hi : (P.info? ty).map (·.size) = some cs.length)
    (h : wpListIn F nF P ops Q rest (a.put o.dst (.agg cs.toArray)) w) : wpListIn F nF P ops Q (o :: rest) a w := by
  refine wpListIn_plain hgd fun K' hK' => ?_
  unfold Oper.wpIn
  refine ⟨by simp [Oper.about, ho], ?_⟩
  rw [Oper.semAt_plain F _ _ (by rw [ho]; intro c hc'; cases hc')]
  unfold execOp
  simp only [ho, hx, Sem.run_bind, Sem.run_pure, Result.andThen_ok, run_loadAt_mid w b off ty cs d hc hu hd hi]
  exact hK' _ _ h
theorem wpListIn_store_mid (hgd : o.guard = none) (ty : TypeId) (x y : Operand) (ho : o.op = .store ty x y)
    (b off : Nat) (cells : Array Value) (hx : a.eval x = .pointer (some ⟨b, off, none⟩)) (hy : a.eval y = .agg cells)
    (ht : w.there b off cells.size) (hi : (P.info? ty).map (·.size) = some cells.size) (h1 : cells.all (·.oneCell') = true)
    (h : wpListIn F nF P ops Q rest (a.put o.dst undef) (w.setCells b off cells.toList)) : wpListIn F nF P ops Q (o :: rest) a w := by
  refine wpListIn_plain hgd fun K' hK' => ?_
  unfold Oper.wpIn
  refine ⟨by simp [Oper.about, ho], ?_⟩
  rw [Oper.semAt_plain F _ _ (by rw [ho]; intro c hc'; cases hc')]
  unfold execOp
  simp only [ho, hx, hy, Sem.run_bind, Sem.run_pure, Result.andThen_ok, run_storeAt_mid w b off ty cells ht hi h1]
  exact hK' _ _ h
end
end Go.Proofs.YtjhpheepimbbdaaGreatDoor
namespace Go.Proofs.YtjhpheepimbbdaaGreatDoor
open Go.RowKit Go.Shelf Go.Maps
attribute [local go_sem] Oper.semAt_some

/-- The bytes that are told of a sector. -/
def toldB (M : DM) (i : Nat) : List UInt8 := if M.bad i = true then blankB else M.sure i
theorem toldB_len {w : World} {h : DH} {M : DM} (d : DevAt w h M) {i : Nat} (hi : i < M.n) : (toldB M i).length = 512 := by
  unfold toldB; split
  · exact blankB_len
  · exact d.lens i hi
def tV (M : DM) (i : Nat) : Array Value := #[.agg (U8s (toldB M i)).toArray]
theorem DevAt.old {n₀ : Nat} {w w' : World} {h : DH} {M : DM} (d : DevAt w h M) (hS : ∀ k, h.S k → k < n₀) (hb : Below n₀ w w') : DevAt w' h M :=
  d.ap (S := fun k => n₀ ≤ k) ⟨hb.os, hb.tape, hb.output, hb.size, fun k _ hk => hb.block k (by omega)⟩ (fun k hk e => by have := hS k hk; omega)
set_option maxRecDepth 100000 in
set_option maxHeartbeats 2000000 in
theorem told_tells {h : DH} {M : DM} {n₀ : Nat} {w : World} (n : Nat) (d : DevAt w h M) (hS : ∀ k, h.S k → k < n₀) (hn₀ : n₀ ≤ w.heap.size) (hn : 2 ≤ n) :
    Tells Fence.wide n Tryz.prog 33 (.pointer (some ⟨h.b, 0, none⟩)) (tV M) M.n n₀ w := by
  intro l J W hW hJ hY h0
  have hd0 : DevAt W h M := d.old hS (hW.mono hn₀)
  have hSec := fun k => (callsIn_wide (n := k)).2 (devSectors_any hd0)
  have hn2 := d.n2
  have hf62 : Fence.wide.fn 33 := trivial
  have hn1 : 1 ≤ n := by omega
  have hfS : Fence.wide.fn 32 := trivial
  have hfI : Fence.wide.fn 62 := trivial
  have HD0 := Lib.hid hd0
  clear hd0
  refine callsIn_of_wp Tryz.func33 rfl hf62 ?_ rfl
  simp only [Tryz.ntmps33, List.size_toArray, List.length_cons, List.length_nil, Nat.reduceAdd, Nat.reduceSub, Array.replicate_succ, Array.replicate_zero, List.push_toArray, List.append_toArray, List.nil_append, List.cons_append]
  gi_wp2_with (gi_at_call 32; refine (hSec _).mono ?_; rintro e w' ⟨rfl, rfl⟩)
  gi_loopw [8] (fun ix wr => ∃ k : Nat, k ≤ M.n ∧ ix = .int .i64 (k : Int) ∧ J k wr ∧ DevAt wr h M) (fun ix _ => M.n - (intOf ix).toNat)
  case atStart => exact ⟨0, Nat.zero_le _, rfl, h0, HD0.out⟩
  case round =>
    obtain ⟨k, hk, rfl, hJk, hd⟩ := hrel
    have HJK := Lib.hid hJk
    have HD := Lib.hid hd
    clear hJk hd HD0
    by_cases hlt : k < M.n
    · obtain ⟨l1, hl1⟩ : ∃ l1, l1 = M.sure k := ⟨_, rfl⟩
      have hlen : l1.length = 512 := by rw [hl1]; exact HD.out.lens k hlt
      have hrg := (HD.out.rows k hlt).range
      rw [← hl1] at hrg
      have HL1 := Lib.hid hl1
      clear hl1
      have c0 := HD.out.c0
      have hcap1 := HD.out.cap1
      have hcap2 := HD.out.cap2
      have hi0 : (0 : Int) ≤ (k : Int) := by omega
      have hi1 : (k : Int) < (M.n : Int) := by omega
      obtain ⟨W2, hW2, hd2, hb2, hr2⟩ := var_facts HD.out hlen
      have HT : Hid ((wr.alloc (.cells Tryz.zeroCells78 78)).there wr.heap.size 0 (U8s l1).toArray.size) := Lib.hid (by rw [u8a_size, hlen]; exact zc_there wr)
      have HII : Hid ((Tryz.prog.info? 78).map (·.size) = some (U8s l1).toArray.size) := Lib.hid (by rw [secSize, u8a_size, hlen])
      have HIL : Hid ((Tryz.prog.info? 78).map (·.size) = some (U8s l1).length) := Lib.hid (by rw [secSize, u8s_len, hlen])
      have H1 : Hid ((U8s l1).toArray.all (·.oneCell') = true) := Lib.hid (all_oneCell_toArray (u8s_one l1))
      have HU := Lib.hid Tryz.underlying78
      have HRG := Lib.hid hrg
      have hIB := fun j => (callsIn_wide (n := j)).2 (devIsBad_any hd2 k hlt)
      have HR2 := Lib.hid hr2
      have HB2 := Lib.hid hb2
      have HD2 := Lib.hid hd2
      have HSW : Hid (wr.heap.size < W2.heap.size) := Lib.hid hr2.1
      rw [hW2] at hIB HR2 HB2 HD2 HSW
      clear hW2 hd2 hb2 hr2 hrg
      cases hbad : M.bad k
      case false =>
        have HTB : Hid (toldB M k = l1) := Lib.hid (by unfold toldB; rw [hbad, if_neg (by simp), HL1.out])
        rw [hbad] at hIB
        clear hbad hlen
        gi_wp2_with (first
          | (with_reducible refine wpListIn_load_mid rfl 78 (.tmp 16) rfl h.bs (k * 512) rfl _ _ HRG.out HU.out rfl HIL.out ?_)
          | (with_reducible refine wpListIn_store_mid rfl 78 (.tmp 5) (.tmp 17) rfl wr.heap.size 0 (U8s l1).toArray rfl rfl HT.out HII.out H1.out ?_)
          | (gi_at_call 62; refine (hIB _).mono ?_; rintro e w3 ⟨rfl, hb3⟩; have HB3 := Lib.hid (HB2.out.trans (hb3.mono (Nat.le_of_lt HSW.out))); have HR3 := Lib.hid (HR2.out.below hb3 HSW.out).range; obtain ⟨fn, tmps, assign, body, hy, hR⟩ := hY k w3 (hJ k wr w3 HJK.out HB3.out) hlt; unfold tV at hy; rw [HTB.out] at hy; clear hb3)
          | (with_reducible refine wpListIn_load_mid rfl 78 (.tmp 5) rfl wr.heap.size 0 rfl _ _ HR3.out HU.out rfl HIL.out ?_))
        refine hR.mono ?_
        rintro e W3 ⟨rfl, hJ3, hk3⟩
        have HN : Hid (DevAt W3 h M) := Lib.hid ((HD.out.ap (S := fun _ => False) (Ap.of_below HB3.out) (fun _ _ => id)).old hS hk3)
        have HJ3 := Lib.hid hJ3
        clear hR hk3 hJ3
        gi_wp2
        go_roundw
        case rel => exact ⟨k + 1, by omega, by simp, HJ3.out, HN.out⟩
        case measure => simp [intOf]; omega
      case true =>
        have HTB : Hid (toldB M k = blankB) := Lib.hid (by unfold toldB; rw [hbad, if_pos rfl])
        have HZ : Hid (Tryz.zeroCells78 = (U8s blankB).toArray) := Lib.hid (zc_eq wr)
        have HZS : Hid (Tryz.zeroCells78.size = 512) := Lib.hid (by rw [HZ.out, u8a_size, blankB_len])
        have HZI : Hid ((Tryz.prog.info? 78).map (·.size) = some Tryz.zeroCells78.size) := Lib.hid (by rw [secSize, HZS.out])
        have HZL : Hid ((Tryz.prog.info? 78).map (·.size) = some Tryz.zeroCells78.toList.length) := Lib.hid (by rw [secSize, Array.length_toList, HZS.out])
        have HZ1 : Hid (Tryz.zeroCells78.all (·.oneCell') = true) := Lib.hid (by rw [HZ.out]; exact all_oneCell_toArray (u8s_one blankB))
        rw [hbad] at hIB
        clear hbad
        gi_wp2_with (first
          | (with_reducible refine wpListIn_load_mid rfl 78 (.tmp 16) rfl h.bs (k * 512) rfl _ _ HRG.out HU.out rfl HIL.out ?_)
          | (with_reducible refine wpListIn_store_mid rfl 78 (.tmp 5) (.tmp 17) rfl wr.heap.size 0 (U8s l1).toArray rfl rfl HT.out HII.out H1.out ?_)
          | (gi_at_call 62; refine (hIB _).mono ?_; rintro e w3 ⟨rfl, hb3⟩; have HB3 := Lib.hid (HB2.out.trans (hb3.mono (Nat.le_of_lt HSW.out))); have HT3 : Hid (w3.there wr.heap.size 0 Tryz.zeroCells78.size) := Lib.hid (by rw [HZS.out, ← hlen]; exact (HR2.out.below hb3 HSW.out).there); have HRG4 := Lib.hid (World.rangeAt_setCells_same w3 wr.heap.size 0 Tryz.zeroCells78.toList (by rw [Array.length_toList]; exact HT3.out)); have HB4 : Hid (Below wr.heap.size wr (w3.setCells wr.heap.size 0 Tryz.zeroCells78.toList)) := Lib.hid (HB3.out.trans ((ap_setCells w3 wr.heap.size 0 _).below HB3.out.size (fun q hq => by rw [hq]; exact Nat.le_refl _))); obtain ⟨fn, tmps, assign, body, hy, hR⟩ := hY k _ (hJ k wr _ HJK.out HB4.out) hlt; unfold tV at hy; rw [HTB.out, ← HZ.out] at hy; clear hb3)
          | (with_reducible refine wpListIn_store_mid rfl 78 (.tmp 5) (.tmp 21) rfl wr.heap.size 0 Tryz.zeroCells78 rfl rfl HT3.out HZI.out HZ1.out ?_)
          | (with_reducible refine wpListIn_load_mid rfl 78 (.tmp 5) rfl wr.heap.size 0 rfl _ _ HRG4.out HU.out rfl HZL.out ?_))
        refine hR.mono ?_
        rintro e W3 ⟨rfl, hJ3, hk3⟩
        have HN : Hid (DevAt W3 h M) := Lib.hid ((HD.out.ap (S := fun _ => False) (Ap.of_below HB4.out) (fun _ _ => id)).old hS hk3)
        have HJ3 := Lib.hid hJ3
        clear hR hk3 hJ3
        gi_wp2
        go_roundw
        case rel => exact ⟨k + 1, by omega, by simp, HJ3.out, HN.out⟩
        case measure => simp [intOf]; omega
    · obtain rfl : k = M.n := by omega
      gi_wp2
      go_end0
      exact ⟨⟨_, rfl⟩, HJK.out⟩
end Go.Proofs.YtjhpheepimbbdaaGreatDoor
namespace Go.Proofs.YtjhpheepimbbdaaGreatDoor
open Go.RowKit Go.Shelf Go.Maps
attribute [local go_sem] Oper.semAt_some

/-- A builder in block b that was written, and holds these bytes. -/
def BufAt (B b : Nat) (l : List UInt8) (w : World) : Prop := Lib.BuilderAt 75 5 B b (.pointer (some ⟨b, 0, none⟩)) (U8s l) w
set_option maxRecDepth 100000 in
theorem bCheck_any {B b : Nat} {l : List UInt8} {w : World} (h : BufAt B b l w) :
    Calls Tryz.prog 60 #[.pointer (some ⟨b, 0, none⟩)] w fun e w' => e = .returned (.tuple #[]) ∧ w = w' := by
  obtain ⟨hB, v, hbk, _⟩ := h
  have c0 : w.cell? ⟨b, 0, none⟩ = some (.pointer (some ⟨b, 0, none⟩)) := by rw [Lib.cell_of_heap hbk]; rfl
  obtain ⟨j, hj, _⟩ := Option.map_eq_some_iff.1 Tryz.Builder_Extra_169.sizeBuilder
  have hcmp := Lib.run_neq_ptr_same (P := Tryz.prog) w (⟨b, 0, none⟩ : Addr) Tryz.underlying73 (show Tryz.prog.info? 75 = some j from hj)
  clear hj
  clear hbk
  go_enter Tryz.func60, Tryz.ntmps60
  go_wp2
  go_end0
  exact ⟨rfl, rfl⟩
theorem infoU8x : ∃ i, Tryz.prog.info? 5 = some i ∧ i.zero = some (.int .u8 0) ∧ i.size = 1 ∧ i.bytes = 1 := by
  have h := infoU8
  cases hq : Tryz.prog.info? 5 with
  | none => rw [hq] at h; cases h
  | some i => rw [hq] at h; simp only [Option.map_some, Option.some.injEq, Prod.mk.injEq] at h; exact ⟨i, rfl, h.1, h.2.1, h.2.2⟩
theorem keeps_grown {W W' : World} {base e n : Nat} {v : Value} {xs : List Value} (ho : W.ownsRow base e 1 v n xs) (hg : W.grownBy W' v.ownBlock) : KeepsOthers W W' := by
  refine ⟨hg.size, fun k o hk hc => (hg.block k (Array.getElem?_eq_some_iff.1 hk).1 (fun e' => ?_)).trans hk⟩
  rcases ho.2 with ⟨rfl, _⟩ | ⟨g, cap, cur, rfl, _, hh, _⟩
  · cases e'
  · have : k = g := by have e2 : some k = some g := e'; injection e2
    subst this
    rw [hh] at hk; cases hk; cases hc
theorem own_sl {w : World} {base e n : Nat} {v : Value} {xs : List Value} (ho : w.ownsRow base e 1 v n xs) : ∃ ao cp, v = .slice ao n cp := by
  rcases ho.2 with ⟨rfl, h⟩ | ⟨g, cap, cur, rfl, _⟩
  · subst h; exact ⟨_, _, rfl⟩
  · exact ⟨_, _, rfl⟩
set_option maxRecDepth 100000 in
set_option maxHeartbeats 1000000 in
theorem bWrite_any {B b : Nat} {l : List UInt8} {w : World} (h : BufAt B b l w) (hBw : B ≤ w.heap.size) {bx cap : Nat} {r : List UInt8} (hr : Row8 w bx 0 r) (hlen : l.length + r.length ≤ 140737488355328) :
    Calls Tryz.prog 34 #[.pointer (some ⟨b, 0, none⟩), .slice (some ⟨bx, 0, none⟩) r.length cap] w fun e w' => e = .returned (.tuple #[.int .i64 (r.length : Int), .nilIface]) ∧ BufAt B b (l ++ r) w' ∧ Below B w w' ∧ KeepsOthers w w' := by
  have hC := bCheck_any h
  obtain ⟨hB, v, hbk, hown, hne⟩ := h
  obtain ⟨i0, hi, hz0, hz1, hz2⟩ := infoU8x
  have c1 : w.cell? ⟨b, 1, none⟩ = some v := by rw [Lib.cell_of_heap hbk]; rfl
  have HN : Hid (∀ j u, (U8s r)[j]? = some u → w.cell? ((⟨bx, 0, none⟩ : Addr).add j) = some u) := Lib.hid (fun j u hu => by
    rw [Addr.add_mid]; exact hr.range j u hu)
  have HBK := Lib.hid hbk
  have HNE := Lib.hid hne
  have hbl : b < w.heap.size := (Array.getElem?_eq_some_iff.1 hbk).1
  clear hbk hne hr
  go_enter Tryz.func34, Tryz.ntmps34
  have hll : (U8s l).length = l.length := u8s_len l
  have hrr : (U8s r).length = r.length := u8s_len r
  rw [hll] at hown
  obtain ⟨ao, cp, rfl⟩ := own_sl hown
  have HO := Lib.hid hown
  have HLR := Lib.hid hrr
  have HLL := Lib.hid hll
  clear hown hrr hll
  go_wp2_with (first
    | (go_at_call 60; refine hC.mono ?_; rintro e w' ⟨rfl, rfl⟩)
    | (at_builtin; (with_reducible refine wpList_append_own_at _ ?g0 (.tmp 12) (.tmp 13) 56 ?g1 B 5 i0 (.int .u8 0) 1 1 Tryz.underlying56 hi hz0 hz1 hz2 ?g2 (by decide) (.slice ao l.length cp) l.length (U8s l) ?g3 HO.out ⟨bx, 0, none⟩ r.length cap (U8s r) ?g4 ?g5 HN.out ?g7 ?g8 ?g9 hBw ?_); (case g0 => rfl); (case g1 => rfl); (case g2 => rfl); (case g3 => rfl); (case g4 => rfl); (case g5 => rw [HLR.out, Nat.mul_one]); (case g7 => exact u8s_one r); (case g8 => unfold maxLen; omega); (case g9 => omega)
       intro v' w2 hown' hg _ _
       obtain ⟨ao2, cp2, rfl⟩ := own_sl hown'
       have hb2 : w2.heap[b]? = some (.cells #[.pointer (some ⟨b, 0, none⟩), .slice ao l.length cp] 75 (0, 0)) := by
         rw [hg.block b hbl (fun e => HNE.out e.symm)]; exact HBK.out
       have d1 : w2.cell? ⟨b, 1, none⟩ = some (.slice ao l.length cp) := by rw [Lib.cell_of_heap hb2]; rfl
       have f1 : w2.frozen? ⟨b, 1, none⟩ = false := Lib.frozen_of_heap hb2 1
       have HP : Hid (BufAt B b (l ++ r) (w2.setCell ⟨b, 1, none⟩ (.slice ao2 (l.length + r.length) cp2))) := Lib.hid (by
         have e1 : U8s (l ++ r) = U8s l ++ U8s r := by unfold U8s; exact List.map_append
         refine Lib.BuilderAt.put hB hb2 ?_ (by decide)
         rw [e1, List.length_append, HLL.out, HLR.out]; exact hown')
       have HBB : Hid (Below B w (w2.setCell ⟨b, 1, none⟩ (.slice ao2 (l.length + r.length) cp2))) := Lib.hid (((Below.refl B w).grown hg hBw (fun k hk => (HO.out.lt k hk).1)).setCell (p := ⟨b, 1, none⟩) hB _)
       have HKK : Hid (KeepsOthers w (w2.setCell ⟨b, 1, none⟩ (.slice ao2 (l.length + r.length) cp2))) := Lib.hid ((keeps_grown HO.out hg).trans (KeepsOthers.setCell _ _ _))
       clear hown' hg hb2))
  go_ret2
  exact ⟨rfl, HP.out, HBB.out, HKK.out⟩
theorem devString_any {B b : Nat} {l : List UInt8} {w : World} (h : BufAt B b l w) (h0 : l ≠ []) :
    Calls Tryz.prog 35 #[.pointer (some ⟨b, 0, none⟩)] w fun e w' => e = .returned (.string ⟨l.toArray⟩) ∧ Below B w w' ∧ (∀ k : Nat, w.heap[k]? = some (Obj.deferred (some [])) → w'.heap[k]? = some (Obj.deferred (some []))) := by
  have hbk : ∀ k : Nat, w.heap[k]? = some (Obj.deferred (some [])) → k ≠ b := by
    rintro k hk rfl
    obtain ⟨_, v, hb, _⟩ := h
    rw [hb] at hk; cases hk
  refine (Any.Builder_String_k Tryz.lays169 Tryz.Builder_Extra_169 B b l w (.inr (Lib.BuilderAtF.of h)) h0).mono ?_
  rintro e w' ⟨he, _, hb, ho⟩
  exact ⟨he, hb, fun k hk => ho k _ hk (fun e => hbk k hk (by injection e)) (fun c fz e => by cases e)⟩
theorem devGrow_any {B n : Nat} {w : World} (b : Nat) (hB : B ≤ b) (hbk : w.heap[b]? = some (.cells #[.pointer none, .slice none 0 0] 75 (0, 0))) (hBw : B ≤ w.heap.size) (hn : n ≤ 281474976710656) :
    Calls Tryz.prog 31 #[.pointer (some ⟨b, 0, none⟩), .int .i64 n] w fun e w' => e = .returned (.tuple #[]) ∧ BufAt B b [] w' ∧ Below B w w' :=
  Any.Builder_Grow_fresh Tryz.lays165 Tryz.Builder_Extra_165 B b n w hB hbk hBw hn
/-- All sure bytes of the first k sectors. -/
def preB (M : DM) (k : Nat) : List UInt8 := (List.range k).flatMap (toldB M)
theorem preB_succ (M : DM) (k : Nat) : preB M (k + 1) = preB M k ++ toldB M k := by unfold preB; rw [List.range_succ, List.flatMap_append]; simp
theorem preB_len {w : World} {h : DH} {M : DM} (d : DevAt w h M) : ∀ k, k ≤ M.n → (preB M k).length = k * 512
  | 0, _ => rfl
  | k + 1, hk => by rw [preB_succ, List.length_append, preB_len d k (by omega), toldB_len d (by omega)]; omega
theorem cells_of_cell {w : World} {b o : Nat} {v : Value} (h : w.cell? ⟨b, o, none⟩ = some v) : ∃ x, w.heap[b]? = some x ∧ x.isCells = true := by
  unfold World.cell? at h
  cases hq : w.heap[b]? with
  | none => simp [hq] at h
  | some x => cases x <;> simp [hq] at h <;> exact ⟨_, rfl, rfl⟩
theorem Row8.keptC {B : Nat} {A C : World} {b off : Nat} {l : List UInt8} (h : Row8 A b off l) (k : KeepsCells B A C) (h0 : 0 < l.length) : Row8 C b off l := by
  obtain ⟨x, hx, hc⟩ := cells_of_cell (h.2 0 h0).1
  have hb : C.heap[b]? = A.heap[b]? := (k.same b x hx (.inl hc)).trans hx.symm
  exact ⟨Nat.lt_of_lt_of_le h.1 k.size, fun j hj => ⟨by have := (h.2 j hj).1; simp only [World.cell?, hb] at this ⊢; exact this, by have := (h.2 j hj).2; simp only [World.frozen?, hb] at this ⊢; exact this⟩⟩
theorem BufAt.keptC {B n₀ b : Nat} {A C : World} {l : List UInt8} (h : BufAt n₀ b l A) (k : KeepsCells B A C) : BufAt n₀ b l C := by
  obtain ⟨hB, v, hbk, hown, hne⟩ := h
  refine ⟨hB, v, k.same b _ hbk (.inl rfl), ⟨hown.1, ?_⟩, hne⟩
  rcases hown.2 with hn | ⟨g, cap, cur, hv, hb, hh, r⟩
  · exact .inl hn
  · exact .inr ⟨g, cap, cur, hv, hb, k.same g _ hh (.inl rfl), r⟩
set_option maxRecDepth 100000 in
set_option maxHeartbeats 2000000 in
theorem devBytes_any {w : World} {h : DH} {M : DM} (d : DevAt w h M) :
    Calls Tryz.prog 10 #[.pointer (some ⟨h.b, 0, none⟩)] w fun e w' => e = .returned (.string ⟨(preB M M.n).toArray⟩) ∧ Below w.heap.size w w' := by
  have hSec := fun (W : World) (hb : Below w.heap.size w W) k => (callsIn_wide (n := k)).2 (devSectors_any (d.below hb))
  have hn1 := d.n1
  have hn2 := d.n2
  have HD := Lib.hid d
  have hSlt : Hid (∀ k, h.S k → k < w.heap.size) := Lib.hid (by
    have h1 := d.ltb; have h2 := d.ltbs; have h3 := d.wait.lt; have h4 := d.badm.lt
    rintro k (rfl | rfl | rfl | rfl) <;> assumption)
  clear d
  refine (callsIn_wide (n := 8)).1 ?_
  have hfB : Fence.wide.fn 10 := trivial
  have hfS : Fence.wide.fn 32 := trivial
  have hfG : Fence.wide.fn 31 := trivial
  have hfW : Fence.wide.fn 34 := trivial
  have hfT : Fence.wide.fn 35 := trivial
  have HS0 := Lib.hid (hSec _ ((Below.refl w.heap.size w).alloc (Nat.le_refl _) (.cells #[.pointer none, .slice none 0 0] 75)))
  obtain ⟨g, hg⟩ : ∃ g : Nat, g = M.n * 512 := ⟨_, rfl⟩
  have HG0 : Hid (∀ k, CallsIn Fence.wide k Tryz.prog 31 #[.pointer (some ⟨w.heap.size, 0, none⟩), .int .i64 (g : Int)] (w.alloc (.cells #[.pointer none, .slice none 0 0] 75)) fun e w' => e = .returned (.tuple #[]) ∧ BufAt w.heap.size w.heap.size [] w' ∧ Below w.heap.size (w.alloc (.cells #[.pointer none, .slice none 0 0] 75)) w') :=
    Lib.hid (fun k => (callsIn_wide (n := k)).2 (devGrow_any w.heap.size (Nat.le_refl _) (heap_alloc_new w _) (by simp) (by omega)))
  have hmul : (M.n : Int) * 512 = (g : Int) := by omega
  have hg2 : g ≤ 16777216 := by omega
  clear hg
  refine callsIn_of_wp_marks Tryz.func10 rfl hfB ?_ rfl
  simp only [Tryz.ntmps10, List.size_toArray, List.length_cons, List.length_nil, Nat.reduceAdd, Nat.reduceSub, Array.replicate_succ, Array.replicate_zero, List.push_toArray, List.append_toArray, List.nil_append, List.cons_append]
  gi_wp2_with (first
    | (gi_at_call 32; refine (HS0.out _).mono ?_; rintro e w' ⟨rfl, rfl⟩)
    | (gi_at_call 31; refine (HG0.out _).mono ?_; rintro e w2 ⟨rfl, hbuf, hb2⟩))
  have hw2 : w.heap.size ≤ w2.heap.size := by have := hb2.size; simp at this; omega
  have hbel2 : Below w.heap.size w w2 := ((Below.refl w.heap.size w).alloc (Nat.le_refl _) _).trans hb2
  have hd2 : DevAt w2 h M := HD.out.old hSlt.out hbel2
  refine wpIn_range_told (N := M.n) (n₀ := w.heap.size) (gf := 33) (x0 := .pointer (some ⟨h.b, 0, none⟩)) (encs := fun k => #[.agg (U8s (toldB M k)).toArray]) rfl (by omega) rfl trivial (enters_of Tryz.func33 (by kernel_rfl) rfl) (fun _ => rfl) hw2 (told_tells 7 hd2 hSlt.out hw2 (by omega))
    (fun k W => BufAt w.heap.size w.heap.size (preB M k) W ∧ Below w.heap.size w W)
    (fun k A C hA hk => ⟨hA.1.keptC hk, hA.2.trans (hk.below hw2 hA.2.size)⟩)
    ⟨hbuf, hbel2⟩
    (fun k a' W => (BufAt w.heap.size w.heap.size (preB M k) W ∧ Below w.heap.size w W) ∧ (toldB M k).length = 512 ∧ ∃ Bx, Row8 W Bx 0 (toldB M k) ∧
      a' = { tmps := #[.pointer (some ⟨h.b, 0, none⟩), undef, .string ⟨#[]⟩, .pointer (some ⟨w.heap.size, 0, none⟩), .pointer (some ⟨Bx, 0, none⟩), .pointer (some ⟨h.b, 0, none⟩), .int .i64 (M.n : Int), .int .i64 (g : Int), .tuple #[], .pointer (some ⟨h.b, 0, none⟩), .func (.func 33) #[.pointer (some ⟨h.b, 0, none⟩)] #[], .agg (U8s (toldB M k)).toArray, undef, undef, undef], defers := [] })
    (fun k a' A C hA hk => ⟨⟨hA.1.1.keptC hk, hA.1.2.trans (hk.below hw2 hA.1.2.size)⟩, hA.2.1, by obtain ⟨Bx, hr, ha⟩ := hA.2.2; exact ⟨Bx, hr.keptC hk (by rw [hA.2.1]; omega), ha⟩⟩)
    ?assign ?body ?done
  case assign =>
    rintro l k W K ⟨hI1, hI2⟩ hk hK
    have hdW : DevAt W h M := HD.out.old hSlt.out hI2
    have hlen := toldB_len hdW hk
    obtain ⟨W3, hW3, hd3, hb3, hr3⟩ := var_facts hdW hlen
    have hIk : BufAt w.heap.size w.heap.size (preB M k) W3 ∧ Below w.heap.size w W3 := ⟨hI1.keptC (KeepsCells.of_below (B := 0) hb3), hI2.trans (hb3.mono hI2.size)⟩
    have HKO : Hid (KeepsOthers W W3) := Lib.hid ⟨hb3.size, fun j o hj _ => (hb3.block j (Array.getElem?_eq_some_iff.1 hj).1).trans hj⟩
    have HBB : Hid (Below w.heap.size W W3) := Lib.hid (hb3.mono hI2.size)
    generalize toldB M k = r at hlen hr3 hW3 hK ⊢
    have HK := fun a' hh => hK a' W3 HKO.out HBB.out ⟨hIk, hlen, W.heap.size, hr3, hh⟩
    have HT : Hid ((W.alloc (.cells Tryz.zeroCells78 78)).there W.heap.size 0 (U8s r).toArray.size) := Lib.hid (by rw [u8a_size, hlen]; exact zc_there W)
    have HII : Hid ((Tryz.prog.info? 78).map (·.size) = some (U8s r).toArray.size) := Lib.hid (by rw [secSize, u8a_size, hlen])
    have H1 : Hid ((U8s r).toArray.all (·.oneCell') = true) := Lib.hid (all_oneCell_toArray (u8s_one r))
    rw [hW3] at HK
    have HKH := Lib.hid HK
    clear HK hK hd3 hb3 hr3 hIk hI1 hI2 hdW HKO HBB hW3
    gi_wp2_with (with_reducible refine wpListIn_store_mid rfl 78 (.tmp 4) (.tmp 11) rfl W.heap.size 0 (U8s r).toArray rfl rfl HT.out HII.out H1.out ?_)
    exact HKH.out _ rfl
  case body =>
    rintro l k a' W ⟨⟨hI1, hI2⟩, hlen, Bx, hrow, rfl⟩ hk
    have hdW : DevAt W h M := HD.out.old hSlt.out hI2
    have hpl := preB_len hdW k (by omega)
    have hW := bWrite_any (cap := 512) hI1 hI2.size hrow (by rw [hpl, hlen]; omega)
    rw [hlen, ← preB_succ] at hW
    have hWi := fun j => CallsIn.inRound l ((callsIn_wide (n := j)).2 hW)
    have HI2 := Lib.hid hI2
    have hfW' : (Fence.wide.inRound l).fn 34 := trivial
    clear hW hrow hI1 hI2 hdW hpl hlen
    gi_wp2_with (gi_at_call 34; refine (hWi _).mono ?_; rintro e W3 ⟨rfl, hbf, hbw, hko⟩)
    exact ⟨hko, hbw, hbf, HI2.out.trans hbw⟩
  case done =>
    rintro D W hD ⟨hI1, hI2⟩ hK
    have hdW : DevAt W h M := HD.out.old hSlt.out hI2
    have hne : preB M M.n ≠ [] := by
      intro e
      have := preB_len hdW M.n (Nat.le_refl _)
      rw [e] at this; simp at this; omega
    have hSt := fun j => (callsIn_wide (n := j)).2 (devString_any hI1 hne)
    have HI2 := Lib.hid hI2
    have HKD := Lib.hid hK
    have HST := Lib.hid hSt
    clear hdW hK
    gi_wp2_with (gi_at_call 35; refine (HST.out _).mono ?_; rintro e W4 ⟨rfl, hb4, hk4⟩)
    have hK4 := hk4 D HKD.out
    refine ⟨by simp, .inl ⟨_, _, rfl, run_takeDeferred hK4, ?_⟩⟩
    exact ⟨_, results_tmp rfl _ _ _, rfl, (HI2.out.trans hb4).trans (belowK_b (w := w) (Nat.le_refl _) W4 D _ _ (Nat.le_trans hw2 hD) hK4 rfl rfl)⟩
end Go.Proofs.YtjhpheepimbbdaaGreatDoor
