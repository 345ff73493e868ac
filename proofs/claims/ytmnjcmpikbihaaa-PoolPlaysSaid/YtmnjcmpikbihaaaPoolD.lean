/- Pools: Bytes. -/
import Derived.Test.YtmnjcmpikbihaaaPoolA
namespace Go.Proofs.Ytmnjcmpikbihaaa
open Go.RowKit Go.Maps

theorem rangesP_ap {H : Type} {P : Program} {k : TypeId} {R : Value → Option (DataW H × List MemPlace)} {S : Nat → Prop} {w w' : World} {b r n : Nat} {D : DataW H} {left : Lit → Bool} {cnt : Nat} (h : w.ranges P k R b r n D left cnt) (a : Ap S w w') (hb : ¬ S b) (hr : ¬ S r) : w'.ranges P k R b r n D left cnt := by
  have h1 := h.owns.lt
  have h2 := h.lt
  obtain ⟨es, clock, since, seen, c0, e1, F, e2, e3, e4, r⟩ := h
  exact ⟨es, clock, since, seen, c0, (a.block b h1 hb).trans e1, F, e2, e3, (a.block _ h2 hr).trans e4, r⟩
theorem invKP (key : Value) (kl : Lit) (h : keyOf Try.prog 3 key = some kl) : ∃ x : Int, key = (fun x : Int => Value.int .i64 x) x := by
  obtain ⟨x, hx, _⟩ := Maps.keyOf_int_inv Try.underlying3 h
  exact ⟨x, hx⟩
theorem invVP (v : Value) (y : DataW Unit × List MemPlace) (h : datElem v = some y) : ∃ s : ByteArray, v = (fun s : ByteArray => Value.agg #[.string s]) s := by
  obtain ⟨s, hv, _⟩ := datElem_inv h
  exact ⟨s, hv⟩
theorem sameKI {i j : Int} : (kI i).sameKey (kI j) = decide (i = j) := by
  unfold kI
  by_cases e : i = j <;> simp [Lit.sameKey, e]
/-- The bytes of what has been told. -/
def sumNot (L : PL) (left : Lit → Bool) : Nat := (L.map (fun p => if left (kI p.1) then 0 else p.2.length)).sum
theorem sumNot_end {L : PL} {left : Lit → Bool} (h : ∀ kl, left kl = false) : sumNot L left = bytesP L := by
  unfold sumNot bytesP
  congr 1
  exact List.map_congr_left fun p _ => by rw [h]; rfl
theorem sumNot_start {L : PL} {left : Lit → Bool} (h : ∀ p ∈ L, left (kI p.1) = true) : sumNot L left = 0 := by
  induction L with
  | nil => rfl
  | cons q r ih =>
    have := ih (fun p hp => h p (by simp [hp]))
    unfold sumNot at this ⊢
    rw [List.map_cons, List.sum_cons, this, h q (by simp)]; rfl
theorem sumNot_le (L : PL) (left : Lit → Bool) : sumNot L left ≤ bytesP L := by
  induction L with
  | nil => exact Nat.le_refl _
  | cons q r ih =>
    unfold sumNot bytesP at ih ⊢
    rw [List.map_cons, List.sum_cons, List.map_cons, List.sum_cons]
    have : (if left (kI q.1) then 0 else q.2.length) ≤ q.2.length := by split <;> omega
    omega
theorem sumNot_same {L : PL} {left : Lit → Bool} {x : Int} (h : x ∉ idsP L) : sumNot L (fun z => left z && !z.sameKey (kI x)) = sumNot L left := by
  unfold sumNot
  congr 1
  refine List.map_congr_left fun p hp => ?_
  have : p.1 ≠ x := fun e => h (by rw [← e]; exact List.mem_map.2 ⟨p, hp, rfl⟩)
  simp [sameKI, this]
theorem sumNot_step {L : PL} (hr : (idsP L).Pairwise (· < ·)) {left : Lit → Bool} {x : Int} {l : List UInt8} (hx : (x, l) ∈ L) (hl : left (kI x) = true) : sumNot L (fun z => left z && !z.sameKey (kI x)) = sumNot L left + l.length := by
  induction L with
  | nil => cases hx
  | cons q r ih =>
    obtain ⟨h1, h2⟩ := List.pairwise_cons.1 (show List.Pairwise (· < ·) (q.1 :: idsP r) from hr)
    have e : ∀ f : Lit → Bool, sumNot (q :: r) f = (if f (kI q.1) then 0 else q.2.length) + sumNot r f := fun f => by unfold sumNot; rw [List.map_cons, List.sum_cons]
    rw [e, e]
    rcases List.mem_cons.1 hx with hx | hx
    · subst hx
      have hno : x ∉ idsP r := fun h => by have := h1 x h; omega
      rw [sumNot_same hno]
      simp [sameKI, hl]
      omega
    · have hne : q.1 ≠ x := by have := h1 x (List.mem_map.2 ⟨_, hx, rfl⟩); omega
      rw [ih h2 hx]
      simp [sameKI, hne]
      omega
theorem addWrapP {a b : Nat} {x : Int} (h : (a : Int) + (b : Int) ≤ 4611686018427387904) (hx : x = (a : Int) + (b : Int)) : wrap64 x = x ∧ IntKind.i64.wrap x = x := by
  have h1 : wrap64 x = x := by unfold wrap64; omega
  exact ⟨h1, by rw [IntKind.wrap_i64]; unfold wrap64 at h1; exact h1⟩
set_option maxHeartbeats 2000000 in
set_option maxRecDepth 100000 in
theorem poolBytes_any {w : World} {b m n : Nat} {L : PL} (d : PoolAt w b m L n) (hB : (bytesP L : Int) ≤ 4611686018427387904) :
    Calls Try.prog 16 #[.pointer (some ⟨b, 0, none⟩)] w fun e w' => e = .returned (.int .i64 (bytesP L : Nat)) ∧ Below w.heap.size w w' := by
  have c0 := d.c0
  obtain ⟨D, ho, hh, hv⟩ := d.map
  have hml := ho.lt
  have HML := Lib.hid hml
  have HRI := Lib.hid d.rise
  have HH := Lib.hid hh
  have HV := Lib.hid hv
  have HBB := Lib.hid hB
  clear d hh hv hB hml
  go_enter Try.func16, Try.ntmps16
  go_wp2_with (at_range; refine wpList_range_own _ rfl _ 48 rfl 3 55 intKP Try.underlying48 datElem m (Maps.size D) D rfl ho ?_; intro w2 hrg0 hg0 hs0)
  go_frame
  have hb2 : Below w.heap.size w w2 := ((Ap.refl (S := fun _ => False) w).grown hg0 (fun k hk => by cases hk)).below (Nat.le_refl _) (fun k hk => hk.elim)
  have HB2 := Lib.hid hb2
  have HRG := Lib.hid hrg0
  clear ho c0 hg0 hs0 hb2 hrg0
  go_loopw [3] (fun acc wr => ∃ (left : Lit → Bool) (cnt : Nat), acc = .int .i64 (sumNot L left : Nat) ∧ wr.ranges Try.prog 3 datElem m w.heap.size (Maps.size D) D left cnt ∧ Below w.heap.size w wr)
    (fun _ wr => wr.rangeLeft m w.heap.size)
  case atStart => exact ⟨_, _, by rw [sumNot_start (fun p hp => (HH.out p.1).2 (List.mem_map.2 ⟨p, hp, rfl⟩))]; rfl, HRG.out, HB2.out⟩
  case round =>
    obtain ⟨left, cnt, rfl, hrg, hb3⟩ := hrel
    have HB3 := Lib.hid hb3
    clear hb3 HRG
    go_wp2_with (at_next; refine wpList_next_ranges _ rfl _ rfl 3 intKP datElem (fun x : Int => Value.int .i64 x) (fun s : ByteArray => Value.agg #[.string s]) invKP invVP m w.heap.size (Maps.size D) D left cnt rfl hrg ?_ ?_)
    · intro _ hl0
      have hs := sumNot_end (L := L) hl0
      have HS := Lib.hid hs
      clear hs hl0 hrg HH HV HRI HBB
      go_wp2_with fail
      go_ret
      exact ⟨by rw [HS.out]; rfl, HB3.out⟩
    · intro x s kl y1 y2 w4 cnt1 hk hlk hR hat hrg1 hlt hg1 hs1 hen
      obtain ⟨x', hx, hkl, _⟩ := Maps.keyOf_int_inv Try.underlying3 hk
      injection hx with _ hx
      subst hx
      have hkl' : kl = kI x := hkl
      subst hkl'
      have hhas : Maps.has D (kI x) = true := has_true_of_atKey hat
      obtain ⟨p, hp, hpx⟩ := List.mem_map.1 ((HH.out x).1 hhas)
      have ha := HV.out p hp .nil
      rw [hpx, hat] at ha
      rw [datElem_mk] at hR
      injection hR with hR
      injection hR with hR _
      rw [← hR] at ha
      injection ha with ha
      injection ha with ha
      have hpl : (x, s.data.toList) ∈ L := by rw [ha, ← hpx]; exact hp
      have hst := sumNot_step HRI.out hpl hlk
      have hle := sumNot_le L (fun z => left z && !z.sameKey (kI x))
      have hap : Ap (fun k => k = w.heap.size) wr w4 := Ap.grown (S := fun k => k = w.heap.size) (Ap.refl wr) hg1 (fun k hk => by injection hk with hk; exact .inl hk.symm)
      have hb4 : Below w.heap.size w w4 := HB3.out.trans (hap.below HB3.out.size (fun k hk => by omega))
      have hbb := HBB.out
      have hb5 := below1P w4 (.cells #[.string s] 55)
      have hrg5 := rangesP_ap (S := fun _ => False) hrg1 (Ap.of_below hb5) id id
      have HRG5 := Lib.hid hrg5
      have HB5 := Lib.hid (hb4.trans (hb5.mono hb4.size))
      have HLT := Lib.hid hlt
      have HRG := Lib.hid hrg
      obtain ⟨q, hq⟩ : ∃ q, q = sumNot L left := ⟨_, rfl⟩
      have hzl : s.data.toList.length = s.size := rfl
      rw [← hq, hzl] at hst
      have hqs : (q : Int) + (s.size : Int) ≤ 4611686018427387904 := by
        have h1 : (q + s.size : Nat) ≤ bytesP L := hst ▸ hle
        exact Int.le_trans (by exact_mod_cast h1) hbb
      have HST := Lib.hid hst
      obtain ⟨hw1, hw2⟩ := addWrapP hqs rfl
      rw [← hq]
      clear hk hkl hlk hR hat hrg1 hlt hg1 hs1 hhas hp hpx ha hpl hst hle hap hb4 hbb hb5 hrg5 hrg HH HV HBB HRI hzl hq hqs
      go_wp2_with fail
      go_roundw
      case rel => exact ⟨_, cnt1, by rw [HST.out]; go_num, HRG5.out, HB5.out⟩
      case measure => rw [HRG5.out.left_eq, HRG.out.left_eq]; exact HLT.out
end Go.Proofs.Ytmnjcmpikbihaaa
