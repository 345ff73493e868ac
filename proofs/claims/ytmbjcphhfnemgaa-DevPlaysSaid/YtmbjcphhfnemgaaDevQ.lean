/- The walk of DevLoads. -/
import Derived.Test.YtmbjcphhfnemgaaDevP
import Derived.Test.YtmbjcphhfnemgaaIsBytes
namespace Go.Proofs.Ytmbjcphhfnemgaa
open Go.RowKit Go.Maps

/-- The whole of some bytes is their sectors, one behind the other. -/
theorem chunks_all {s : ByteArray} (n : Nat) : (List.range n).flatMap (chunk s) = s.data.toList.take (n * 512) := by
  induction n with
  | zero => rw [Nat.zero_mul, List.take_zero]; rfl
  | succ n ih =>
    have e : (n + 1) * 512 = n * 512 + 512 := by omega
    rw [List.range_succ, List.flatMap_append, ih, e, List.take_add, List.flatMap_singleton]
    rfl
theorem load_bytes {s : ByteArray} {n : Nat} (hs : s.size = n * 512) : (⟨(preB (loadM s n) (loadM s n).n).toArray⟩ : ByteArray) = s := by
  have h1 : preB (loadM s n) (loadM s n).n = (List.range n).flatMap (chunk s) := by
    unfold preB
    show (List.range n).flatMap (toldB (loadM s n)) = _
    congr 1
  rw [h1, chunks_all n, ← hs, List.take_of_length_le (by show s.data.toList.length ≤ s.size; exact Nat.le_refl _)]
/-- A device that is made, and another one that is done to: the first in a world of a class. -/
structure L2K (w W : World) (h : DH) (M : DM) : Prop where
  d : DevAt W h M
  be : Below w.heap.size w W
theorem L2K.below {w W W' : World} {h : DH} {M : DM} (k : L2K w W h M) (hb : Below W.heap.size W W') : L2K w W' h M := ⟨k.d.below hb, k.be.trans (hb.mono k.be.size)⟩
theorem L2K.drew {w W : World} {h : DH} {M : DM} (k : L2K w W h M) : L2K w W.drew h M := ⟨k.d.drew, k.be.drew⟩
def eraseE (M : DM) (a : Int) : Int := if hasB M.n a = true then 0 else 1
def eraseM (M : DM) (a : Int) : DM := if hasB M.n a = true then { M with bad := upd M.bad a.toNat true } else M
theorem devErase_any {w : World} {h : DH} {M : DM} (d : DevAt w h M) (a : Int) :
    Calls Try.prog 27 #[.pointer (some ⟨h.b, 0, none⟩), .int .i64 a] w fun e w' => e = .returned (.int .i64 (eraseE M a)) ∧ DevAt w' h (eraseM M a) ∧ Ap h.S w w' := by
  unfold eraseE eraseM
  by_cases g : hasB M.n a = true
  · rw [if_pos g, if_pos g]
    have g' := g
    unfold hasB at g'
    have g'' := of_decide_eq_true g'
    obtain ⟨i, rfl⟩ : ∃ i : Nat, a = (i : Int) := ⟨a.toNat, by omega⟩
    exact devErase_yes d i (by omega)
  · rw [if_neg g, if_neg g]
    exact (devErase_no d a (by simpa using g)).mono fun e w' ⟨he, hw⟩ => ⟨he, by rw [← hw]; exact d, by rw [← hw]; exact Ap.refl _⟩
theorem devLoad_ex {s : ByteArray} {n : Nat} (hs : s.size = n * 512) (h1 : 1 ≤ n) (h2 : n ≤ 32768) (w : World) :
    Calls Try.prog 23 #[.string s] w fun e w' => ∃ h : DH, e = .returned (.tuple #[.pointer (some ⟨h.b, 0, none⟩), .int .i64 0]) ∧ DevAt w' h (loadM s n) ∧ Below w.heap.size w w' :=
  (devLoad_ok hs h1 h2 w).mono fun _ _ h => ⟨_, h⟩
theorem L2K.none {w W : World} {h : DH} {M : DM} (k : L2K w W h M) (hM : M.bad = fun _ => false) :
    Calls Try.prog 17 #[.pointer (some ⟨h.b, 0, none⟩)] W fun e w' => e = .returned (.slice none 0 0) ∧ L2K w w' h M :=
  (devBad_any k.d).mono fun e w' ⟨v, he, hi, hb⟩ => ⟨by rw [he, hi.2.2 (by unfold numsI; simp [hM])], k.below hb⟩
theorem DevAt.slt {w : World} {h : DH} {M : DM} (d : DevAt w h M) : ∀ k, h.S k → k < w.heap.size := by
  have h1 := d.ltb; have h2 := d.ltbs; have h3 := d.wait.lt; have h4 := d.badm.lt
  rintro k (rfl | rfl | rfl | rfl) <;> assumption
theorem l2k_bytes {w W : World} {h : DH} {s : ByteArray} {n : Nat} (k : L2K w W h (loadM s n)) (hs : (⟨(preB (loadM s n) (loadM s n).n).toArray⟩ : ByteArray) = s) :
    Calls Try.prog 20 #[.pointer (some ⟨h.b, 0, none⟩)] W fun e w' => e = .returned (.string s) ∧ L2K w w' h (loadM s n) :=
  (devBytes_any k.d).mono fun _ _ ⟨he, hb⟩ => ⟨by rw [he, hs], k.below hb⟩
theorem l2k_writes {w W : World} {h : DH} {s : ByteArray} {n : Nat} (k : L2K w W h (loadM s n)) :
    Calls Try.prog 13 #[.pointer (some ⟨h.b, 0, none⟩)] W fun e w' => e = .returned (.int .i64 0) ∧ L2K w w' h (loadM s n) :=
  (devWrites_any k.d).mono fun _ _ ⟨he, hb⟩ => ⟨he, hb ▸ k⟩
theorem l2k_sectors {w W : World} {h : DH} {s : ByteArray} {n : Nat} (k : L2K w W h (loadM s n)) :
    Calls Try.prog 22 #[.pointer (some ⟨h.b, 0, none⟩)] W fun e w' => e = .returned (.int .i64 (n : Int)) ∧ L2K w w' h (loadM s n) :=
  (devSectors_any k.d).mono fun _ _ ⟨he, hb⟩ => ⟨he, hb ▸ k⟩
/-- A device, and another one that is done to. -/
structure L3K (w W : World) (h g : DH) (M G : DM) : Prop where
  k : L2K w W h M
  e : DevAt W g G
  ne : ∀ x, h.S x → ¬ g.S x
  ab : g.above w.heap.size
theorem L3K.step {w W W' : World} {h g : DH} {M G G' : DM} (k : L3K w W h g M G) (e : DevAt W' g G') (a : Ap g.S W W') : L3K w W' h g M G' :=
  ⟨⟨k.k.d.ap a k.ne, k.k.be.trans (a.below k.k.be.size (DH.above_S k.ab))⟩, e, k.ne, k.ab⟩
theorem L3K.below {w W W' : World} {h g : DH} {M G : DM} (k : L3K w W h g M G) (hb : Below W.heap.size W W') : L3K w W' h g M G := ⟨k.k.below hb, k.e.below hb, k.ne, k.ab⟩
theorem L3K.start {w W W' : World} {h g : DH} {M : DM} (k : L2K w W h M) (e : DevAt W' g M) (ha : g.above W.heap.size) (hb : Below W.heap.size W W') : L3K w W' h g M M :=
  ⟨k.below hb, e, fun x hx hg => by have h1 := k.d.slt x hx; have h2 := DH.above_S ha x hg; omega, by
    have h1 := k.be.size; obtain ⟨q1, q2, q3, q4⟩ := ha; exact ⟨by omega, by omega, by omega, by omega⟩⟩
theorem l3k_write {w W : World} {h g : DH} {M G : DM} (k : L3K w W h g M G) (a : Int) (s : ByteArray) (hw : G.writes < 100) :
    Calls Try.prog 24 #[.pointer (some ⟨g.b, 0, none⟩), .int .i64 a, .string s] W fun e w' => ∃ (r : Int) (G' : DM), e = .returned (.int .i64 r) ∧ L3K w w' h g M G' :=
  (devWrite_any k.e a s (by omega)).mono fun _ _ ⟨he, hd, ha⟩ => ⟨_, _, he, k.step hd ha⟩
theorem l3k_flush {w W : World} {h g : DH} {M G : DM} (k : L3K w W h g M G) :
    Calls Try.prog 26 #[.pointer (some ⟨g.b, 0, none⟩)] W fun e w' => ∃ (r : Int) (G' : DM), e = .returned (.int .i64 r) ∧ L3K w w' h g M G' :=
  (devFlush_any k.e).mono fun _ _ ⟨he, hd, ha⟩ => ⟨_, _, he, k.step hd ha⟩
theorem l3k_erase {w W : World} {h g : DH} {M G : DM} (k : L3K w W h g M G) (a : Int) :
    Calls Try.prog 27 #[.pointer (some ⟨g.b, 0, none⟩), .int .i64 a] W fun e w' => ∃ r : Int, e = .returned (.int .i64 r) ∧ L2K w w' h M :=
  (devErase_any k.e a).mono fun _ _ ⟨he, hd, ha⟩ => ⟨_, he, (k.step hd ha).k⟩
set_option maxRecDepth 100000 in
set_option maxHeartbeats 4000000 in
theorem devLoads_walk (s : ByteArray) (hs : s.size ≤ 9223372036854775807) (a : Int) (c : UInt8) (w : World) :
    Calls Try.prog 4 #[.string s, .int .i64 a, .int .u8 (c.toNat : Int)] w fun e w' => e = .returned (.bool true) ∧ Below w.heap.size w w' := by
  have a0 := devLives_any w
  by_cases h1 : 32768 < s.size
  case pos =>
    have e1 : decide ((32768 : Int) < (s.size : Int)) = true := decide_eq_true (by omega)
    go_enter Try.func4, Try.ntmps4
    go_wp2_with (go_at_call 8; refine a0.mono ?_; rintro e w1 ⟨rfl, hb1⟩)
    go_ret
    exact ⟨rfl, hb1⟩
  case neg =>
  have e1 : decide ((32768 : Int) < (s.size : Int)) = false := decide_eq_false (by omega)
  by_cases h2 : s.size % 512 ≠ 0 ∨ s.size = 0
  case pos =>
    have a1 := fun W => devLoad_no hs (by omega) W
    go_enter Try.func4, Try.ntmps4
    by_cases h3 : s.size % 512 = 0
    · have e2 : ((s.size : Int) % 512 != 0) = false := bne_eq_false_iff_eq.2 (by omega)
      have e3 : ((s.size : Int) == 0) = true := beq_iff_eq.2 (by omega)
      go_wp2_with (first
        | (go_at_call 8; refine a0.mono ?_; rintro e w1 ⟨rfl, hb1⟩)
        | (go_at_call 23; refine (a1 _).mono ?_; rintro e w2 ⟨rfl, rfl⟩))
      go_ret
      exact ⟨rfl, hb1⟩
    · have e2 : ((s.size : Int) % 512 != 0) = true := bne_iff_ne.2 (by omega)
      go_wp2_with (first
        | (go_at_call 8; refine a0.mono ?_; rintro e w1 ⟨rfl, hb1⟩)
        | (go_at_call 23; refine (a1 _).mono ?_; rintro e w2 ⟨rfl, rfl⟩))
      go_ret
      exact ⟨rfl, hb1⟩
  case neg =>
  obtain ⟨n, hs1⟩ : ∃ n : Nat, s.size = n * 512 := ⟨s.size / 512, by omega⟩
  have n1 : 1 ≤ n := by omega
  have n2 : n ≤ 32768 := by omega
  have e2 : ((s.size : Int) % 512 != 0) = false := bne_eq_false_iff_eq.2 (by omega)
  have e3 : ((s.size : Int) == 0) = false := beq_eq_false_iff_ne.2 (by omega)
  have e5 : (s.size : Int) / 512 = (n : Int) := by omega
  have hL := fun W => devLoad_ex hs1 n1 n2 W
  have HLB := Lib.hid (load_bytes hs1)
  obtain ⟨F, hF⟩ : ∃ F : ByteArray, F = fillS c := ⟨_, rfl⟩
  have hFi := fun W => fill_any c W
  rw [← hF] at hFi
  have e6 : wrap64 (n : Int) = (n : Int) := IntWalk.wrap64_in _ (by omega)
  clear hF h1 h2 n1 n2 hs1 hs
  go_enter Try.func4, Try.ntmps4
  go_wp2_with (first
    | (go_at_call 8; refine a0.mono ?_; rintro e w1 ⟨rfl, hb1⟩; have HB1 := Lib.hid hb1; clear hb1)
    | (go_at_call 23; refine (hL _).mono ?_; rintro e w2 ⟨h, rfl, hd2, hb2⟩; have HK2 : Hid (L2K w w2 h (loadM s n)) := Lib.hid ⟨hd2, HB1.out.trans (hb2.mono HB1.out.size)⟩; clear hd2 hb2)
    | (go_at_call 19; refine (devClone_any HK2.out.d).mono ?_; rintro e w3 ⟨g, rfl, hd3, hab3, hb3⟩; have HK3 := Lib.hid (L3K.start HK2.out hd3 hab3 hb3); clear hd3 hab3 hb3)
    | (go_at_call 25; refine (hFi _).mono ?_; rintro e w4 ⟨rfl, hb4⟩; have HK4 := Lib.hid (HK3.out.below hb4); clear hb4)
    | (go_at_call 24; refine (l3k_write HK4.out a F (show (0 : Nat) < 100 by omega)).mono ?_; rintro e w5 ⟨r5, G5, rfl, hk5⟩; have HK5 := Lib.hid hk5; clear hk5)
    | (go_at_call 26; refine (l3k_flush HK5.out).mono ?_; rintro e w6 ⟨r6, G6, rfl, hk6⟩; have HK6 := Lib.hid hk6; clear hk6)
    | (go_at_call 27; refine (l3k_erase HK6.out a).mono ?_; rintro e w7 ⟨r7, rfl, hk7⟩; have HK7 := Lib.hid hk7; clear hk7)
    | (go_at_call 20; refine (l2k_bytes HK7.out HLB.out).mono ?_; rintro e w8 ⟨rfl, hk8⟩; have HK8 := Lib.hid hk8; clear hk8)
    | (go_at_call 17; refine (L2K.none HK8.out rfl).mono ?_; rintro e w9 ⟨rfl, hk9⟩; have HK9 := Lib.hid hk9; clear hk9)
    | (go_at_call 13; refine (l2k_writes HK9.out).mono ?_; rintro e wA ⟨rfl, hkA⟩; have HKA := Lib.hid hkA; clear hkA)
    | (go_at_call 22; refine (l2k_sectors HKA.out).mono ?_; rintro e wC ⟨rfl, hkC⟩; have HKC := Lib.hid hkC; clear hkC))
  go_ret
  exact ⟨rfl, HKC.out.be⟩
theorem devLoads_in {w : World} (s : ByteArray) (hs : s.size ≤ maxLen) (a : Int) (_ha : (Lit.int .i64 a).wf = true) (c : Int) (hc : (Lit.int .u8 c).wf = true) :
    Calls Try.prog 4 #[.string s, .int .i64 a, .int .u8 c] w fun e w' => e = .returned (.bool true) ∧ Below w.heap.size w w' := by
  have hc' := u8_of_wf hc
  generalize UInt8.ofNat c.toNat = x at hc'
  subst hc'
  exact devLoads_walk s (by unfold maxLen at hs; omega) a x w
end Go.Proofs.Ytmbjcphhfnemgaa
