/- The contract of rs.Encode. The contracts of rs.Encode whatever it is given, of slices.Equal at strings, and of rs.Good. The contract of rs.Good. -/
import Derived.Test.YtpldnbfbpajbkabDoorRsB
namespace Go.Proofs.YtpldnbfbpajbkabDoor
open Go.RowKit
open Caulk.Lin (Fn2 sx stack)
open Caulk.Gf (mul putL)

/-- Strings and an error's number are answered. -/
def StrRes (w : World) (L : List ByteArray) (E : Int) (e : Ending) (w' : World) : Prop :=
  ∃ v, e = .returned (.tuple #[v, .int .i64 E]) ∧ StrsS w' v L ∧ Below w.heap.size w w'
theorem weaveL_congr {r k n : Nat} {f g : Fn2} {D : List ByteArray} (h : ∀ i, i < r → ∀ j, j < k → f i j = g i j) : weaveL r k n f D = weaveL r k n g D := by
  refine List.map_congr_left (fun i hi => ?_)
  unfold weaveS weaveF
  rw [rowL_congr (fun b _ => Caulk.Lin.sx_congr (fun j hj => by rw [h i (List.mem_range.1 hi) j hj]))]
/-- The rows from k on. -/
theorem MatS.drop {w : World} {b off r k c cap : Nat} {f : Fn2} (h : MatS w (.slice (some ⟨b, off, none⟩) (c + r) cap) (rowsL (c + r) k f)) (hk : 0 < k) (hc : 0 < c) (_hlc : c + r ≤ cap) (_hcm : cap ≤ maxLen) :
    MatS w (.slice (some ⟨b, off + c, none⟩) r (cap - c)) (rowsL r k (fun i => f (c + i))) := by
  obtain ⟨b2, off2, cap2, e, hb, _, _, hr⟩ := MatV.opened h (by omega) hk
  injection e with e1 e2 e3
  injection e1 with e1
  injection e1 with e4 e5
  subst e4; subst e5
  refine ⟨_, cap - c, by rw [rowsL_len], by simp, by rw [rowsL_len]; omega, by omega, .inr ⟨b, off + c, rfl, hb, fun i hi => ?_⟩⟩
  rw [rowsL_len] at hi
  obtain ⟨b', off', cap', g1, g2, g3, g4, g5⟩ := hr (c + i) (by omega)
  rw [rowsL_getD _ hi]
  refine ⟨_, by rw [Nat.add_assoc]; exact g1, _, cap', by rw [rowL_len], by simp, by rw [rowL_len]; exact g3, g4, .inr ⟨b', off', rfl, g2, fun j hj => ?_⟩⟩
  rw [rowL_len] at hj
  rw [g5 j hj, rowL_getD _ hj]
theorem matS_none {w : World} {A : Addr} : MatS w (.slice (some A) 0 0) [] := ⟨_, 0, rfl, by simp, Nat.le_refl _, Nat.zero_le _, .inl rfl⟩
noncomputable def encE (k m : Int) (S : List ByteArray) : Int := if rsE k m = 0 then (if (S.length : Int) = k ∧ alikeB S = true then 0 else 2) else 1
/-- The parity. -/
def parL (k m : Nat) (S : List ByteArray) : List ByteArray := weaveL m k (S.getD 0 ByteArray.empty).size (cauF k) S
noncomputable def encL (k m : Int) (S : List ByteArray) : List ByteArray := if encE k m S = 0 then parL k.toNat m.toNat S else []
theorem stack_par {k m : Nat} (hkm : k + m ≤ 255) (n : Nat) (D : List ByteArray) : weaveL m k n (fun i => stack k (k + i)) D = weaveL m k n (cauF k) D :=
  weaveL_congr (fun i hi j hj => stack_cau hj (by omega))

theorem NewStrs.wider {w : World} {B C : Nat} {v : Value} {L : List ByteArray} (h : NewStrs w C v L) (hb : B ≤ C) : NewStrs w B v L := by
  obtain ⟨b, c, hf, rfl, h1, h2⟩ := h
  exact ⟨b, c, hf, rfl, Nat.le_trans hb h1, h2⟩
set_option maxHeartbeats 2000000 in
theorem encode_ok {w : World} {vd : Value} {k m n : Nat} {D : List ByteArray} (hk : 1 ≤ k) (hkm : k + m ≤ 255) (hD : StrsS w vd D) (hl : D.length = k) (hn : ∀ j, j < k → (D.getD j ByteArray.empty).size = n) (hn2 : n ≤ 65536) (hal : alikeB D = true) :
    Calls Tryd.prog 5 #[.int .i64 (k : Int), .int .i64 (m : Int), vd] w fun e w' => ∃ v, e = .returned (.tuple #[v, .int .i64 0]) ∧ NewStrs w' w.heap.size v (weaveL m k n (cauF k) D) ∧ Below w.heap.size w w' := by
  have hck := rsCheck_any (k : Int) (m : Int) (by omega) (by omega) w
  rw [show rsE (k : Int) (m : Int) = 0 from if_pos (by omega)] at hck
  have HCK := Lib.hid hck
  have hak := alike_any hD
  rw [hal] at hak
  have HAK := Lib.hid hak
  obtain ⟨A, c, rfl, hlc, hcm⟩ := hD.opened
  rw [hl] at hlc hak HAK hD ⊢
  have HD := Lib.hid hD
  have HN := Lib.hid hn
  have HL := Lib.hid hl
  have hz1 : ((k : Int) == (k : Int)) = true := by simp
  have hz2 : ((k : Int) != (k : Int)) = false := by simp
  clear hck hak hD hn hl hal
  go_enter Tryd.func5, Tryd.ntmps5
  go_wp2_with fail
  refine HCK.out.mono ?_
  rintro e w' ⟨rfl, rfl⟩
  go_wp2_with fail
  refine HAK.out.mono ?_
  rintro e w' ⟨rfl, rfl⟩
  go_wp2_with fail
  refine (stripe_any k m hk hkm _).mono ?_
  rintro e w1 ⟨v, rfl, hs, hb⟩
  obtain ⟨b1, off1, cap1, rfl, hrc1, hcm1, _⟩ := MatV.reads hs (Nat.le_refl _) (by omega) hk
  have HDR : Hid (MatS w1 (.slice (some ⟨b1, off1 + k, none⟩) m (cap1 - k)) (rowsL m k (fun i => stack k (k + i)))) := Lib.hid (MatS.drop hs hk hk hrc1 hcm1)
  have HD1 := Lib.hid (HD.out.below hb)
  have HB := Lib.hid hb
  unfold maxLen at hcm1
  clear hs hb HCK HAK hz1 hz2
  obtain ⟨R, hR⟩ : ∃ R, R = k + m := ⟨_, rfl⟩
  rw [← hR] at hrc1 ⊢
  by_cases hcap : cap1 = k
  · obtain rfl : m = 0 := by omega
    obtain rfl : R = k := by omega
    obtain rfl : cap1 = R := hcap
    have hm0 : MatS w1 (.slice (some ⟨b1, off1, none⟩) 0 0) (rowsL 0 cap1 (cauF cap1)) := by
      rw [show rowsL 0 cap1 (cauF cap1) = [] from List.eq_nil_of_length_eq_zero (rowsL_len _ _ _)]; exact matS_none
    have hwv := weave_any hm0 (by omega) hk (by omega) HD1.out HL.out HN.out hn2
    have HWV := Lib.hid hwv
    clear hwv hR hm0
    go_wp2_with fail
    refine HWV.out.mono ?_
    rintro e w2 ⟨v2, rfl, hns, hb2⟩
    have HNS := Lib.hid (hns.wider HB.out.size)
    have HB2 : Hid (Below w.heap.size w w2) := Lib.hid (HB.out.trans (hb2.mono HB.out.size))
    clear hns hb2
    go_wp2
    go_ret2
    exact ⟨_, rfl, HNS.out, HB2.out⟩
  · have hwv := weave_any HDR.out (by omega) hk (by omega) HD1.out HL.out HN.out hn2
    rw [stack_par hkm] at hwv
    have HWV := Lib.hid hwv
    have hRk : R - k = m := by omega
    have hcap2 : ¬ cap1 - k = 0 := by omega
    clear hwv
    go_wp2_with fail
    refine HWV.out.mono ?_
    rintro e w2 ⟨v2, rfl, hns, hb2⟩
    have HNS := Lib.hid (hns.wider HB.out.size)
    have HB2 : Hid (Below w.heap.size w w2) := Lib.hid (HB.out.trans (hb2.mono HB.out.size))
    clear hns hb2
    go_wp2
    go_ret2
    exact ⟨_, rfl, HNS.out, HB2.out⟩
end Go.Proofs.YtpldnbfbpajbkabDoor
namespace Go.Proofs.YtpldnbfbpajbkabDoor
open Go.RowKit
open Caulk.Lin (Fn2 sx stack)

theorem strs_string {s t : ByteArray} (h : s ≠ t) : (s.toList == t.toList) = false := by
  rw [byte_toList, byte_toList, beq_eq_false_iff_ne]
  intro e
  apply h
  apply ByteArray.ext
  exact Array.ext' e
set_option maxHeartbeats 1000000 in
theorem equal_any {w : World} {a b : Value} {S T : List ByteArray} (ha : StrsS w a S) (hb : StrsS w b T) :
    Calls Tryd.prog 26 #[a, b] w fun e w' => e = .returned (.bool (decide (S = T))) ∧ Below w.heap.size w w' := by
  have ha' := ha.opened
  have hb' := hb.opened
  obtain ⟨A1, c1, rfl, hl1, hm1⟩ := ha'
  obtain ⟨A2, c2, rfl, hl2, hm2⟩ := hb'
  by_cases hlen : S.length = T.length
  · have HD : Hid (∀ i, i < S.length → ∃ b1 o1 b2 o2, A1 = some ⟨b1, o1, none⟩ ∧ A2 = some ⟨b2, o2, none⟩ ∧ ∀ W, Below w.heap.size w W → W.cell? ⟨b1, o1 + i, none⟩ = some (.string (S.getD i ByteArray.empty)) ∧ W.cell? ⟨b2, o2 + i, none⟩ = some (.string (T.getD i ByteArray.empty))) := Lib.hid (by
      intro i hi
      obtain ⟨b1, o1, k1, e1, _, _, r1⟩ := ha.reads (by omega)
      obtain ⟨b2, o2, k2, e2, _, _, r2⟩ := hb.reads (by omega)
      injection e1 with e1 _ _
      injection e2 with e2 _ _
      exact ⟨b1, o1, b2, o2, e1, e2, fun W hW => ⟨(r1 W hW i hi).1, (r2 W hW i (by omega)).1⟩⟩)
    have HEQ : Hid (S = T ↔ ∀ i, i < S.length → S.getD i ByteArray.empty = T.getD i ByteArray.empty) := Lib.hid ⟨fun h => by rw [h]; simp, fun h => by
      apply List.ext_getElem hlen
      intro i h1 h2
      have := h i h1
      simpa [List.getD, h1, h2] using this⟩
    obtain ⟨E, hE⟩ : ∃ E, E = decide (S = T) := ⟨_, rfl⟩
    have HE := Lib.hid hE
    rw [← hE]
    obtain ⟨s, hs⟩ : ∃ s : Nat → ByteArray, s = fun i => S.getD i ByteArray.empty := ⟨_, rfl⟩
    obtain ⟨t, ht⟩ : ∃ t : Nat → ByteArray, t = fun i => T.getD i ByteArray.empty := ⟨_, rfl⟩
    have q1 : ∀ i, S.getD i ByteArray.empty = s i := fun i => by rw [hs]
    have q2 : ∀ i, T.getD i ByteArray.empty = t i := fun i => by rw [ht]
    simp only [q1, q2] at HD HEQ
    clear hE ha hb hs ht q1 q2
    obtain ⟨n, hn⟩ : ∃ n, n = S.length := ⟨_, rfl⟩
    rw [← hn] at hl1 HD HEQ hlen ⊢
    rw [← hlen] at hl2 ⊢
    clear hn
    have hne : ((n : Int) != (n : Int)) = false := by simp
    clear hlen
    go_enter Tryd.func26, Tryd.ntmps26
    go_wp2
    go_loopw [13] (fun i wr => ∃ k : Nat, k ≤ n ∧ i = .int .i64 k ∧ (∀ j, j < k → s j = t j) ∧ Below w.heap.size w wr) (fun i _ => n - (intOf i).toNat)
    case atStart => exact ⟨0, by omega, rfl, fun j hj => by omega, Below.refl _ _⟩
    case round =>
      obtain ⟨k, hk, rfl, hall, hbe⟩ := hrel
      have HALL := Lib.hid hall
      have HBE := Lib.hid hbe
      clear hall hbe
      by_cases hlt : k < n
      · obtain ⟨b1, o1, b2, o2, rfl, rfl, hW⟩ := HD.out k hlt
        obtain ⟨hx, hy⟩ := hW wr HBE.out
        clear hW
        by_cases hls : s k = t k
        · have HS := Lib.hid hls
          rw [hls] at hx
          clear hls
          generalize t k = X at hx hy
          go_wp2_with fail
          go_quiet (fail)
          go_wp2
          go_roundw
          case rel =>
            refine ⟨k + 1, by omega, by go_num, fun j hj => ?_, below_drewN HBE.out _⟩
            by_cases e : j = k
            · subst e; exact HS.out
            · exact HALL.out j (by omega)
          case measure => simp [intOf]; omega
        · have HS := Lib.hid hls
          have hne2 := strs_string hls
          have hno : Hid (E = false) := Lib.hid (by rw [HE.out, decide_eq_false_iff_not]; exact fun h => HS.out (HEQ.out.1 h k hlt))
          clear hls
          generalize s k = X at hx hne2
          generalize t k = Y at hy hne2
          go_wp2_with fail
          go_quiet (fail)
          go_wp2
          go_ret
          exact ⟨ret_bool hno.out.symm, below_drewN HBE.out _⟩
      · obtain rfl : k = n := by omega
        have hyes : Hid (E = true) := Lib.hid (by rw [HE.out, decide_eq_true_eq]; exact HEQ.out.2 HALL.out)
        go_wp2
        go_ret
        exact ⟨ret_bool hyes.out.symm, HBE.out⟩
  · have hno : decide (S = T) = false := by rw [decide_eq_false_iff_not]; exact fun h => hlen (by rw [h])
    have hb1 : ((S.length : Int) != (T.length : Int)) = true := by simp; omega
    have hb2 : ((S.length : Int) == (T.length : Int)) = false := by simp; omega
    rw [hno]
    clear hno ha hb
    go_enter Tryd.func26, Tryd.ntmps26
    go_wp2
    go_ret
    exact ⟨rfl, Below.refl _ _⟩
theorem encode_one {w : World} {vd : Value} {k m : Int} {S : List ByteArray} (hD : StrsS w vd S) (hkw : -9223372036854775808 ≤ k ∧ k ≤ 9223372036854775807) (hmw : -9223372036854775808 ≤ m ∧ m ≤ 9223372036854775807) (h : rsE k m ≠ 0) :
    Calls Tryd.prog 5 #[.int .i64 k, .int .i64 m, vd] w fun e w' => e = .returned (.tuple #[.slice none 0 0, .int .i64 1]) ∧ w = w' := by
  have hck := rsCheck_any k m hkw hmw w
  rw [show rsE k m = 1 by unfold rsE at h ⊢; split at h <;> simp_all] at hck
  obtain ⟨A, c, rfl, hlc, hcm⟩ := hD.opened
  have HCK := Lib.hid hck
  clear hck h hD
  go_enter Tryd.func5, Tryd.ntmps5
  go_wp2_with fail
  refine HCK.out.mono ?_
  rintro e w' ⟨rfl, rfl⟩
  go_wp2
  go_ret2
  exact ⟨rfl, rfl⟩
theorem encode_two {w : World} {vd : Value} {k m : Int} {S : List ByteArray} (hD : StrsS w vd S) (hkw : -9223372036854775808 ≤ k ∧ k ≤ 9223372036854775807) (hmw : -9223372036854775808 ≤ m ∧ m ≤ 9223372036854775807) (h0 : rsE k m = 0) (h : ¬ ((S.length : Int) = k ∧ alikeB S = true)) :
    Calls Tryd.prog 5 #[.int .i64 k, .int .i64 m, vd] w fun e w' => e = .returned (.tuple #[.slice none 0 0, .int .i64 2]) ∧ w = w' := by
  have hck := rsCheck_any k m hkw hmw w
  rw [h0] at hck
  have hak := alike_any hD
  obtain ⟨A, c, rfl, hlc, hcm⟩ := hD.opened
  have HCK := Lib.hid hck
  have HAK := Lib.hid hak
  clear hck hak hD h0
  by_cases hl : (S.length : Int) = k
  · have hal : alikeB S = false := by
      cases hh : alikeB S with
      | false => rfl
      | true => exact absurd ⟨hl, hh⟩ h
    rw [hal] at HAK
    subst hl
    have hz2 : ((S.length : Int) != (S.length : Int)) = false := by simp
    clear h hal
    go_enter Tryd.func5, Tryd.ntmps5
    go_wp2_with fail
    refine HCK.out.mono ?_
    rintro e w' ⟨rfl, rfl⟩
    go_wp2_with fail
    refine HAK.out.mono ?_
    rintro e w' ⟨rfl, rfl⟩
    go_wp2
    go_ret2
    exact ⟨rfl, rfl⟩
  · have hz1 : ((S.length : Int) == k) = false := by simpa using hl
    have hz2 : ((S.length : Int) != k) = true := by simpa using hl
    clear h hl HAK
    go_enter Tryd.func5, Tryd.ntmps5
    go_wp2_with fail
    refine HCK.out.mono ?_
    rintro e w' ⟨rfl, rfl⟩
    go_wp2
    go_ret2
    exact ⟨rfl, rfl⟩
theorem encode_res {w : World} {vd : Value} {k m : Int} {S : List ByteArray} (hD : StrsS w vd S) (hkw : -9223372036854775808 ≤ k ∧ k ≤ 9223372036854775807) (hmw : -9223372036854775808 ≤ m ∧ m ≤ 9223372036854775807) :
    Calls Tryd.prog 5 #[.int .i64 k, .int .i64 m, vd] w (StrRes w (encL k m S) (encE k m S)) := by
  by_cases h0 : rsE k m = 0
  · by_cases h1 : (S.length : Int) = k ∧ alikeB S = true
    · have e1 : encE k m S = 0 := by unfold encE; rw [if_pos h0, if_pos h1]
      unfold encL
      rw [e1, if_pos rfl]
      have hb : 1 ≤ k ∧ 0 ≤ m ∧ k + m ≤ 255 := by
        unfold rsE at h0
        by_cases hh : 1 ≤ k ∧ 0 ≤ m ∧ k + m ≤ 255
        · exact hh
        · rw [if_neg hh] at h0; simp at h0
      obtain ⟨kn, rfl⟩ : ∃ n : Nat, k = (n : Int) := ⟨k.toNat, by omega⟩
      obtain ⟨mn, rfl⟩ : ∃ n : Nat, m = (n : Int) := ⟨m.toNat, by omega⟩
      have hA := alikeB_iff.1 h1.2
      have hl : S.length = kn := by have := h1.1; omega
      rw [Int.toNat_natCast, Int.toNat_natCast]
      exact (encode_ok (by omega) (by omega) hD hl (fun j hj => (hA j (by omega)).1) (hA 0 (by omega)).2 h1.2).mono fun _ _ ⟨v, a, b, c⟩ => ⟨v, a, b.strs, c⟩
    · have e1 : encE k m S = 2 := by unfold encE; rw [if_pos h0, if_neg h1]
      unfold encL
      rw [e1, if_neg (by decide)]
      exact (encode_two hD hkw hmw h0 h1).mono fun _ _ ⟨a, b⟩ => by subst b; exact ⟨_, a, strsS_nil _, Below.refl _ _⟩
  · have e1 : encE k m S = 1 := by unfold encE; rw [if_neg h0]
    unfold encL
    rw [e1, if_neg (by decide)]
    exact (encode_one hD hkw hmw h0).mono fun _ _ ⟨a, b⟩ => by subst b; exact ⟨_, a, strsS_nil _, Below.refl _ _⟩
end Go.Proofs.YtpldnbfbpajbkabDoor
namespace Go.Proofs.YtpldnbfbpajbkabDoor
open Go.RowKit

theorem StrsS.take {w : World} {A : Option Addr} {n cap : Nat} {S : List ByteArray} (h : StrsS w (.slice A n cap) S) (k : Nat) (hk : k ≤ n) : StrsS w (.slice A k cap) (S.take k) := by
  obtain ⟨A', c, e, h1, h2, h3, h4, h5⟩ := h
  injection e with e1 e2 e3
  subst e1; subst e3; subst e2
  have hl : (S.take k).length = k := by simp; omega
  refine ⟨A, cap, by rw [hl], h1, by rw [hl]; omega, h3, fun s hs => h4 s (List.mem_of_mem_take hs), ?_⟩
  by_cases h0 : k = 0
  · left; subst h0; simp
  · rcases h5 with h5 | ⟨b, off, rfl, hlt, hc⟩
    · rw [h5] at hk; simp at hk; omega
    · refine .inr ⟨b, off, rfl, hlt, fun j hj => ?_⟩
      rw [hl] at hj
      rw [hc j (by omega), List.getD, List.getD, List.getElem?_take, if_pos hj]
theorem StrsS.drop {w : World} {b off n cap : Nat} {S : List ByteArray} (h : StrsS w (.slice (some ⟨b, off, none⟩) n cap) S) (k : Nat) (hk : k ≤ n) : StrsS w (.slice (some ⟨b, off + k, none⟩) (n - k) (cap - k)) (S.drop k) := by
  obtain ⟨A', c, e, h1, h2, h3, h4, h5⟩ := h
  injection e with e1 e2 e3
  subst e1; subst e3; subst e2
  have hl : (S.drop k).length = S.length - k := by simp
  refine ⟨_, _, by rw [hl], by simp, by rw [hl]; omega, by omega, fun s hs => h4 s (List.mem_of_mem_drop hs), ?_⟩
  by_cases h0 : S.length - k = 0
  · left; exact List.eq_nil_of_length_eq_zero (by rw [hl]; exact h0)
  · rcases h5 with h5 | ⟨b', off', e, hlt, hc⟩
    · rw [h5] at h0; simp at h0
    · injection e with e
      injection e with e1 e2
      subst e1; subst e2
      refine .inr ⟨b, off + k, rfl, hlt, fun j hj => ?_⟩
      rw [hl] at hj
      rw [Nat.add_assoc, hc (k + j) (by omega), List.getD, List.getD, List.getElem?_drop]
theorem strsS_none {w : World} {A : Addr} : StrsS w (.slice (some A) 0 0) [] := ⟨_, 0, rfl, by simp, Nat.le_refl _, Nat.zero_le _, fun s hs => by simp at hs, .inl rfl⟩
noncomputable def goodB (k m : Int) (S : List ByteArray) : Bool :=
  if rsE k m = 0 ∧ (S.length : Int) = k + m then (if encE k m (S.take k.toNat) = 0 then decide (encL k m (S.take k.toNat) = S.drop k.toNat) else false) else false
set_option maxHeartbeats 2000000 in
theorem good_any {w : World} {vd : Value} {k m : Int} {S : List ByteArray} (hD : StrsS w vd S) (hkw : -9223372036854775808 ≤ k ∧ k ≤ 9223372036854775807) (hmw : -9223372036854775808 ≤ m ∧ m ≤ 9223372036854775807) :
    Calls Tryd.prog 12 #[.int .i64 k, .int .i64 m, vd] w fun e w' => e = .returned (.bool (goodB k m S)) ∧ Below w.heap.size w w' := by
  have hck := rsCheck_any k m hkw hmw w
  by_cases h0 : rsE k m = 0
  · rw [h0] at hck
    have HCK := Lib.hid hck
    clear hck
    have hb : 1 ≤ k ∧ 0 ≤ m ∧ k + m ≤ 255 := by
      unfold rsE at h0
      by_cases hh : 1 ≤ k ∧ 0 ≤ m ∧ k + m ≤ 255
      · exact hh
      · rw [if_neg hh] at h0; simp at h0
    obtain ⟨kn, rfl⟩ : ∃ n : Nat, k = (n : Int) := ⟨k.toNat, by omega⟩
    obtain ⟨mn, rfl⟩ : ∃ n : Nat, m = (n : Int) := ⟨m.toNat, by omega⟩
    obtain ⟨hb1, hb2, hb3⟩ := hb
    by_cases h1 : (S.length : Int) = (kn : Int) + (mn : Int)
    · have hg : goodB kn mn S = if encE kn mn (S.take kn) = 0 then decide (encL kn mn (S.take kn) = S.drop kn) else false := by
        unfold goodB; rw [if_pos ⟨h0, h1⟩, Int.toNat_natCast]
      rw [hg]
      obtain ⟨b, off, cap, rfl, hlc, hcm, _⟩ := hD.reads (by omega)
      have hl : S.length = kn + mn := by omega
      have hE := encode_res (hD.take kn (by omega)) hkw hmw
      have HE := Lib.hid hE
      have HD := Lib.hid hD
      have hz1 : ((S.length : Int) == (kn : Int) + (mn : Int)) = true := by rw [h1]; simp
      have hz2 : ((S.length : Int) != (kn : Int) + (mn : Int)) = false := by rw [h1]; simp
      clear hE hD hg h0 h1
      obtain ⟨T, hT⟩ : ∃ T, T = encL kn mn (S.take kn) := ⟨_, rfl⟩
      obtain ⟨E, hEE⟩ : ∃ E, E = encE kn mn (S.take kn) := ⟨_, rfl⟩
      rw [← hT, ← hEE] at HE ⊢
      clear hT hEE
      obtain ⟨n, hn⟩ : ∃ n, n = S.length := ⟨_, rfl⟩
      rw [← hn] at hl hlc HD hz1 hz2 ⊢
      clear hn
      by_cases hE0 : E = 0
      · subst hE0
        rw [if_pos rfl]
        obtain ⟨R, hR⟩ : ∃ R, decide (T = S.drop kn) = R := ⟨_, rfl⟩
        rw [hR]
        have HRR := Lib.hid hR
        clear hR
        by_cases hcap : cap = kn
        · obtain rfl : mn = 0 := by omega
          obtain rfl : n = kn := by omega
          obtain rfl : cap = n := hcap
          have HDN : Hid (StrsS w (.slice (some ⟨b, off, none⟩) 0 0) (S.drop cap)) := Lib.hid (by
            have hl0 : S.drop cap = [] := by
              have := HD.out.opened
              obtain ⟨A, c, e, _, _⟩ := this
              injection e with _ e2 _
              exact List.eq_nil_of_length_eq_zero (by simp; omega)
            rw [hl0]; exact strsS_none)
          clear hl
          go_enter Tryd.func12, Tryd.ntmps12
          go_wp2_with fail
          refine HCK.out.mono ?_
          rintro e w' ⟨rfl, rfl⟩
          go_wp2_with fail
          refine HE.out.mono ?_
          rintro e w1 ⟨v, rfl, hs, hb⟩
          have HS := Lib.hid hs
          have HDN2 := Lib.hid (HDN.out.below hb)
          have HB := Lib.hid hb
          clear hs hb
          go_wp2_with fail
          have h := equal_any HS.out HDN2.out
          rw [HRR.out] at h
          (with_reducible refine h.mono ?_)
          rintro e w2 ⟨rfl, hb⟩
          clear h
          replace HB := Lib.hid (HB.out.trans (hb.mono HB.out.size))
          clear hb
          go_wp2
          go_ret
          exact ⟨rfl, HB.out⟩
        · have HDN : Hid (StrsS w (.slice (some ⟨b, off + kn, none⟩) (n - kn) (cap - kn)) (S.drop kn)) := Lib.hid (HD.out.drop kn (by omega))
          have hcap2 : ¬ cap - kn = 0 := by omega
          have hkn : kn ≤ n := by omega
          have HLL := Lib.hid hl
          clear hl
          have hn5 : n ≤ 255 := by have := HLL.out; omega
          go_enter Tryd.func12, Tryd.ntmps12
          go_wp2_with fail
          refine HCK.out.mono ?_
          rintro e w' ⟨rfl, rfl⟩
          go_wp2_with fail
          refine HE.out.mono ?_
          rintro e w1 ⟨v, rfl, hs, hb⟩
          have HS := Lib.hid hs
          have HDN2 := Lib.hid (HDN.out.below hb)
          have HB := Lib.hid hb
          clear hs hb
          go_wp2_with fail
          have h := equal_any HS.out HDN2.out
          rw [HRR.out] at h
          (with_reducible refine h.mono ?_)
          rintro e w2 ⟨rfl, hb⟩
          clear h
          replace HB := Lib.hid (HB.out.trans (hb.mono HB.out.size))
          clear hb
          go_wp2
          go_ret
          exact ⟨rfl, HB.out⟩
      · rw [if_neg hE0]
        have he1 : (E == 0) = false := by simpa using hE0
        have he2 : (E != 0) = true := by simpa using hE0
        clear hE0
        go_enter Tryd.func12, Tryd.ntmps12
        go_wp2_with fail
        refine HCK.out.mono ?_
        rintro e w' ⟨rfl, rfl⟩
        go_wp2_with fail
        refine HE.out.mono ?_
        rintro e w1 ⟨v, rfl, _, hb⟩
        have HB := Lib.hid hb
        clear hb
        go_wp2
        go_ret
        exact ⟨rfl, HB.out⟩
    · have hg : goodB kn mn S = false := by unfold goodB; rw [if_neg (fun h => h1 h.2)]
      rw [hg]
      obtain ⟨A, cap, rfl, hlc, hcm⟩ := hD.opened
      have hz1 : ((S.length : Int) == (kn : Int) + (mn : Int)) = false := by simpa using h1
      have hz2 : ((S.length : Int) != (kn : Int) + (mn : Int)) = true := by simpa using h1
      clear hD hg h0 h1
      go_enter Tryd.func12, Tryd.ntmps12
      go_wp2_with fail
      refine HCK.out.mono ?_
      rintro e w' ⟨rfl, rfl⟩
      go_wp2
      go_ret
      exact ⟨rfl, Below.refl _ _⟩
  · have h1 : rsE k m = 1 := by unfold rsE at h0 ⊢; split at h0 <;> simp_all
    rw [h1] at hck
    have HCK := Lib.hid hck
    have hg : goodB k m S = false := by unfold goodB; rw [if_neg (fun h => h0 h.1)]
    rw [hg]
    obtain ⟨A, cap, rfl, hlc, hcm⟩ := hD.opened
    clear hck hD hg h0 h1
    go_enter Tryd.func12, Tryd.ntmps12
    go_wp2_with fail
    refine HCK.out.mono ?_
    rintro e w' ⟨rfl, rfl⟩
    go_wp2
    go_ret
    exact ⟨rfl, Below.refl _ _⟩
end Go.Proofs.YtpldnbfbpajbkabDoor
