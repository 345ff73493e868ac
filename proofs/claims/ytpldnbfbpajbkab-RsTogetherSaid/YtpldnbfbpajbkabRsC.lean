/- The contract of rs.Encode. -/
import Derived.Test.YtpldnbfbpajbkabRsB
namespace Go.Proofs.Ytpldnbfbpajbkab
open Go.RowKit
open Caulk.Lin (Fn2 sx stack)
open Caulk.Gf (mul putL)

/-- Strings and an error's number are answered. -/
def StrRes (w : World) (L : List ByteArray) (E : Int) (e : Ending) (w' : World) : Prop :=
  ∃ v, e = .returned (.tuple #[v, .int .i64 E]) ∧ StrsS w' v L ∧ Below w.heap.size w w'
theorem weaveL_congr {r k n : Nat} {f g : Fn2} {D : List ByteArray} (h : ∀ i, i < r → ∀ j, j < k → f i j = g i j) : weaveL r k n f D = weaveL r k n g D := by
  refine List.map_congr_left (fun i hi => ?_)
  unfold weaveS weaveF
  rw [rowL_congr (fun b _ => Caulk.Lin.sx_congr (fun j hj => by rw [h i (List.mem_range.1 hi) j hj]))]
/-- The rows from k on. -/
theorem MatS.drop {w : World} {b off r k c cap : Nat} {f : Fn2} (h : MatS w (.slice (some ⟨b, off, none⟩) (c + r) cap) (rowsL (c + r) k f)) (hk : 0 < k) (hc : 0 < c) (_hlc : c + r ≤ cap) (_hcm : cap ≤ maxLen) :
    MatS w (.slice (some ⟨b, off + c, none⟩) r (cap - c)) (rowsL r k (fun i => f (c + i))) := by
  obtain ⟨b2, off2, cap2, e, hb, _, _, hr⟩ := MatV.opened h (by omega) hk
  injection e with e1 e2 e3
  injection e1 with e1
  injection e1 with e4 e5
  subst e4; subst e5
  refine ⟨_, cap - c, by rw [rowsL_len], by simp, by rw [rowsL_len]; omega, by omega, .inr ⟨b, off + c, rfl, hb, fun i hi => ?_⟩⟩
  rw [rowsL_len] at hi
  obtain ⟨b', off', cap', g1, g2, g3, g4, g5⟩ := hr (c + i) (by omega)
  rw [rowsL_getD _ hi]
  refine ⟨_, by rw [Nat.add_assoc]; exact g1, _, cap', by rw [rowL_len], by simp, by rw [rowL_len]; exact g3, g4, .inr ⟨b', off', rfl, g2, fun j hj => ?_⟩⟩
  rw [rowL_len] at hj
  rw [g5 j hj, rowL_getD _ hj]
theorem matS_none {w : World} {A : Addr} : MatS w (.slice (some A) 0 0) [] := ⟨_, 0, rfl, by simp, Nat.le_refl _, Nat.zero_le _, .inl rfl⟩
noncomputable def encE (k m : Int) (S : List ByteArray) : Int := if rsE k m = 0 then (if (S.length : Int) = k ∧ alikeB S = true then 0 else 2) else 1
/-- The parity. -/
def parL (k m : Nat) (S : List ByteArray) : List ByteArray := weaveL m k (S.getD 0 ByteArray.empty).size (cauF k) S
noncomputable def encL (k m : Int) (S : List ByteArray) : List ByteArray := if encE k m S = 0 then parL k.toNat m.toNat S else []
theorem stack_par {k m : Nat} (hkm : k + m ≤ 255) (n : Nat) (D : List ByteArray) : weaveL m k n (fun i => stack k (k + i)) D = weaveL m k n (cauF k) D :=
  weaveL_congr (fun i hi j hj => stack_cau hj (by omega))

set_option maxHeartbeats 2000000 in
theorem encode_ok {w : World} {vd : Value} {k m n : Nat} {D : List ByteArray} (hk : 1 ≤ k) (hkm : k + m ≤ 255) (hD : StrsS w vd D) (hl : D.length = k) (hn : ∀ j, j < k → (D.getD j ByteArray.empty).size = n) (hn2 : n ≤ 65536) (hal : alikeB D = true) :
    Calls Try.prog 8 #[.int .i64 (k : Int), .int .i64 (m : Int), vd] w (StrRes w (weaveL m k n (cauF k) D) 0) := by
  have hck := rsCheck_any (k : Int) (m : Int) (by omega) (by omega) w
  rw [show rsE (k : Int) (m : Int) = 0 from if_pos (by omega)] at hck
  have HCK := Lib.hid hck
  have hak := alike_any hD
  rw [hal] at hak
  have HAK := Lib.hid hak
  obtain ⟨A, c, rfl, hlc, hcm⟩ := hD.opened
  rw [hl] at hlc hak HAK hD ⊢
  have HD := Lib.hid hD
  have HN := Lib.hid hn
  have HL := Lib.hid hl
  have hz1 : ((k : Int) == (k : Int)) = true := by simp
  have hz2 : ((k : Int) != (k : Int)) = false := by simp
  clear hck hak hD hn hl hal
  go_enter Try.func8, Try.ntmps8
  go_wp2_with fail
  refine HCK.out.mono ?_
  rintro e w' ⟨rfl, rfl⟩
  go_wp2_with fail
  refine HAK.out.mono ?_
  rintro e w' ⟨rfl, rfl⟩
  go_wp2_with fail
  refine (stripe_any k m hk hkm _).mono ?_
  rintro e w1 ⟨v, rfl, hs, hb⟩
  obtain ⟨b1, off1, cap1, rfl, hrc1, hcm1, _⟩ := MatV.reads hs (Nat.le_refl _) (by omega) hk
  have HDR : Hid (MatS w1 (.slice (some ⟨b1, off1 + k, none⟩) m (cap1 - k)) (rowsL m k (fun i => stack k (k + i)))) := Lib.hid (MatS.drop hs hk hk hrc1 hcm1)
  have HD1 := Lib.hid (HD.out.below hb)
  have HB := Lib.hid hb
  unfold maxLen at hcm1
  clear hs hb HCK HAK hz1 hz2
  obtain ⟨R, hR⟩ : ∃ R, R = k + m := ⟨_, rfl⟩
  rw [← hR] at hrc1 ⊢
  by_cases hcap : cap1 = k
  · obtain rfl : m = 0 := by omega
    obtain rfl : R = k := by omega
    obtain rfl : cap1 = R := hcap
    have hm0 : MatS w1 (.slice (some ⟨b1, off1, none⟩) 0 0) (rowsL 0 cap1 (cauF cap1)) := by
      rw [show rowsL 0 cap1 (cauF cap1) = [] from List.eq_nil_of_length_eq_zero (rowsL_len _ _ _)]; exact matS_none
    have hwv := weave_any hm0 (by omega) hk (by omega) HD1.out HL.out HN.out hn2
    have HWV := Lib.hid hwv
    clear hwv hR hm0
    go_wp2_with fail
    refine HWV.out.mono ?_
    rintro e w2 ⟨v2, rfl, hns, hb2⟩
    have HNS := Lib.hid hns.strs
    have HB2 : Hid (Below w.heap.size w w2) := Lib.hid (HB.out.trans (hb2.mono HB.out.size))
    clear hns hb2
    go_wp2
    go_ret2
    exact ⟨_, rfl, HNS.out, HB2.out⟩
  · have hwv := weave_any HDR.out (by omega) hk (by omega) HD1.out HL.out HN.out hn2
    rw [stack_par hkm] at hwv
    have HWV := Lib.hid hwv
    have hRk : R - k = m := by omega
    have hcap2 : ¬ cap1 - k = 0 := by omega
    clear hwv
    go_wp2_with fail
    refine HWV.out.mono ?_
    rintro e w2 ⟨v2, rfl, hns, hb2⟩
    have HNS := Lib.hid hns.strs
    have HB2 : Hid (Below w.heap.size w w2) := Lib.hid (HB.out.trans (hb2.mono HB.out.size))
    clear hns hb2
    go_wp2
    go_ret2
    exact ⟨_, rfl, HNS.out, HB2.out⟩
end Go.Proofs.Ytpldnbfbpajbkab
