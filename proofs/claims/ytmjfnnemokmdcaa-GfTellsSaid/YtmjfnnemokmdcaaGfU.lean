/- The contracts of the document's own inverse, quotient, power and logarithm. -/
import Derived.Test.YtmjfnnemokmdcaaGfR
namespace Go.Proofs.Ytmjfnnemokmdcaa
open Go.RowKit
open Caulk.Gf (dbl mul pw lg)

theorem byte_of_int (i : Nat) (h : i < 256) : (i : Int) = ((UInt8.ofNat i).toNat : Int) := by
  rw [UInt8.toNat_ofNat']; omega
theorem byte_one (x : UInt8) : ((x.toNat : Int) == 1) = decide (x = 1) := by revert x; apply Caulk.Gf.bytes_all; decide +kernel
theorem byte_same (x y : UInt8) : ((x.toNat : Int) == (y.toNat : Int)) = decide (x = y) := by
  by_cases h : x = y
  · subst h; simp
  · rw [decide_eq_false h, beq_eq_false_iff_ne]; exact fun e => h (byte_eq_int e)
theorem inv_of {a : UInt8} {i : Nat} (hi : i < 256) (h : mul a (UInt8.ofNat i) = 1) : a ≠ 0 ∧ ((i : Int) = ((invB a).toNat : Int)) := by
  have ha : a ≠ 0 := by
    intro e; rw [e, Caulk.Gf.mul_zeroL] at h; exact absurd h (by decide)
  refine ⟨ha, ?_⟩
  unfold invB
  rw [if_neg ha, ← Caulk.Gf.inv_one a _ ha h]
  exact byte_of_int i hi
set_option maxHeartbeats 1000000 in
theorem refInv_any (a : UInt8) (w : World) :
    Calls Try.prog 5 #[.int .u8 (a.toNat : Int)] w fun e w' => e = .returned (.tuple #[.int .u8 ((invB a).toNat : Int), .int .i64 (errI a)]) ∧ w = w' := by
  go_enter Try.func5, Try.ntmps5
  go_wp2_with fail
  go_loop [4] (fun x => ∃ i : Nat, 1 ≤ i ∧ i ≤ 256 ∧ x = .int .i64 i ∧ ∀ j, 1 ≤ j → j < i → mul a (UInt8.ofNat j) ≠ 1) (fun x => 256 - (intOf x).toNat)
  case atStart => exact ⟨1, by omega, by omega, rfl, fun j h1 h2 => by omega⟩
  case round =>
    obtain ⟨i, h1, h2, rfl, hno⟩ := hrel
    have HNO := Lib.hid hno
    clear hno
    by_cases hlt : i < 256
    · have hd : decide ((i : Int) < 256) = true := by simp; omega
      have hbi := byte_of_int i hlt
      have HBI := Lib.hid hbi
      clear hbi
      by_cases hf : mul a (UInt8.ofNat i) = 1
      · obtain ⟨ha, hi⟩ := inv_of hlt hf
        have HE : Hid (errI a = 0) := Lib.hid (by unfold errI; rw [if_neg ha])
        have HI := Lib.hid hi
        have hone : (((mul a (UInt8.ofNat i)).toNat : Int) == 1) = true := by rw [byte_one, decide_eq_true hf]
        clear ha hi hf
        go_wp2_with (go_at_call 12; rw [HBI.out]; (with_reducible refine (refMul_any _ _ _).mono ?_); rintro e w' ⟨rfl, rfl⟩)
        go_ret2
        exact ⟨by rw [HE.out]; show Ending.returned (.tuple #[.int .u8 ((i : Int) % 256), .int .i64 0]) = _; rw [show ((i : Int) % 256) = (i : Int) by omega, HI.out], rfl⟩
      · have hone : (((mul a (UInt8.ofNat i)).toNat : Int) == 1) = false := by rw [byte_one, decide_eq_false hf]
        have HF := Lib.hid hf
        clear hf
        go_wp2_with (go_at_call 12; rw [HBI.out]; (with_reducible refine (refMul_any _ _ _).mono ?_); rintro e w' ⟨rfl, rfl⟩)
        go_round
        case rel =>
          refine ⟨i + 1, by omega, by omega, by go_num, fun j h3 h4 => ?_⟩
          by_cases e : j = i
          · subst e; exact HF.out
          · exact HNO.out j h3 (by omega)
        case measure => simp [intOf]; omega
    · obtain rfl : i = 256 := by omega
      have ha : a = 0 := by
        by_cases h : a = 0
        · exact h
        · have h3 := Caulk.Gf.mul_inv a h
          have h4 : Caulk.Gf.inv a ≠ 0 := by intro e; rw [e, Caulk.Gf.mul_zeroR] at h3; exact absurd h3 (by decide)
          have h5 : (Caulk.Gf.inv a).toNat ≠ 0 := fun e => h4 (zero_of _ e)
          exact absurd (by rw [UInt8.ofNat_toNat]; exact h3) (HNO.out (Caulk.Gf.inv a).toNat (by omega) (Caulk.Gf.inv a).toNat_lt)
      have HA : Hid (errI a = 13 ∧ invB a = 0) := Lib.hid (by unfold errI invB; rw [if_pos ha, if_pos ha]; exact ⟨rfl, rfl⟩)
      clear ha
      have hd : decide (((256 : Nat) : Int) < 256) = false := by decide
      go_wp2
      go_ret2
      exact ⟨by rw [HA.out.1, HA.out.2]; rfl, rfl⟩

set_option maxHeartbeats 400000 in
theorem refDiv_any (a b : UInt8) (w : World) :
    Calls Try.prog 7 #[.int .u8 (a.toNat : Int), .int .u8 (b.toNat : Int)] w fun e W' => e = .returned (.tuple #[.int .u8 ((divB a b).toNat : Int), .int .i64 (errI b)]) ∧ w = W' := by
  by_cases hb0 : b = 0
  · have h2 : errI b = 13 := by unfold errI; rw [if_pos hb0]
    have HI : Hid (divB a b = 0) := Lib.hid (by unfold divB; rw [if_pos hb0])
    clear hb0
    go_enter Try.func7, Try.ntmps7
    go_wp2_with (go_at_call 5; refine (refInv_any b _).mono ?_; rintro e w' ⟨rfl, rfl⟩)
    go_ret2
    exact ⟨by rw [HI.out, h2]; rfl, rfl⟩
  · have h2 : errI b = 0 := by unfold errI; rw [if_neg hb0]
    have HI : Hid (divB a b = mul a (invB b)) := Lib.hid (by unfold divB invB; rw [if_neg hb0, if_neg hb0])
    clear hb0
    go_enter Try.func7, Try.ntmps7
    go_wp2_with (first
      | (go_at_call 5; refine (refInv_any b _).mono ?_; rintro e w' ⟨rfl, rfl⟩)
      | (go_at_call 12; refine (refMul_any a (invB b) _).mono ?_; rintro e w' ⟨rfl, rfl⟩))
    go_ret2
    exact ⟨by rw [HI.out, h2]; rfl, rfl⟩
theorem pw_next (k : Nat) : pw (k + 1) = mul (pw k) 2 := by rw [Caulk.Gf.mul_two]; exact Caulk.Gf.dblN_succ k 1
set_option maxHeartbeats 1000000 in
theorem refLog_any (a : UInt8) (w : World) :
    Calls Try.prog 9 #[.int .u8 (a.toNat : Int)] w fun e w' => e = .returned (.tuple #[.int .i64 (logI a), .int .i64 (errI a)]) ∧ w = w' := by
  go_enter Try.func9, Try.ntmps9
  go_wp2_with fail
  go_loop [4, 5] (fun x i => ∃ k : Nat, k ≤ 255 ∧ i = .int .i64 k ∧ x = .int .u8 ((pw k).toNat : Int) ∧ ∀ j, j < k → pw j ≠ a) (fun _ i => 255 - (intOf i).toNat)
  case atStart => exact ⟨0, by omega, rfl, rfl, fun j h => by omega⟩
  case round =>
    obtain ⟨k, hk, rfl, rfl, hno⟩ := hrel
    have HNO := Lib.hid hno
    clear hno
    by_cases hlt : k < 255
    · have hd : decide ((k : Int) < 255) = true := by simp; omega
      have HS := Lib.hid (pw_next k)
      by_cases hf : pw k = a
      · have he : (((pw k).toNat : Int) == (a.toNat : Int)) = true := by rw [byte_same, decide_eq_true hf]
        have HL : Hid (logI a = (k : Int) ∧ errI a = 0) := Lib.hid (by
          have ha : a ≠ 0 := by rw [← hf]; exact Caulk.Gf.pw_ne k
          unfold logI errI
          rw [if_neg ha, if_neg ha, ← hf, Caulk.Gf.lg_pw k hlt]; exact ⟨rfl, rfl⟩)
        clear hf
        go_wp2_with fail
        go_ret2
        exact ⟨by rw [HL.out.1, HL.out.2]; rfl, rfl⟩
      · have he : (((pw k).toNat : Int) == (a.toNat : Int)) = false := by rw [byte_same, decide_eq_false hf]
        have HF := Lib.hid hf
        clear hf
        go_wp2_with (go_at_call 12; refine (refMul_any _ 2 _).mono ?_; rintro e w' ⟨rfl, rfl⟩)
        go_round
        case rel =>
          refine ⟨k + 1, by omega, by go_num, by rw [HS.out], fun j h => ?_⟩
          by_cases e : j = k
          · subst e; exact HF.out
          · exact HNO.out j (by omega)
        case measure => simp [intOf]; omega
    · obtain rfl : k = 255 := by omega
      have HL : Hid (logI a = 0 ∧ errI a = 13) := Lib.hid (by
        have ha : a = 0 := by
          by_cases h : a = 0
          · exact h
          · exact absurd (Caulk.Gf.pw_lg a h) (HNO.out _ (Caulk.Gf.lg_lt a h))
        unfold logI errI
        rw [if_pos ha, if_pos ha]; exact ⟨rfl, rfl⟩)
      have hd : decide (((255 : Nat) : Int) < 255) = false := by decide
      go_wp2_with fail
      go_ret2
      exact ⟨by rw [HL.out.1, HL.out.2]; rfl, rfl⟩
set_option maxHeartbeats 1000000 in
theorem refExp_any (n : Int) (hn : (Lit.int .i64 n).wf = true) (w : World) :
    Calls Try.prog 14 #[.int .i64 n] w fun e w' => e = .returned (.int .u8 ((Caulk.Gf.pwI n).toNat : Int)) ∧ w = w' := by
  have hlo : -9223372036854775808 ≤ n := by simp [Lit.wf, IntKind.min, IntKind.max, IntKind.signed, IntKind.bits] at hn; omega
  have hhi : n ≤ 9223372036854775807 := by simp [Lit.wf, IntKind.min, IntKind.max, IntKind.signed, IntKind.bits] at hn; omega
  clear hn
  obtain ⟨m, hm⟩ : ∃ m : Nat, (n % 255).toNat = m := ⟨_, rfl⟩
  have hm255 : m < 255 := by omega
  have HM : Hid (Caulk.Gf.pwI n = pw m) := Lib.hid (by unfold Caulk.Gf.pwI; rw [hm])
  by_cases hneg : n.tmod 255 < 0
  · have hd : decide (n.tmod 255 < 0) = true := by simp; exact hneg
    have he : n.tmod 255 + 255 = (m : Int) := by
      rw [Int.tmod_eq_emod] at hneg ⊢
      split at hneg <;> split <;> omega
    clear hm
    go_enter Try.func14, Try.ntmps14
    go_wp2_with fail
    clear he hd hneg hlo hhi
    go_loop [3, 4] (fun x i => ∃ k : Nat, k ≤ m ∧ i = .int .i64 k ∧ x = .int .u8 ((pw k).toNat : Int)) (fun _ i => m - (intOf i).toNat)
    case atStart => exact ⟨0, by omega, rfl, rfl⟩
    case round =>
      obtain ⟨k, hk, rfl, rfl⟩ := hrel
      by_cases hlt : k < m
      · have HS := Lib.hid (pw_next k)
        go_wp2_with (go_at_call 12; refine (refMul_any _ 2 _).mono ?_; rintro e w' ⟨rfl, rfl⟩)
        go_round
        case rel => exact ⟨k + 1, by omega, by go_num, by rw [HS.out]⟩
        case measure => simp [intOf]; omega
      · obtain rfl : k = m := by omega
        go_wp2_with fail
        go_ret
        exact ⟨ret_int (by rw [HM.out]), rfl⟩
  · have hd : decide (n.tmod 255 < 0) = false := by simp; omega
    have he : n.tmod 255 = (m : Int) := by
      rw [Int.tmod_eq_emod] at hneg ⊢
      split at hneg <;> split <;> omega
    have hnn : (0 : Int) ≤ (m : Int) := by omega
    clear hm hd hneg
    go_enter Try.func14, Try.ntmps14
    go_wp2_with fail
    clear he hlo hhi
    go_loop [3, 4] (fun x i => ∃ k : Nat, k ≤ m ∧ i = .int .i64 k ∧ x = .int .u8 ((pw k).toNat : Int)) (fun _ i => m - (intOf i).toNat)
    case atStart => exact ⟨0, by omega, rfl, rfl⟩
    case round =>
      obtain ⟨k, hk, rfl, rfl⟩ := hrel
      by_cases hlt : k < m
      · have HS := Lib.hid (pw_next k)
        go_wp2_with (go_at_call 12; refine (refMul_any _ 2 _).mono ?_; rintro e w' ⟨rfl, rfl⟩)
        go_round
        case rel => exact ⟨k + 1, by omega, by go_num, by rw [HS.out]⟩
        case measure => simp [intOf]; omega
      · obtain rfl : k = m := by omega
        go_wp2_with fail
        go_ret
        exact ⟨ret_int (by rw [HM.out]), rfl⟩
end Go.Proofs.Ytmjfnnemokmdcaa
