/- The contract of the document's own product. -/
import Derived.Test.YtpldnbfbpajbkaaGfD
import Derived.Test.YtpldnbfbpajbkaaGfMath2
namespace Go.Proofs.Ytpldnbfbpajbkaa
open Go.RowKit
open Caulk.Gf (dbl mul cl rd)

/-- A number's bit, told by 0 and 1. -/
def B1 (b : Bool) : Int := if b then 1 else 0
theorem b1_one (x : Bool) : (B1 x == 1) = x := by cases x <;> rfl
def bitN (b k : Nat) : Bool := b.testBit k
theorem and_bit (b k : Nat) (kd : IntKind) (h : kd = .u8 ∧ b < 256 ∨ kd = .i64 ∧ b < 2 ^ 16) : bits .and kd ((b : Int) / 2 ^ k) 1 = B1 (bitN b k) := by
  have e : (b : Int) / 2 ^ k = ((b / 2 ^ k : Nat) : Int) := by simp
  have h1 : bitN b k = decide (b / 2 ^ k % 2 = 1) := by
    unfold bitN
    rw [Nat.testBit_eq_decide_div_mod_eq]
  have hlt : b / 2 ^ k ≤ b := Nat.div_le_self _ _
  rw [e, h1]
  generalize b / 2 ^ k = q at *
  have hq : q < 2 ^ 16 := by rcases h with ⟨_, h⟩ | ⟨_, h⟩ <;> omega
  have ha : q &&& 1 = q % 2 := Nat.and_one_is_mod q
  have hw : ∀ x : Nat, x < 2 → kd.wrap (x : Int) = (x : Int) := by
    intro x hx
    rcases h with ⟨rfl, _⟩ | ⟨rfl, _⟩
    · rw [IntKind.wrap_u8']; omega
    · rw [IntKind.wrap_i64]; omega
  have hb : bits .and kd (q : Int) 1 = kd.wrap ((q % 2 : Nat) : Int) := by
    show kd.wrap ((BitVec.ofInt kd.bits (q : Int) &&& BitVec.ofInt kd.bits 1).toNat : Int) = _
    congr 2
    rw [BitVec.toNat_and, BitVec.ofInt_natCast, show (1 : Int) = ((1 : Nat) : Int) from rfl, BitVec.ofInt_natCast, BitVec.toNat_ofNat, BitVec.toNat_ofNat, ← ha]
    rcases h with ⟨rfl, h⟩ | ⟨rfl, h⟩
    · rw [Nat.mod_eq_of_lt (show q < 2 ^ IntKind.u8.bits by show q < 256; omega)]; rfl
    · rw [Nat.mod_eq_of_lt (show q < 2 ^ IntKind.i64.bits by show q < 2 ^ 64; omega)]; rfl
  rw [hb, hw _ (Nat.mod_lt _ (by omega))]
  unfold B1
  by_cases h2 : q % 2 = 1
  · simp [h2]
  · have : q % 2 = 0 := by omega
    simp [this]
theorem xor_i64 (p q : Nat) (hp : p < 2 ^ 16) (hq : q < 2 ^ 16) : bits .xor .i64 (p : Int) (q : Int) = ((p ^^^ q : Nat) : Int) := by
  have hx : p ^^^ q < 2 ^ 16 := Nat.xor_lt_two_pow hp hq
  show IntKind.i64.wrap ((BitVec.ofInt 64 (p : Int) ^^^ BitVec.ofInt 64 (q : Int)).toNat : Int) = _
  rw [BitVec.toNat_xor, BitVec.ofInt_natCast, BitVec.ofInt_natCast, BitVec.toNat_ofNat, BitVec.toNat_ofNat, Nat.mod_eq_of_lt (by omega), Nat.mod_eq_of_lt (by omega), IntKind.wrap_i64]
  omega

theorem shl_a (x k : Nat) (hx : x < 256) (hk : k < 8) : wrap64 (wrap64 (x : Int) * 2 ^ k) = ((x <<< k : Nat) : Int) := by
  have h2 : 2 ^ k ≤ 2 ^ 7 := Nat.pow_le_pow_right (by omega) (by omega)
  have h3 : x * 2 ^ k ≤ 255 * 2 ^ 7 := Nat.mul_le_mul (by omega) h2
  have e : (x : Int) * 2 ^ k = ((x * 2 ^ k : Nat) : Int) := by simp
  rw [show wrap64 (x : Int) = (x : Int) by unfold wrap64; omega, e, Nat.shiftLeft_eq]
  unfold wrap64; omega
theorem shl_c (k : Nat) (hk : k < 7) : wrap64 (285 * 2 ^ k) = ((285 <<< k : Nat) : Int) := by
  have : ∀ k : Fin 7, wrap64 (285 * 2 ^ k.val) = ((285 <<< k.val : Nat) : Int) := by decide +kernel
  exact this ⟨k, hk⟩
theorem shl_lt (x k : Nat) (hx : x < 256) (hk : k < 8) : x <<< k < 2 ^ 16 := by
  rw [Nat.shiftLeft_eq]
  have h2 : 2 ^ k ≤ 2 ^ 7 := Nat.pow_le_pow_right (by omega) (by omega)
  have h3 : x * 2 ^ k ≤ 255 * 2 ^ 7 := Nat.mul_le_mul (by omega) h2
  omega
theorem shl_clt (k : Nat) (hk : k < 7) : 285 <<< k < 2 ^ 16 := by
  have : ∀ k : Fin 7, 285 <<< k.val < 2 ^ 16 := by decide
  exact this ⟨k, hk⟩
set_option maxHeartbeats 1000000 in
theorem refMul_any (a b : UInt8) (w : World) :
    Calls Try.prog 38 #[.int .u8 (a.toNat : Int), .int .u8 (b.toNat : Int)] w fun e w' => e = .returned (.int .u8 ((mul a b).toNat : Int)) ∧ w = w' := by
  go_enter Try.func38, Try.ntmps38
  go_wp2
  go_loop [5, 6] (fun x i => ∃ k : Nat, k ≤ 8 ∧ i = .int .i64 k ∧ x = .int .i64 ((cl a.toNat b.toNat k : Nat) : Int)) (fun _ i => 8 - (intOf i).toNat)
  case atStart => exact ⟨0, by omega, rfl, rfl⟩
  case round =>
    obtain ⟨k, hk, rfl, rfl⟩ := hrel
    by_cases hlt : k < 8
    · have hd : decide ((k : Int) < 8) = true := by simp; omega
      have h1 := and_bit b.toNat k .u8 (.inl ⟨rfl, b.toNat_lt⟩)
      have h2 := b1_one
      cases hb : bitN b.toNat k with
      | true =>
        have HB : Hid (cl a.toNat b.toNat (k + 1) = cl a.toNat b.toNat k ^^^ (a.toNat <<< k)) := Lib.hid (by unfold bitN at hb; simp only [cl, hb, if_true])
        have hcl := Caulk.Gf.cl_lt a b k (by omega)
        have HX : Hid (bits .xor .i64 ((cl a.toNat b.toNat k : Nat) : Int) (wrap64 (wrap64 (a.toNat : Int) * 2 ^ k)) = ((cl a.toNat b.toNat (k + 1) : Nat) : Int)) := Lib.hid (by
          rw [shl_a _ _ a.toNat_lt hlt, xor_i64 _ _ hcl (shl_lt _ _ a.toNat_lt hlt), HB.out])
        clear hcl
        go_wp2
        go_round
        case rel => exact ⟨k + 1, by omega, by go_num, by rw [← HX.out]⟩
        case measure => simp [intOf]; omega
      | false =>
        have HB : Hid (cl a.toNat b.toNat (k + 1) = cl a.toNat b.toNat k) := Lib.hid (by unfold bitN at hb; simp only [cl, hb]; simp)
        go_wp2
        go_round
        case rel => exact ⟨k + 1, by omega, by go_num, by rw [HB.out]⟩
        case measure => simp [intOf]; omega
    · obtain rfl : k = 8 := by omega
      have hd : decide (((8 : Nat) : Int) < 8) = false := by decide
      have hcl := Caulk.Gf.cl_lt a b 8 (by omega)
      have HP : Hid (rd (cl a.toNat b.toNat 8) 7 = (mul a b).toNat) := Lib.hid (Caulk.Gf.ref_mul a b)
      go_wp2
      generalize cl a.toNat b.toNat 8 = p at *
      go_loop [5, 7] (fun x i => ∃ m : Nat, 7 ≤ m ∧ m ≤ 14 ∧ i = .int .i64 m ∧ x = .int .i64 ((rd p (14 - m) : Nat) : Int)) (fun _ i => (intOf i).toNat)
      case atStart => exact ⟨14, by omega, by omega, rfl, rfl⟩
      case round =>
        obtain ⟨m, hm1, hm2, rfl, rfl⟩ := hrel
        have hp := Caulk.Gf.rd_lt p hcl (14 - m) (by omega)
        by_cases h8 : 8 ≤ m
        · have hd2 : decide ((8 : Int) ≤ (m : Int)) = true := by simp; omega
          have h1 := and_bit (rd p (14 - m)) m .i64 (.inr ⟨rfl, hp⟩)
          have h2 := b1_one
          cases hb : bitN (rd p (14 - m)) m with
          | true =>
            have HX : Hid (bits .xor .i64 ((rd p (14 - m) : Nat) : Int) (wrap64 (285 * 2 ^ (m - 8))) = ((rd p (14 - (m - 1)) : Nat) : Int)) := Lib.hid (by
              rw [shl_c _ (by omega), xor_i64 _ _ hp (shl_clt _ (by omega)), show 14 - (m - 1) = (14 - m) + 1 by omega]
              unfold bitN at hb
              simp only [rd]
              rw [show 14 - (14 - m) = m by omega, show 6 - (14 - m) = m - 8 by omega, if_pos hb])
            clear hp
            go_wp2
            go_round
            case rel => exact ⟨m - 1, by omega, by omega, by go_num, by rw [← HX.out]⟩
            case measure => simp [intOf]; omega
          | false =>
            have HX : Hid (rd p (14 - m) = rd p (14 - (m - 1))) := Lib.hid (by
              rw [show 14 - (m - 1) = (14 - m) + 1 by omega]
              unfold bitN at hb
              simp only [rd]
              rw [show 14 - (14 - m) = m by omega, if_neg (by rw [hb]; simp)])
            clear hp
            go_wp2
            go_round
            case rel => exact ⟨m - 1, by omega, by omega, by go_num, by rw [HX.out]⟩
            case measure => simp [intOf]; omega
        · obtain rfl : m = 7 := by omega
          have hd2 : decide ((8 : Int) ≤ ((7 : Nat) : Int)) = false := by decide
          have HQ : Hid ((((rd p (14 - 7) : Nat) : Int)) % 256 = ((mul a b).toNat : Int)) := Lib.hid (by
            rw [show 14 - 7 = 7 from rfl, HP.out]; have := (mul a b).toNat_lt; omega)
          go_wp2
          go_ret
          exact ⟨ret_int HQ.out, rfl⟩
end Go.Proofs.Ytpldnbfbpajbkaa
