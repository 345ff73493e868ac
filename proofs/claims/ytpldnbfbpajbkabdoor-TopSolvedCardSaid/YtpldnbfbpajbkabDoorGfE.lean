/- The contracts of gf.multiples and gf.halves. -/
import Derived.Test.YtpldnbfbpajbkabDoorGfD
namespace Go.Proofs.YtpldnbfbpajbkabDoor
open Go.RowKit
open Caulk.Gf (dbl mul)

/-- Two bytes, put together: a word that the walk does not open. -/
def bxor (a b : UInt8) : UInt8 := a ^^^ b
theorem u8_bxor (a b : UInt8) : bits .xor .u8 (a.toNat : Int) (b.toNat : Int) = ((bxor a b).toNat : Int) := u8_xorb a b
theorem xor_noneL (b : UInt8) : bits .xor .u8 0 (b.toNat : Int) = (b.toNat : Int) := by revert b; apply Caulk.Gf.bytes_all; decide +kernel
theorem double_zero (w : World) : Calls Tryd.prog 37 #[.int .u8 0] w fun e w' => e = .returned (.int .u8 0) ∧ w = w' := double_any 0 w
/-- A byte's products with 0 to 15. -/
def mulRow (c : UInt8) : Array Value := #[.int .u8 0, .int .u8 (c.toNat : Int), .int .u8 ((dbl c).toNat : Int), .int .u8 ((bxor (dbl c) c).toNat : Int),
  .int .u8 ((dbl (dbl c)).toNat : Int), .int .u8 ((bxor (dbl (dbl c)) c).toNat : Int), .int .u8 ((dbl (bxor (dbl c) c)).toNat : Int), .int .u8 ((bxor (dbl (bxor (dbl c) c)) c).toNat : Int),
  .int .u8 ((dbl (dbl (dbl c))).toNat : Int), .int .u8 ((bxor (dbl (dbl (dbl c))) c).toNat : Int), .int .u8 ((dbl (bxor (dbl (dbl c)) c)).toNat : Int), .int .u8 ((bxor (dbl (bxor (dbl (dbl c)) c)) c).toNat : Int),
  .int .u8 ((dbl (dbl (bxor (dbl c) c))).toNat : Int), .int .u8 ((bxor (dbl (dbl (bxor (dbl c) c))) c).toNat : Int), .int .u8 ((dbl (bxor (dbl (bxor (dbl c) c)) c)).toNat : Int), .int .u8 ((bxor (dbl (bxor (dbl (bxor (dbl c) c)) c)) c).toNat : Int)]
theorem mulRow_at (c : UInt8) (i : Nat) (h : i < 16) : (mulRow c)[i]? = some (.int .u8 ((mul c (UInt8.ofNat i)).toNat : Int)) := by
  have h1 : ∀ c : UInt8, dbl c = mul c 2 ∧ bxor (dbl c) c = mul c 3 ∧ dbl (dbl c) = mul c 4 ∧ bxor (dbl (dbl c)) c = mul c 5 ∧ dbl (bxor (dbl c) c) = mul c 6 ∧ bxor (dbl (bxor (dbl c) c)) c = mul c 7 ∧
      dbl (dbl (dbl c)) = mul c 8 ∧ bxor (dbl (dbl (dbl c))) c = mul c 9 ∧ dbl (bxor (dbl (dbl c)) c) = mul c 10 ∧ bxor (dbl (bxor (dbl (dbl c)) c)) c = mul c 11 ∧ dbl (dbl (bxor (dbl c) c)) = mul c 12 ∧
      bxor (dbl (dbl (bxor (dbl c) c))) c = mul c 13 ∧ dbl (bxor (dbl (bxor (dbl c) c)) c) = mul c 14 ∧ bxor (dbl (bxor (dbl (bxor (dbl c) c)) c)) c = mul c 15 ∧ mul c 1 = c := by
    apply Caulk.Gf.bytes_all; decide +kernel
  obtain ⟨e2, e3, e4, e5, e6, e7, e8, e9, e10, e11, e12, e13, e14, e15, e1⟩ := h1 c
  have h0 : mul c 0 = 0 := Caulk.Gf.mul_zeroR c
  have hh : i = 0 ∨ i = 1 ∨ i = 2 ∨ i = 3 ∨ i = 4 ∨ i = 5 ∨ i = 6 ∨ i = 7 ∨ i = 8 ∨ i = 9 ∨ i = 10 ∨ i = 11 ∨ i = 12 ∨ i = 13 ∨ i = 14 ∨ i = 15 := by omega
  rcases hh with rfl | rfl | rfl | rfl | rfl | rfl | rfl | rfl | rfl | rfl | rfl | rfl | rfl | rfl | rfl | rfl
  · show some (Value.int .u8 0) = some (.int .u8 ((mul c 0).toNat : Int)); rw [h0]; rfl
  · show _ = some (Value.int .u8 ((mul c 1).toNat : Int)); rw [e1]; rfl
  · show _ = some (Value.int .u8 ((mul c 2).toNat : Int)); rw [← e2]; rfl
  · show _ = some (Value.int .u8 ((mul c 3).toNat : Int)); rw [← e3]; rfl
  · show _ = some (Value.int .u8 ((mul c 4).toNat : Int)); rw [← e4]; rfl
  · show _ = some (Value.int .u8 ((mul c 5).toNat : Int)); rw [← e5]; rfl
  · show _ = some (Value.int .u8 ((mul c 6).toNat : Int)); rw [← e6]; rfl
  · show _ = some (Value.int .u8 ((mul c 7).toNat : Int)); rw [← e7]; rfl
  · show _ = some (Value.int .u8 ((mul c 8).toNat : Int)); rw [← e8]; rfl
  · show _ = some (Value.int .u8 ((mul c 9).toNat : Int)); rw [← e9]; rfl
  · show _ = some (Value.int .u8 ((mul c 10).toNat : Int)); rw [← e10]; rfl
  · show _ = some (Value.int .u8 ((mul c 11).toNat : Int)); rw [← e11]; rfl
  · show _ = some (Value.int .u8 ((mul c 12).toNat : Int)); rw [← e12]; rfl
  · show _ = some (Value.int .u8 ((mul c 13).toNat : Int)); rw [← e13]; rfl
  · show _ = some (Value.int .u8 ((mul c 14).toNat : Int)); rw [← e14]; rfl
  · show _ = some (Value.int .u8 ((mul c 15).toNat : Int)); rw [← e15]; rfl

set_option maxRecDepth 100000 in
set_option maxHeartbeats 2000000 in
theorem multiples_any (c : UInt8) (w : World) :
    Calls Tryd.prog 34 #[.int .u8 (c.toNat : Int)] w fun e w' => e = .returned (.agg (mulRow c)) ∧ Below w.heap.size w w' := by
  have h1 := u8_bxor
  have h2 := xor_none
  have h3 := xor_noneL
  have h4 := c.toNat_lt
  have h5 : bits .xor .u8 0 0 = 0 := by decide
  go_enter Tryd.func34, Tryd.ntmps34
  go_wp2
  refine wp_loop_rounds 17 ?_
  repeat any_goals (rw [rounds_succ]; go_wp2_with (first | (go_at_call 37; (with_reducible refine (double_zero _).mono ?_); rintro e w' ⟨rfl, rfl⟩) | (go_at_call 37; (with_reducible refine (double_any _ _).mono ?_); rintro e w' ⟨rfl, rfl⟩)))
  exact bodyPost_ret (v := .agg (mulRow c)) (by simp [results, Tryd.results34, go_sem, mulRow]) rfl ⟨rfl, by go_grown⟩
end Go.Proofs.YtpldnbfbpajbkabDoor
