/- What each law of gf asks first. -/
import Derived.Test.YtmjfnnemokmdcaaGfH
namespace Go.Proofs.Ytmjfnnemokmdcaa
open Go.RowKit
open Caulk.Gf (dbl mul putL scaleL)

set_option maxRecDepth 100000 in
set_option maxHeartbeats 1000000 in
theorem lives2_any (w : World) : Calls Try.prog 10 #[] w fun e w' => e = .returned (.bool true) ∧ Below w.heap.size w w' := by
  have e1 : logI 3 = 25 := by decide +kernel
  have e2 : errI 3 = 0 := by decide +kernel
  have e3 : errI 0 = 13 := by decide +kernel
  have e4 : ((divB 29 2).toNat : Int) = 128 := by decide +kernel
  have e5 : errI 2 = 0 := by decide +kernel
  have e6 : ((mul 2 128).toNat : Int) = 29 := by decide +kernel
  have e7 : ((Caulk.Gf.pwI 25).toNat : Int) = 3 := by decide +kernel
  have e8 : ((Caulk.Gf.pwI (-230)).toNat : Int) = 3 := by decide +kernel
  have e9 : scaleL 2 [128, 1] = [29, 2] := by decide +kernel
  have e10 : putL 2 [1, 2] [128] = [28, 2] := by decide +kernel
  go_enter Try.func10, Try.ntmps10
  go_wp2_with fail
  refine (gfLog_in 3 _).mono ?_
  rintro e w1 ⟨rfl, hb1⟩
  go_wp2_with fail
  refine (gfInv_any 0 _).mono ?_
  rintro e w2 ⟨rfl, hb2⟩
  go_wp2_with fail
  refine (gfDiv_any 29 2 _).mono ?_
  rintro e w3 ⟨rfl, hb3⟩
  go_wp2_with fail
  have hB3 : Below w.heap.size w w3 := (hb1.trans (hb2.mono hb1.size)).trans (hb3.mono (Nat.le_trans hb1.size hb2.size))
  have hrow0 : Row8 (w3.alloc (.cells #[.int .u8 1, .int .u8 2] 5)) w3.heap.size 0 [1, 2] := by
    refine ⟨by rw [World.size_alloc]; exact Nat.lt_succ_self _, fun j hj => ?_⟩
    rw [Nat.zero_add, World.cell?_alloc_at _ _ _ _ rfl, World.frozen?_alloc_at _ _ _ _ rfl]
    simp only [List.length_cons, List.length_nil] at hj
    rcases j with _ | _ | j
    · exact ⟨rfl, rfl⟩
    · exact ⟨rfl, rfl⟩
    · omega
  refine (put_any w3.heap.size 0 2 [1, 2] 2 ⟨#[128]⟩ (by decide) _ hrow0).mono ?_
  rintro e w4 ⟨rfl, hrow, hg⟩
  rw [show (ByteArray.mk #[128]).data.toList = [128] from rfl, e10] at hrow
  have hB4 : Below w.heap.size w w4 := (hB3.alloc hB3.size _).grown hg (by rw [World.size_alloc]; exact Nat.le_succ_of_le hB3.size) (fun k hk => by injection hk with hk; have := hB3.size; omega)
  have hlt : w3.heap.size < w4.heap.size := hrow.1
  generalize w3.heap.size = Bk at *
  clear hrow0 hB3 hb1 hb2 hb3 hg
  have HB4 := Lib.hid hB4
  have HROW := Lib.hid hrow
  clear hB4 hrow
  go_wp2_with fail
  refine (gfMul_any 2 128 _).mono ?_
  rintro e w5 ⟨rfl, rfl⟩
  go_wp2_with fail
  refine (gfExp_in 25 (by decide) _).mono ?_
  rintro e w6 ⟨rfl, hb6⟩
  go_wp2_with fail
  refine (gfExp_in (-230) (by decide) _).mono ?_
  rintro e w7 ⟨rfl, hb7⟩
  go_wp2_with fail
  refine (scale_any 2 ⟨#[128, 1]⟩ (by decide) _).mono ?_
  rintro e w8 ⟨rfl, hb8⟩
  rw [show (ByteArray.mk #[128, 1]).data.toList = [128, 1] from rfl, e9]
  have hrow8 := ((HROW.out.below hb6 hlt).below hb7 (Nat.lt_of_lt_of_le hlt hb6.size)).below hb8 (Nat.lt_of_lt_of_le hlt (Nat.le_trans hb6.size hb7.size))
  have hcv := string_of_row (P := Try.prog) (cap := 2) 2 rfl hrow8 33 9 5 Try.underlying33 Try.underlying5 Try.underlying9
  have hbel : Below w.heap.size w w8 := ((HB4.out.trans (hb6.mono HB4.out.size)).trans (hb7.mono (Nat.le_trans HB4.out.size hb6.size))).trans (hb8.mono (Nat.le_trans HB4.out.size (Nat.le_trans hb6.size hb7.size)))
  clear hb6 hb7 hb8 hrow8
  go_wp2
  go_ret
  exact ⟨rfl, hbel⟩
end Go.Proofs.Ytmjfnnemokmdcaa
