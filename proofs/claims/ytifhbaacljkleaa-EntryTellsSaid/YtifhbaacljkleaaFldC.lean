/- Fields: the contract of the document's own Put. -/
import Derived.Test.YtifhbaacljkleaaFldB
import Derived.Laws.AppendOwn
import Derived.Laws.AppendOwnNone
import Derived.OwnWalk
import Derived.Maps.AppendAt
namespace Go.Proofs.Ytifhbaacljkleaa
open Go.RowKit

theorem u8_rem (m : Nat) : (m : Int) % 256 = ((UInt8.ofNat m).toNat : Int) := by
  rw [UInt8.toNat_ofNat']; simp
theorem ownB_len {w : World} {B : Nat} {v : Value} {l : List UInt8} (h : OwnB w B v l) (n : Nat) (hn : n = l.length) : w.ownsRow B 5 1 v n (U8s l) := by subst hn; exact h
set_option maxHeartbeats 1000000 in
theorem refPut_loop (K n : Nat) (hK : 1 ≤ K ∧ K ≤ 8) (hW : isW (K : Int) = true) (hn : n < 18446744073709551616) (w : World) (r : Value) (hr : r = if n < 256 ^ K then .tuple #[.string ⟨(leB K n).toArray⟩, .int .i64 0] else .tuple #[.string ⟨#[]⟩, .int .i64 1]) :
    Calls Try.prog 60 #[.int .i64 (K : Int), .int .u64 (n : Int)] w fun e w' => e = .returned r ∧ Below w.heap.size w w' := by
  have HR := Lib.hid hr
  clear hr
  have HN := Lib.hid hn
  clear hn
  have hI := refIsW_any (K : Int)
  rw [hW] at hI
  obtain ⟨hK1, hK8⟩ := hK
  obtain ⟨i0, hi, hz0, hz1, hz2⟩ := info_parts infoU8
  clear hW
  go_enter Try.func60, Try.ntmps60
  go_wp2_with (go_at_call 76; refine (hI _).mono ?_; rintro e w' ⟨rfl, rfl⟩)
  clear hI
  go_loopw [1, 6, 7] (fun nn z ix wr => ∃ (j : Nat) (v : Value) (m : Nat), j ≤ K ∧ ix = .int .i64 (j : Int) ∧ nn = .int .u64 (m : Int) ∧ m = n / 256 ^ j ∧ v = z ∧ OwnB wr w.heap.size v (leB j n) ∧ Below w.heap.size w wr) (fun _ _ ix _ => K - (intOf ix).toNat)
  case atStart => exact ⟨0, .slice none 0 0, n, Nat.zero_le _, rfl, rfl, by simp, rfl, World.ownsRow_nil _ _ _ _, Below.refl _ _⟩
  case round =>
    obtain ⟨j, v, m, hj, rfl, rfl, hm, rfl, hown, hB⟩ := hrel
    by_cases hlt : j < K
    · obtain ⟨y, hy⟩ : ∃ y : UInt8, y = UInt8.ofNat m := ⟨_, rfl⟩
      have hx := u8_rem m
      rw [← hy] at hx
      have HY := Lib.hid hy
      clear hy
      have HO := Lib.hid (World.ownsRow.alloc (ownB_len hown j (leB_len j n).symm) (.cells #[.int .u8 (y.toNat : Int)] 5))
      have HOO := Lib.hid hown
      have hw : IntKind.u64.wrap ((m : Int) / 256) = (m : Int) / 256 := by
        have h1 : m ≤ n := by rw [hm]; exact Nat.div_le_self _ _
        have := HN.out
        rw [IntKind.wrap_u64]; omega
      have HM := Lib.hid hm
      have HB := Lib.hid hB
      clear hown hm hB
      go_wp2_with (at_builtin; (with_reducible refine wpList_append_own_at _ ?g0 (.tmp 16) (.tmp 20) 75 ?g1 w.heap.size 5 i0 (.int .u8 0) 1 1 Try.underlying75 hi hz0 hz1 hz2 ?g2 (by decide) v j (U8s (leB j n)) ?g3 HO.out ⟨wr.heap.size, 0, none⟩ 1 1 [.int .u8 (y.toNat : Int)] ?g4 ?g5 ?c1 ?c2 ?c3 ?c4 ?c5 ?_); (case g0 => rfl); (case g1 => rfl); (case g2 => rfl); (case g3 => rfl); (case g4 => rfl); (case g5 => rfl); (case c1 => exact cell_one_new _ _ _); (case c2 => simp [Value.oneCell']); (case c3 => unfold maxLen; omega); (case c4 => omega); (case c5 => rw [World.size_alloc]; exact Nat.le_succ_of_le HB.out.size); (intro v' w1 hown1 hgrow _ _))
      have hB1 : Below w.heap.size w w1 := (HB.out.alloc HB.out.size _).grown hgrow (by rw [World.size_alloc]; exact Nat.le_succ_of_le HB.out.size) (fun g hg => (World.ownsRow.lt HOO.out g hg).1)
      go_roundw
      case rel =>
        refine ⟨j + 1, v', m / 256, by omega, by go_num, by go_num, by rw [HM.out, Nat.div_div_eq_div_mul, Nat.pow_succ], rfl, ?_, hB1⟩
        unfold OwnB
        rw [leB_snoc, ← HM.out, ← HY.out, List.length_append, leB_len, U8s, List.map_append]
        exact hown1
      case measure => simp [intOf]; omega
    · obtain rfl : j = K := by omega
      have hcv := own_string (base := w.heap.size) (P := Try.prog) hown Try.underlying75 Try.underlying5 Try.underlying9 (src := 75) (dst := 9)
      have HB := Lib.hid hB
      clear hown hB
      by_cases h0 : n < 256 ^ j
      · have hr := Lib.hid (HR.out.trans (if_pos h0))
        have h1 : m = 0 := by rw [hm]; exact Nat.div_eq_of_lt h0
        have d0 : decide (0 < m) = false := decide_eq_false (by omega)
        clear hm h1
        go_wp2
        go_ret2
        exact ⟨by rw [hr.out]; rfl, HB.out⟩
      · have hr := Lib.hid (HR.out.trans (if_neg h0))
        have : 0 < m := by rw [hm]; exact Nat.div_pos (by omega) (Nat.pow_pos (by omega))
        have d0 : decide (0 < m) = true := decide_eq_true (by omega)
        clear hm this hcv
        go_wp2
        go_ret2
        exact ⟨by rw [hr.out]; rfl, HB.out⟩
set_option maxHeartbeats 1000000 in
theorem refPut_no1 (k : Int) (n : Nat) (hW : isW k = false) (w : World) :
    Calls Try.prog 60 #[.int .i64 k, .int .u64 (n : Int)] w fun e w' => e = .returned (.tuple #[.string ⟨#[]⟩, .int .i64 1]) ∧ Below w.heap.size w w' := by
  have hI := refIsW_any k
  rw [hW] at hI
  clear hW
  go_enter Try.func60, Try.ntmps60
  go_wp2_with (go_at_call 76; refine (hI _).mono ?_; rintro e w' ⟨rfl, rfl⟩)
  go_ret2
  exact ⟨rfl, Below.refl _ _⟩
theorem refPut_any (k : Int) (n : Nat) (hn : n < 18446744073709551616) (w : World) :
    Calls Try.prog 60 #[.int .i64 k, .int .u64 (n : Int)] w fun e w' => e = .returned (.tuple #[.string ⟨(putS k n).toArray⟩, .int .i64 (putE k n)]) ∧ Below w.heap.size w w' := by
  unfold putS putE
  by_cases hW : isW k = true
  · have h8 := isW_le hW
    obtain ⟨K, rfl⟩ : ∃ K : Nat, k = (K : Int) := ⟨k.toNat, by omega⟩
    rw [Int.toNat_natCast]
    have h := refPut_loop K n (by omega) hW hn w _ rfl
    by_cases hq : n < 256 ^ K
    · rw [if_pos ⟨hW, hq⟩, if_pos ⟨hW, hq⟩]; rw [if_pos hq] at h; exact h
    · rw [if_neg (fun h => hq h.2), if_neg (fun h => hq h.2)]; rw [if_neg hq] at h; exact h
  · rw [if_neg (fun h => hW h.1), if_neg (fun h => hW h.1)]; exact refPut_no1 k n (by simpa using hW) w
end Go.Proofs.Ytifhbaacljkleaa
