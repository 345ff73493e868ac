/- The contracts of matrix.blank and caulkref03.zero. -/
import Derived.Test.YtpldnbfbpajbkabDoorMatA
namespace Go.Proofs.YtpldnbfbpajbkabDoor
open Go.RowKit
open Caulk.Lin (Fn2)

theorem infoRow : (Tryd.prog.info? 40).map (fun i => (i.zero, i.size, i.bytes)) = some (some (.slice none 0 0), 1, 24) := by kernel_rfl
/-- A grid is answered. -/
def GotGrid (w : World) (r k : Nat) (f : Fn2) (e : Ending) (w' : World) : Prop := ∃ v, e = .returned v ∧ Grid w' w.heap.size v r k f ∧ Below w.heap.size w w'
/-- A grid is answered, and no error. -/
def GotGridOK (w : World) (r k : Nat) (f : Fn2) (e : Ending) (w' : World) : Prop := ∃ v, e = .returned (.tuple #[v, .int .i64 0]) ∧ Grid w' w.heap.size v r k f ∧ Below w.heap.size w w'

theorem rowL_zero (k : Nat) : rowL k (fun _ => 0) = List.replicate k 0 := by
  apply list_ext (by rw [rowL_len, List.length_replicate])
  intro j hj
  rw [rowL_len] at hj
  rw [rowL_getD _ hj]; simp [List.getD, hj]
theorem row8_part {w : World} {b n : Nat} (h : Row8 w b 0 (List.replicate n 0)) (o k : Nat) (hk : o + k ≤ n) : Row8 w b o (rowL k (fun _ => 0)) := by
  refine ⟨h.1, fun j hj => ?_⟩
  rw [rowL_len] at hj
  have := h.2 (o + j) (by rw [List.length_replicate]; omega)
  rw [Nat.zero_add] at this
  rw [rowL_getD _ hj]
  refine ⟨this.1.trans ?_, this.2⟩
  rw [List.getD, List.getElem?_replicate, if_pos (by omega)]; rfl
/-- What blank has laid: k heads of r. -/
def heads (W c k : Nat) (i : Nat) : Value := if i < k then .slice (some ⟨W, i * c, none⟩) c c else .slice none 0 0
theorem blank_grid {w : World} {B W r c : Nat} (hB : B ≤ W) (hr : r ≤ 255) (hc : c ≤ 510) (h1 : w.rowIs (W + 1) 40 r (heads W c r)) (h2 : Row8 w W 0 (List.replicate (r * c) 0)) :
    Grid w B (.slice (some ⟨W + 1, 0, none⟩) r r) r c (fun _ _ => 0) := by
  refine ⟨W + 1, r, _, rfl, by omega, h1, Nat.le_refl _, by unfold maxLen; omega, fun i => (W, i * c, c), fun i hi => ?_, fun i j hi hj hne => ?_⟩
  · refine ⟨by unfold heads; rw [if_pos hi], hB, by show W ≠ W + 1; omega, Nat.le_refl _, by unfold maxLen; show c ≤ _; omega, row8_part h2 _ _ ?_⟩
    show i * c + c ≤ r * c
    rw [← Nat.succ_mul]; exact Nat.mul_le_mul_right _ hi
  · right
    show i * c + c ≤ j * c ∨ j * c + c ≤ i * c
    rcases Nat.lt_or_gt_of_ne hne with h | h
    · left; rw [← Nat.succ_mul]; exact Nat.mul_le_mul_right _ h
    · right; rw [← Nat.succ_mul]; exact Nat.mul_le_mul_right _ h
theorem mul_le (i r c : Nat) (hi : i ≤ r) (hr : r ≤ 255) (hc : c ≤ 510) : i * c ≤ r * c ∧ r * c ≤ 130050 :=
  ⟨Nat.mul_le_mul_right _ hi, Nat.le_trans (Nat.mul_le_mul_right _ hr) (Nat.mul_le_mul_left 255 hc)⟩

set_option maxHeartbeats 1000000 in
theorem blank_any (r c : Nat) (hr : r ≤ 255) (hc1 : 1 ≤ c) (hc : c ≤ 510) (w : World) :
    Calls Tryd.prog 18 #[.int .i64 (r : Int), .int .i64 (c : Int)] w (GotGrid w r c (fun _ _ => 0)) := by
  obtain ⟨n, hnn⟩ : ∃ n, n = r * c := ⟨_, rfl⟩
  have hn : n ≤ 130050 := by rw [hnn]; exact (mul_le r r c (Nat.le_refl _) hr hc).2
  have hmul : (r : Int) * (c : Int) = (n : Int) := by rw [hnn, Int.natCast_mul]
  have HN := Lib.hid hnn
  clear hnn
  have hmk1 := run_make_row' (P := Tryd.prog) 40 5 (.int .u8 0) 1 Tryd.underlying40 infoU8 rfl .i64 .i64 n (by omega) (by omega)
  have hmk2 := run_make_row' (P := Tryd.prog) 29 40 (.slice none 0 0) 24 Tryd.underlying29 infoRow rfl .i64 .i64 r (by omega) (by omega)
  have hr1 : Row8 ((w.alloc (.cells (madeCells #[.int .u8 0] n) 5)).alloc (.cells (madeCells #[.slice none 0 0] r) 40)) w.heap.size 0 (List.replicate n 0) := (row_made w n 5).alloc _
  have hr2 : ((w.alloc (.cells (madeCells #[.int .u8 0] n) 5)).alloc (.cells (madeCells #[.slice none 0 0] r) 40)).rowIs (w.heap.size + 1) 40 r (heads w.heap.size c 0) := by
    have := World.rowIs_made (w.alloc (.cells (madeCells #[.int .u8 0] n) 5)) (.slice none 0 0) r 40
    rw [World.size_alloc] at this
    exact this.congr (fun i _ => by unfold heads; rw [if_neg (by omega)])
  have hb : Below w.heap.size w ((w.alloc (.cells (madeCells #[.int .u8 0] n) 5)).alloc (.cells (madeCells #[.slice none 0 0] r) 40)) := ((Below.refl _ w).alloc (Nat.le_refl _) _).alloc (by simp) _
  have H1 := Lib.hid hr1
  have H2 := Lib.hid hr2
  have HB := Lib.hid hb
  clear hr1 hr2 hb
  go_enter Tryd.func18, Tryd.ntmps18
  go_wp2
  go_loopw [18] (fun i wr => ∃ k : Nat, k ≤ r ∧ i = .int .i64 k ∧ wr.rowIs (w.heap.size + 1) 40 r (heads w.heap.size c k) ∧ Row8 wr w.heap.size 0 (List.replicate n 0) ∧ Below w.heap.size w wr) (fun i _ => r - (intOf i).toNat)
  case atStart => exact ⟨0, by omega, rfl, H2.out, H1.out, HB.out⟩
  case round =>
    clear hmk1 hmk2 H1 H2 HB
    obtain ⟨k, hk, rfl, hrow, hbytes, hbel⟩ := hrel
    have HR := Lib.hid hrow
    have HBY := Lib.hid hbytes
    have HB := Lib.hid hbel
    clear hbytes hbel
    by_cases hlt : k < r
    · obtain ⟨p, hp⟩ : ∃ p, p = k * c := ⟨_, rfl⟩
      obtain ⟨q, hq⟩ : ∃ q, q = (k + 1) * c := ⟨_, rfl⟩
      have hm1 : (k : Int) * (c : Int) = (p : Int) := by rw [hp, Int.natCast_mul]
      have hm2 : ((k : Int) + 1) * (c : Int) = (q : Int) := by rw [hq, Int.natCast_mul]; rfl
      have hpq : p + c = q := by rw [hp, hq, Nat.succ_mul]
      have hqn : q ≤ n := by rw [hq, HN.out]; exact Nat.mul_le_mul_right _ hlt
      have hcell := hrow.cell (i := k) hlt
      have hfro := hrow.frozen k
      have HP := Lib.hid hp
      clear hp hq hrow
      go_wp2
      go_roundw
      case rel =>
        refine ⟨k + 1, by omega, by go_num, ?_, ?_, ?_⟩
        · exact (HR.out.set k _).congr (fun i hi => by
            unfold heads
            rw [show q - p = c by omega, HP.out]
            by_cases e : i = k
            · subst e; rw [if_pos rfl, if_pos (by omega)]
            · rw [if_neg e]
              by_cases e2 : i < k
              · rw [if_pos e2, if_pos (by omega)]
              · rw [if_neg e2, if_neg (by omega)])
        · exact HBY.out.other (a := ⟨w.heap.size + 1, k, none⟩) (by simp) _
        · exact HB.out.setCell (p := ⟨w.heap.size + 1, k, none⟩) (by simp) _
      case measure => simp [intOf]; omega
    · obtain rfl : k = r := by omega
      clear hrow
      go_wp2
      go_ret
      exact ⟨_, rfl, blank_grid (Nat.le_refl _) hr hc HR.out (by rw [← HN.out]; exact HBY.out), HB.out⟩
end Go.Proofs.YtpldnbfbpajbkabDoor
