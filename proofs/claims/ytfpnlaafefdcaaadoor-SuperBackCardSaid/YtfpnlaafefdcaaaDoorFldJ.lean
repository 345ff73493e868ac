/- Fields: the contracts of Ptr and GetPtr. -/
import Derived.Test.YtfpnlaafefdcaaaDoorFldI
import Derived.StillTailTactics
import Derived.OwnWalk
namespace Go.Proofs.YtfpnlaafefdcaaaDoor
open Go.RowKit

def ptrK : List Int := [4, 4, 4]
/-- A number as one without a sign. -/
def un (a : Int) : Nat := (a % 18446744073709551616).toNat
theorem un_wrap (a : Int) : IntKind.u64.wrap a = (un a : Int) := by rw [IntKind.wrap_u64]; unfold un; omega
theorem un_lt (a : Int) : un a < 18446744073709551616 := by unfold un; omega
theorem un_pos {a : Int} (h0 : 0 ≤ a) (h1 : a ≤ 9223372036854775807) : (un a : Int) = a := by unfold un; omega
theorem un_neg {a : Int} (h0 : a < 0) (h1 : -9223372036854775808 ≤ a) : 4294967296 ≤ un a := by unfold un; omega
def ptrL (a b : Int) (c : Nat) : List Nat := [un a, un b, c]
def ptrE (a b : Int) (c : Nat) : Int := joinE ptrK (ptrL a b c)
def ptrS (a b : Int) (c : Nat) : List UInt8 := joinS ptrK (ptrL a b c)
theorem put4 (n : Nat) : putE 4 n = if n < 4294967296 then 0 else 1 := by
  unfold putE
  rw [show isW 4 = true by decide, show (256 : Nat) ^ (4 : Int).toNat = 4294967296 by decide]
  simp
theorem ptr_neg {a b : Int} {c : Nat} (h : a < 0 ∨ b < 0) (ha : -9223372036854775808 ≤ a) (hb : -9223372036854775808 ≤ b) : ptrE a b c = 1 ∧ ptrS a b c = [] := by
  have h1 : ptrE a b c = 1 := by
    unfold ptrE joinE
    rw [if_pos (show ptrK.length = (ptrL a b c).length from rfl)]
    unfold ptrK ptrL
    rw [joinP, joinP, put4, put4]
    rcases h with h | h
    · have := un_neg h ha
      rw [if_neg (show ¬ un a < 4294967296 by omega), if_neg (by omega)]
    · have := un_neg h hb
      by_cases g : un a < 4294967296
      · rw [if_pos g, if_pos rfl, if_neg (show ¬ un b < 4294967296 by omega), if_neg (by omega)]
      · rw [if_neg g, if_neg (by omega)]
  refine ⟨h1, ?_⟩
  unfold ptrS joinS
  rw [if_neg (by show ¬ ptrE a b c = 0; omega)]
/-- Three cells that a call just laid. -/
theorem num_three (W W' : World) (t : TypeId) (x y z : Value) (hW : Below (W.heap.size + 1) (W.alloc (.cells #[x, y, z] t)) W') : NumV W' (.slice (some ⟨W.heap.size, 0, none⟩) 3 3) [x, y, z] := by
  have h0 : NumV (W.alloc (.cells #[x, y, z] t)) (.slice (some ⟨W.heap.size, 0, none⟩) 3 3) [x, y, z] := by
    refine ⟨_, 3, rfl, Nat.le_refl _, (by unfold maxLen; omega), .inr ⟨W.heap.size, 0, rfl, by simp, fun j hj => ?_⟩⟩
    rw [Nat.zero_add, cell_of_row _ _ _ _ t (0, 0) (heap_alloc_new W _)]
    simp
  exact h0.below hW (by simp)
set_option maxHeartbeats 1000000 in
theorem fldPtr_any (a b : Int) (c : Nat) (hc : c < 4294967296) (w : World) :
    Calls Tryd.prog 71 #[.agg #[.int .i64 a, .int .i64 b, .int .u32 (c : Int)]] w fun e w' => e = .returned (.tuple #[.string ⟨(ptrS a b c).toArray⟩, .int .i64 (ptrE a b c)]) ∧ Below w.heap.size w w' := by
  have ha := un_wrap a
  have hb := un_wrap b
  have hcw : IntKind.u64.wrap (c : Int) = (c : Int) := by rw [IntKind.wrap_u64]; omega
  have hJ := fldJoin_any ptrK (ptrL a b c) (.slice (some ⟨w.heap.size + 1, 0, none⟩) 3 3) (.slice (some ⟨w.heap.size + 1 + 1, 0, none⟩) 3 3)
    (((w.alloc (.cells #[.int .i64 a, .int .i64 b, .int .u32 (c : Int)] 32)).alloc (.cells #[.int .i64 4, .int .i64 4, .int .i64 4] 3)).alloc (.cells #[.int .u64 (un a : Int), .int .u64 (un b : Int), .int .u64 (c : Int)] 95))
    (by
      have h := num_three (w.alloc (.cells #[.int .i64 a, .int .i64 b, .int .u32 (c : Int)] 32)) _ 3 (.int .i64 4) (.int .i64 4) (.int .i64 4) (((Below.refl _ _).alloc (by simp) (.cells #[.int .u64 (un a : Int), .int .u64 (un b : Int), .int .u64 (c : Int)] 95)))
      rw [World.size_alloc] at h
      exact h)
    (by
      have h := num_three ((w.alloc (.cells #[.int .i64 a, .int .i64 b, .int .u32 (c : Int)] 32)).alloc (.cells #[.int .i64 4, .int .i64 4, .int .i64 4] 3)) _ 95 (.int .u64 (un a : Int)) (.int .u64 (un b : Int)) (.int .u64 (c : Int)) (Below.refl _ _)
      rw [World.size_alloc, World.size_alloc] at h
      exact h) (by decide)
  have HB : Hid (Below w.heap.size w (((w.alloc (.cells #[.int .i64 a, .int .i64 b, .int .u32 (c : Int)] 32)).alloc (.cells #[.int .i64 4, .int .i64 4, .int .i64 4] 3)).alloc (.cells #[.int .u64 (un a : Int), .int .u64 (un b : Int), .int .u64 (c : Int)] 95))) :=
    Lib.hid ((((Below.refl _ _).alloc (Nat.le_refl _) _).alloc (by simp) _).alloc (by simp; omega) _)
  go_enter Tryd.func71, Tryd.ntmps71
  go_wp2_with (go_at_call 69; refine hJ.mono ?_; rintro e w2 ⟨rfl, hb2⟩)
  go_ret2
  exact ⟨rfl, HB.out.trans (hb2.mono HB.out.size)⟩
set_option maxHeartbeats 1000000 in
theorem refPtr_ok (a b : Int) (c : Nat) (hc : c < 4294967296) (h0 : 0 ≤ a) (h1 : 0 ≤ b) (w : World) :
    Calls Tryd.prog 53 #[.agg #[.int .i64 a, .int .i64 b, .int .u32 (c : Int)]] w fun e w' => e = .returned (.tuple #[.string ⟨(ptrS a b c).toArray⟩, .int .i64 (ptrE a b c)]) ∧ Below w.heap.size w w' := by
  have ha := un_wrap a
  have hb := un_wrap b
  have hcw : IntKind.u64.wrap (c : Int) = (c : Int) := by rw [IntKind.wrap_u64]; omega
  have hJ := refJoin_any ptrK (ptrL a b c) (.slice (some ⟨w.heap.size + 1, 0, none⟩) 3 3) (.slice (some ⟨w.heap.size + 1 + 1, 0, none⟩) 3 3)
    (((w.alloc (.cells #[.int .i64 a, .int .i64 b, .int .u32 (c : Int)] 32)).alloc (.cells #[.int .i64 4, .int .i64 4, .int .i64 4] 3)).alloc (.cells #[.int .u64 (un a : Int), .int .u64 (un b : Int), .int .u64 (c : Int)] 95))
    (by
      have h := num_three (w.alloc (.cells #[.int .i64 a, .int .i64 b, .int .u32 (c : Int)] 32)) _ 3 (.int .i64 4) (.int .i64 4) (.int .i64 4) (((Below.refl _ _).alloc (by simp) (.cells #[.int .u64 (un a : Int), .int .u64 (un b : Int), .int .u64 (c : Int)] 95)))
      rw [World.size_alloc] at h
      exact h)
    (by
      have h := num_three ((w.alloc (.cells #[.int .i64 a, .int .i64 b, .int .u32 (c : Int)] 32)).alloc (.cells #[.int .i64 4, .int .i64 4, .int .i64 4] 3)) _ 95 (.int .u64 (un a : Int)) (.int .u64 (un b : Int)) (.int .u64 (c : Int)) (Below.refl _ _)
      rw [World.size_alloc, World.size_alloc] at h
      exact h) (by decide) (by unfold ptrL; intro n hn; simp only [List.mem_cons, List.not_mem_nil, or_false] at hn; rcases hn with rfl | rfl | rfl; exact un_lt a; exact un_lt b; omega)
  have HB : Hid (Below w.heap.size w (((w.alloc (.cells #[.int .i64 a, .int .i64 b, .int .u32 (c : Int)] 32)).alloc (.cells #[.int .i64 4, .int .i64 4, .int .i64 4] 3)).alloc (.cells #[.int .u64 (un a : Int), .int .u64 (un b : Int), .int .u64 (c : Int)] 95))) :=
    Lib.hid ((((Below.refl _ _).alloc (Nat.le_refl _) _).alloc (by simp) _).alloc (by simp; omega) _)
  have d0 : decide (a < 0) = false := decide_eq_false (by omega)
  have d1 : decide (b < 0) = false := decide_eq_false (by omega)
  clear h0 h1
  go_enter Tryd.func53, Tryd.ntmps53
  go_wp2_with (go_at_call 73; refine hJ.mono ?_; rintro e w2 ⟨rfl, hb2⟩)
  go_ret2
  exact ⟨rfl, HB.out.trans (hb2.mono HB.out.size)⟩
set_option maxHeartbeats 1000000 in
theorem refPtr_any (a b : Int) (c : Nat) (hc : c < 4294967296) (ha : -9223372036854775808 ≤ a) (hb : -9223372036854775808 ≤ b) (w : World) :
    Calls Tryd.prog 53 #[.agg #[.int .i64 a, .int .i64 b, .int .u32 (c : Int)]] w fun e w' => e = .returned (.tuple #[.string ⟨(ptrS a b c).toArray⟩, .int .i64 (ptrE a b c)]) ∧ Below w.heap.size w w' := by
  by_cases h0 : a < 0
  · obtain ⟨e1, e2⟩ := ptr_neg (b := b) (c := c) (.inl h0) ha hb
    rw [e1, e2]
    have d0 : decide (a < 0) = true := decide_eq_true h0
    clear e1 e2 h0 ha hb
    go_enter Tryd.func53, Tryd.ntmps53
    go_wp2
    go_ret2
    exact ⟨rfl, (Below.refl _ _).alloc (Nat.le_refl _) _⟩
  · by_cases h1 : b < 0
    · obtain ⟨e1, e2⟩ := ptr_neg (a := a) (c := c) (.inr h1) ha hb
      rw [e1, e2]
      have d0 : decide (a < 0) = false := decide_eq_false h0
      have d1 : decide (b < 0) = true := decide_eq_true h1
      clear e1 e2 h0 h1 ha hb
      go_enter Tryd.func53, Tryd.ntmps53
      go_wp2
      go_ret2
      exact ⟨rfl, (Below.refl _ _).alloc (Nat.le_refl _) _⟩
    · exact refPtr_ok a b c hc (by omega) (by omega) w
/-! ### GetPtr -/
def getA (s : List UInt8) (j : Nat) : Nat := (allV s ptrK).getD j 0
def getPE (s : List UInt8) : Int := allE s ptrK
def getPV (s : List UInt8) : Value := .agg #[.int .i64 (getA s 0 : Int), .int .i64 (getA s 1 : Int), .int .u32 (getA s 2 : Int)]
theorem getA_ok {s : List UInt8} (h : getPE s = 0) : allV s ptrK = [getA s 0, getA s 1, getA s 2] ∧ getA s 0 < 4294967296 ∧ getA s 1 < 4294967296 ∧ getA s 2 < 4294967296 := by
  have e : allV s ptrK = allL s ptrK := if_pos h
  have h4 : ∀ t, getN 4 t < 4294967296 := fun t => by
    unfold getN
    split
    · rename_i g
      have h1 := leN_lt (t.take (4 : Int).toNat)
      rw [List.length_take, Nat.min_eq_left g.2] at h1
      exact h1
    · omega
  unfold getA
  rw [e]
  unfold ptrK
  simp only [allL, List.getD_cons_zero, List.getD_cons_succ]
  exact ⟨trivial, h4 _, h4 _, h4 _⟩
theorem getA_no {s : List UInt8} (h : getPE s ≠ 0) (j : Nat) : getA s j = 0 := by
  have e : allV s ptrK = [] := if_neg h
  unfold getA; rw [e]; simp
theorem own_three {w : World} {base : Nat} {v : Value} {x y z : Nat} (h : OwnN w base v [x, y, z]) : ∃ b off cap, v = .slice (some ⟨b, off, none⟩) 3 cap ∧ 3 ≤ cap ∧ w.cell? ⟨b, off, none⟩ = some (.int .u64 (x : Int)) ∧ w.cell? ⟨b, off + 1, none⟩ = some (.int .u64 (y : Int)) ∧ w.cell? ⟨b, off + 2, none⟩ = some (.int .u64 (z : Int)) := by
  obtain ⟨A, cap, hv, h1, _, h3⟩ := h.num
  obtain ⟨b, off, rfl, _, hc⟩ := h3.resolve_left (by simp [u64s])
  refine ⟨b, off, cap, hv, h1, hc 0 (by simp [u64s]), hc 1 (by simp [u64s]), hc 2 (by simp [u64s])⟩
end Go.Proofs.YtfpnlaafefdcaaaDoor
