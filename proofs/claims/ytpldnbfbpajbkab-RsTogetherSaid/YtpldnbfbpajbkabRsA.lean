/- The contracts of rs.stripe and rs.weave. -/
import Derived.Test.YtpldnbfbpajbkabStrs
import Derived.Test.YtpldnbfbpajbkabLawA0
import Derived.Test.YtpldnbfbpajbkabGfK
import Derived.Test.YtpldnbfbpajbkabCau2
namespace Go.Proofs.Ytpldnbfbpajbkab
open Go.RowKit
open Caulk.Lin (Fn2 sx stack)
open Caulk.Gf (mul putL)

theorem stack_unit {k i j : Nat} (hi : i < k) : stack k i j = unitF i j := by unfold stack unitF; rw [if_pos hi]
theorem stack_cau {k i j : Nat} (hj : j < k) (hi : k + i < 256) : stack k (k + i) j = cauF k i j := by
  unfold stack cauF
  rw [if_neg (by omega)]
  have := cauX_ne (k := k) (i := i) hj hi
  unfold invB
  rw [if_neg this]; rfl
/-- A slice of heads that is owned, read as rows. -/
theorem own_mat {w : World} {B n : Nat} {v : Value} {xs : List Value} {M : List (List UInt8)} (h : w.ownsRow B 38 1 v n xs) (hl : M.length = n) (hr : ∀ i, i < M.length → ∃ u, xs[i]? = some u ∧ RowV w w.heap.size u (M.getD i [])) : MatS w v M := by
  rcases h.2 with ⟨rfl, e⟩ | ⟨g, cap, cur, rfl, hb, hh, hn, hm, hs, ht⟩
  · obtain rfl : M = [] := List.eq_nil_of_length_eq_zero (by omega)
    exact matV_nil _ _
  · subst hl
    refine ⟨_, cap, rfl, by simp, hn, hm, .inr ⟨g, 0, rfl, (Array.getElem?_eq_some_iff.1 hh).1, fun i hi => ?_⟩⟩
    obtain ⟨u, hu, hru⟩ := hr i hi
    refine ⟨u, ?_, hru⟩
    have := World.ownsRow.cells h (g := g) rfl i u hu
    rwa [show (⟨g, 0, none⟩ : Addr).add i = ⟨g, 0 + i, none⟩ by unfold Addr.add; split <;> simp_all] at this
/-- The unit's rows with parity's behind them. -/
theorem stack_mat {w1 w2 w3 : World} {B k m : Nat} {v v2 v' : Value} {pl pl2 : Nat → Nat × Nat × Nat} (hkm : k + m ≤ 255) (h1 : GridP w1 B v k k unitF pl) (hb : Below w1.heap.size w1 w2) (h2 : GridP w2 w1.heap.size v2 m k (cauF k) pl2)
    (hg : w2.grownBy w3 v.ownBlock) (ho : w3.ownsRow B 38 1 v' (k + m) (hdL k k pl ++ hdL m k pl2)) : MatS w3 v' (rowsL (k + m) k (stack k)) := by
  have hlt := World.ownsRow.lt h1.1
  refine own_mat ho (rowsL_len _ _ _) (fun i hi => ?_)
  rw [rowsL_len] at hi
  rw [rowsL_getD _ hi]
  by_cases e : i < k
  · obtain ⟨a1, a2, a3, a4, a5⟩ := (h1.below hb).2.1 i e
    refine ⟨_, by rw [List.getElem?_append_left (by rw [hdL_len]; exact e)]; exact hdL_at pl e, ?_⟩
    have hr3 := a5.grown hg a4
    rw [rowL_congr (g := unitF i) (fun j _ => stack_unit e)]
    exact ⟨_, _, by rw [rowL_len], by simp, by rw [rowL_len]; exact a2, a3, .inr ⟨_, _, rfl, hr3.1, fun j hj => (hr3.2 j hj).1⟩⟩
  · obtain ⟨a1, a2, a3, a4, a5⟩ := h2.2.1 (i - k) (by omega)
    refine ⟨_, by rw [List.getElem?_append_right (by rw [hdL_len]; omega), hdL_len]; exact hdL_at pl2 (by omega), ?_⟩
    have hr3 := a5.grown hg (fun e => by have := (hlt _ e.symm).2; omega)
    rw [rowL_congr (f := stack k i) (g := cauF k (i - k)) (fun j hj => by have := stack_cau (k := k) (i := i - k) hj (by omega); rwa [show k + (i - k) = i by omega] at this)]
    exact ⟨_, _, by rw [rowL_len], by simp, by rw [rowL_len]; exact a2, a3, .inr ⟨_, _, rfl, hr3.1, fun j hj => (hr3.2 j hj).1⟩⟩
set_option maxHeartbeats 1000000 in
theorem stripe_any (k m : Nat) (hk : 1 ≤ k) (hkm : k + m ≤ 255) (w : World) :
    Calls Try.prog 15 #[.int .i64 (k : Int), .int .i64 (m : Int)] w fun e w' => ∃ v, e = .returned (.tuple #[v, .int .i64 0]) ∧ MatS w' v (rowsL (k + m) k (stack k)) ∧ Below w.heap.size w w' := by
  by_cases hm : m = 0
  · subst hm
    go_enter Try.func15, Try.ntmps15
    go_wp2_with fail
    refine (unit_any k hk (by omega) _).mono ?_
    rintro e w1 ⟨v, rfl, hg, hb⟩
    have HM : Hid (MatS w1 v (rowsL (k + 0) k (stack k))) := Lib.hid (by
      have := hg.mat
      rw [rowsL_congr (g := stack k) (fun i hi j _ => (stack_unit hi).symm)] at this
      exact this)
    have HB := Lib.hid hb
    clear hg hb
    go_wp2
    go_ret2
    exact ⟨_, rfl, HM.out, HB.out⟩
  · have hm0 : ((m : Int) == 0) = false := by simp; omega
    go_enter Try.func15, Try.ntmps15
    go_wp2_with fail
    refine (unit_any k hk (by omega) _).mono ?_
    rintro e w1 ⟨v, rfl, hg, hb⟩
    have HG := Lib.hid hg
    have HB := Lib.hid hb
    clear hg hb
    go_wp2_with fail
    refine (cauchy_any k m hk (by omega) hkm _).mono ?_
    rintro e w2 ⟨v2, rfl, hg2, hb2⟩
    obtain ⟨pl, hp1⟩ := HG.out.own
    obtain ⟨b2, n2, rfl, hn2, hnm2, hbb2⟩ := hg2.shape
    obtain ⟨pl2, hp2⟩ := hg2.own
    have hp1' := GridP.below (pl := pl) hp1 hb2
    obtain ⟨i1, hi1, hz3, hz4, hz5⟩ := info_parts infoRow
    have HO := Lib.hid hp1'.1
    have HX2 : Hid (∀ j u, (hdL m k pl2)[j]? = some u → w2.cell? ((⟨b2, 0, none⟩ : Addr).add j) = some u) := Lib.hid (World.ownsRow.cells hp2.1 (g := b2) rfl)
    have HX3 : Hid (∀ u, u ∈ hdL m k pl2 → u.oneCell' = true) := Lib.hid (fun u hu => by obtain ⟨i, _, rfl⟩ := List.mem_map.1 hu; rfl)
    have HX1 : Hid ((hdL m k pl2).length = m * 1) := Lib.hid (by rw [hdL_len, Nat.mul_one])
    have HMAT : Hid (∀ (v' : Value) (w3 : World), w3.ownsRow w.heap.size 38 1 v' (k + m) (hdL k k pl ++ hdL m k pl2) → w2.grownBy w3 v.ownBlock → MatS w3 v' (rowsL (k + m) k (stack k))) := Lib.hid (fun v' w3 ho hg3 => stack_mat hkm hp1 hb2 hp2 hg3 ho)
    have HB2 := Lib.hid hb2
    have hs1 := HB.out.size
    have hs2 := hb2.size
    unfold maxLen at hnm2
    clear hg2 hb2 hp1 hp1' hp2
    go_wp2_with (at_builtin; (with_reducible refine wpList_append_own_at _ ?g0 (.tmp 31) (.tmp 32) 43 ?g1 w.heap.size 38 i1 (.slice none 0 0) 1 24 Try.underlying43 hi1 hz3 hz4 hz5 ?g2 (by decide) v k (hdL k k pl) ?g3 HO.out ⟨b2, 0, none⟩ m n2 (hdL m k pl2) ?g4 ?g5 ?c1 ?c2 ?c3 ?c4 ?c5 ?_)
                 case g0 => rfl
                 case g1 => rfl
                 case g2 => rfl
                 case g3 => rfl
                 case g4 => rfl
                 case g5 => exact HX1.out
                 case c1 => exact HX2.out
                 case c2 => exact HX3.out
                 case c3 => unfold maxLen; omega
                 case c4 => omega
                 case c5 => omega
                 intro v' w3 hown3 hgrow3 _ _)
    have HM3 := Lib.hid (HMAT.out v' w3 hown3 hgrow3)
    have HB3 : Hid (Below w.heap.size w w3) := Lib.hid ((HB.out.trans (HB2.out.mono hs1)).grown hgrow3 (by omega) (fun g hg => (World.ownsRow.lt HO.out g hg).1))
    clear hown3 hgrow3
    go_ret2
    exact ⟨_, rfl, HM3.out, HB3.out⟩
end Go.Proofs.Ytpldnbfbpajbkab
