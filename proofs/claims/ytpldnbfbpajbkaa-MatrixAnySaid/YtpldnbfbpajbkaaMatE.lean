/- The contract of caulkref03.Same; what Cauchy answers where there is none. -/
import Derived.Test.YtpldnbfbpajbkaaMatD
import Derived.BigQuiet
namespace Go.Proofs.Ytpldnbfbpajbkaa
open Go.RowKit
open Caulk.Lin (Fn2)

theorem RowV.string {w : World} {B : Nat} {v : Value} {l : List UInt8} (h : RowV w B v l) :
    (convert 37 9 v).run Try.prog w = .ok (.string ⟨l.toArray⟩) w := by
  obtain ⟨A, cap, rfl, h1, h2, h3, h4⟩ := h
  by_cases hl : l = []
  · subst hl
    rw [run_convert_bytes_string w 37 9 5 A _ cap Try.underlying37 Try.underlying5 Try.underlying9]
    cases A <;> simp [Conv.bytesToString, Sem.run_pure, loadCells, loadCellsFrom] <;> rfl
  · rcases h4 with h4 | ⟨b, off, rfl, _, hc⟩
    · exact absurd h4 hl
    · refine run_convert_bytes_back w 37 9 5 ⟨b, off, none⟩ cap l Try.underlying37 Try.underlying5 Try.underlying9 (fun j hj => ?_)
      rw [show (⟨b, off, none⟩ : Addr).add j = ⟨b, off + j, none⟩ by unfold Addr.add; split <;> simp_all]
      rw [hc j hj, List.getD, List.getElem?_eq_getElem hj]; rfl
theorem drewN_below (w : World) (n : Nat) : Below w.heap.size w (w.drewN n) := below_drewN (Below.refl _ w) n
/-- Row i of a matrix, read at any later world. -/
theorem MatV.rowAt {w : World} {B b off n cap : Nat} {M : List (List UInt8)} (h : MatV w B (.slice (some ⟨b, off, none⟩) n cap) M) (i : Nat) (hi : i < M.length) :
    ∃ x, w.cell? ⟨b, off + i, none⟩ = some x ∧ RowV w B x (M.getD i []) := by
  obtain ⟨A, cap', e, h1, h2, h3, h4⟩ := h
  injection e with e1 e2 e3
  rcases h4 with h4 | ⟨b', off', e4, hlt, hc⟩
  · rw [h4] at hi; simp at hi
  · rw [e4] at e1
    injection e1 with e1
    injection e1 with e5 e6
    subst e5; subst e6
    exact hc i hi
theorem bytes_ne {l s : List UInt8} (h : l ≠ s) : ((ByteArray.mk l.toArray).toList == (ByteArray.mk s.toArray).toList) = false := by
  rw [byte_toList, byte_toList, beq_eq_false_iff_ne]
  simpa using h

set_option maxHeartbeats 1000000 in
theorem same_any {w : World} {B C : Nat} {a b : Value} {M N : List (List UInt8)} (hB : B ≤ w.heap.size) (hC : C ≤ w.heap.size) (ha : MatV w B a M) (hb : MatV w C b N) :
    Calls Try.prog 21 #[a, b] w fun e w' => e = .returned (.bool (decide (M = N))) ∧ Below w.heap.size w w' := by
  have ha' := ha
  have hb' := hb
  obtain ⟨A1, c1, rfl, q1, hl1, hm1, q2⟩ := ha'
  obtain ⟨A2, c2, rfl, q3, hl2, hm2, q4⟩ := hb'
  clear q1 q2 q3 q4
  unfold maxLen at hm1 hm2
  by_cases hlen : M.length = N.length
  · have HD : Hid (∀ i, i < M.length → ∃ b1 o1 b2 o2, A1 = some ⟨b1, o1, none⟩ ∧ A2 = some ⟨b2, o2, none⟩ ∧ ∀ W, Below w.heap.size w W → ∃ x y, W.cell? ⟨b1, o1 + i, none⟩ = some x ∧ W.cell? ⟨b2, o2 + i, none⟩ = some y ∧ RowV W B x (M.getD i []) ∧ RowV W C y (N.getD i [])) := Lib.hid (by
      intro i hi
      obtain ⟨b1, o1, rfl⟩ : ∃ b1 o1, A1 = some ⟨b1, o1, none⟩ := by
        obtain ⟨A', cap', e, g1, g2, g3, g4⟩ := ha
        injection e with e1 e2 e3
        subst e1
        rcases g4 with g4 | ⟨b, off, rfl, hb, _⟩
        · rw [g4] at hi; simp at hi
        · exact ⟨b, off, rfl⟩
      obtain ⟨b2, o2, rfl⟩ : ∃ b2 o2, A2 = some ⟨b2, o2, none⟩ := by
        obtain ⟨A', cap', e, g1, g2, g3, g4⟩ := hb
        injection e with e1 e2 e3
        subst e1
        rcases g4 with g4 | ⟨b, off, rfl, hb, _⟩
        · rw [hlen, g4] at hi; simp at hi
        · exact ⟨b, off, rfl⟩
      refine ⟨b1, o1, b2, o2, rfl, rfl, fun W hW => ?_⟩
      obtain ⟨x, hx, hrx⟩ := (ha.below hW hB).rowAt i hi
      obtain ⟨y, hy, hry⟩ := (hb.below hW hC).rowAt i (by omega)
      exact ⟨x, y, hx, hy, hrx, hry⟩)
    have HEQ : Hid (M = N ↔ ∀ i, i < M.length → M.getD i [] = N.getD i []) := Lib.hid ⟨fun h => by rw [h]; simp, fun h => by
      apply List.ext_getElem hlen
      intro i h1 h2
      have := h i h1
      simpa [List.getD, h1, h2] using this⟩
    have HMN : Hid (decide (M = N) = decide (M = N)) := Lib.hid rfl
    obtain ⟨E, hE⟩ : ∃ E, E = decide (M = N) := ⟨_, rfl⟩
    have HE := Lib.hid hE
    rw [← hE]
    clear hE ha hb HMN
    obtain ⟨n, hn⟩ : ∃ n, n = M.length := ⟨_, rfl⟩
    rw [← hn] at hl1 HD HEQ hlen ⊢
    rw [← hlen] at hl2 ⊢
    clear hn
    have hne : ((n : Int) != (n : Int)) = false := by simp
    clear hlen
    go_enter Try.func21, Try.ntmps21
    go_wp2
    go_loopw [13] (fun i wr => ∃ k : Nat, k ≤ n ∧ i = .int .i64 k ∧ (∀ j, j < k → M.getD j [] = N.getD j []) ∧ Below w.heap.size w wr) (fun i _ => n - (intOf i).toNat)
    case atStart => exact ⟨0, by omega, rfl, fun j hj => by omega, Below.refl _ _⟩
    case round =>
      obtain ⟨k, hk, rfl, hall, hbe⟩ := hrel
      have HALL := Lib.hid hall
      have HBE := Lib.hid hbe
      clear hall hbe
      by_cases hlt : k < n
      · obtain ⟨b1, o1, b2, o2, rfl, rfl, hW⟩ := HD.out k hlt
        obtain ⟨x, y, hx, hy, hrx, hry⟩ := hW wr HBE.out
        have hcx : ∀ m, (convert 37 9 x).run Try.prog (wr.drewN m) = .ok (.string ⟨(M.getD k []).toArray⟩) (wr.drewN m) := fun m => (hrx.below (drewN_below wr m) (Nat.le_trans hB HBE.out.size)).string
        have hcy : ∀ m, (convert 37 9 y).run Try.prog (wr.drewN m) = .ok (.string ⟨(N.getD k []).toArray⟩) (wr.drewN m) := fun m => (hry.below (drewN_below wr m) (Nat.le_trans hC HBE.out.size)).string
        obtain ⟨l, hl⟩ : ∃ l, M.getD k [] = l := ⟨_, rfl⟩
        obtain ⟨s, hs⟩ : ∃ s, N.getD k [] = s := ⟨_, rfl⟩
        rw [hl] at hcx
        rw [hs] at hcy
        clear hW hrx hry
        by_cases hls : l = s
        · subst hls
          have HS : Hid (M.getD k [] = N.getD k []) := Lib.hid (hl.trans hs.symm)
          clear hl hs
          generalize ByteArray.mk l.toArray = S at hcx hcy
          go_wp2_with fail
          go_quiet (fail)
          go_wp2
          go_roundw
          case rel =>
            refine ⟨k + 1, by omega, by go_num, fun j hj => ?_, below_drewN HBE.out _⟩
            by_cases e : j = k
            · subst e; exact HS.out
            · exact HALL.out j (by omega)
          case measure => simp [intOf]; omega
        · have HS : Hid (M.getD k [] ≠ N.getD k []) := Lib.hid (by rw [hl, hs]; exact hls)
          have hne2 := bytes_ne hls
          clear hl hs hls
          have hno : Hid (E = false) := Lib.hid (by rw [HE.out, decide_eq_false_iff_not]; exact fun h => HS.out (HEQ.out.1 h k hlt))
          generalize ByteArray.mk l.toArray = S1 at hcx hne2
          generalize ByteArray.mk s.toArray = S2 at hcy hne2
          go_wp2_with fail
          go_quiet (fail)
          go_wp2
          go_ret
          exact ⟨ret_bool hno.out.symm, below_drewN HBE.out _⟩
      · obtain rfl : k = n := by omega
        have hyes : E = true := by rw [HE.out, decide_eq_true_eq]; exact HEQ.out.2 HALL.out
        have HY := Lib.hid hyes
        clear hyes
        go_wp2
        go_ret
        exact ⟨ret_bool HY.out.symm, HBE.out⟩
  · have hno : decide (M = N) = false := by rw [decide_eq_false_iff_not]; exact fun h => hlen (by rw [h])
    have hb1 : ((M.length : Int) != (N.length : Int)) = true := by simp; omega
    have hb2 : ((M.length : Int) == (N.length : Int)) = false := by simp; omega
    rw [hno]
    clear hno ha hb
    go_enter Try.func21, Try.ntmps21
    go_wp2
    go_ret
    exact ⟨rfl, Below.refl _ _⟩
end Go.Proofs.Ytpldnbfbpajbkaa
