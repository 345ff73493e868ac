/- The contracts of matrix.Cauchy and caulkref03.Cauchy. -/
import Derived.Test.YtpldnbfbpajbkabDoorMatC
import Derived.Test.YtpldnbfbpajbkabDoorGfH
import Derived.Deep.RegionHeld3
import Derived.IntWalk
namespace Go.Proofs.YtpldnbfbpajbkabDoor
open Go.RowKit
open Caulk.Lin (Fn2)

def cauX (k i j : Nat) : UInt8 := UInt8.ofNat (k + i) ^^^ UInt8.ofNat j
/-- The inverse of k + i and j, put together. -/
def cauF (k : Nat) : Fn2 := fun i j => invB (cauX k i j)
theorem cauX_ne {k i j : Nat} (hj : j < k) (hk : k + i < 256) : cauX k i j ≠ 0 := by
  intro h
  have := Caulk.Lin.xor_eq_zero h
  have := congrArg UInt8.toNat this
  rw [UInt8.toNat_ofNat', UInt8.toNat_ofNat'] at this
  omega
theorem cauX_int {k i j : Nat} (hj : j < 256) (hk : k + i < 256) : bits .xor .u8 ((k : Int) + (i : Int)) (j : Int) = ((cauX k i j).toNat : Int) := by
  have h1 : ((k : Int) + (i : Int)) = ((UInt8.ofNat (k + i)).toNat : Int) := by rw [UInt8.toNat_ofNat']; omega
  have h2 : (j : Int) = ((UInt8.ofNat j).toNat : Int) := by rw [UInt8.toNat_ofNat']; omega
  rw [h1, h2, u8_xorb]; rfl

theorem cau_next (k m p q : Nat) : ∀ i, i < m → ∀ j, j < k → (if i = p ∧ j = q then invB (cauX k p q) else if i < p ∨ (i = p ∧ j < q) then cauF k i j else 0) = if i < p ∨ (i = p ∧ j < q + 1) then cauF k i j else 0 := by
  intro i _ j _
  by_cases e : i = p ∧ j = q
  · obtain ⟨rfl, rfl⟩ := e
    rw [if_pos ⟨rfl, rfl⟩, if_pos (.inr ⟨rfl, Nat.lt_succ_self _⟩)]; rfl
  · rw [if_neg e]
    by_cases e2 : i < p ∨ (i = p ∧ j < q)
    · rw [if_pos e2, if_pos (by omega)]
    · rw [if_neg e2, if_neg (by omega)]
theorem cau_row (k m p : Nat) : ∀ i, i < m → ∀ j, j < k → (if i < p ∨ (i = p ∧ j < k) then cauF k i j else 0) = if i < p + 1 then cauF k i j else 0 := by
  intro i _ j hj
  by_cases e : i < p + 1
  · rw [if_pos e, if_pos (by omega)]
  · rw [if_neg e, if_neg (by omega)]
set_option maxHeartbeats 2000000 in
theorem cauchy_any (k m : Nat) (h1 : 1 ≤ k) (h2 : 1 ≤ m) (h3 : k + m ≤ 255) (w : World) :
    Calls Tryd.prog 7 #[.int .i64 (k : Int), .int .i64 (m : Int)] w (GotGridOK w m k (cauF k)) := by
  have hd : decide ((k : Int) < 1) = false := by simp; omega
  have hd2 : decide ((m : Int) < 1) = false := by simp; omega
  have hd3 : decide ((255 : Int) < (k : Int)) = false := by simp; omega
  have hd4 : decide ((255 : Int) - (k : Int) < (m : Int)) = false := by simp; omega
  go_enter Tryd.func7, Tryd.ntmps7
  go_wp2_with fail
  refine (blank_any m k (by omega) h1 (by omega) _).mono ?_
  rintro e w1 ⟨v, rfl, hg, hb⟩
  obtain ⟨b, cap, rfl, hnc, hcm, hbb⟩ := hg.shape
  have HG := Lib.hid hg
  have HB := Lib.hid hb
  clear hg hb
  unfold maxLen at hcm
  go_wp2
  go_loopw [31] (fun i wr => ∃ p : Nat, p ≤ m ∧ i = .int .i64 p ∧ Grid wr w.heap.size (.slice (some ⟨b, 0, none⟩) m cap) m k (fun i j => if i < p then cauF k i j else 0) ∧ Below w.heap.size w wr) (fun i _ => m - (intOf i).toNat)
  case atStart => exact ⟨0, by omega, rfl, HG.out.congr (fun i _ j _ => by rw [if_neg (by omega)]), HB.out⟩
  case round =>
    obtain ⟨p, hp, rfl, hgr, hbe⟩ := hrel
    by_cases hlt : p < m
    · have HGR := Lib.hid hgr
      have HBE := Lib.hid hbe
      clear hgr hbe
      obtain ⟨wo, rfl⟩ : ∃ wo : World, wo = wr := ⟨_, rfl⟩
      go_wp2
      go_loopw [35] (fun j wr => ∃ q : Nat, q ≤ k ∧ j = .int .i64 q ∧ Grid wr w.heap.size (.slice (some ⟨b, 0, none⟩) m cap) m k (fun i j => if i < p ∨ (i = p ∧ j < q) then cauF k i j else 0) ∧ Below w.heap.size w wr) (fun j _ => k - (intOf j).toNat)
      case atStart => exact ⟨0, by omega, rfl, HGR.out.congr (fun i _ j _ => by by_cases e : i < p <;> simp [e]), HBE.out⟩
      case round =>
        clear HGR HBE
        obtain ⟨q, hq, rfl, hgr, hbe⟩ := hrel
        by_cases hlt2 : q < k
        · have hx := cauX_int (k := k) (i := p) (j := q) (by omega) (by omega)
          have hne := cauX_ne (k := k) (i := p) (j := q) (by omega) (by omega)
          have hE : errI (cauX k p q) = 0 := by unfold errI; rw [if_neg hne]
          have HGR := Lib.hid hgr
          have HBE := Lib.hid hbe
          clear hgr hbe hne
          go_wp2_with fail
          refine (gfInv_any (cauX k p q) _).mono ?_
          rintro e w2 ⟨rfl, hb2⟩
          obtain ⟨b', off', cap', hc1, hc2, hf, hBb, hbl, hnb, hset⟩ := (HGR.out.below hb2).byte p q hlt hlt2
          have HS : Hid (Grid (w2.setCell ⟨b', off' + q, none⟩ (.int .u8 ((invB (cauX k p q)).toNat : Int))) w.heap.size (.slice (some ⟨b, 0, none⟩) m cap) m k (fun i j => if i < p ∨ (i = p ∧ j < q + 1) then cauF k i j else 0)) := Lib.hid ((hset (invB (cauX k p q))).congr (cau_next k m p q))
          have HB2 : Hid (Below w.heap.size w w2) := Lib.hid (HBE.out.trans (hb2.mono HBE.out.size))
          clear hset hb2
          go_wp2
          go_roundw
          case rel => exact ⟨q + 1, by omega, by go_num, HS.out, HB2.out.setCell (p := ⟨b', off' + q, none⟩) hBb _⟩
          case measure => simp [intOf]; omega
        · obtain rfl : q = k := by omega
          have HGR : Hid (Grid wr w.heap.size (.slice (some ⟨b, 0, none⟩) m cap) m q (fun i j => if i < p + 1 then cauF q i j else 0)) := Lib.hid (hgr.congr (cau_row q m p))
          have HBE := Lib.hid hbe
          clear hgr hbe
          go_wp2
          go_roundw
          case rel => exact ⟨p + 1, by omega, by go_num, HGR.out, HBE.out⟩
          case measure => simp [intOf]; omega
    · obtain rfl : p = m := by omega
      have HGR : Hid (Grid wr w.heap.size (.slice (some ⟨b, 0, none⟩) p cap) p k (cauF k)) := Lib.hid (hgr.congr (fun i hi j _ => by rw [if_pos hi]))
      clear hgr
      go_wp2
      go_ret2
      exact ⟨_, rfl, HGR.out, hbe⟩
theorem cauX_wrap {k i j : Nat} (hj : j < 256) (hk : k + i < 256) : bits .xor .u8 (IntKind.u8.wrap (IntKind.i64.wrap ((k : Int) + (i : Int)))) (IntKind.u8.wrap (j : Int)) = ((cauX k i j).toNat : Int) := by
  rw [IntWalk.i64_in _ (by omega), IntKind.wrap_u8', IntKind.wrap_u8', show ((k : Int) + (i : Int)) % 256 = (k : Int) + (i : Int) by omega, show (j : Int) % 256 = (j : Int) by omega]
  exact cauX_int hj hk
end Go.Proofs.YtpldnbfbpajbkabDoor
