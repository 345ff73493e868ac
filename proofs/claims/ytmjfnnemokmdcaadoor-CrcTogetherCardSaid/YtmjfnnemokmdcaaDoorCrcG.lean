/- The contract of burst: bytes in which some of 32 bits in a row were turned. -/
import Derived.Test.YtmjfnnemokmdcaaDoorCrcF
import Derived.Test.YtmjfnnemokmdcaaDoorBytes
import Derived.Laws.IdiomStrings
import Derived.Deep.RegionLaw
import Derived.Outline
namespace Go.Proofs.YtmjfnnemokmdcaaDoor
open Go.RowKit
open Caulk.Crc (W P flip burstTo)

def cbit (c : W) (j : Nat) : Bool := c.getLsbD j
theorem u32_cbit (c : W) (j : Nat) : bits .and .u32 (U32 c / 2 ^ j) 1 = B01 (cbit c j) := by
  have e : U32 c / 2 ^ j = U32 (c >>> j) := by
    unfold U32
    rw [BitVec.toNat_ushiftRight, Nat.shiftRight_eq_div_pow]
    simp
  rw [e, u32_and1]
  unfold lowB cbit
  rw [BitVec.getLsbD_ushiftRight]; rfl
theorem b01_one (x : Bool) : (B01 x == 1) = x := by cases x <;> rfl
theorem row_of_string (w : World) (s : ByteArray) (cap : Nat) (t : TypeId) (fr : Nat) (hf : s.size ≤ fr) : Row8 (w.alloc (.cells (bytesRow s cap) t (fr, fr + 1))).drew w.heap.size 0 s.data.toList := by
  refine ⟨?_, fun j hj => ⟨?_, ?_⟩⟩
  · show _ < (w.alloc _).heap.size
    rw [World.size_alloc]; exact Nat.lt_succ_self _
  · have hj' : j < s.data.size := by simpa using hj
    show (w.alloc _).cell? _ = _
    rw [Nat.zero_add, World.cell?_alloc_mark, bytesRow_at s cap j hj', List.getD, List.getElem?_eq_getElem hj, Option.getD_some, Array.getElem_toList]
  · have hj' : j < s.size := by simpa using hj
    show (w.alloc _).frozen? _ = _
    rw [Nat.zero_add, World.frozen?_alloc_mark]
    have : ¬ fr ≤ j := by omega
    simp [this]
theorem shl_one (p : Nat) : (2 : Int) ^ (p % 8) % 256 = ((1 <<< UInt8.ofNat (p % 8) : UInt8).toNat : Int) := by
  have h : p % 8 < 8 := Nat.mod_lt _ (by omega)
  generalize p % 8 = q at h
  have : ∀ q : Nat, q < 8 → (2 : Int) ^ q % 256 = ((1 <<< UInt8.ofNat q : UInt8).toNat : Int) := by decide +kernel
  exact this q h
theorem burst_yes (l : List UInt8) (B : Nat) (c : W) (j : Nat) (h1 : cbit c j = true) (h2 : B + j < 8 * l.length) :
    burstTo l B c (j + 1) = (burstTo l B c j).set ((B + j) / 8) ((burstTo l B c j).getD ((B + j) / 8) 0 ^^^ (1 <<< UInt8.ofNat ((B + j) % 8))) := by
  unfold cbit at h1
  conv => lhs; unfold burstTo
  rw [if_pos ⟨h1, h2⟩]; rfl
theorem burst_no (l : List UInt8) (B : Nat) (c : W) (j : Nat) (h : ¬ (cbit c j = true ∧ B + j < 8 * l.length)) : burstTo l B c (j + 1) = burstTo l B c j := by
  unfold cbit at h
  conv => lhs; unfold burstTo
  rw [if_neg h]
theorem string_of_row {w : World} {b cap : Nat} {l : List UInt8} (n : Nat) (hn : n = l.length) (h : Row8 w b 0 l) (src dst e : TypeId) {P : Program} (hs : P.underlying src = some (.slice e)) (he : P.underlying e = some (.int .u8)) (hd : P.underlying dst = some .string) :
    (convert src dst (.slice (some ⟨b, 0, none⟩) n cap)).run P w = .ok (.string ⟨l.toArray⟩) w := by
  subst hn
  refine run_convert_bytes_back w src dst e ⟨b, 0, none⟩ cap l hs he hd (fun j hj => ?_)
  rw [show (⟨b, 0, none⟩ : Addr).add j = ⟨b, j, none⟩ by unfold Addr.add; split <;> simp_all]
  have := (h.2 j hj).1
  rw [Nat.zero_add] at this
  rw [this, List.getD, List.getElem?_eq_getElem hj]; rfl

set_option maxHeartbeats 1000000 in
theorem burst_any (s : ByteArray) (hs : s.size ≤ 16384) (B : Nat) (hB : B < 8 * s.size) (c : W) (w : World) :
    Calls Tryd.prog 19 #[.string s, .int .i64 B, .int .u32 (U32 c)] w fun e w' => e = .returned (.string ⟨(burstTo s.data.toList B c 32).toArray⟩) ∧ Below w.heap.size w w' := by
  have hcv := fun w' : World => run_bytes_of_string (P := Tryd.prog) w' 9 35 5 s Tryd.underlying9 Tryd.underlying35 Tryd.underlying5
  go_enter Tryd.func19, Tryd.ntmps19
  go_wp2
  have hrow := row_of_string w s (grownCap w s.size 0 5) 5 (bytesRow s (grownCap w s.size 0 5)).size (by unfold bytesRow; simp)
  have hbel : Below w.heap.size w (w.alloc (.cells (bytesRow s (grownCap w s.size 0 5)) 5 ((bytesRow s (grownCap w s.size 0 5)).size, (bytesRow s (grownCap w s.size 0 5)).size + 1))).drew :=
    ((Below.refl _ w).alloc (Nat.le_refl _) _).drew
  generalize (w.alloc (.cells (bytesRow s (grownCap w s.size 0 5)) 5 ((bytesRow s (grownCap w s.size 0 5)).size, (bytesRow s (grownCap w s.size 0 5)).size + 1))).drew = W1 at *
  clear hcv
  generalize grownCap w s.size 0 5 = cap at *
  go_loopw [8] (fun i wr => ∃ j : Nat, j ≤ 32 ∧ i = .int .i64 j ∧ Row8 wr w.heap.size 0 (burstTo s.data.toList B c j) ∧ Below w.heap.size w wr) (fun i _ => 32 - (intOf i).toNat)
  case atStart => exact ⟨0, by omega, rfl, hrow, hbel⟩
  case round =>
    clear hrow hbel
    obtain ⟨j, hj, rfl, hrow, hbel⟩ := hrel
    by_cases hlt : j < 32
    · have hd : decide ((j : Int) < 32) = true := by simp; omega
      have h1 := u32_cbit c
      have h2 := b01_one
      have h3 := u32_0
      have h4 := u8_xorb
      by_cases hc : cbit c j = true
      · by_cases hin : B + j < 8 * s.size
        · have hd2 : decide ((B : Int) + j < 8 * s.size) = true := by simp; omega
          have h5 := shl_one (B + j)
          have hl : s.data.toList.length = s.size := by simp
          have hk : (B + j) / 8 < (burstTo s.data.toList B c j).length := by rw [Caulk.Crc.burst_len, hl]; omega
          have hx := hrow.2 ((B + j) / 8) hk
          rw [Nat.zero_add] at hx
          obtain ⟨hx1, hx2⟩ := hx
          obtain ⟨x, hxe⟩ : ∃ x, (burstTo s.data.toList B c j).getD ((B + j) / 8) 0 = x := ⟨_, rfl⟩
          rw [hxe] at hx1
          have HX := Lib.hid hxe
          have HL := Lib.hid hl
          have HR := Lib.hid hrow
          clear hxe hl hrow
          have hb1 : (0 : Int) ≤ ((B : Int) + j) / 8 := by omega
          have hb2 : ((B : Int) + j) / 8 < s.size := by omega
          go_wp2
          clear h1 h2 h3
          go_region
          go_wp2
          go_roundw
          case rel =>
            refine ⟨j + 1, by omega, by go_num, ?_, (hbel.setCell (p := ⟨w.heap.size, (B + j) / 8, none⟩) (Nat.le_refl _) _).drew⟩
            rw [burst_yes _ _ _ _ hc (by rw [HL.out]; exact hin), HX.out]
            have := HR.out.set ((B + j) / 8) hk (x ^^^ (1 <<< UInt8.ofNat ((B + j) % 8)))
            rw [Nat.zero_add, ← u8_xorb, ← shl_one] at this
            exact this.drew
          case measure => simp [intOf]; omega
        · have hd2 : decide ((B : Int) + j < 8 * s.size) = false := by simp; omega
          have HB := Lib.hid (burst_no s.data.toList B c j (fun h => hin (by simpa using h.2)))
          go_wp2
          go_roundw
          case rel => exact ⟨j + 1, by omega, by go_num, by rw [HB.out]; exact hrow, hbel⟩
          case measure => simp [intOf]; omega
      · have hc : cbit c j = false := by simpa using hc
        have HB := Lib.hid (burst_no s.data.toList B c j (fun h => by rw [hc] at h; cases h.1))
        go_wp2
        go_roundw
        case rel => exact ⟨j + 1, by omega, by go_num, by rw [HB.out]; exact hrow, hbel⟩
        case measure => simp [intOf]; omega
    · obtain rfl : j = 32 := by omega
      have hcv := string_of_row (P := Tryd.prog) (cap := cap) s.size (by rw [Caulk.Crc.burst_len]; simp) hrow 35 9 5 Tryd.underlying35 Tryd.underlying5 Tryd.underlying9
      go_wp2
      go_ret
      exact ⟨rfl, hbel⟩

theorem beq_list {α : Type} [BEq α] [LawfulBEq α] (a b : List α) (h : a = b) : (a == b) = true := by rw [h]; exact beq_self_eq_true b
set_option maxHeartbeats 1000000 in
theorem crcFound_walk (s : ByteArray) (hs : ArgOk s) (bit : Int) (_hbit : (Lit.int .i64 bit).wf = true) (n : Int) (hn : (Lit.int .u32 n).wf = true) (w : World) (hT : Tab w) :
    Calls Tryd.prog 6 #[.string s, .int .i64 bit, .int .u32 n] w fun e w' => e = .returned (.bool true) ∧ Below w.heap.size w w' := by
  obtain ⟨c, rfl⟩ := u32_open hn
  clear hn _hbit
  have h0 := Ok.start hT
  clear hT
  by_cases hlen : 16384 < s.size
  · have hd : decide ((16384 : Int) < (s.size : Int)) = true := by simp; omega
    go_enter Tryd.func6, Tryd.ntmps6
    go_wp2_with (go_at_call 8; refine (lives_any (w0 := w) _ ?_).mono ?_; (assumption); rintro e w' ⟨rfl, hok⟩)
    go_ret
    exact ⟨rfl, Ok.frame (by assumption)⟩
  · have hd : decide ((16384 : Int) < (s.size : Int)) = false := by simp; omega
    by_cases hneg : bit < 0
    · have hd2 : decide (bit < 0) = true := by simp; omega
      go_enter Tryd.func6, Tryd.ntmps6
      go_wp2_with (go_at_call 8; refine (lives_any (w0 := w) _ ?_).mono ?_; (assumption); rintro e w' ⟨rfl, hok⟩)
      go_ret
      exact ⟨rfl, Ok.frame (by assumption)⟩
    · have hd2 : decide (bit < 0) = false := by simp; omega
      by_cases hin : bit < 8 * s.size
      · have hd3 : decide (8 * (s.size : Int) ≤ bit) = false := by simp; omega
        obtain ⟨B, rfl⟩ := Int.eq_ofNat_of_zero_le (show 0 ≤ bit by omega)
        have hB : B < 8 * s.size := by omega
        have hl : s.size ≤ 16384 := by omega
        have hT : ArgOk ⟨(burstTo s.data.toList B c 32).toArray⟩ := by
          unfold ArgOk maxLen
          show (burstTo s.data.toList B c 32).toArray.size ≤ _
          rw [List.size_toArray, Caulk.Crc.burst_len]
          simp; omega
        have hfin : ((burstTo s.data.toList B c 32 == s.toList) == (U32 (Caulk.Crc.sum (burstTo s.data.toList B c 32)) == U32 (Caulk.Crc.sum s.data.toList))) = true := by
          rw [byte_toList]
          by_cases e : burstTo s.data.toList B c 32 = s.data.toList
          · rw [e]; simp
          · have e2 : ¬ U32 (Caulk.Crc.sum (burstTo s.data.toList B c 32)) = U32 (Caulk.Crc.sum s.data.toList) := fun h => e (Caulk.Crc.found _ _ _ (u32_inj h))
            rw [beq_eq_false_iff_ne.2 e, beq_eq_false_iff_ne.2 e2]; rfl
        have HF := Lib.hid hfin
        clear hfin hin
        go_enter Tryd.func6, Tryd.ntmps6
        go_wp2_with (first
          | (go_at_call 8; refine (lives_any (w0 := w) _ ?_).mono ?_; (assumption); rintro e w' ⟨rfl, hok⟩)
          | (go_at_call 19; refine (burst_any s hl B hB c _).mono ?_; rintro e w' ⟨rfl, hbel⟩; have hok2 := Ok.below hok hbel)
          | (go_at_call 9; refine (sum_ok (w0 := w) _ ?_ _ ?_).mono ?_; (assumption); (assumption); rintro e w' ⟨rfl, hok⟩))
        go_ret
        exact ⟨ret_bool HF.out, Ok.frame (by assumption)⟩
      · have hd3 : decide (8 * (s.size : Int) ≤ bit) = true := by simp; omega
        go_enter Tryd.func6, Tryd.ntmps6
        go_wp2_with (go_at_call 8; refine (lives_any (w0 := w) _ ?_).mono ?_; (assumption); rintro e w' ⟨rfl, hok⟩)
        go_ret
        exact ⟨rfl, Ok.frame (by assumption)⟩
end Go.Proofs.YtmjfnnemokmdcaaDoor
