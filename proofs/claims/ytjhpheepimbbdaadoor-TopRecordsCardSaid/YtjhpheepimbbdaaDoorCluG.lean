/- Clusters: four bytes that were turned turn the sum; what is read behind a flush, and behind a garbling. -/
import Derived.Test.YtjhpheepimbbdaaDoorCluN
import Derived.Test.YtjhpheepimbbdaaDoorDevH
import Derived.Test.YtjhpheepimbbdaaDoorCrcMath
namespace Go.Proofs.YtjhpheepimbbdaaDoor
open Go.RowKit
open Caulk.Crc (W)

/-! ### the sum -/
def low8 (y : W) : UInt8 := UInt8.ofNat y.toNat
theorem low8_wide (y : W) : (low8 y).toBitVec.setWidth 32 = y &&& BitVec.ofNat 32 (2 ^ 8 - 1) := by
  apply BitVec.eq_of_toNat_eq
  rw [BitVec.toNat_setWidth, BitVec.toNat_and, BitVec.toNat_ofNat]
  show (low8 y).toNat % 2 ^ 32 = _
  unfold low8
  rw [UInt8.toNat_ofNat']
  rw [show (2 ^ 8 - 1) % 2 ^ 32 = 2 ^ 8 - 1 by decide, Nat.and_two_pow_sub_one_eq_mod]
  omega
theorem xor_low (y : W) : y ^^^ (y &&& BitVec.ofNat 32 (2 ^ 8 - 1)) = y &&& ~~~ BitVec.ofNat 32 (2 ^ 8 - 1) := by
  apply BitVec.eq_of_getLsbD_eq
  intro i hi
  simp only [BitVec.getLsbD_xor, BitVec.getLsbD_and, BitVec.getLsbD_not, Caulk.Crc.mask_bit 8 i hi, hi]
  cases y.getLsbD i <;> cases decide (i < 8) <;> rfl
theorem byt_word (n : Nat) (c y : W) : Caulk.Crc.byt (Caulk.Crc.stpN n c ^^^ y) (low8 y) = Caulk.Crc.stpN (n + 8) c ^^^ (y >>> 8) := by
  unfold Caulk.Crc.byt
  rw [low8_wide, BitVec.xor_assoc, xor_low, Caulk.Crc.stpN_xor, Caulk.Crc.high_out 8 (by omega), Caulk.Crc.stpN_add]
theorem xor_nil (x : W) : x ^^^ 0 = x := BitVec.xor_zero
def le4 (c : W) : List UInt8 := [low8 c, low8 (c >>> 8), low8 (c >>> 16), low8 (c >>> 24)]
theorem add_le4 (c : W) : Caulk.Crc.add 0 (le4 c) = Caulk.Crc.stpN 32 c := by
  have h0 : (0 : W) = Caulk.Crc.stpN 0 c ^^^ c := by show (0 : W) = c ^^^ c; rw [BitVec.xor_self]; rfl
  have e8 : c >>> 8 >>> 8 = c >>> 16 := by rw [← BitVec.shiftRight_add]
  have e16 : c >>> 16 >>> 8 = c >>> 24 := by rw [← BitVec.shiftRight_add]
  have e24 : c >>> 24 >>> 8 = 0 := by
    rw [← BitVec.shiftRight_add]
    apply BitVec.eq_of_toNat_eq
    rw [BitVec.toNat_ushiftRight, Nat.shiftRight_eq_div_pow]
    have := c.isLt
    show c.toNat / 2 ^ 32 = 0
    exact Nat.div_eq_of_lt this
  unfold le4
  show Caulk.Crc.byt (Caulk.Crc.byt (Caulk.Crc.byt (Caulk.Crc.byt 0 (low8 c)) (low8 (c >>> 8))) (low8 (c >>> 16))) (low8 (c >>> 24)) = _
  rw [h0, byt_word, byt_word, e8, byt_word, e16, byt_word, e24]
  exact xor_nil _
/-- Four bytes, put together with those of a number. -/
theorem add_garbled (r : W) (A B : List UInt8) (x0 x1 x2 x3 : UInt8) (c : W) :
    Caulk.Crc.add r (A ++ ((x0 ^^^ low8 c) :: (x1 ^^^ low8 (c >>> 8)) :: (x2 ^^^ low8 (c >>> 16)) :: (x3 ^^^ low8 (c >>> 24)) :: B)) =
    Caulk.Crc.add r (A ++ (x0 :: x1 :: x2 :: x3 :: B)) ^^^ Caulk.Crc.stpN (8 * B.length) (Caulk.Crc.stpN 32 c) := by
  have e1 : (x0 ^^^ low8 c) :: (x1 ^^^ low8 (c >>> 8)) :: (x2 ^^^ low8 (c >>> 16)) :: (x3 ^^^ low8 (c >>> 24)) :: B = Caulk.Crc.z2 [x0, x1, x2, x3] (le4 c) ++ B := rfl
  have e2 : x0 :: x1 :: x2 :: x3 :: B = [x0, x1, x2, x3] ++ B := rfl
  rw [e1, e2, Caulk.Crc.add_append, Caulk.Crc.add_append, Caulk.Crc.add_append, Caulk.Crc.add_append]
  have h := Caulk.Crc.add_xor [x0, x1, x2, x3] (le4 c) (Caulk.Crc.add r A) 0 rfl
  rw [xor_nil] at h
  rw [h, add_le4, Caulk.Crc.add_zero_part]
theorem not_inj {x y : W} (h : ~~~x = ~~~y) : x = y := by
  apply BitVec.eq_of_getLsbD_eq
  intro i hi
  have := congrArg (fun z : W => z.getLsbD i) h
  simp only [BitVec.getLsbD_not, hi] at this
  cases hx : x.getLsbD i <;> cases hy : y.getLsbD i <;> rw [hx, hy] at this <;> simp at this <;> rfl
theorem sum_garbled (A B : List UInt8) (x0 x1 x2 x3 : UInt8) (c : W) :
    Caulk.Crc.sum (A ++ ((x0 ^^^ low8 c) :: (x1 ^^^ low8 (c >>> 8)) :: (x2 ^^^ low8 (c >>> 16)) :: (x3 ^^^ low8 (c >>> 24)) :: B)) = Caulk.Crc.sum (A ++ (x0 :: x1 :: x2 :: x3 :: B)) ↔ c = 0 := by
  unfold Caulk.Crc.sum
  rw [add_garbled]
  constructor
  · intro h
    have h := not_inj h
    generalize Caulk.Crc.add 4294967295#32 (A ++ (x0 :: x1 :: x2 :: x3 :: B)) = y at h
    have h2 : Caulk.Crc.stpN (8 * B.length) (Caulk.Crc.stpN 32 c) = 0 := by
      have := congrArg (fun z => y ^^^ z) h
      simp only [← BitVec.xor_assoc, BitVec.xor_self] at this
      simpa using this
    exact Caulk.Crc.stpN_inj0 _ _ (Caulk.Crc.stpN_inj0 _ _ h2)
  · rintro rfl
    rw [Caulk.Crc.stpN_zero, Caulk.Crc.stpN_zero, xor_nil]
/-! ### garL -/
theorem set_at {α : Type} (A r : List α) (k : Nat) (v : α) : (A ++ r).set (A.length + k) v = A ++ r.set k v := by
  rw [List.set_append_right _ _ (by omega), Nat.add_sub_cancel_left]
theorem get_at {α : Type} (A r : List α) (k : Nat) (d : α) : (A ++ r).getD (A.length + k) d = r.getD k d := by
  rw [List.getD, List.getD, List.getElem?_append_right (by omega), Nat.add_sub_cancel_left]
theorem garB_low (m : Nat) (hm : m < 4294967296) (k : Nat) : garB (m : Int) k = low8 (BitVec.ofNat 32 m >>> (8 * k)) := by
  unfold garB low8
  rw [BitVec.toNat_ushiftRight, BitVec.toNat_ofNat, Nat.mod_eq_of_lt (by omega), Nat.shiftRight_eq_div_pow]
  rw [show (m : Int) / 2 ^ (8 * k) % 256 = ((m / 2 ^ (8 * k) % 256 : Nat) : Int) by simp, Int.toNat_natCast]
  apply UInt8.toNat_inj.1
  rw [UInt8.toNat_ofNat', UInt8.toNat_ofNat']
  omega
theorem garL_four (A B : List UInt8) (x0 x1 x2 x3 : UInt8) (m : Nat) (hm : m < 4294967296) :
    garL (A ++ (x0 :: x1 :: x2 :: x3 :: B)) A.length (m : Int) 4 = A ++ ((x0 ^^^ low8 (BitVec.ofNat 32 m)) :: (x1 ^^^ low8 (BitVec.ofNat 32 m >>> 8)) :: (x2 ^^^ low8 (BitVec.ofNat 32 m >>> 16)) :: (x3 ^^^ low8 (BitVec.ofNat 32 m >>> 24)) :: B) := by
  have g0 := garB_low m hm 0
  have g1 := garB_low m hm 1
  have g2 := garB_low m hm 2
  have g3 := garB_low m hm 3
  rw [show BitVec.ofNat 32 m >>> (8 * 0) = BitVec.ofNat 32 m by simp] at g0
  simp only [garL, set_at, get_at, g0, g1, g2, g3]
  rfl
theorem split_four (p : List UInt8) (off : Nat) (h : off + 4 ≤ p.length) : ∃ A x0 x1 x2 x3 B, p = A ++ (x0 :: x1 :: x2 :: x3 :: B) ∧ A.length = off := by
  have h1 : (p.take off).length = off := by rw [List.length_take]; omega
  have h2 : (p.drop off).length = p.length - off := List.length_drop ..
  match hd : p.drop off, h2 with
  | x0 :: x1 :: x2 :: x3 :: B, _ => exact ⟨p.take off, x0, x1, x2, x3, B, by rw [← hd, List.take_append_drop], h1⟩
  | [x0, x1, x2], h2 => simp at h2; omega
  | [x0, x1], h2 => simp at h2; omega
  | [x0], h2 => simp at h2; omega
  | [], h2 => simp at h2; omega
/-- Four bytes that were turned turn the sum, as long as they are. -/
theorem sum_garL (p q : List UInt8) (off : Nat) (h : off + 4 ≤ p.length) (m : Nat) (hm : m < 4294967296) : Caulk.Crc.sum (garL p off (m : Int) 4 ++ q) = Caulk.Crc.sum (p ++ q) ↔ m = 0 := by
  obtain ⟨A, x0, x1, x2, x3, B, rfl, rfl⟩ := split_four p off h
  rw [garL_four A B x0 x1 x2 x3 m hm, List.append_assoc, List.append_assoc]
  refine (sum_garbled A (B ++ q) x0 x1 x2 x3 (BitVec.ofNat 32 m)).trans ?_
  constructor
  · intro e
    have := congrArg BitVec.toNat e
    rw [BitVec.toNat_ofNat, Nat.mod_eq_of_lt (by omega)] at this
    exact this
  · rintro rfl; rfl
/-! ### behind a flush, and a garbling -/
section
variable {M : DM} {A T : Nat} {t : ByteArray}
theorem flush_wr (hu : upM M) : flushE (wrM M A t T) = 0 ∧ flushM (wrM M A t T) = landM (wrM M A t T) := by
  have hE : burnE (wrM M A t T) = 0 := by unfold burnE; have := hu.2; rw [if_neg (by show ¬ M.left = 0; omega)]
  have hB : burnM (wrM M A t T) = wrM M A t T := by unfold burnM; have := hu.2; rw [if_neg (by show ¬ M.left = 0; omega), if_neg (by show ¬ 0 < M.left; omega)]
  have hd : (wrM M A t T).down = false := hu.1
  constructor
  · unfold flushE; rw [if_neg (by rw [hd]; simp), hE]
  · unfold flushM; rw [if_neg (by rw [hd]; simp), if_pos hE, hB]
theorem land_read (hd : M.down = false) (hb : M.bad = fun _ => false) (hn : A + T ≤ M.n) {i : Nat} (hi : i < T) : readE (landM (wrM M A t T)) ((A + i : Nat) : Int) = 0 ∧ readV (landM (wrM M A t T)) ((A + i : Nat) : Int) = partL t i := by
  have h := read_sure (M := landM (wrM M A t T)) (i := A + i) hd (by show A + i < M.n; omega) rfl (by show (M.bad (A + i) && _) = false; rw [hb]; rfl)
  refine ⟨h.1, h.2.trans ?_⟩
  show (frW M.fresh A t T (A + i)).getD _ = _
  unfold frW
  rw [if_pos (by omega), Nat.add_sub_cancel_left]; rfl
theorem gar_read (hd : M.down = false) (hb : M.bad = fun _ => false) (hn : A + T ≤ M.n) (off : Int) (m : Int) (hg : garE (landM (wrM M A t T)) (A : Int) off = 0) {i : Nat} (hi : i < T) :
    readE (garM (landM (wrM M A t T)) (A : Int) off m) ((A + i : Nat) : Int) = 0 ∧ readV (garM (landM (wrM M A t T)) (A : Int) off m) ((A + i : Nat) : Int) = if i = 0 then garL (partL t 0) off.toNat m 4 else partL t i := by
  have hs : (landM (wrM M A t T)).sure (A + i) = partL t i := by
    show (frW M.fresh A t T (A + i)).getD _ = _
    unfold frW
    rw [if_pos (by omega), Nat.add_sub_cancel_left]; rfl
  have hs0 : (landM (wrM M A t T)).sure A = partL t 0 := by
    show (frW M.fresh A t T A).getD _ = _
    unfold frW
    rw [if_pos (by omega), Nat.sub_self]; rfl
  unfold garM
  rw [if_pos hg, Int.toNat_natCast, hs0]
  have h := read_sure (M := { landM (wrM M A t T) with sure := upd (landM (wrM M A t T)).sure A (garL (partL t 0) off.toNat m 4) }) (i := A + i) hd (by show A + i < M.n; omega) rfl (by show (M.bad (A + i) && _) = false; rw [hb]; rfl)
  refine ⟨h.1, h.2.trans ?_⟩
  show upd (landM (wrM M A t T)).sure A (garL (partL t 0) off.toNat m 4) (A + i) = _
  by_cases e : i = 0
  · subst e; rw [if_pos rfl, Nat.add_zero, upd_same]
  · rw [if_neg e, upd_ne _ _ (by omega), hs]
theorem flat_head (g : List UInt8) (l : Nat → List UInt8) : ∀ T, 1 ≤ T → (List.range T).flatMap (fun i => if i = 0 then g else l i) = g ++ ((List.range T).flatMap l).drop (l 0).length
  | 1, _ => by simp
  | T + 2, _ => by
    rw [List.range_succ, List.flatMap_append, List.flatMap_append, flat_head g l (T + 1) (by omega), List.flatMap_singleton, List.flatMap_singleton, if_neg (by omega), List.append_assoc, List.drop_append_of_le_length]
    rw [List.range_succ_eq_map, List.flatMap_cons, List.length_append]; omega
end
end Go.Proofs.YtjhpheepimbbdaaDoor
