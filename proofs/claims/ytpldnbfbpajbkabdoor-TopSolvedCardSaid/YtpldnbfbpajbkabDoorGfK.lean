/- The contract of gf.Put, with all that it leaves as it was. -/
import Derived.Test.YtpldnbfbpajbkabDoorGfG
import Derived.Test.YtpldnbfbpajbkabDoorMat
namespace Go.Proofs.YtpldnbfbpajbkabDoor
open Go.RowKit
open Caulk.Gf (dbl mul putL lowN highN)

set_option maxRecDepth 100000 in
set_option maxHeartbeats 2000000 in
theorem put_only (b off cap : Nat) (l : List UInt8) (c : UInt8) (s : ByteArray) (hs : s.size ≤ maxLen) (w : World) (h : Row8 w b off l) :
    Calls Tryd.prog 11 #[.slice (some ⟨b, off, none⟩) l.length cap, .int .u8 (c.toNat : Int), .string s] w fun e w' => e = .returned (.tuple #[]) ∧ Row8 w' b off (putL c l s.data.toList) ∧ Only w w' b off (off + l.length) := by
  obtain ⟨n, hn⟩ : ∃ n, n = min l.length s.size := ⟨_, rfl⟩
  have hmin := fun ts t => run_min2 ts t l.length s.size n hn
  have HN := Lib.hid hn
  have hnl : n ≤ l.length := by omega
  have hns : n ≤ s.size := by omega
  clear hn
  unfold maxLen at hs
  go_enter Tryd.func11, Tryd.ntmps11
  go_wp2_with fail
  refine (halves_any c _).mono ?_
  rintro e w1 ⟨rfl, hb1⟩
  have hA := there_new w1 #[.int .u8 0, .int .u8 0, .int .u8 0, .int .u8 0, .int .u8 0, .int .u8 0, .int .u8 0, .int .u8 0, .int .u8 0, .int .u8 0, .int .u8 0, .int .u8 0, .int .u8 0, .int .u8 0, .int .u8 0, .int .u8 0] 58
  have hB := there_new (w1.alloc (.cells #[.int .u8 0, .int .u8 0, .int .u8 0, .int .u8 0, .int .u8 0, .int .u8 0, .int .u8 0, .int .u8 0, .int .u8 0, .int .u8 0, .int .u8 0, .int .u8 0, .int .u8 0, .int .u8 0, .int .u8 0, .int .u8 0] 58)) #[.int .u8 0, .int .u8 0, .int .u8 0, .int .u8 0, .int .u8 0, .int .u8 0, .int .u8 0, .int .u8 0, .int .u8 0, .int .u8 0, .int .u8 0, .int .u8 0, .int .u8 0, .int .u8 0, .int .u8 0, .int .u8 0] 58
  rw [World.size_alloc] at hB
  have HA : Hid (((w1.alloc (.cells #[.int .u8 0, .int .u8 0, .int .u8 0, .int .u8 0, .int .u8 0, .int .u8 0, .int .u8 0, .int .u8 0, .int .u8 0, .int .u8 0, .int .u8 0, .int .u8 0, .int .u8 0, .int .u8 0, .int .u8 0, .int .u8 0] 58)).alloc (.cells #[.int .u8 0, .int .u8 0, .int .u8 0, .int .u8 0, .int .u8 0, .int .u8 0, .int .u8 0, .int .u8 0, .int .u8 0, .int .u8 0, .int .u8 0, .int .u8 0, .int .u8 0, .int .u8 0, .int .u8 0, .int .u8 0] 58)).there w1.heap.size 0 16) := Lib.hid (there_below hA ((Below.refl (w1.heap.size + 1) _).alloc (by simp) _) (by omega))
  have HB : Hid (((w1.alloc (.cells #[.int .u8 0, .int .u8 0, .int .u8 0, .int .u8 0, .int .u8 0, .int .u8 0, .int .u8 0, .int .u8 0, .int .u8 0, .int .u8 0, .int .u8 0, .int .u8 0, .int .u8 0, .int .u8 0, .int .u8 0, .int .u8 0] 58)).alloc (.cells #[.int .u8 0, .int .u8 0, .int .u8 0, .int .u8 0, .int .u8 0, .int .u8 0, .int .u8 0, .int .u8 0, .int .u8 0, .int .u8 0, .int .u8 0, .int .u8 0, .int .u8 0, .int .u8 0, .int .u8 0, .int .u8 0] 58)).there (w1.heap.size + 1) 0 16) := Lib.hid hB
  have HG0 : Hid (w1.grownBy ((w1.alloc (.cells #[.int .u8 0, .int .u8 0, .int .u8 0, .int .u8 0, .int .u8 0, .int .u8 0, .int .u8 0, .int .u8 0, .int .u8 0, .int .u8 0, .int .u8 0, .int .u8 0, .int .u8 0, .int .u8 0, .int .u8 0, .int .u8 0] 58)).alloc (.cells #[.int .u8 0, .int .u8 0, .int .u8 0, .int .u8 0, .int .u8 0, .int .u8 0, .int .u8 0, .int .u8 0, .int .u8 0, .int .u8 0, .int .u8 0, .int .u8 0, .int .u8 0, .int .u8 0, .int .u8 0, .int .u8 0] 58)) none) := Lib.hid ((World.grownBy_alloc _ _ _).trans (World.grownBy_alloc _ _ _))
  have hbw : b < w1.heap.size := Nat.lt_of_lt_of_le h.1 hb1.size
  have HBW := Lib.hid hbw
  clear hA hB
  go_wp2_with (first
    | ((with_reducible show wpList _ _ _ (⟨none, Op.store 58 (.tmp 6) (.tmp 12), _, _, _, _⟩ :: _) _ _)
       refine wpList_store_mid rfl 58 (.tmp 6) (.tmp 12) rfl w1.heap.size 0 (rowV c) rfl rfl ?s1 ?s2 (one16 c) ?_
       case s1 => exact HA.out
       case s2 => rw [info16]; rfl)
    | ((with_reducible show wpList _ _ _ (⟨none, Op.store 58 (.tmp 7) (.tmp 13), _, _, _, _⟩ :: _) _ _)
       refine wpList_store_mid rfl 58 (.tmp 7) (.tmp 13) rfl (w1.heap.size + 1) 0 (rowV (mul c 16)) rfl rfl ?s3 ?s4 (one16 _) ?_
       case s3 => exact World.there_setCells HB.out _ _ _
       case s4 => rw [info16]; rfl
       have hr1 := World.rangeAt_setCells_apart (World.rangeAt_setCells_same _ w1.heap.size 0 (rowV c).toList HA.out) (w1.heap.size + 1) 0 (rowV (mul c 16)).toList (.inl (by omega))
       have hr2 := World.rangeAt_setCells_same _ (w1.heap.size + 1) 0 (rowV (mul c 16)).toList (World.there_setCells HB.out w1.heap.size 0 (rowV c).toList)
       have hg2 := grown_cells (b := w1.heap.size + 1) (row := none) (Nat.le_succ _) (rowV (mul c 16)).toList 0 _ (grown_cells (b := w1.heap.size) (row := none) (Nat.le_refl _) (rowV c).toList 0 _ HG0.out)
       generalize (World.setCells _ (w1.heap.size + 1) 0 (rowV (mul c 16)).toList) = W2 at *
       clear HA HB HG0))
  have hr0 : Row8 W2 b off l := row8_grown (h.below hb1 h.1) hg2 (by simp)
  have hg2 : Only w W2 b off (off + l.length) := (Only.of_below hb1 h.1 _ _).trans (Only.of_grown hg2 hbw _ _)
  clear hmin hb1 hbw
  have hT : b ≠ w1.heap.size ∧ b ≠ w1.heap.size + 1 := by have := HBW.out; omega
  generalize w1.heap.size = T at *
  go_loopw [19] (fun i wr => ∃ k : Nat, k ≤ n ∧ i = .int .i64 k ∧ Row8 wr b off (putL c l (s.data.toList.take k)) ∧ wr.rangeAt T 0 (rowV c).toList ∧ wr.rangeAt (T + 1) 0 (rowV (mul c 16)).toList ∧ Only w wr b off (off + l.length)) (fun i _ => n - (intOf i).toNat)
  case atStart => exact ⟨0, by omega, rfl, by rw [List.take_zero, Caulk.Gf.putL_nil]; exact hr0, hr1, hr2, hg2⟩
  case round =>
    clear hr0 hr1 hr2 hg2 h
    obtain ⟨k, hk, rfl, hrow, hr1, hr2, hg⟩ := hrel
    by_cases hlt : k < n
    · have hkl : k < l.length := by omega
      have hks : k < s.size := by omega
      obtain ⟨y, hy⟩ : ∃ y, s[k] = y := ⟨_, rfl⟩
      have hx := hrow.2 k (by rw [Caulk.Gf.putL_len]; omega)
      rw [Caulk.Gf.putL_getD] at hx
      obtain ⟨x, hxe⟩ : ∃ x, l.getD k 0 = x := ⟨_, rfl⟩
      rw [hxe] at hx
      obtain ⟨hx1, hx2⟩ := hx
      have hlo := (Caulk.Gf.half_of y).1
      have hhi := (Caulk.Gf.half_of y).2.1
      have ht1 : wr.cell? ⟨T, lowN y, none⟩ = some (.int .u8 (mI c (lowN y))) := by
        have := hr1 (lowN y) _ (by rw [Array.getElem?_toList, rowV_at c _ hlo]); rw [Nat.zero_add] at this; exact this
      have ht2 : wr.cell? ⟨T + 1, highN y, none⟩ = some (.int .u8 (mI (mul c 16) (highN y))) := by
        have := hr2 (highN y) _ (by rw [Array.getElem?_toList, rowV_at _ _ hhi]); rw [Nat.zero_add] at this; exact this
      have HST : Hid (putL c l (s.data.toList.take (k + 1)) = (putL c l (s.data.toList.take k)).set k (bxor x (mul c y))) := Lib.hid (by
        rw [Caulk.Gf.putL_step c l s.data.toList k hkl (by simpa using hks), hxe]
        have : s.data.toList.getD k 0 = y := by
          rw [← hy, List.getD, List.getElem?_eq_getElem (by simpa using hks), Option.getD_some, Array.getElem_toList]; rfl
        rw [this]; rfl)
      have HROW := Lib.hid hrow
      have HR1 := Lib.hid hr1
      have HR2 := Lib.hid hr2
      have HXE := Lib.hid hxe
      have h1 := low_int y
      have h2 := high_int y
      have h3 := mul_int c y
      have h4 := u8_bxor x (mul c y)
      have hlo1 : (0 : Int) ≤ (lowN y : Int) := by omega
      have hlo2 : (lowN y : Int) < 16 := by omega
      have hhi1 : (0 : Int) ≤ (highN y : Int) := by omega
      have hhi2 : (highN y : Int) < 16 := by omega
      clear hrow hr1 hr2 hxe
      go_wp2
      go_region
      go_wp2
      go_roundw
      case rel =>
        have hgs := grown_setCell wr ⟨b, off + k, none⟩ (.int .u8 ((bxor x (mul c y)).toNat : Int))
        refine ⟨k + 1, by omega, by go_num, ?_, ?_, ?_, ?_⟩
        · rw [HST.out]; exact (HROW.out.set k (by rw [Caulk.Gf.putL_len]; omega) _).drew
        · exact grown_range HR1.out (grown_drew hgs) (by intro e; injection e with e; exact hT.1 e.symm)
        · exact grown_range HR2.out (grown_drew hgs) (by intro e; injection e with e; exact hT.2 e.symm)
        · exact hg.trans (Only.set wr b (off + k) _ (by omega) (by omega)).drew
      case measure => simp [intOf]; omega
    · obtain rfl : k = n := by omega
      have HE : Hid (putL c l (s.data.toList.take k) = putL c l s.data.toList) := Lib.hid (Caulk.Gf.putL_all c l s.data.toList k (by rw [HN.out]; simp))
      go_wp2
      go_end0
      exact ⟨rfl, by rw [← HE.out]; exact hrow, hg⟩
end Go.Proofs.YtpldnbfbpajbkabDoor
