/- The contract of a device's Garble. -/
import Derived.Test.YtjhpheepimbbdaaDoorDevF
import Derived.IntWalk
namespace Go.Proofs.YtjhpheepimbbdaaDoor
open Go.RowKit Go.Maps

/-- Byte k of a number, the lowest one first. -/
def garB (n : Int) (k : Nat) : UInt8 := UInt8.ofNat ((n / 2 ^ (8 * k)) % 256).toNat
/-- The first k of four bytes put together with those of a number. -/
def garL (l : List UInt8) (off : Nat) (n : Int) : Nat → List UInt8
  | 0 => l
  | k + 1 => (garL l off n k).set (off + k) ((garL l off n k).getD (off + k) 0 ^^^ garB n k)
def hNo : Value → Nat
  | .int _ q => q.toNat
  | _ => 0
theorem garL_len (l : List UInt8) (off : Nat) (n : Int) : ∀ k, (garL l off n k).length = l.length
  | 0 => rfl
  | k + 1 => by rw [garL, List.length_set, garL_len l off n k]
theorem upd_upd {α : Type} (f : Nat → α) (i : Nat) (x y : α) : upd (upd f i x) i y = upd f i y := by
  funext k
  by_cases e : k = i
  · rw [e, upd_same, upd_same]
  · rw [upd_ne _ _ e, upd_ne _ _ e, upd_ne _ _ e]
/-- One byte of a sector written. -/
theorem rows_put {w : World} {b n : Nat} {f : Nat → List UInt8} (hr : ∀ i, i < n → Row8 w b (i * 512) (f i)) (hl : ∀ i, i < n → (f i).length = 512) {i j : Nat} (hi : i < n) (hj : j < 512) (x : UInt8) :
    ∀ k, k < n → Row8 (w.setCell ⟨b, i * 512 + j, none⟩ (.int .u8 (x.toNat : Int))) b (k * 512) (upd f i ((f i).set j x) k) := by
  intro k hk
  by_cases e : k = i
  · subst e
    rw [upd_same]
    exact (hr k hi).set j (by rw [hl k hi]; exact hj) x
  · rw [upd_ne _ _ e]
    refine ⟨by rw [World.size_setCell]; exact (hr k hk).1, fun q hq => ⟨?_, by rw [World.frozen?_setCell]; exact ((hr k hk).2 q hq).2⟩⟩
    rw [hl k hk] at hq
    rw [World.cell?_setCell_other _ _ _ _ (by intro e'; injection e' with _ e2; omega)]
    exact ((hr k hk).2 q (by rw [hl k hk]; exact hq)).1
set_option maxHeartbeats 2000000 in
set_option maxRecDepth 100000 in
theorem devGarble_ok {w : World} {h : DH} {M : DM} (d : DevAt w h M) (i off : Nat) (hi : i < M.n) (ho : off ≤ 508) (n : Int) (_hn0 : 0 ≤ n) (_hn1 : n < 4294967296) :
    Calls Tryd.prog 19 #[.pointer (some ⟨h.b, 0, none⟩), .int .i64 (i : Int), .int .i64 (off : Int), .int .u32 n] w fun e w' => e = .returned (.int .i64 0) ∧ DevAt w' h { M with sure := upd M.sure i (garL (M.sure i) off n 4) } ∧ Ap h.S w w' := by
  have hH := devHas_any d (i : Int)
  rw [show hasB M.n (i : Int) = true by unfold hasB; exact decide_eq_true (by omega)] at hH
  have HD := Lib.hid d
  have hn2 := d.n2
  clear d
  have do0 : decide ((off : Int) < 0) = false := decide_eq_false (by omega)
  have do1 : decide (508 < (off : Int)) = false := decide_eq_false (by omega)
  go_enter Tryd.func19, Tryd.ntmps19
  go_wp2_with (go_at_call 37; refine hH.mono ?_; rintro e w' ⟨rfl, rfl⟩)
  clear do0 do1
  go_loopw [22] (fun ix wr => ∃ k : Nat, k ≤ 4 ∧ ix = .int .i64 (k : Int) ∧ DevAt wr h { M with sure := upd M.sure i (garL (M.sure i) off n k) } ∧ Ap h.S w wr) (fun ix _ => 4 - hNo ix)
  case atStart =>
    refine ⟨0, by omega, rfl, ?_, Ap.refl _⟩
    refine HD.out.congr rfl (fun j _ => ?_) (fun j _ => rfl) (fun j _ => rfl) rfl rfl rfl
    show upd M.sure i (garL (M.sure i) off n 0) j = M.sure j
    by_cases e : j = i
    · rw [e, upd_same]; rfl
    · rw [upd_ne _ _ e]
  case round =>
    obtain ⟨k, hk, rfl, hd, ha⟩ := hrel
    have HDR := Lib.hid hd
    have HAR := Lib.hid ha
    clear hd ha HD
    by_cases hlt : k < 4
    · have c0 := HDR.out.c0
      obtain ⟨l, hl⟩ : ∃ l, l = garL (M.sure i) off n k := ⟨_, rfl⟩
      have hrow := HDR.out.rows i hi
      have hlen := HDR.out.lens i hi
      simp only [upd_same] at hrow hlen
      rw [← hl] at hrow hlen
      obtain ⟨x, hx⟩ : ∃ x, x = l.getD (off + k) 0 := ⟨_, rfl⟩
      have hcell := (hrow.2 (off + k) (by omega)).1
      rw [← hx] at hcell
      have hfz := (hrow.2 (off + k) (by omega)).2
      have hi0 : (0 : Int) ≤ (i : Int) := by omega
      have hi1 : (i : Int) < (M.n : Int) := by omega
      have ho0 : (0 : Int) ≤ (off : Int) + (k : Int) := by omega
      have ho1 : (off : Int) + (k : Int) < 512 := by omega
      have HNEW : Hid (∀ W : World, W = wr.drew → DevAt (W.setCell ⟨h.bs, i * 512 + (off + k), none⟩ (.int .u8 ((x ^^^ garB n k).toNat : Int))) h { M with sure := upd M.sure i (garL (M.sure i) off n (k + 1)) }) := Lib.hid (fun W hW => by
        subst hW
        have hd := HDR.out.drew
        have hr := rows_put hd.rows hd.lens hi (j := off + k) (by omega) (x ^^^ garB n k)
        have e : upd (upd M.sure i (garL (M.sure i) off n k)) i ((upd M.sure i (garL (M.sure i) off n k) i).set (off + k) (x ^^^ garB n k)) = upd M.sure i (garL (M.sure i) off n (k + 1)) := by
          rw [upd_upd, upd_same, hx, hl]; rfl
        refine hd.withSure (Ap.setCell (S := fun k => k = h.bs) (Ap.refl _) (p := ⟨h.bs, i * 512 + (off + k), none⟩) (.inl rfl) _) (f := upd M.sure i (garL (M.sure i) off n (k + 1))) ?_ ?_
        · intro q hq
          have := hr q hq
          dsimp only at this
          rw [e] at this
          exact this
        · intro q hq
          by_cases g : q = i
          · rw [g, upd_same, garL_len, ← garL_len (M.sure i) off n k, ← hl]; exact hlen
          · rw [upd_ne _ _ g]
            have := HDR.out.lens q hq
            dsimp only at this
            rwa [upd_ne _ _ g] at this)
      have w1 : IntKind.i64.wrap ((off : Int) + (k : Int)) = (off : Int) + (k : Int) := IntWalk.i64_in _ (by omega)
      have w2 : IntKind.i64.wrap (8 * (k : Int)) = 8 * (k : Int) := IntWalk.i64_in _ (by omega)
      have w3 : ((off : Int) + (k : Int)).toNat = off + k := by omega
      have w4 : (8 * (k : Int)).toNat = 8 * k := by omega
      have w5 : (0 : Int) ≤ 8 * (k : Int) := by omega
      have w6 : IntKind.u8.wrap (n / 2 ^ (8 * k)) = ((garB n k).toNat : Int) := by
        rw [IntKind.wrap_u8']
        unfold garB
        rw [UInt8.toNat_ofNat']
        omega
      have w7 := u8_xorb x (garB n k)
      generalize (garB n k) = y at w6 w7 HNEW
      clear hl hrow hlen hx
      go_wp2_with fail
      refine wp_region_still_tail 19 (by kernel_rfl) (by kernel_rfl) ?_
      simp only [List.take_succ_cons, List.take_zero, List.drop_succ_cons, List.drop_zero]
      iterate 19 still_step
      refine wpStill_nil ?_
      clear w1 w2 w3 w4 w5
      go_wp2
      go_roundw
      case rel => exact ⟨k + 1, by omega, by go_num, HNEW.out _ rfl, HAR.out.drew.setCell (p := ⟨h.bs, i * 512 + (off + k), none⟩) (.inl (.inr (.inl rfl))) _⟩
      case measure => simp [hNo]; omega
    · obtain rfl : k = 4 := by omega
      go_wp2
      go_ret
      exact ⟨rfl, HDR.out, HAR.out⟩
def garE (M : DM) (a off : Int) : Int := if hasB M.n a = true ∧ 0 ≤ off ∧ off ≤ 508 then 0 else 1
def garM (M : DM) (a off n : Int) : DM := if garE M a off = 0 then { M with sure := upd M.sure a.toNat (garL (M.sure a.toNat) off.toNat n 4) } else M
set_option maxHeartbeats 1000000 in
theorem devGarble_any {w : World} {h : DH} {M : DM} (d : DevAt w h M) (a off : Int) (n : Int) (hn0 : 0 ≤ n) (hn1 : n < 4294967296) :
    Calls Tryd.prog 19 #[.pointer (some ⟨h.b, 0, none⟩), .int .i64 a, .int .i64 off, .int .u32 n] w fun e w' => e = .returned (.int .i64 (garE M a off)) ∧ DevAt w' h (garM M a off n) ∧ Ap h.S w w' := by
  by_cases hok : hasB M.n a = true ∧ 0 ≤ off ∧ off ≤ 508
  · have e1 : garE M a off = 0 := if_pos hok
    rw [show garM M a off n = { M with sure := upd M.sure a.toNat (garL (M.sure a.toNat) off.toNat n 4) } from if_pos e1, e1]
    have ha : 0 ≤ a ∧ a < (M.n : Int) := by have := hok.1; unfold hasB at this; simpa using this
    have := devGarble_ok d a.toNat off.toNat (by omega) (by omega) n hn0 hn1
    rw [Int.toNat_of_nonneg ha.1, Int.toNat_of_nonneg hok.2.1] at this
    exact this
  · have e1 : garE M a off = 1 := if_neg hok
    rw [show garM M a off n = M by unfold garM; rw [e1, if_neg (by omega)], e1]
    have hH := devHas_any d a
    have HD := Lib.hid d
    clear d
    cases hb : hasB M.n a
    · rw [hb] at hH
      clear hb hok e1
      go_enter Tryd.func19, Tryd.ntmps19
      go_wp2_with (go_at_call 37; refine hH.mono ?_; rintro e w' ⟨rfl, rfl⟩)
      go_ret
      exact ⟨rfl, HD.out, Ap.refl _⟩
    · rw [hb] at hH
      by_cases h0 : off < 0
      · have d0 : decide (off < 0) = true := decide_eq_true h0
        clear hb hok e1
        go_enter Tryd.func19, Tryd.ntmps19
        go_wp2_with (go_at_call 37; refine hH.mono ?_; rintro e w' ⟨rfl, rfl⟩)
        go_ret
        exact ⟨rfl, HD.out, Ap.refl _⟩
      · have d0 : decide (off < 0) = false := decide_eq_false h0
        have d1 : decide (508 < off) = true := decide_eq_true (by
          rcases Int.lt_or_le 508 off with g | g
          · exact g
          · exact absurd ⟨hb, by omega, g⟩ hok)
        clear hb hok e1
        go_enter Tryd.func19, Tryd.ntmps19
        go_wp2_with (go_at_call 37; refine hH.mono ?_; rintro e w' ⟨rfl, rfl⟩)
        go_ret
        exact ⟨rfl, HD.out, Ap.refl _⟩
end Go.Proofs.YtjhpheepimbbdaaDoor
