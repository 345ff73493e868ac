/- Clusters: what is asked of both laws (lives). -/
import Derived.Test.YtjhpheepimbbdaaGreatDoorZCluF
import Derived.Test.YtjhpheepimbbdaaGreatDoorCrcC
import Derived.Test.YtjhpheepimbbdaaGreatDoorReg
import Derived.Deep.Cut
namespace Go.Proofs.YtjhpheepimbbdaaGreatDoor
open Go.RowKit
open Caulk.Crc (W)

/-- A device of the call's own, and a boxed geometry. -/
structure CL (w W : World) (h : DH) (M : DM) (b : Nat) (s k m c : Int) : Prop where
  d : DevAt W h M
  ab : h.above w.heap.size
  be : Below w.heap.size w W
  bl : w.heap.size ≤ b ∧ b < W.heap.size
  nb : ¬ h.S b
  g0 : W.cell? ⟨b, 0, none⟩ = some (.int .i64 s)
  g1 : W.cell? ⟨b, 1, none⟩ = some (.int .i64 k)
  g2 : W.cell? ⟨b, 2, none⟩ = some (.int .i64 m)
  g3 : W.cell? ⟨b, 3, none⟩ = some (.int .i64 c)
section
variable {w W W' : World} {h : DH} {M M' : DM} {b : Nat} {s k m c : Int}
theorem CL.dev (z : CL w W h M b s k m c) (d' : DevAt W' h M') (a : Ap h.S W W') : CL w W' h M' b s k m c :=
  ⟨d', z.ab, z.be.trans (a.below z.be.size (DH.above_S z.ab)), ⟨z.bl.1, Nat.lt_of_lt_of_le z.bl.2 a.size⟩, z.nb, (a.cell z.bl.2 z.nb _).trans z.g0, (a.cell z.bl.2 z.nb _).trans z.g1, (a.cell z.bl.2 z.nb _).trans z.g2, (a.cell z.bl.2 z.nb _).trans z.g3⟩
theorem CL.below (z : CL w W h M b s k m c) (hb : Below W.heap.size W W') : CL w W' h M b s k m c :=
  ⟨z.d.below hb, z.ab, z.be.trans (hb.mono z.be.size), ⟨z.bl.1, Nat.lt_of_lt_of_le z.bl.2 hb.size⟩, z.nb, (hb.cell (p := ⟨b, 0, none⟩) z.bl.2).trans z.g0, (hb.cell (p := ⟨b, 1, none⟩) z.bl.2).trans z.g1, (hb.cell (p := ⟨b, 2, none⟩) z.bl.2).trans z.g2, (hb.cell (p := ⟨b, 3, none⟩) z.bl.2).trans z.g3⟩
theorem CL.drew (z : CL w W h M b s k m c) : CL w W.drew h M b s k m c := z.below ((Below.refl _ _).drew)
/-- A boxed geometry, ahead of the device. -/
structure CG (w W : World) (b : Nat) (s k m c : Int) : Prop where
  be : Below w.heap.size w W
  bl : w.heap.size ≤ b ∧ b < W.heap.size
  g0 : W.cell? ⟨b, 0, none⟩ = some (.int .i64 s)
  g1 : W.cell? ⟨b, 1, none⟩ = some (.int .i64 k)
  g2 : W.cell? ⟨b, 2, none⟩ = some (.int .i64 m)
  g3 : W.cell? ⟨b, 3, none⟩ = some (.int .i64 c)
theorem CG.below (z : CG w W b s k m c) (hb : Below W.heap.size W W') : CG w W' b s k m c :=
  ⟨z.be.trans (hb.mono z.be.size), ⟨z.bl.1, Nat.lt_of_lt_of_le z.bl.2 hb.size⟩, (hb.cell (p := ⟨b, 0, none⟩) z.bl.2).trans z.g0, (hb.cell (p := ⟨b, 1, none⟩) z.bl.2).trans z.g1, (hb.cell (p := ⟨b, 2, none⟩) z.bl.2).trans z.g2, (hb.cell (p := ⟨b, 3, none⟩) z.bl.2).trans z.g3⟩
theorem CG.start (w : World) (s k m c : Int) (T : Nat) : CG w (w.alloc (.cells #[.int .i64 s, .int .i64 k, .int .i64 m, .int .i64 c] T)) w.heap.size s k m c :=
  ⟨below1 _ _, ⟨Nat.le_refl _, by simp⟩, by simp [go_sem], by simp [go_sem], by simp [go_sem], by simp [go_sem]⟩
theorem CG.dev (z : CG w W b s k m c) (d : DevAt W' h M) (ab : h.above W.heap.size) (hb : Below W.heap.size W W') : CL w W' h M b s k m c := by
  have z' := z.below hb
  have hs := z.be.size
  exact ⟨d, ⟨Nat.le_trans hs ab.1, Nat.le_trans hs ab.2.1, Nat.le_trans hs ab.2.2.1, Nat.le_trans hs ab.2.2.2⟩, z'.be, z'.bl, fun g => by have := DH.above_S ab b g; have := z.bl.2; omega, z'.g0, z'.g1, z'.g2, z'.g3⟩
end
theorem cluNew_ex (n : Nat) (h1 : 1 ≤ n) (h2 : n ≤ 32768) (w : World) :
    Calls Tryz.prog 5 #[.int .i64 (n : Int)] w fun e w' => ∃ h : DH, e = .returned (.tuple #[.pointer (some ⟨h.b, 0, none⟩), .int .i64 0]) ∧ DevAt w' h (newM n) ∧ h.above w.heap.size ∧ Below w.heap.size w w' := by
  refine (devNew_ok n h1 h2 w).mono ?_
  rintro e w' ⟨he, hd, hb⟩
  exact ⟨newH w n, he, hd, ⟨by simp only [newH]; omega, by simp only [newH]; omega, by simp only [newH]; omega, by simp only [newH]; omega⟩, hb⟩
/-! ### lives -/
theorem w64_lit (x : Int) (h : -9223372036854775808 ≤ x ∧ x ≤ 9223372036854775807) : W64 x := h
theorem ok1104 : GeoOk 1 1 0 4 := by unfold GeoOk rsE tw; decide
theorem sz1104 : geoSz 1 1 0 4 = 1024 := by unfold geoSz; rw [if_pos ok1104]; rfl
theorem sec1104 : geoSec 1 1 0 4 = 8 := by unfold geoSec; rw [if_pos ok1104]; rfl
theorem fe1104 (a : Int) (h : 0 ≤ a ∧ a < 4) : geoFe 1 1 0 4 a = 0 := by unfold geoFe; rw [if_pos ok1104, if_pos h]
theorem fill_abc : fiE 1 1 0 4 ⟨#[97, 98, 99]⟩ = 0 := by unfold fiE; rw [if_pos ok1104, sz1104]; rfl
/-- What is asked of the parts. -/
theorem lv_all (Tb : World → Prop) (hTb : ∀ W, Tb W → Tab W) : ∃ (F : ByteArray) (M2 : DM) (v : Int), F.size = 1024 ∧ F.extract 0 3 = ⟨#[97, 98, 99]⟩ ∧ M2.writes = 2 ∧ 0 ≤ v ∧ v < 4294967296 ∧
    (∀ W, Calls Tryz.prog 12 #[.agg #[.int .i64 1, .int .i64 1, .int .i64 0, .int .i64 4], .string ⟨#[97, 98, 99]⟩] W fun e w' => e = .returned (.tuple #[.string F, .int .i64 0]) ∧ Below W.heap.size W w') ∧
    (∀ W, Calls Tryz.prog 12 #[.agg #[.int .i64 1, .int .i64 1, .int .i64 0, .int .i64 4], .string (F ++ ⟨#[33]⟩)] W fun e w' => e = .returned (.tuple #[.string ⟨#[]⟩, .int .i64 7]) ∧ Below W.heap.size W w') ∧
    (∀ W h, DevAt W h (newM 8) → Calls Tryz.prog 13 #[.pointer (some ⟨h.b, 0, none⟩), .agg #[.int .i64 1, .int .i64 1, .int .i64 0, .int .i64 4], .int .i64 2, .string F] W fun e w' => e = .returned (.int .i64 0) ∧ DevAt w' h M2 ∧ Ap h.S W w') ∧
    (∀ W, Tb W → Calls Tryz.prog 15 #[.string F] W fun e w' => e = .returned (.int .u32 v) ∧ W = w') ∧
    (∀ W h, DevAt W h M2 → Tb W → Calls Tryz.prog 14 #[.pointer (some ⟨h.b, 0, none⟩), .agg #[.int .i64 1, .int .i64 1, .int .i64 0, .int .i64 4], .int .i64 2, .int .u32 v] W fun e w' => e = .returned (.tuple #[.string F, .int .i64 0]) ∧ Below W.heap.size W w') ∧
    (∀ W h, DevAt W h M2 → Tb W → Calls Tryz.prog 14 #[.pointer (some ⟨h.b, 0, none⟩), .agg #[.int .i64 1, .int .i64 1, .int .i64 0, .int .i64 4], .int .i64 2, .int .u32 (IntKind.u32.wrap (v + 1))] W fun e w' => e = .returned (.tuple #[.string ⟨#[]⟩, .int .i64 9]) ∧ Below W.heap.size W w') ∧
    (∀ W h, DevAt W h M2 → Calls Tryz.prog 16 #[.pointer (some ⟨h.b, 0, none⟩), .agg #[.int .i64 1, .int .i64 1, .int .i64 0, .int .i64 4], .int .i64 4] W fun e w' => e = .returned (.tuple #[.string ⟨#[]⟩, .int .i64 1]) ∧ Below W.heap.size W w') ∧
    (∀ W h, DevAt W h M2 → Calls Tryz.prog 13 #[.pointer (some ⟨h.b, 0, none⟩), .agg #[.int .i64 1, .int .i64 1, .int .i64 0, .int .i64 4], .int .i64 2, .string ⟨#[97, 98, 99]⟩] W fun e w' => e = .returned (.int .i64 2) ∧ DevAt w' h M2 ∧ Ap h.S W w') := by
  have k1 : W64 1 := w64_lit 1 (by omega)
  have k0 : W64 0 := w64_lit 0 (by omega)
  have k4 : W64 4 := w64_lit 4 (by omega)
  obtain ⟨F, hF⟩ : ∃ F, F = fiV 1 1 0 4 ⟨#[97, 98, 99]⟩ := ⟨_, rfl⟩
  have hsz : (F.size : Int) = geoSz 1 1 0 4 := by rw [hF]; exact fi_size fill_abc
  have hsz2 : F.size = 1024 := by rw [sz1104] at hsz; omega
  have hex : F.extract 0 3 = ⟨#[97, 98, 99]⟩ := by
    rw [hF]; unfold fiV; rw [if_pos fill_abc, sz1104]
    apply ByteArray.ext
    apply Array.ext'
    rw [ByteArray.data_extract, Array.toList_extract, List.extract_eq_take_drop]
    rfl
  have hfe := fe1104 2 (by omega)
  obtain ⟨M2, hM⟩ : ∃ M2, M2 = wrM (newM 8) (cluF 1 1 0 4 2) F (cluT 1 1 0 4) := ⟨_, rfl⟩
  have hcw : cwR (newM 8) 1 1 0 4 2 F = (M2, 0) := by rw [hM]; exact cw_up ⟨rfl, by show (-1 : Int) < 0; omega⟩ hfe (by rw [sec1104]; show (8 : Int) ≤ ((8 : Nat) : Int); omega) hsz
  have hcr : crR M2 1 1 0 4 2 = (F.data.toList, 0) := by rw [hM]; exact cr_wr rfl hfe (by rw [sec1104]; show (8 : Int) ≤ ((8 : Nat) : Int); omega) hsz
  have hwr : M2.writes = 2 := by
    rw [hM]
    show 0 + cluT 1 1 0 4 = 2
    unfold cluT; rw [sz1104]; rfl
  obtain ⟨v, hv⟩ : ∃ v, v = U32 (Caulk.Crc.sum F.data.toList) := ⟨_, rfl⟩
  have hv0 : 0 ≤ v := by rw [hv]; exact u32_0 _
  have hv1 : v < 4294967296 := by rw [hv]; exact u32_lt _
  refine ⟨F, M2, v, hsz2, hex, hwr, hv0, hv1, fun W => ?_, fun W => ?_, fun W h d => ?_, fun W hT => ?_, fun W h d hT => ?_, fun W h d hT => ?_, fun W h d => ?_, fun W h d => ?_⟩
  · have := cluFill_any 1 1 0 4 k1 k0 k4 ⟨#[97, 98, 99]⟩ (by show 3 ≤ _; omega) W
    rw [fill_abc, ← hF] at this
    exact this
  · have hs : (F ++ ⟨#[33]⟩ : ByteArray).size = 1025 := by rw [ByteArray.size_append, hsz2]; rfl
    have := cluFill_any 1 1 0 4 k1 k0 k4 (F ++ ⟨#[33]⟩) (by omega) W
    have e7 : fiE 1 1 0 4 (F ++ ⟨#[33]⟩) = 7 := by unfold fiE; rw [if_pos ok1104, if_neg (by rw [sz1104, hs]; omega)]
    rw [fi_no (by omega), e7] at this
    exact this
  · have := cluWrite_any d 1 1 0 4 2 k1 k0 k4 F (by show 0 < _; omega)
    rw [hcw] at this
    exact this
  · have := crcSum_any F (by unfold maxLen; omega) W (hTb W hT)
    rw [← hv] at this
    exact this
  · have := cluRead_any d 1 1 0 4 2 v k1 k0 k4 (hTb W hT)
    have eE : crE M2 1 1 0 4 2 v = 0 := by unfold crE; rw [hcr]; simp only; rw [if_pos trivial, if_pos hv.symm]
    have eV : (⟨(crV M2 1 1 0 4 2 v).toArray⟩ : ByteArray) = F := by unfold crV; rw [if_pos eE, hcr]
    rw [eV, eE] at this
    exact this
  · have := cluRead_any d 1 1 0 4 2 (IntKind.u32.wrap (v + 1)) k1 k0 k4 (hTb W hT)
    have eE : crE M2 1 1 0 4 2 (IntKind.u32.wrap (v + 1)) = 9 := by
      unfold crE; rw [hcr]; simp only
      rw [if_pos trivial, if_neg (by rw [← hv, IntKind.wrap_u32]; omega)]
    have eV : crV M2 1 1 0 4 2 (IntKind.u32.wrap (v + 1)) = [] := by unfold crV; rw [if_neg (by omega)]
    rw [eV, eE] at this
    exact this
  · have := cluRaw_any d 1 1 0 4 4 k1 k0 k4
    have e1 : crR M2 1 1 0 4 4 = ([], 1) := by
      have : geoFe 1 1 0 4 4 = 1 := by unfold geoFe; rw [if_pos ok1104]; rfl
      unfold crR; rw [this]; rfl
    rw [e1] at this
    exact this
  · have := cluWrite_any d 1 1 0 4 2 k1 k0 k4 ⟨#[97, 98, 99]⟩ (by omega)
    have e2 : cwR M2 1 1 0 4 2 ⟨#[97, 98, 99]⟩ = (M2, 2) := by
      unfold cwR; rw [if_pos hfe, if_neg (by rw [sz1104]; show ¬ ((3 : Nat) : Int) = 1024; omega)]
    rw [e2] at this
    exact this
set_option maxRecDepth 100000 in
set_option maxHeartbeats 4000000 in
theorem cluLives_any (w : World) (hT : Tab w) : Calls Tryz.prog 4 #[] w fun e w' => e = .returned (.bool true) ∧ Below w.heap.size w w' := by
  obtain ⟨F, M2, v, hs, hex, hwr, hv0, hv1, c1, c2, c3, c4, c5, c6, c7, c8⟩ := lv_all (fun W => Below w.heap.size w W) (fun W hW => hT.below hW (Nat.le_refl _))
  have hNew : ∀ W, Calls Tryz.prog 5 #[.int .i64 8] W fun e w' => ∃ h : DH, e = .returned (.tuple #[.pointer (some ⟨h.b, 0, none⟩), .int .i64 0]) ∧ DevAt w' h (newM 8) ∧ h.above W.heap.size ∧ Below W.heap.size W w' := fun W => cluNew_ex 8 (by omega) (by omega) W
  have HG0 := Lib.hid (CG.start w 1 1 0 4 23)
  have HWR := Lib.hid hwr
  have HEX := Lib.hid hex
  clear hT hwr
  go_enter Tryz.func4, Tryz.ntmps4
  go_upto_region 2 with fail
  generalize w.alloc (.cells #[.int .i64 1, .int .i64 1, .int .i64 0, .int .i64 4] 23) = W0 at HG0 ⊢
  go_upto_region 3 with (go_at_call 5; with_reducible refine (hNew _).mono ?_; rintro e W1 ⟨h, rfl, hd1, hab, hb1⟩; have HL := Lib.hid (HG0.out.dev hd1 hab hb1); clear hd1 hab hb1)
  obtain ⟨_, _, _, _, _, g0, g1, g2, g3⟩ := HL.out
  go_upto_region 6 with (go_at_call 12; with_reducible refine (c1 _).mono ?_; rintro e W2 ⟨rfl, hb⟩; have HL2 := Lib.hid (HL.out.below hb); clear hb)
  obtain ⟨_, _, _, _, _, g0, g1, g2, g3⟩ := HL2.out
  go_upto_region 7 with (go_at_call 13; with_reducible refine (c3 _ _ HL2.out.d).mono ?_; rintro e W3 ⟨rfl, hd, ha⟩; have HL3 := Lib.hid (HL2.out.dev hd ha); clear hd ha)
  have gd := HL3.out.drew
  have z0 : ∀ p : Wk (fun W => CL w W h M2 w.heap.size 1 1 0 4), p.W.cell? ⟨w.heap.size, 0, none⟩ = some (.int .i64 1) := fun p => p.h.g0
  have z1 : ∀ p : Wk (fun W => CL w W h M2 w.heap.size 1 1 0 4), p.W.cell? ⟨w.heap.size, 1, none⟩ = some (.int .i64 1) := fun p => p.h.g1
  have z2 : ∀ p : Wk (fun W => CL w W h M2 w.heap.size 1 1 0 4), p.W.cell? ⟨w.heap.size, 2, none⟩ = some (.int .i64 0) := fun p => p.h.g2
  have z3 : ∀ p : Wk (fun W => CL w W h M2 w.heap.size 1 1 0 4), p.W.cell? ⟨w.heap.size, 3, none⟩ = some (.int .i64 4) := fun p => p.h.g3
  refine wp_region_wk (fun W => CL w W h M2 w.heap.size 1 1 0 4) (by kernel_rfl) (by kernel_rfl) gd ?_
  have ne : Nonempty (Wk (fun W => CL w W h M2 w.heap.size 1 1 0 4)) := ⟨⟨_, gd⟩⟩
  clear gd
  repeat (refine wpQuiet_step (fun K hK => ?_); go_simp; first
    | (refine hK _ ?_; clear hK K)
    | (apply Exists.intro
       refine ⟨fun p => ?_, hK _ ?_⟩
       (first
        | (go_at_call 15; exact (c4 _ p.h.be).mono fun _ _ h => ⟨h.1, ⟨_, h.2 ▸ p.h⟩, rfl⟩)
        | (go_at_call 14; exact (c5 _ _ p.h.d p.h.be).mono fun _ _ h => ⟨h.1, ⟨_, CL.below p.h h.2⟩, rfl⟩))
       clear hK K))
  refine wpQuiet_nil ?_
  intro p
  have HL4 : Hid (CL w p.W h M2 w.heap.size 1 1 0 4) := Lib.hid p.h
  generalize p.W = W4 at HL4 ⊢
  clear z0 z1 z2 z3 ne p
  go_upto_region 8 with fail
  have gd := HL4.out.drew
  have z0 : ∀ p : Wk (fun W => CL w W h M2 w.heap.size 1 1 0 4), p.W.cell? ⟨w.heap.size, 0, none⟩ = some (.int .i64 1) := fun p => p.h.g0
  have z1 : ∀ p : Wk (fun W => CL w W h M2 w.heap.size 1 1 0 4), p.W.cell? ⟨w.heap.size, 1, none⟩ = some (.int .i64 1) := fun p => p.h.g1
  have z2 : ∀ p : Wk (fun W => CL w W h M2 w.heap.size 1 1 0 4), p.W.cell? ⟨w.heap.size, 2, none⟩ = some (.int .i64 0) := fun p => p.h.g2
  have z3 : ∀ p : Wk (fun W => CL w W h M2 w.heap.size 1 1 0 4), p.W.cell? ⟨w.heap.size, 3, none⟩ = some (.int .i64 4) := fun p => p.h.g3
  refine wp_region_wk (fun W => CL w W h M2 w.heap.size 1 1 0 4) (by kernel_rfl) (by kernel_rfl) gd ?_
  have ne : Nonempty (Wk (fun W => CL w W h M2 w.heap.size 1 1 0 4)) := ⟨⟨_, gd⟩⟩
  clear gd
  repeat (refine wpQuiet_step (fun K hK => ?_); go_simp; first
    | (refine hK _ ?_; clear hK K)
    | (apply Exists.intro
       refine ⟨fun p => ?_, hK _ ?_⟩
       (first
        | (go_at_call 15; exact (c4 _ p.h.be).mono fun _ _ h => ⟨h.1, ⟨_, h.2 ▸ p.h⟩, rfl⟩)
        | (go_at_call 14; exact (c6 _ _ p.h.d p.h.be).mono fun _ _ h => ⟨h.1, ⟨_, CL.below p.h h.2⟩, rfl⟩))
       clear hK K))
  refine wpQuiet_nil ?_
  intro p
  have HL5 : Hid (CL w p.W h M2 w.heap.size 1 1 0 4) := Lib.hid p.h
  generalize p.W = W5 at HL5 ⊢
  clear z0 z1 z2 z3 ne p
  obtain ⟨_, _, _, _, _, g0, g1, g2, g3⟩ := HL5.out
  go_upto_region 11 with (first
    | (go_at_call 16; with_reducible refine (c7 _ _ HL5.out.d).mono ?_; rintro e W6 ⟨rfl, hb⟩; have HL6 := Lib.hid (HL5.out.below hb); obtain ⟨_, _, _, _, _, g0, g1, g2, g3⟩ := HL6.out; clear hb)
    | (go_at_call 13; with_reducible refine (c8 _ _ HL6.out.d).mono ?_; rintro e W7 ⟨rfl, hd, ha⟩; have HL7 := Lib.hid (HL6.out.dev hd ha); obtain ⟨_, _, _, _, _, g0, g1, g2, g3⟩ := HL7.out; clear hd ha))
  have hcat : ¬ 9223372036854775807 < F.size + 1 := by omega
  have hcat2 : ¬ 9223372036854775807 < F.size + (⟨#[33]⟩ : ByteArray).size := by show ¬ _ < F.size + 1; omega
  go_upto_region 12 with (go_at_call 12; with_reducible refine (c2 _).mono ?_; rintro e W8 ⟨rfl, hb⟩; have HL8 := Lib.hid (HL7.out.below hb); clear hb)
  have hWr : Calls Tryz.prog 9 #[.pointer (some ⟨h.b, 0, none⟩)] W8 fun e w' => e = .returned (.int .i64 2) ∧ W8 = w' := by
    have := devWrites_any HL8.out.d
    rw [HWR.out] at this
    exact this
  go_wp2_with (go_at_call 9; refine hWr.mono ?_; rintro e w9 ⟨rfl, rfl⟩)
  go_ret
  exact ⟨rfl, HL8.out.be⟩
end Go.Proofs.YtjhpheepimbbdaaGreatDoor
