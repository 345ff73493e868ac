/- References: RefsCounts. -/
import Derived.Test.YthhbaccbhfngbaaRefX
import Derived.Test.YthhbaccbhfngbaaRefL
namespace Go.Proofs.Ythhbaccbhfngbaa
open Go.RowKit

theorem sameR_self {w : World} {va vb : Value} {A : List RF} (ha : RefS w va A) (hb : RefS w vb A) : Calls Try.prog 12 #[va, vb] w fun e w' => e = .returned (.bool true) ∧ Below w.heap.size w w' := by
  have h := docSame_any ha hb
  rwa [decide_eq_true rfl] at h
theorem sameI_self {w : World} {va vb : Value} {A : List Int} (ha : IdxS w va A) (hb : IdxS w vb A) : Calls Try.prog 13 #[va, vb] w fun e w' => e = .returned (.bool true) ∧ Below w.heap.size w w' := by
  have h := idxSame_any ha hb
  rwa [decide_eq_true rfl] at h
set_option maxRecDepth 100000 in
set_option maxHeartbeats 4000000 in
theorem refsCounts_any {w : World} {v : Value} {C : List CH} (e : Int) (_ : (Lit.int .i64 e).wf = true) (w1 : ChsW w v C) :
    Calls Try.prog 3 #[.int .i64 e, v] w fun r w' => r = .returned (.bool true) ∧ Below w.heap.size w w' := by
  have hS := refSmall_any w1.s
  have HV := Lib.hid w1.s
  obtain ⟨A, c, rfl⟩ := w1.s.form
  have hL := refLives_any
  go_enter Try.func3, Try.ntmps3
  have hR : ∀ W, Below w.heap.size w W → ChsS W (.slice A C.length c) C := fun W hb => HV.out.below hb
  have hC1 : ∀ W, Below w.heap.size w W → FewC C → _ := fun W hb hf => refCount_any (e := e) (hR W hb) hf
  have hC2 : ∀ W, Below w.heap.size w W → FewC C → _ := fun W hb hf => docCount_any (e := e) (hR W hb) hf
  have hF1 : ∀ W, Below w.heap.size w W → FewC C → _ := fun W hb hf => refFresh_any (e := e) (hR W hb) hf
  have hF2 : ∀ W, Below w.heap.size w W → FewC C → _ := fun W hb hf => docFresh_any (e := e) (hR W hb) hf
  generalize (if rfOk e C = true then (0 : Int) else 2) = z at hC1 hC2 hF1 hF2
  generalize cntU (rfEnts e C) = LR at hC1 hC2
  generalize frU (rfEnts e C) = LI at hF1 hF2
  clear w1 hR
  go_wp2_with (first
    | (go_at_call 6; (with_reducible refine hS.mono ?_); rintro r w1 ⟨b, rfl, hf, hb⟩; have HF := Lib.hid hf; have HB1 := Lib.hid hb; clear hf hb; cases b)
    | (go_at_call 7; (with_reducible refine (hL _).mono ?_); rintro r w7 ⟨rfl, hb⟩; have HB7 := Lib.hid hb; clear hb)
    | (go_at_call 8; (with_reducible refine (hC1 _ HB1.out (HF.out (by first | rfl | trivial))).mono ?_); rintro r w3 ⟨x3, rfl, hr, hb⟩; obtain ⟨A3, k3, rfl⟩ := hr.form; have HR3 := Lib.hid hr; have HB3 : Hid (Below w.heap.size w w3) := Lib.hid (HB1.out.trans (hb.mono HB1.out.size)); clear hb hr)
    | (go_at_call 9; (with_reducible refine (hC2 _ HB3.out (HF.out (by first | rfl | trivial))).mono ?_); rintro r w4 ⟨x4, rfl, hr, hb⟩; obtain ⟨A4, k4, rfl⟩ := hr.form; have HR4 := Lib.hid hr; have HR34 := Lib.hid (HR3.out.below hb (Nat.le_refl _)); have HB4 : Hid (Below w.heap.size w w4) := Lib.hid (HB3.out.trans (hb.mono HB3.out.size)); clear hb hr)
    | (go_at_call 10; (with_reducible refine (hF1 _ HB4.out (HF.out (by first | rfl | trivial))).mono ?_); rintro r w5 ⟨x5, rfl, hr, hb⟩; obtain ⟨A5, k5, rfl, _⟩ := id hr; have HR5 := Lib.hid hr; have HR35 := Lib.hid (HR34.out.below hb (Nat.le_refl _)); have HR45 := Lib.hid (HR4.out.below hb (Nat.le_refl _)); have HB5 : Hid (Below w.heap.size w w5) := Lib.hid (HB4.out.trans (hb.mono HB4.out.size)); clear hb hr)
    | (go_at_call 11; (with_reducible refine (hF2 _ HB5.out (HF.out (by first | rfl | trivial))).mono ?_); rintro r w6 ⟨x6, rfl, hr, hb⟩; obtain ⟨A6, k6, rfl, _⟩ := id hr; have HR6 := Lib.hid hr; have HR36 := Lib.hid (HR35.out.below hb (Nat.le_refl _)); have HR46 := Lib.hid (HR45.out.below hb (Nat.le_refl _)); have HR56 := Lib.hid (HR5.out.below hb (Nat.le_refl _)); have HB6 : Hid (Below w.heap.size w w6) := Lib.hid (HB5.out.trans (hb.mono HB5.out.size)); clear hb hr)
    | (go_at_call 12; (with_reducible refine (sameR_self (HR36.out.below HB7.out (Nat.le_refl _)) (HR46.out.below HB7.out (Nat.le_refl _))).mono ?_); rintro r w8 ⟨rfl, hb⟩; have HB8 := Lib.hid hb; clear hb)
    | (go_at_call 13; (with_reducible refine (sameI_self ((HR56.out.below HB7.out (Nat.le_refl _)).below HB8.out (Nat.le_refl _)) ((HR6.out.below HB7.out (Nat.le_refl _)).below HB8.out (Nat.le_refl _))).mono ?_); rintro r w9 ⟨rfl, hb⟩; have HB9 := Lib.hid hb; clear hb))
  all_goals go_ret
  · exact ⟨rfl, HB1.out.trans (HB7.out.mono HB1.out.size)⟩
  · exact ⟨by simp, ((HB6.out.trans (HB7.out.mono HB6.out.size)).trans (HB8.out.mono (Nat.le_trans HB6.out.size HB7.out.size))).trans (HB9.out.mono (Nat.le_trans HB6.out.size (Nat.le_trans HB7.out.size HB8.out.size)))⟩
end Go.Proofs.Ythhbaccbhfngbaa
