/- What the dev statements ask first: the answers that the document gives. -/
import Derived.Test.YtmbjcphhfnemgaaDevO
namespace Go.Proofs.Ytmbjcphhfnemgaa
open Go.RowKit Go.Maps

def gM (n : Nat) (su : Nat → List UInt8) (fr : Nat → Option (List UInt8)) (bd : Nat → Bool) (wr : Nat) (dn : Bool) (lf : Int) : DM := ⟨n, su, fr, bd, wr, dn, lf⟩
theorem hasB_in {n a : Nat} (h : a < n) : hasB n (a : Int) = true := decide_eq_true ⟨by omega, by omega⟩
theorem gM_write {n : Nat} {su fr bd wr} {a : Nat} {s : ByteArray} (ha : a < n) (hs : s.size = 512) :
    writeE (gM n su fr bd wr false (-1)) (a : Int) s = 0 ∧ writeM (gM n su fr bd wr false (-1)) (a : Int) s = gM n su (upd fr a (some s.data.toList)) bd (wr + 1) false (-1) := by
  have h1 : writeE (gM n su fr bd wr false (-1)) (a : Int) s = 0 := by
    unfold writeE
    rw [if_neg (by simp [gM]), if_neg (by rw [show (gM n su fr bd wr false (-1)).n = n from rfl, hasB_in ha]; simp), if_neg (by omega)]
    unfold burnE; rw [if_neg (by simp [gM])]
  refine ⟨h1, ?_⟩
  unfold writeM
  rw [if_pos h1]
  unfold burnM
  rw [if_neg (by simp [gM]), if_neg (by simp [gM])]
  simp [gM]
theorem gM_write0 {n : Nat} {su fr bd wr} {a : Nat} {s : ByteArray} (ha : a < n) (hs : s.size = 512) :
    writeE (gM n su fr bd wr false 0) (a : Int) s = 12 ∧ writeM (gM n su fr bd wr false 0) (a : Int) s = gM n su fr bd wr true 0 := by
  have h1 : writeE (gM n su fr bd wr false 0) (a : Int) s = 12 := by
    unfold writeE
    rw [if_neg (by simp [gM]), if_neg (by rw [show (gM n su fr bd wr false 0).n = n from rfl, hasB_in ha]; simp), if_neg (by omega)]
    unfold burnE; rw [if_pos (by simp [gM])]
  refine ⟨h1, ?_⟩
  unfold writeM
  rw [if_neg (by rw [h1]; decide), if_neg (by rw [show (gM n su fr bd wr false 0).n = n from rfl, hasB_in ha]; simp [gM, hs])]
  unfold burnM
  rw [if_pos (by simp [gM])]
  simp [gM]
theorem gM_flush {n : Nat} {su fr bd wr} : flushE (gM n su fr bd wr false (-1)) = 0 ∧ flushM (gM n su fr bd wr false (-1)) = gM n (fun i => (fr i).getD (su i)) (fun _ => none) (fun i => bd i && (fr i).isNone) wr false (-1) := by
  have h0 : burnE (gM n su fr bd wr false (-1)) = 0 := by unfold burnE; rw [if_neg (by simp [gM])]
  refine ⟨by unfold flushE; rw [if_neg (by simp [gM]), h0], ?_⟩
  unfold flushM
  rw [if_neg (by simp [gM]), if_pos h0]
  unfold burnM
  rw [if_neg (by simp [gM]), if_neg (by simp [gM])]
  rfl
theorem gM_read {n a wr : Nat} {su bd lf} (ha : a < n) : readE (gM n su (fun _ => none) bd wr false lf) (a : Int) = (if bd a = true then 9 else 0) ∧ readV (gM n su (fun _ => none) bd wr false lf) (a : Int) = (if bd a = true then [] else su a) := by
  have h1 : readE (gM n su (fun _ => none) bd wr false lf) (a : Int) = (if bd a = true then 9 else 0) := by
    unfold readE
    rw [if_neg (by simp [gM]), if_neg (by rw [show (gM n su (fun _ => none) bd wr false lf).n = n from rfl, hasB_in ha]; simp)]
    show (if bd ((a : Int).toNat) = true then (9 : Int) else 0) = _
    rw [Int.toNat_natCast]
  refine ⟨h1, ?_⟩
  unfold readV
  rw [h1]
  by_cases g : bd a = true
  · rw [if_pos g, if_pos g, if_neg (by omega)]
  · rw [if_neg g, if_neg g, if_pos rfl]; simp [gM]
/-- The sectors of the example: behind the first flush, behind the crash, at the end. -/
def lv1 (i : Nat) : List UInt8 := (upd (fun _ => (none : Option (List UInt8))) 1 (some (fillL 7)) i).getD blankB
def lvF : Nat → Option (List UInt8) := upd (upd (fun _ => none) 1 (some (fillL 8))) 2 (some (fillL 9))
def lv2 (i : Nat) : List UInt8 := if i = 2 then fillL 9 else lv1 i
def lvG : List UInt8 := garL (fillL 9) 508 1 4
def lv3 : Nat → List UInt8 := upd lv2 2 lvG
def bd1 : Nat → Bool := upd (fun _ => false) 1 true
theorem lv_wait : waitL (gM 3 lv1 lvF (fun _ => false) 3 true 0) = [1, 2] := rfl
theorem lv_crash {w : World} {h : DH} (d : DevAt w h (crashM (gM 3 lv1 lvF (fun _ => false) 3 true 0) [false, true])) : DevAt w h (gM 3 lv2 (fun _ => none) (fun _ => false) 3 false (-1)) := by
  refine d.congr rfl (fun i hi => ?_) (fun _ _ => rfl) (fun i _ => ?_) rfl rfl rfl
  · show lv2 i = if keptB (waitL (gM 3 lv1 lvF (fun _ => false) 3 true 0)) [false, true] i = true then (lvF i).getD [] else lv1 i
    rw [lv_wait]
    have : i = 0 ∨ i = 1 ∨ i = 2 := by
      have : i < 3 := hi
      omega
    rcases this with rfl | rfl | rfl <;> rfl
  · show false = (false && !keptB (waitL (gM 3 lv1 lvF (fun _ => false) 3 true 0)) [false, true] i)
    rfl
theorem lvG_eq : lvG = (fillL 9).take 508 ++ [8] ++ (fillL 9).take 3 := by decide +kernel
theorem lvG_str : (⟨lvG.toArray⟩ : ByteArray) = ⟨((fillL 9).take 508 ++ [8] ++ (fillL 9).take 3).toArray⟩ := by rw [lvG_eq]
theorem lv_bad : numsI 3 bd1 = [1] := rfl
theorem lv_waits (su bd wr dn lf) : numsI (gM 3 su (fun _ => none) bd wr dn lf).n (fun i => ((gM 3 su (fun _ => none) bd wr dn lf).fresh i).isSome) = [] := rfl
/-- The device of the example, in a world that has left all older memory alone. -/
structure LK (w W : World) (h : DH) (M : DM) : Prop where
  d : DevAt W h M
  ab : h.above w.heap.size
  be : Below w.heap.size w W
theorem LK.below {w W W' : World} {h : DH} {M : DM} (k : LK w W h M) (hb : Below W.heap.size W W') : LK w W' h M := ⟨k.d.below hb, k.ab, k.be.trans (hb.mono k.be.size)⟩
theorem LK.ap {w W W' : World} {h : DH} {M M' : DM} (k : LK w W h M) (d : DevAt W' h M') (ha : Ap h.S W W') : LK w W' h M' := ⟨d, k.ab, k.be.trans (ha.below k.be.size (DH.above_S k.ab))⟩
theorem lk_write {w W : World} {h : DH} {n : Nat} {su fr bd} {wr : Nat} (k : LK w W h (gM n su fr bd wr false (-1))) (x : Int) (a : Nat) (hx : x = (a : Int)) (ha : a < n) {F : ByteArray} {l : List UInt8} (hF : F.size = 512) (hl : F.data.toList = l) (hwr : wr < 1000) :
    Calls Try.prog 24 #[.pointer (some ⟨h.b, 0, none⟩), .int .i64 x, .string F] W fun e w' => e = .returned (.int .i64 0) ∧ LK w w' h (gM n su (upd fr a (some l)) bd (wr + 1) false (-1)) := by
  subst hx hl
  have h1 := devWrite_any k.d (a : Int) F (by show wr < _; omega)
  obtain ⟨q1, q2⟩ := gM_write (n := n) (su := su) (fr := fr) (bd := bd) (wr := wr) (a := a) ha hF
  rw [q1, q2] at h1
  exact h1.mono fun e w' ⟨he, hd, ha⟩ => ⟨he, k.ap hd ha⟩
theorem lk_write0 {w W : World} {h : DH} {n : Nat} {su fr bd} {wr : Nat} (k : LK w W h (gM n su fr bd wr false 0)) (x : Int) (a : Nat) (hx : x = (a : Int)) (ha : a < n) {F : ByteArray} (hF : F.size = 512) (hwr : wr < 1000) :
    Calls Try.prog 24 #[.pointer (some ⟨h.b, 0, none⟩), .int .i64 x, .string F] W fun e w' => e = .returned (.int .i64 12) ∧ LK w w' h (gM n su fr bd wr true 0) := by
  subst hx
  have h1 := devWrite_any k.d (a : Int) F (by show wr < _; omega)
  obtain ⟨q1, q2⟩ := gM_write0 (n := n) (su := su) (fr := fr) (bd := bd) (wr := wr) (a := a) ha hF
  rw [q1, q2] at h1
  exact h1.mono fun e w' ⟨he, hd, ha⟩ => ⟨he, k.ap hd ha⟩
theorem lk_flush {w W : World} {h : DH} {n : Nat} {su fr bd} {wr : Nat} (k : LK w W h (gM n su fr bd wr false (-1))) :
    Calls Try.prog 26 #[.pointer (some ⟨h.b, 0, none⟩)] W fun e w' => e = .returned (.int .i64 0) ∧ LK w w' h (gM n (fun i => (fr i).getD (su i)) (fun _ => none) (fun i => bd i && (fr i).isNone) wr false (-1)) := by
  have h1 := devFlush_any k.d
  rw [gM_flush.1, gM_flush.2] at h1
  exact h1.mono fun e w' ⟨he, hd, ha⟩ => ⟨he, k.ap hd ha⟩
theorem lk_read {w W : World} {h : DH} {n : Nat} {su bd} {wr : Nat} (k : LK w W h (gM n su (fun _ => none) bd wr false (-1))) (x : Int) (a : Nat) (hx : x = (a : Int)) (ha : a < n) {S : ByteArray} {e0 : Int} (hS : S = ⟨(if bd a = true then [] else su a).toArray⟩) (he : e0 = if bd a = true then 9 else 0) :
    Calls Try.prog 29 #[.pointer (some ⟨h.b, 0, none⟩), .int .i64 x] W fun e w' => e = .returned (.tuple #[.string S, .int .i64 e0]) ∧ LK w w' h (gM n su (fun _ => none) bd wr false (-1)) := by
  subst hx hS he
  have h1 := devRead_any k.d (a : Int)
  obtain ⟨q1, q2⟩ := gM_read (n := n) (su := su) (bd := bd) (wr := wr) (lf := -1) (a := a) ha
  rw [q1, q2] at h1
  exact h1.mono fun e w' ⟨he, hb⟩ => ⟨he, k.below hb⟩
theorem lk_fill {w W : World} {h : DH} {M : DM} (k : LK w W h M) (x : Int) (c : UInt8) (hx : x = (c.toNat : Int)) {F : ByteArray} (hF : fillS c = F) :
    Calls Try.prog 25 #[.int .u8 x] W fun e w' => e = .returned (.string F) ∧ LK w w' h M := by
  subst hx hF
  exact (fill_any c W).mono fun e w' ⟨he, hb⟩ => ⟨he, k.below hb⟩
/-- A slice that reads as these numbers, in a block that is there. -/
def IntsL (w : World) (v : Value) (L : List Int) : Prop :=
  ∃ A cap, v = .slice A L.length cap ∧ L.length ≤ cap ∧ cap ≤ 9223372036854775807 ∧ (L = [] ∨ ∃ b off, A = some ⟨b, off, none⟩ ∧ b < w.heap.size ∧ ∀ j, j < L.length → w.cell? ⟨b, off + j, none⟩ = some (.int .i64 (L.getD j 0)))
theorem IntsL.of {w : World} {base : Nat} {v : Value} {L : List Int} (h : IntsOf w base v L) : IntsL w v L := by
  rcases h.reads with ⟨rfl, rfl⟩ | ⟨g, cap, rfl, _, hlt, h1, h2, h3⟩
  · exact ⟨none, 0, rfl, Nat.le_refl _, by omega, .inl rfl⟩
  · exact ⟨_, cap, rfl, h1, h2, .inr ⟨g, 0, rfl, hlt, fun j hj => by rw [Nat.zero_add]; exact h3 j hj⟩⟩
theorem IntsL.below {w w' : World} {v : Value} {L : List Int} (h : IntsL w v L) (hb : Below w.heap.size w w') : IntsL w' v L := by
  obtain ⟨A, cap, e, h1, h2, h3⟩ := h
  refine ⟨A, cap, e, h1, h2, h3.imp id ?_⟩
  rintro ⟨b, off, hA, hlt, hc⟩
  exact ⟨b, off, hA, Nat.lt_of_lt_of_le hlt hb.size, fun j hj => (hb.cell (p := ⟨b, off + j, none⟩) hlt).trans (hc j hj)⟩
theorem IntsL.toR {w : World} {v : Value} {L : List Int} (h : IntsL w v L) : IntsR w v L := by
  obtain ⟨A, cap, e, h1, h2, h3⟩ := h
  refine ⟨A, cap, e, h1, h2, h3.imp id ?_⟩
  rintro ⟨b, off, hA, hlt, hc⟩
  exact ⟨b, off, hA, hc⟩
theorem IntsL.one (w : World) (x : Int) : IntsL (w.alloc (.cells #[.int .i64 x] 3)) (.slice (some ⟨w.heap.size, 0, none⟩) 1 1) [x] :=
  ⟨_, 1, rfl, Nat.le_refl _, by omega, .inr ⟨w.heap.size, 0, rfl, by simp, fun j hj => by
    obtain rfl : j = 0 := by simpa using hj
    simp [go_sem]⟩⟩
theorem LK.drew {w W : World} {h : DH} {M : DM} (k : LK w W h M) : LK w W.drew h M := ⟨k.d.drew, k.ab, k.be.drew⟩
theorem lk_down {w W : World} {h : DH} {n : Nat} {su fr bd} {wr : Nat} {dn : Bool} {lf : Int} (k : LK w W h (gM n su fr bd wr dn lf)) :
    Calls Try.prog 12 #[.pointer (some ⟨h.b, 0, none⟩)] W fun e w' => e = .returned (.bool dn) ∧ W = w' := devDown_any k.d
theorem lk_sectors {w W : World} {h : DH} {su fr bd} {wr : Nat} {dn : Bool} {lf : Int} (k : LK w W h (gM 3 su fr bd wr dn lf)) :
    Calls Try.prog 22 #[.pointer (some ⟨h.b, 0, none⟩)] W fun e w' => e = .returned (.int .i64 3) ∧ W = w' := devSectors_any k.d
theorem lk_writes {w W : World} {h : DH} {n : Nat} {su fr bd} {dn : Bool} {lf : Int} (k : LK w W h (gM n su fr bd 3 dn lf)) :
    Calls Try.prog 13 #[.pointer (some ⟨h.b, 0, none⟩)] W fun e w' => e = .returned (.int .i64 3) ∧ W = w' := devWrites_any k.d
theorem lk_bad {w W : World} {h : DH} {su fr} {wr : Nat} {dn : Bool} {lf : Int} (k : LK w W h (gM 3 su fr bd1 wr dn lf)) :
    Calls Try.prog 17 #[.pointer (some ⟨h.b, 0, none⟩)] W fun e w' => ∃ v, e = .returned v ∧ IntsL w' v [1] ∧ Below W.heap.size W w' :=
  (devBad_any k.d).mono fun _ _ ⟨v, he, hI, hb⟩ => ⟨v, he, IntsL.of (L := [1]) hI, hb⟩
theorem lk_bytes {w W : World} {h : DH} {M : DM} {n : Nat} (k : LK w W h M) (hn : M.n = n) :
    Calls Try.prog 20 #[.pointer (some ⟨h.b, 0, none⟩)] W fun e w' => ∃ B0 : ByteArray, e = .returned (.string B0) ∧ B0.size = n * 512 ∧ LK w w' h M := by
  refine (devBytes_any k.d).mono fun e w' ⟨he, hb⟩ => ⟨_, he, ?_, k.below hb⟩
  show (preB M M.n).toArray.size = n * 512
  rw [List.size_toArray, preB_len k.d _ (Nat.le_refl _), hn]
theorem lv_cat {F9 : ByteArray} (h : fillS 9 = F9) : F9.extract 0 508 ++ ⟨#[8]⟩ ++ F9.extract 0 3 = ⟨lvG.toArray⟩ := by
  rw [lvG_eq, ← h]
  apply ByteArray.ext
  apply Array.ext'
  simp [ByteArray.data_extract, ByteArray.data_append, fillS]
set_option maxRecDepth 100000 in
set_option maxHeartbeats 40000000 in
theorem devLives_any (w : World) : Calls Try.prog 8 #[] w fun e w' => e = .returned (.bool true) ∧ Below w.heap.size w w' := by
  have a1 := fun W => devNew_ok 3 (by omega) (by omega) W
  have a2 := fun W => devNew_no 0 (by omega) W
  have a3 := fun W => devLoad_no (s := ⟨#[97, 98, 99]⟩) (by decide) (by decide) W
  obtain ⟨F7, hF7⟩ : ∃ F, fillS 7 = F := ⟨_, rfl⟩
  obtain ⟨F8, hF8⟩ : ∃ F, fillS 8 = F := ⟨_, rfl⟩
  obtain ⟨F9, hF9⟩ : ∃ F, fillS 9 = F := ⟨_, rfl⟩
  obtain ⟨F1, hF1⟩ : ∃ F, fillS 1 = F := ⟨_, rfl⟩
  have HF7 : Hid (fillS 7 = F7 ∧ F7.size = 512 ∧ F7.data.toList = fillL 7) := Lib.hid ⟨hF7, by rw [← hF7]; exact fillS_size 7, by rw [← hF7]; rfl⟩
  have HF8 : Hid (fillS 8 = F8 ∧ F8.size = 512 ∧ F8.data.toList = fillL 8) := Lib.hid ⟨hF8, by rw [← hF8]; exact fillS_size 8, by rw [← hF8]; rfl⟩
  have HF9 : Hid (fillS 9 = F9 ∧ F9.size = 512 ∧ F9.data.toList = fillL 9) := Lib.hid ⟨hF9, by rw [← hF9]; exact fillS_size 9, by rw [← hF9]; rfl⟩
  have HF1 : Hid (fillS 1 = F1 ∧ F1.size = 512 ∧ F1.data.toList = fillL 1) := Lib.hid ⟨hF1, by rw [← hF1]; exact fillS_size 1, by rw [← hF1]; rfl⟩
  clear hF7 hF8 hF9 hF1
  go_enter Try.func8, Try.ntmps8
  go_wp2_with (first
    | (go_at_call 9; refine (a1 _).mono ?_; clear a1; rintro e w1 ⟨rfl, hd1, hb1⟩; have k1 : LK w w1 (newH w 3) (gM 3 (fun _ => blankB) (fun _ => none) (fun _ => false) 0 false (-1)) := ⟨hd1, ⟨by simp only [newH]; omega, by simp only [newH]; omega, by simp only [newH]; omega, by simp only [newH]; omega⟩, hb1⟩; generalize newH w 3 = h at k1; have K1 := Lib.hid k1; clear hd1 hb1 k1)
    | (go_at_call 9; refine (a2 _).mono ?_; rintro e w2 ⟨rfl, rfl⟩)
    | (go_at_call 23; refine (a3 _).mono ?_; rintro e w3 ⟨rfl, rfl⟩))
  clear a2 a3
  refine (lk_fill K1.out 7 7 rfl HF7.out.1).mono ?_
  rintro e w2 ⟨rfl, k⟩; have K2 := Lib.hid k; clear k K1
  go_wp2_with fail
  refine (lk_write K2.out 1 1 rfl (by omega) HF7.out.2.1 HF7.out.2.2 (by omega)).mono ?_
  rintro e w3 ⟨rfl, k⟩; have K3 := Lib.hid k; clear k K2
  go_wp2_with fail
  refine (lk_flush K3.out).mono ?_
  rintro e w4 ⟨rfl, k⟩; have K4 : Hid (LK w w4 h (gM 3 lv1 (fun _ => none) (fun _ => false) 1 false (-1))) := Lib.hid k; clear k K3
  go_wp2_with fail
  refine (lk_fill K4.out 8 8 rfl HF8.out.1).mono ?_
  rintro e w5 ⟨rfl, k⟩; have K5 := Lib.hid k; clear k K4
  go_wp2_with fail
  refine (lk_write K5.out 1 1 rfl (by omega) HF8.out.2.1 HF8.out.2.2 (by omega)).mono ?_
  rintro e w6 ⟨rfl, k⟩; have K6 := Lib.hid k; clear k K5
  go_wp2_with fail
  refine (lk_fill K6.out 9 9 rfl HF9.out.1).mono ?_
  rintro e w7 ⟨rfl, k⟩; have K7 := Lib.hid k; clear k K6
  go_wp2_with fail
  refine (lk_write K7.out 2 2 rfl (by omega) HF9.out.2.1 HF9.out.2.2 (by omega)).mono ?_
  rintro e w8 ⟨rfl, k⟩; have K8 : Hid (LK w w8 h (gM 3 lv1 lvF (fun _ => false) 3 false (-1))) := Lib.hid k; clear k K7
  go_wp2_with fail
  refine (devFuse_any K8.out.d 0 (by omega)).mono ?_
  rintro e w9 ⟨rfl, hd, ha⟩; have K9 : Hid (LK w w9 h (gM 3 lv1 lvF (fun _ => false) 3 false 0)) := Lib.hid (K8.out.ap hd ha); clear hd ha K8
  go_wp2_with fail
  refine (lk_fill K9.out 1 1 rfl HF1.out.1).mono ?_
  rintro e w10 ⟨rfl, k⟩; have K10 := Lib.hid k; clear k K9
  go_wp2_with fail
  refine (lk_write0 K10.out 0 0 rfl (by omega) HF1.out.2.1 (by omega)).mono ?_
  rintro e w11 ⟨rfl, k⟩; have K11 := Lib.hid k; clear k K10
  go_wp2_with fail
  refine (lk_down K11.out).mono ?_
  rintro e w12 ⟨rfl, rfl⟩
  go_wp2_with fail
  have hQ : BoolsAt (w11.alloc (.cells #[.bool false, .bool true] 4)) h (.slice (some ⟨w11.heap.size, 0, none⟩) 2 2) [false, true] := by
    refine ⟨_, 2, rfl, Nat.le_refl _, by omega, .inr ⟨w11.heap.size, 0, rfl, by simp, fun e => ?_, fun j hj => ?_⟩⟩
    · have h1 := K11.out.d.ltb; have h2 := K11.out.d.ltbs; have h3 := K11.out.d.wait.lt; have h4 := K11.out.d.badm.lt
      rcases e with e | e | e | e <;> omega
    · have : j = 0 ∨ j = 1 := by simp at hj; omega
      rcases this with rfl | rfl <;> simp [go_sem]
  refine (devCrash_any (K11.out.below (below1 w11 _)).d hQ).mono ?_
  rintro e w13 ⟨rfl, hd, ha⟩; have K13 : Hid (LK w w13 h (gM 3 lv2 (fun _ => none) (fun _ => false) 3 false (-1))) := Lib.hid ((K11.out.below (below1 w11 _)).ap (lv_crash hd) ha); clear hd ha K11 hQ
  go_wp2_with fail
  refine (lk_read K13.out 1 1 rfl (by omega) (S := F7) (e0 := 0) HF7.out.1.symm rfl).mono ?_
  rintro e w14 ⟨rfl, k⟩; have K14 := Lib.hid k; clear k K13
  go_wp2_with fail
  refine (lk_read K14.out 2 2 rfl (by omega) (S := F9) (e0 := 0) HF9.out.1.symm rfl).mono ?_
  rintro e w15 ⟨rfl, k⟩; have K15 := Lib.hid k; clear k K14
  go_wp2_with fail
  refine (devErase_yes K15.out.d 1 (by show 1 < 3; omega)).mono ?_
  rintro e w16 ⟨rfl, hd, ha⟩; have K16 : Hid (LK w w16 h (gM 3 lv2 (fun _ => none) bd1 3 false (-1))) := Lib.hid (K15.out.ap hd ha); clear hd ha K15
  go_wp2_with fail
  refine (lk_read K16.out 1 1 rfl (by omega) (S := ⟨#[]⟩) (e0 := 9) rfl rfl).mono ?_
  rintro e w17 ⟨rfl, k⟩; have K17 := Lib.hid k; clear k K16
  go_wp2_with fail
  have hg : garE (gM 3 lv2 (fun _ => none) bd1 3 false (-1)) 2 508 = 0 := if_pos ⟨by decide, by omega, by omega⟩
  have hgm : garM (gM 3 lv2 (fun _ => none) bd1 3 false (-1)) 2 508 1 = gM 3 lv3 (fun _ => none) bd1 3 false (-1) := if_pos hg
  have hG := devGarble_any K17.out.d 2 508 1 (by omega) (by omega)
  rw [hg, hgm] at hG
  refine hG.mono ?_
  rintro e w18 ⟨rfl, hd, ha⟩; have K18 := Lib.hid (K17.out.ap hd ha); clear hd ha K17 hG hg hgm
  go_wp2_with fail
  obtain ⟨G0, hG0⟩ : ∃ G0 : ByteArray, G0 = ⟨lvG.toArray⟩ := ⟨_, rfl⟩
  have HG0 := Lib.hid hG0
  clear hG0
  refine (lk_read K18.out 2 2 rfl (by omega) (S := G0) (e0 := 0) HG0.out rfl).mono ?_
  rintro e w19 ⟨rfl, k⟩; have K19 := Lib.hid k; clear k K18
  go_wp2_with fail
  have HS0 := Lib.hid K19.out.drew
  have hs9 := HF9.out.2.1
  have hcat : F9.extract 0 508 ++ ⟨#[8]⟩ ++ F9.extract 0 3 = G0 := (lv_cat HF9.out.1).trans HG0.out.symm
-- GEN
  refine wp_region_held_drew (S := fun W => LK w W h (gM 3 lv3 (fun _ => none) bd1 3 false (-1))) (by as_aux_lemma => kernel_rfl) HS0.out (fun hHeld => ?_)
  clear hHeld
  refine wpAnyH_take (i := 0) (oi := { dst := some 92, op := Op.move (Operand.tmp 7), type := 25, pos := "law.go:43", after := #[], guard := none }) (v := ?v1) rfl (by as_aux_lemma => kernel_rfl) (by as_aux_lemma => kernel_rfl) (by as_aux_lemma => kernel_rfl) (fun _ _ _ h => h) (Or.inl ⟨?hw1, ?hy1⟩) HS0.out ?_
  case hw1 => kernel_rfl
  case hy1 => (intro W hSw; clear hSw; go_simp; first | done | with_reducible rfl)
  try simp only [Act.put, List.setIfInBounds_toArray, List.set_cons_zero, List.set_cons_succ]
  refine wpAnyH_take (i := 1) (oi := { dst := some 93, op := Op.binOp BinOp.eql 25 (Operand.tmp 92) (Operand.const (Value.int IntKind.i64 0)) 25, type := 4, pos := "law.go:43", after := #[{ on := 0, ground := Ground.data }], guard := none }) (v := ?v2) rfl (by as_aux_lemma => kernel_rfl) (by as_aux_lemma => kernel_rfl) (by as_aux_lemma => kernel_rfl) (fun _ _ _ h => h) (Or.inl ⟨?hw2, ?hy2⟩) HS0.out ?_
  case hw2 => kernel_rfl
  case hy2 => (intro W hSw; clear hSw; go_simp; first | done | with_reducible rfl)
  try simp only [Act.put, List.setIfInBounds_toArray, List.set_cons_zero, List.set_cons_succ]
  refine wpAnyH_take (i := 2) (oi := { dst := some 94, op := Op.move (Operand.tmp 93), type := 4, pos := "law.go:43", after := #[{ on := 1, ground := Ground.data }], guard := none }) (v := ?v3) rfl (by as_aux_lemma => kernel_rfl) (by as_aux_lemma => kernel_rfl) (by as_aux_lemma => kernel_rfl) (fun _ _ _ h => h) (Or.inl ⟨?hw3, ?hy3⟩) HS0.out ?_
  case hw3 => kernel_rfl
  case hy3 => (intro W hSw; clear hSw; go_simp; first | done | with_reducible rfl)
  try simp only [Act.put, List.setIfInBounds_toArray, List.set_cons_zero, List.set_cons_succ]
  refine wpAnyH_take (i := 3) (oi := { dst := some 95, op := Op.move (Operand.tmp 8), type := 25, pos := "law.go:43", after := #[{ on := 2, ground := Ground.guard }], guard := some (2, true) }) (v := ?v4) rfl (by as_aux_lemma => kernel_rfl) (by as_aux_lemma => kernel_rfl) (by as_aux_lemma => kernel_rfl) (fun _ _ _ h => h) (Or.inl ⟨?hw4, ?hy4⟩) HS0.out ?_
  case hw4 => kernel_rfl
  case hy4 => (intro W hSw; clear hSw; go_simp; first | done | with_reducible rfl)
  try simp only [Act.put, List.setIfInBounds_toArray, List.set_cons_zero, List.set_cons_succ]
  refine wpAnyH_take (i := 4) (oi := { dst := some 96, op := Op.binOp BinOp.eql 25 (Operand.tmp 95) (Operand.const (Value.int IntKind.i64 0)) 25, type := 4, pos := "law.go:43", after := #[{ on := 3, ground := Ground.data }, { on := 2, ground := Ground.guard }], guard := some (2, true) }) (v := ?v5) rfl (by as_aux_lemma => kernel_rfl) (by as_aux_lemma => kernel_rfl) (by as_aux_lemma => kernel_rfl) (fun _ _ _ h => h) (Or.inl ⟨?hw5, ?hy5⟩) HS0.out ?_
  case hw5 => kernel_rfl
  case hy5 => (intro W hSw; clear hSw; go_simp; first | done | with_reducible rfl)
  try simp only [Act.put, List.setIfInBounds_toArray, List.set_cons_zero, List.set_cons_succ]
  refine wpAnyH_take (i := 5) (oi := { dst := some 97, op := Op.pick (Operand.tmp 94) (Operand.tmp 96) (Operand.const (Value.bool false)), type := 4, pos := "law.go:43", after := #[{ on := 2, ground := Ground.data }, { on := 4, ground := Ground.data }], guard := none }) (v := ?v6) rfl (by as_aux_lemma => kernel_rfl) (by as_aux_lemma => kernel_rfl) (by as_aux_lemma => kernel_rfl) (fun _ _ _ h => h) (Or.inl ⟨?hw6, ?hy6⟩) HS0.out ?_
  case hw6 => kernel_rfl
  case hy6 => (intro W hSw; clear hSw; go_simp; first | done | with_reducible rfl)
  try simp only [Act.put, List.setIfInBounds_toArray, List.set_cons_zero, List.set_cons_succ]
  refine wpAnyH_take (i := 6) (oi := { dst := some 98, op := Op.move (Operand.tmp 97), type := 4, pos := "law.go:43", after := #[{ on := 5, ground := Ground.data }, { on := 2, ground := Ground.chain }], guard := none }) (v := ?v7) rfl (by as_aux_lemma => kernel_rfl) (by as_aux_lemma => kernel_rfl) (by as_aux_lemma => kernel_rfl) (fun _ _ _ h => h) (Or.inl ⟨?hw7, ?hy7⟩) HS0.out ?_
  case hw7 => kernel_rfl
  case hy7 => (intro W hSw; clear hSw; go_simp; first | done | with_reducible rfl)
  try simp only [Act.put, List.setIfInBounds_toArray, List.set_cons_zero, List.set_cons_succ]
  refine wpAnyH_take (i := 7) (oi := { dst := some 99, op := Op.move (Operand.tmp 9), type := 25, pos := "law.go:43", after := #[{ on := 6, ground := Ground.guard }], guard := some (6, true) }) (v := ?v8) rfl (by as_aux_lemma => kernel_rfl) (by as_aux_lemma => kernel_rfl) (by as_aux_lemma => kernel_rfl) (fun _ _ _ h => h) (Or.inl ⟨?hw8, ?hy8⟩) HS0.out ?_
  case hw8 => kernel_rfl
  case hy8 => (intro W hSw; clear hSw; go_simp; first | done | with_reducible rfl)
  try simp only [Act.put, List.setIfInBounds_toArray, List.set_cons_zero, List.set_cons_succ]
  refine wpAnyH_take (i := 8) (oi := { dst := some 100, op := Op.binOp BinOp.eql 25 (Operand.tmp 99) (Operand.const (Value.int IntKind.i64 12)) 25, type := 4, pos := "law.go:43", after := #[{ on := 7, ground := Ground.data }, { on := 6, ground := Ground.guard }], guard := some (6, true) }) (v := ?v9) rfl (by as_aux_lemma => kernel_rfl) (by as_aux_lemma => kernel_rfl) (by as_aux_lemma => kernel_rfl) (fun _ _ _ h => h) (Or.inl ⟨?hw9, ?hy9⟩) HS0.out ?_
  case hw9 => kernel_rfl
  case hy9 => (intro W hSw; clear hSw; go_simp; first | done | with_reducible rfl)
  try simp only [Act.put, List.setIfInBounds_toArray, List.set_cons_zero, List.set_cons_succ]
  refine wpAnyH_take (i := 9) (oi := { dst := some 101, op := Op.pick (Operand.tmp 98) (Operand.tmp 100) (Operand.const (Value.bool false)), type := 4, pos := "law.go:43", after := #[{ on := 6, ground := Ground.data }, { on := 8, ground := Ground.data }], guard := none }) (v := ?v10) rfl (by as_aux_lemma => kernel_rfl) (by as_aux_lemma => kernel_rfl) (by as_aux_lemma => kernel_rfl) (fun _ _ _ h => h) (Or.inl ⟨?hw10, ?hy10⟩) HS0.out ?_
  case hw10 => kernel_rfl
  case hy10 => (intro W hSw; clear hSw; go_simp; first | done | with_reducible rfl)
  try simp only [Act.put, List.setIfInBounds_toArray, List.set_cons_zero, List.set_cons_succ]
  refine wpAnyH_take (i := 10) (oi := { dst := some 102, op := Op.move (Operand.tmp 101), type := 4, pos := "law.go:43", after := #[{ on := 9, ground := Ground.data }, { on := 6, ground := Ground.chain }], guard := none }) (v := ?v11) rfl (by as_aux_lemma => kernel_rfl) (by as_aux_lemma => kernel_rfl) (by as_aux_lemma => kernel_rfl) (fun _ _ _ h => h) (Or.inl ⟨?hw11, ?hy11⟩) HS0.out ?_
  case hw11 => kernel_rfl
  case hy11 => (intro W hSw; clear hSw; go_simp; first | done | with_reducible rfl)
  try simp only [Act.put, List.setIfInBounds_toArray, List.set_cons_zero, List.set_cons_succ]
  refine wpAnyH_take (i := 11) (oi := { dst := some 103, op := Op.move (Operand.tmp 10), type := 4, pos := "law.go:43", after := #[{ on := 10, ground := Ground.guard }], guard := some (10, true) }) (v := ?v12) rfl (by as_aux_lemma => kernel_rfl) (by as_aux_lemma => kernel_rfl) (by as_aux_lemma => kernel_rfl) (fun _ _ _ h => h) (Or.inl ⟨?hw12, ?hy12⟩) HS0.out ?_
  case hw12 => kernel_rfl
  case hy12 => (intro W hSw; clear hSw; go_simp; first | done | with_reducible rfl)
  try simp only [Act.put, List.setIfInBounds_toArray, List.set_cons_zero, List.set_cons_succ]
  refine wpAnyH_take (i := 12) (oi := { dst := some 104, op := Op.pick (Operand.tmp 102) (Operand.tmp 103) (Operand.const (Value.bool false)), type := 4, pos := "law.go:43", after := #[{ on := 10, ground := Ground.data }, { on := 11, ground := Ground.data }], guard := none }) (v := ?v13) rfl (by as_aux_lemma => kernel_rfl) (by as_aux_lemma => kernel_rfl) (by as_aux_lemma => kernel_rfl) (fun _ _ _ h => h) (Or.inl ⟨?hw13, ?hy13⟩) HS0.out ?_
  case hw13 => kernel_rfl
  case hy13 => (intro W hSw; clear hSw; go_simp; first | done | with_reducible rfl)
  try simp only [Act.put, List.setIfInBounds_toArray, List.set_cons_zero, List.set_cons_succ]
  refine wpAnyH_take (i := 13) (oi := { dst := some 105, op := Op.move (Operand.tmp 104), type := 4, pos := "law.go:43", after := #[{ on := 12, ground := Ground.data }, { on := 10, ground := Ground.chain }], guard := none }) (v := ?v14) rfl (by as_aux_lemma => kernel_rfl) (by as_aux_lemma => kernel_rfl) (by as_aux_lemma => kernel_rfl) (fun _ _ _ h => h) (Or.inl ⟨?hw14, ?hy14⟩) HS0.out ?_
  case hw14 => kernel_rfl
  case hy14 => (intro W hSw; clear hSw; go_simp; first | done | with_reducible rfl)
  try simp only [Act.put, List.setIfInBounds_toArray, List.set_cons_zero, List.set_cons_succ]
  refine wpAnyH_take (i := 14) (oi := { dst := some 106, op := Op.move (Operand.tmp 1), type := 24, pos := "law.go:43", after := #[{ on := 13, ground := Ground.guard }], guard := some (13, true) }) (v := ?v15) rfl (by as_aux_lemma => kernel_rfl) (by as_aux_lemma => kernel_rfl) (by as_aux_lemma => kernel_rfl) (fun _ _ _ h => h) (Or.inl ⟨?hw15, ?hy15⟩) HS0.out ?_
  case hw15 => kernel_rfl
  case hy15 => (intro W hSw; clear hSw; go_simp; first | done | with_reducible rfl)
  try simp only [Act.put, List.setIfInBounds_toArray, List.set_cons_zero, List.set_cons_succ]
  refine wpAnyH_ready (rs := [15]) (by as_aux_lemma => kernel_rfl) (by simp) ?_
  refine AllReadyH.cons (o := { dst := some 107, op := Op.call { callee := Callee.value (Operand.func 12), args := #[Operand.tmp 106], argTypes := #[24] }, type := 4, pos := "law.go:43", after := #[{ on := 14, ground := Ground.data }, { on := 13, ground := Ground.chain }, { on := 13, ground := Ground.guard }], guard := some (13, true) }) rfl (fun K hK => ?_) ?_
  · go_simp
    go_at_call 12
    refine (lk_down HS0.out).mono ?_
    rintro e wq16 ⟨rfl, rfl⟩
    have kk := HS0.out
    have HS16 := Lib.hid kk
    clear kk
    go_wp2_with fail
    refine hK.out _ _ HS16.out (fun hHeld => ?_)
    clear hHeld hK K
    try simp only [Act.put, List.setIfInBounds_toArray, List.set_cons_zero, List.set_cons_succ]
    refine wpAnyH_take (i := 16) (oi := { dst := some 108, op := Op.unOp UnOp.not 4 (Operand.tmp 107), type := 4, pos := "law.go:43", after := #[{ on := 15, ground := Ground.data }, { on := 13, ground := Ground.guard }], guard := some (13, true) }) (v := ?v17) rfl (by as_aux_lemma => kernel_rfl) (by as_aux_lemma => kernel_rfl) (by as_aux_lemma => kernel_rfl) (fun _ _ _ h => h) (Or.inl ⟨?hw17, ?hy17⟩) HS16.out ?_
    case hw17 => kernel_rfl
    case hy17 => (intro W hSw; clear hSw; go_simp; first | done | with_reducible rfl)
    try simp only [Act.put, List.setIfInBounds_toArray, List.set_cons_zero, List.set_cons_succ]
    refine wpAnyH_take (i := 17) (oi := { dst := some 109, op := Op.pick (Operand.tmp 105) (Operand.tmp 108) (Operand.const (Value.bool false)), type := 4, pos := "law.go:43", after := #[{ on := 13, ground := Ground.data }, { on := 16, ground := Ground.data }], guard := none }) (v := ?v18) rfl (by as_aux_lemma => kernel_rfl) (by as_aux_lemma => kernel_rfl) (by as_aux_lemma => kernel_rfl) (fun _ _ _ h => h) (Or.inl ⟨?hw18, ?hy18⟩) HS16.out ?_
    case hw18 => kernel_rfl
    case hy18 => (intro W hSw; clear hSw; go_simp; first | done | with_reducible rfl)
    try simp only [Act.put, List.setIfInBounds_toArray, List.set_cons_zero, List.set_cons_succ]
    refine wpAnyH_take (i := 18) (oi := { dst := some 110, op := Op.move (Operand.tmp 109), type := 4, pos := "law.go:43", after := #[{ on := 17, ground := Ground.data }, { on := 15, ground := Ground.chain }], guard := none }) (v := ?v19) rfl (by as_aux_lemma => kernel_rfl) (by as_aux_lemma => kernel_rfl) (by as_aux_lemma => kernel_rfl) (fun _ _ _ h => h) (Or.inl ⟨?hw19, ?hy19⟩) HS16.out ?_
    case hw19 => kernel_rfl
    case hy19 => (intro W hSw; clear hSw; go_simp; first | done | with_reducible rfl)
    try simp only [Act.put, List.setIfInBounds_toArray, List.set_cons_zero, List.set_cons_succ]
    refine wpAnyH_take (i := 19) (oi := { dst := some 111, op := Op.move (Operand.tmp 11), type := 9, pos := "law.go:43", after := #[{ on := 18, ground := Ground.guard }], guard := some (18, true) }) (v := ?v20) rfl (by as_aux_lemma => kernel_rfl) (by as_aux_lemma => kernel_rfl) (by as_aux_lemma => kernel_rfl) (fun _ _ _ h => h) (Or.inl ⟨?hw20, ?hy20⟩) HS16.out ?_
    case hw20 => kernel_rfl
    case hy20 => (intro W hSw; clear hSw; go_simp; first | done | with_reducible rfl)
    try simp only [Act.put, List.setIfInBounds_toArray, List.set_cons_zero, List.set_cons_succ]
    refine wpAnyH_ready (rs := [20]) (by as_aux_lemma => kernel_rfl) (by simp) ?_
    refine AllReadyH.cons (o := { dst := some 112, op := Op.call { callee := Callee.value (Operand.func 25), args := #[Operand.const (Value.int IntKind.u8 7)], argTypes := #[5] }, type := 9, pos := "law.go:43", after := #[{ on := 18, ground := Ground.chain }, { on := 18, ground := Ground.guard }], guard := some (18, true) }) rfl (fun K hK => ?_) ?_
    · go_simp
      go_at_call 25
      refine (lk_fill HS16.out 7 7 rfl HF7.out.1).mono ?_
      rintro e wq21 ⟨rfl, kk⟩
      have HS21 := Lib.hid kk
      clear kk
      go_wp2_with fail
      refine hK.out _ _ HS21.out (fun hHeld => ?_)
      clear hHeld hK K
      try simp only [Act.put, List.setIfInBounds_toArray, List.set_cons_zero, List.set_cons_succ]
      refine wpAnyH_take (i := 21) (oi := { dst := some 113, op := Op.binOp BinOp.eql 9 (Operand.tmp 111) (Operand.tmp 112) 9, type := 4, pos := "law.go:43", after := #[{ on := 19, ground := Ground.data }, { on := 20, ground := Ground.data }, { on := 18, ground := Ground.guard }], guard := some (18, true) }) (v := ?v22) rfl (by as_aux_lemma => kernel_rfl) (by as_aux_lemma => kernel_rfl) (by as_aux_lemma => kernel_rfl) (fun _ _ _ h => h) (Or.inl ⟨?hw22, ?hy22⟩) HS21.out ?_
      case hw22 => kernel_rfl
      case hy22 => (intro W hSw; clear hSw; go_simp; first | done | with_reducible rfl)
      try simp only [Act.put, List.setIfInBounds_toArray, List.set_cons_zero, List.set_cons_succ]
      refine wpAnyH_take (i := 22) (oi := { dst := some 114, op := Op.pick (Operand.tmp 110) (Operand.tmp 113) (Operand.const (Value.bool false)), type := 4, pos := "law.go:43", after := #[{ on := 18, ground := Ground.data }, { on := 21, ground := Ground.data }], guard := none }) (v := ?v23) rfl (by as_aux_lemma => kernel_rfl) (by as_aux_lemma => kernel_rfl) (by as_aux_lemma => kernel_rfl) (fun _ _ _ h => h) (Or.inl ⟨?hw23, ?hy23⟩) HS21.out ?_
      case hw23 => kernel_rfl
      case hy23 => (intro W hSw; clear hSw; go_simp; first | done | with_reducible rfl)
      try simp only [Act.put, List.setIfInBounds_toArray, List.set_cons_zero, List.set_cons_succ]
      refine wpAnyH_take (i := 23) (oi := { dst := some 115, op := Op.move (Operand.tmp 114), type := 4, pos := "law.go:43", after := #[{ on := 22, ground := Ground.data }, { on := 20, ground := Ground.chain }], guard := none }) (v := ?v24) rfl (by as_aux_lemma => kernel_rfl) (by as_aux_lemma => kernel_rfl) (by as_aux_lemma => kernel_rfl) (fun _ _ _ h => h) (Or.inl ⟨?hw24, ?hy24⟩) HS21.out ?_
      case hw24 => kernel_rfl
      case hy24 => (intro W hSw; clear hSw; go_simp; first | done | with_reducible rfl)
      try simp only [Act.put, List.setIfInBounds_toArray, List.set_cons_zero, List.set_cons_succ]
      refine wpAnyH_take (i := 24) (oi := { dst := some 116, op := Op.move (Operand.tmp 12), type := 25, pos := "law.go:43", after := #[{ on := 23, ground := Ground.guard }], guard := some (23, true) }) (v := ?v25) rfl (by as_aux_lemma => kernel_rfl) (by as_aux_lemma => kernel_rfl) (by as_aux_lemma => kernel_rfl) (fun _ _ _ h => h) (Or.inl ⟨?hw25, ?hy25⟩) HS21.out ?_
      case hw25 => kernel_rfl
      case hy25 => (intro W hSw; clear hSw; go_simp; first | done | with_reducible rfl)
      try simp only [Act.put, List.setIfInBounds_toArray, List.set_cons_zero, List.set_cons_succ]
      refine wpAnyH_take (i := 25) (oi := { dst := some 117, op := Op.binOp BinOp.eql 25 (Operand.tmp 116) (Operand.const (Value.int IntKind.i64 0)) 25, type := 4, pos := "law.go:43", after := #[{ on := 24, ground := Ground.data }, { on := 23, ground := Ground.guard }], guard := some (23, true) }) (v := ?v26) rfl (by as_aux_lemma => kernel_rfl) (by as_aux_lemma => kernel_rfl) (by as_aux_lemma => kernel_rfl) (fun _ _ _ h => h) (Or.inl ⟨?hw26, ?hy26⟩) HS21.out ?_
      case hw26 => kernel_rfl
      case hy26 => (intro W hSw; clear hSw; go_simp; first | done | with_reducible rfl)
      try simp only [Act.put, List.setIfInBounds_toArray, List.set_cons_zero, List.set_cons_succ]
      refine wpAnyH_take (i := 26) (oi := { dst := some 118, op := Op.pick (Operand.tmp 115) (Operand.tmp 117) (Operand.const (Value.bool false)), type := 4, pos := "law.go:43", after := #[{ on := 23, ground := Ground.data }, { on := 25, ground := Ground.data }], guard := none }) (v := ?v27) rfl (by as_aux_lemma => kernel_rfl) (by as_aux_lemma => kernel_rfl) (by as_aux_lemma => kernel_rfl) (fun _ _ _ h => h) (Or.inl ⟨?hw27, ?hy27⟩) HS21.out ?_
      case hw27 => kernel_rfl
      case hy27 => (intro W hSw; clear hSw; go_simp; first | done | with_reducible rfl)
      try simp only [Act.put, List.setIfInBounds_toArray, List.set_cons_zero, List.set_cons_succ]
      refine wpAnyH_take (i := 27) (oi := { dst := some 119, op := Op.move (Operand.tmp 118), type := 4, pos := "law.go:43", after := #[{ on := 26, ground := Ground.data }, { on := 23, ground := Ground.chain }], guard := none }) (v := ?v28) rfl (by as_aux_lemma => kernel_rfl) (by as_aux_lemma => kernel_rfl) (by as_aux_lemma => kernel_rfl) (fun _ _ _ h => h) (Or.inl ⟨?hw28, ?hy28⟩) HS21.out ?_
      case hw28 => kernel_rfl
      case hy28 => (intro W hSw; clear hSw; go_simp; first | done | with_reducible rfl)
      try simp only [Act.put, List.setIfInBounds_toArray, List.set_cons_zero, List.set_cons_succ]
      refine wpAnyH_take (i := 28) (oi := { dst := some 120, op := Op.move (Operand.tmp 13), type := 9, pos := "law.go:43", after := #[{ on := 27, ground := Ground.guard }], guard := some (27, true) }) (v := ?v29) rfl (by as_aux_lemma => kernel_rfl) (by as_aux_lemma => kernel_rfl) (by as_aux_lemma => kernel_rfl) (fun _ _ _ h => h) (Or.inl ⟨?hw29, ?hy29⟩) HS21.out ?_
      case hw29 => kernel_rfl
      case hy29 => (intro W hSw; clear hSw; go_simp; first | done | with_reducible rfl)
      try simp only [Act.put, List.setIfInBounds_toArray, List.set_cons_zero, List.set_cons_succ]
      refine wpAnyH_ready (rs := [29]) (by as_aux_lemma => kernel_rfl) (by simp) ?_
      refine AllReadyH.cons (o := { dst := some 121, op := Op.call { callee := Callee.value (Operand.func 25), args := #[Operand.const (Value.int IntKind.u8 9)], argTypes := #[5] }, type := 9, pos := "law.go:43", after := #[{ on := 27, ground := Ground.chain }, { on := 27, ground := Ground.guard }], guard := some (27, true) }) rfl (fun K hK => ?_) ?_
      · go_simp
        go_at_call 25
        refine (lk_fill HS21.out 9 9 rfl HF9.out.1).mono ?_
        rintro e wq30 ⟨rfl, kk⟩
        have HS30 := Lib.hid kk
        clear kk
        go_wp2_with fail
        refine hK.out _ _ HS30.out (fun hHeld => ?_)
        clear hHeld hK K
        try simp only [Act.put, List.setIfInBounds_toArray, List.set_cons_zero, List.set_cons_succ]
        refine wpAnyH_take (i := 30) (oi := { dst := some 122, op := Op.binOp BinOp.eql 9 (Operand.tmp 120) (Operand.tmp 121) 9, type := 4, pos := "law.go:43", after := #[{ on := 28, ground := Ground.data }, { on := 29, ground := Ground.data }, { on := 27, ground := Ground.guard }], guard := some (27, true) }) (v := ?v31) rfl (by as_aux_lemma => kernel_rfl) (by as_aux_lemma => kernel_rfl) (by as_aux_lemma => kernel_rfl) (fun _ _ _ h => h) (Or.inl ⟨?hw31, ?hy31⟩) HS30.out ?_
        case hw31 => kernel_rfl
        case hy31 => (intro W hSw; clear hSw; go_simp; first | done | with_reducible rfl)
        try simp only [Act.put, List.setIfInBounds_toArray, List.set_cons_zero, List.set_cons_succ]
        refine wpAnyH_take (i := 31) (oi := { dst := some 123, op := Op.pick (Operand.tmp 119) (Operand.tmp 122) (Operand.const (Value.bool false)), type := 4, pos := "law.go:43", after := #[{ on := 27, ground := Ground.data }, { on := 30, ground := Ground.data }], guard := none }) (v := ?v32) rfl (by as_aux_lemma => kernel_rfl) (by as_aux_lemma => kernel_rfl) (by as_aux_lemma => kernel_rfl) (fun _ _ _ h => h) (Or.inl ⟨?hw32, ?hy32⟩) HS30.out ?_
        case hw32 => kernel_rfl
        case hy32 => (intro W hSw; clear hSw; go_simp; first | done | with_reducible rfl)
        try simp only [Act.put, List.setIfInBounds_toArray, List.set_cons_zero, List.set_cons_succ]
        refine wpAnyH_take (i := 32) (oi := { dst := some 124, op := Op.move (Operand.tmp 123), type := 4, pos := "law.go:43", after := #[{ on := 31, ground := Ground.data }, { on := 29, ground := Ground.chain }], guard := none }) (v := ?v33) rfl (by as_aux_lemma => kernel_rfl) (by as_aux_lemma => kernel_rfl) (by as_aux_lemma => kernel_rfl) (fun _ _ _ h => h) (Or.inl ⟨?hw33, ?hy33⟩) HS30.out ?_
        case hw33 => kernel_rfl
        case hy33 => (intro W hSw; clear hSw; go_simp; first | done | with_reducible rfl)
        try simp only [Act.put, List.setIfInBounds_toArray, List.set_cons_zero, List.set_cons_succ]
        refine wpAnyH_take (i := 33) (oi := { dst := some 125, op := Op.move (Operand.tmp 14), type := 25, pos := "law.go:43", after := #[{ on := 32, ground := Ground.guard }], guard := some (32, true) }) (v := ?v34) rfl (by as_aux_lemma => kernel_rfl) (by as_aux_lemma => kernel_rfl) (by as_aux_lemma => kernel_rfl) (fun _ _ _ h => h) (Or.inl ⟨?hw34, ?hy34⟩) HS30.out ?_
        case hw34 => kernel_rfl
        case hy34 => (intro W hSw; clear hSw; go_simp; first | done | with_reducible rfl)
        try simp only [Act.put, List.setIfInBounds_toArray, List.set_cons_zero, List.set_cons_succ]
        refine wpAnyH_take (i := 34) (oi := { dst := some 126, op := Op.binOp BinOp.eql 25 (Operand.tmp 125) (Operand.const (Value.int IntKind.i64 0)) 25, type := 4, pos := "law.go:43", after := #[{ on := 33, ground := Ground.data }, { on := 32, ground := Ground.guard }], guard := some (32, true) }) (v := ?v35) rfl (by as_aux_lemma => kernel_rfl) (by as_aux_lemma => kernel_rfl) (by as_aux_lemma => kernel_rfl) (fun _ _ _ h => h) (Or.inl ⟨?hw35, ?hy35⟩) HS30.out ?_
        case hw35 => kernel_rfl
        case hy35 => (intro W hSw; clear hSw; go_simp; first | done | with_reducible rfl)
        try simp only [Act.put, List.setIfInBounds_toArray, List.set_cons_zero, List.set_cons_succ]
        refine wpAnyH_take (i := 35) (oi := { dst := some 127, op := Op.pick (Operand.tmp 124) (Operand.tmp 126) (Operand.const (Value.bool false)), type := 4, pos := "law.go:43", after := #[{ on := 32, ground := Ground.data }, { on := 34, ground := Ground.data }], guard := none }) (v := ?v36) rfl (by as_aux_lemma => kernel_rfl) (by as_aux_lemma => kernel_rfl) (by as_aux_lemma => kernel_rfl) (fun _ _ _ h => h) (Or.inl ⟨?hw36, ?hy36⟩) HS30.out ?_
        case hw36 => kernel_rfl
        case hy36 => (intro W hSw; clear hSw; go_simp; first | done | with_reducible rfl)
        try simp only [Act.put, List.setIfInBounds_toArray, List.set_cons_zero, List.set_cons_succ]
        refine wpAnyH_take (i := 36) (oi := { dst := some 128, op := Op.move (Operand.tmp 127), type := 4, pos := "law.go:43", after := #[{ on := 35, ground := Ground.data }, { on := 32, ground := Ground.chain }], guard := none }) (v := ?v37) rfl (by as_aux_lemma => kernel_rfl) (by as_aux_lemma => kernel_rfl) (by as_aux_lemma => kernel_rfl) (fun _ _ _ h => h) (Or.inl ⟨?hw37, ?hy37⟩) HS30.out ?_
        case hw37 => kernel_rfl
        case hy37 => (intro W hSw; clear hSw; go_simp; first | done | with_reducible rfl)
        try simp only [Act.put, List.setIfInBounds_toArray, List.set_cons_zero, List.set_cons_succ]
        refine wpAnyH_take (i := 37) (oi := { dst := some 129, op := Op.move (Operand.tmp 15), type := 25, pos := "law.go:43", after := #[{ on := 36, ground := Ground.guard }], guard := some (36, true) }) (v := ?v38) rfl (by as_aux_lemma => kernel_rfl) (by as_aux_lemma => kernel_rfl) (by as_aux_lemma => kernel_rfl) (fun _ _ _ h => h) (Or.inl ⟨?hw38, ?hy38⟩) HS30.out ?_
        case hw38 => kernel_rfl
        case hy38 => (intro W hSw; clear hSw; go_simp; first | done | with_reducible rfl)
        try simp only [Act.put, List.setIfInBounds_toArray, List.set_cons_zero, List.set_cons_succ]
        refine wpAnyH_take (i := 38) (oi := { dst := some 130, op := Op.binOp BinOp.eql 25 (Operand.tmp 129) (Operand.const (Value.int IntKind.i64 0)) 25, type := 4, pos := "law.go:43", after := #[{ on := 37, ground := Ground.data }, { on := 36, ground := Ground.guard }], guard := some (36, true) }) (v := ?v39) rfl (by as_aux_lemma => kernel_rfl) (by as_aux_lemma => kernel_rfl) (by as_aux_lemma => kernel_rfl) (fun _ _ _ h => h) (Or.inl ⟨?hw39, ?hy39⟩) HS30.out ?_
        case hw39 => kernel_rfl
        case hy39 => (intro W hSw; clear hSw; go_simp; first | done | with_reducible rfl)
        try simp only [Act.put, List.setIfInBounds_toArray, List.set_cons_zero, List.set_cons_succ]
        refine wpAnyH_take (i := 39) (oi := { dst := some 131, op := Op.pick (Operand.tmp 128) (Operand.tmp 130) (Operand.const (Value.bool false)), type := 4, pos := "law.go:43", after := #[{ on := 36, ground := Ground.data }, { on := 38, ground := Ground.data }], guard := none }) (v := ?v40) rfl (by as_aux_lemma => kernel_rfl) (by as_aux_lemma => kernel_rfl) (by as_aux_lemma => kernel_rfl) (fun _ _ _ h => h) (Or.inl ⟨?hw40, ?hy40⟩) HS30.out ?_
        case hw40 => kernel_rfl
        case hy40 => (intro W hSw; clear hSw; go_simp; first | done | with_reducible rfl)
        try simp only [Act.put, List.setIfInBounds_toArray, List.set_cons_zero, List.set_cons_succ]
        refine wpAnyH_take (i := 40) (oi := { dst := some 132, op := Op.move (Operand.tmp 131), type := 4, pos := "law.go:43", after := #[{ on := 39, ground := Ground.data }, { on := 36, ground := Ground.chain }], guard := none }) (v := ?v41) rfl (by as_aux_lemma => kernel_rfl) (by as_aux_lemma => kernel_rfl) (by as_aux_lemma => kernel_rfl) (fun _ _ _ h => h) (Or.inl ⟨?hw41, ?hy41⟩) HS30.out ?_
        case hw41 => kernel_rfl
        case hy41 => (intro W hSw; clear hSw; go_simp; first | done | with_reducible rfl)
        try simp only [Act.put, List.setIfInBounds_toArray, List.set_cons_zero, List.set_cons_succ]
        refine wpAnyH_take (i := 41) (oi := { dst := some 133, op := Op.move (Operand.tmp 17), type := 25, pos := "law.go:43", after := #[{ on := 40, ground := Ground.guard }], guard := some (40, true) }) (v := ?v42) rfl (by as_aux_lemma => kernel_rfl) (by as_aux_lemma => kernel_rfl) (by as_aux_lemma => kernel_rfl) (fun _ _ _ h => h) (Or.inl ⟨?hw42, ?hy42⟩) HS30.out ?_
        case hw42 => kernel_rfl
        case hy42 => (intro W hSw; clear hSw; go_simp; first | done | with_reducible rfl)
        try simp only [Act.put, List.setIfInBounds_toArray, List.set_cons_zero, List.set_cons_succ]
        refine wpAnyH_take (i := 42) (oi := { dst := some 134, op := Op.binOp BinOp.eql 25 (Operand.tmp 133) (Operand.const (Value.int IntKind.i64 9)) 25, type := 4, pos := "law.go:43", after := #[{ on := 41, ground := Ground.data }, { on := 40, ground := Ground.guard }], guard := some (40, true) }) (v := ?v43) rfl (by as_aux_lemma => kernel_rfl) (by as_aux_lemma => kernel_rfl) (by as_aux_lemma => kernel_rfl) (fun _ _ _ h => h) (Or.inl ⟨?hw43, ?hy43⟩) HS30.out ?_
        case hw43 => kernel_rfl
        case hy43 => (intro W hSw; clear hSw; go_simp; first | done | with_reducible rfl)
        try simp only [Act.put, List.setIfInBounds_toArray, List.set_cons_zero, List.set_cons_succ]
        refine wpAnyH_take (i := 43) (oi := { dst := some 135, op := Op.pick (Operand.tmp 132) (Operand.tmp 134) (Operand.const (Value.bool false)), type := 4, pos := "law.go:43", after := #[{ on := 40, ground := Ground.data }, { on := 42, ground := Ground.data }], guard := none }) (v := ?v44) rfl (by as_aux_lemma => kernel_rfl) (by as_aux_lemma => kernel_rfl) (by as_aux_lemma => kernel_rfl) (fun _ _ _ h => h) (Or.inl ⟨?hw44, ?hy44⟩) HS30.out ?_
        case hw44 => kernel_rfl
        case hy44 => (intro W hSw; clear hSw; go_simp; first | done | with_reducible rfl)
        try simp only [Act.put, List.setIfInBounds_toArray, List.set_cons_zero, List.set_cons_succ]
        refine wpAnyH_take (i := 44) (oi := { dst := some 136, op := Op.move (Operand.tmp 135), type := 4, pos := "law.go:43", after := #[{ on := 43, ground := Ground.data }, { on := 40, ground := Ground.chain }], guard := none }) (v := ?v45) rfl (by as_aux_lemma => kernel_rfl) (by as_aux_lemma => kernel_rfl) (by as_aux_lemma => kernel_rfl) (fun _ _ _ h => h) (Or.inl ⟨?hw45, ?hy45⟩) HS30.out ?_
        case hw45 => kernel_rfl
        case hy45 => (intro W hSw; clear hSw; go_simp; first | done | with_reducible rfl)
        try simp only [Act.put, List.setIfInBounds_toArray, List.set_cons_zero, List.set_cons_succ]
        refine wpAnyH_take (i := 45) (oi := { dst := some 137, op := Op.move (Operand.tmp 18), type := 25, pos := "law.go:43", after := #[{ on := 44, ground := Ground.guard }], guard := some (44, true) }) (v := ?v46) rfl (by as_aux_lemma => kernel_rfl) (by as_aux_lemma => kernel_rfl) (by as_aux_lemma => kernel_rfl) (fun _ _ _ h => h) (Or.inl ⟨?hw46, ?hy46⟩) HS30.out ?_
        case hw46 => kernel_rfl
        case hy46 => (intro W hSw; clear hSw; go_simp; first | done | with_reducible rfl)
        try simp only [Act.put, List.setIfInBounds_toArray, List.set_cons_zero, List.set_cons_succ]
        refine wpAnyH_take (i := 46) (oi := { dst := some 138, op := Op.binOp BinOp.eql 25 (Operand.tmp 137) (Operand.const (Value.int IntKind.i64 0)) 25, type := 4, pos := "law.go:43", after := #[{ on := 45, ground := Ground.data }, { on := 44, ground := Ground.guard }], guard := some (44, true) }) (v := ?v47) rfl (by as_aux_lemma => kernel_rfl) (by as_aux_lemma => kernel_rfl) (by as_aux_lemma => kernel_rfl) (fun _ _ _ h => h) (Or.inl ⟨?hw47, ?hy47⟩) HS30.out ?_
        case hw47 => kernel_rfl
        case hy47 => (intro W hSw; clear hSw; go_simp; first | done | with_reducible rfl)
        try simp only [Act.put, List.setIfInBounds_toArray, List.set_cons_zero, List.set_cons_succ]
        refine wpAnyH_take (i := 47) (oi := { dst := some 139, op := Op.pick (Operand.tmp 136) (Operand.tmp 138) (Operand.const (Value.bool false)), type := 4, pos := "law.go:43", after := #[{ on := 44, ground := Ground.data }, { on := 46, ground := Ground.data }], guard := none }) (v := ?v48) rfl (by as_aux_lemma => kernel_rfl) (by as_aux_lemma => kernel_rfl) (by as_aux_lemma => kernel_rfl) (fun _ _ _ h => h) (Or.inl ⟨?hw48, ?hy48⟩) HS30.out ?_
        case hw48 => kernel_rfl
        case hy48 => (intro W hSw; clear hSw; go_simp; first | done | with_reducible rfl)
        try simp only [Act.put, List.setIfInBounds_toArray, List.set_cons_zero, List.set_cons_succ]
        refine wpAnyH_take (i := 48) (oi := { dst := some 140, op := Op.move (Operand.tmp 139), type := 4, pos := "law.go:43", after := #[{ on := 47, ground := Ground.data }, { on := 44, ground := Ground.chain }], guard := none }) (v := ?v49) rfl (by as_aux_lemma => kernel_rfl) (by as_aux_lemma => kernel_rfl) (by as_aux_lemma => kernel_rfl) (fun _ _ _ h => h) (Or.inl ⟨?hw49, ?hy49⟩) HS30.out ?_
        case hw49 => kernel_rfl
        case hy49 => (intro W hSw; clear hSw; go_simp; first | done | with_reducible rfl)
        try simp only [Act.put, List.setIfInBounds_toArray, List.set_cons_zero, List.set_cons_succ]
        refine wpAnyH_take (i := 49) (oi := { dst := some 141, op := Op.move (Operand.tmp 19), type := 9, pos := "law.go:43", after := #[{ on := 48, ground := Ground.guard }], guard := some (48, true) }) (v := ?v50) rfl (by as_aux_lemma => kernel_rfl) (by as_aux_lemma => kernel_rfl) (by as_aux_lemma => kernel_rfl) (fun _ _ _ h => h) (Or.inl ⟨?hw50, ?hy50⟩) HS30.out ?_
        case hw50 => kernel_rfl
        case hy50 => (intro W hSw; clear hSw; go_simp; first | done | with_reducible rfl)
        try simp only [Act.put, List.setIfInBounds_toArray, List.set_cons_zero, List.set_cons_succ]
        refine wpAnyH_ready (rs := [50]) (by as_aux_lemma => kernel_rfl) (by simp) ?_
        refine AllReadyH.cons (o := { dst := some 142, op := Op.call { callee := Callee.value (Operand.func 25), args := #[Operand.const (Value.int IntKind.u8 9)], argTypes := #[5] }, type := 9, pos := "law.go:43", after := #[{ on := 48, ground := Ground.chain }, { on := 48, ground := Ground.guard }], guard := some (48, true) }) rfl (fun K hK => ?_) ?_
        · go_simp
          go_at_call 25
          refine (lk_fill HS30.out 9 9 rfl HF9.out.1).mono ?_
          rintro e wq51 ⟨rfl, kk⟩
          have HS51 := Lib.hid kk
          clear kk
          go_wp2_with fail
          refine hK.out _ _ HS51.out (fun hHeld => ?_)
          clear hHeld hK K
          try simp only [Act.put, List.setIfInBounds_toArray, List.set_cons_zero, List.set_cons_succ]
          refine wpAnyH_take (i := 51) (oi := { dst := some 143, op := Op.slice 9 (Operand.tmp 142) none (some (Operand.const (Value.int IntKind.i64 508))) none, type := 9, pos := "law.go:43", after := #[{ on := 50, ground := Ground.data }, { on := 48, ground := Ground.guard }], guard := some (48, true) }) (v := ?v52) rfl (by as_aux_lemma => kernel_rfl) (by as_aux_lemma => kernel_rfl) (by as_aux_lemma => kernel_rfl) (fun _ _ _ h => h) (Or.inl ⟨?hw52, ?hy52⟩) HS51.out ?_
          case hw52 => kernel_rfl
          case hy52 => (intro W hSw; clear hSw; go_simp; first | done | with_reducible rfl)
          try simp only [Act.put, List.setIfInBounds_toArray, List.set_cons_zero, List.set_cons_succ]
          refine wpAnyH_take (i := 52) (oi := { dst := some 144, op := Op.binOp BinOp.add 9 (Operand.tmp 143) (Operand.const (Value.string { data := #[8] })) 9, type := 9, pos := "law.go:43", after := #[{ on := 51, ground := Ground.data }, { on := 48, ground := Ground.guard }], guard := some (48, true) }) (v := ?v53) rfl (by as_aux_lemma => kernel_rfl) (by as_aux_lemma => kernel_rfl) (by as_aux_lemma => kernel_rfl) (fun _ _ _ h => h) (Or.inl ⟨?hw53, ?hy53⟩) HS51.out ?_
          case hw53 => kernel_rfl
          case hy53 => (intro W hSw; clear hSw; go_simp; first | done | with_reducible rfl)
          try simp only [Act.put, List.setIfInBounds_toArray, List.set_cons_zero, List.set_cons_succ]
          refine wpAnyH_ready (rs := [53]) (by as_aux_lemma => kernel_rfl) (by simp) ?_
          refine AllReadyH.cons (o := { dst := some 145, op := Op.call { callee := Callee.value (Operand.func 25), args := #[Operand.const (Value.int IntKind.u8 9)], argTypes := #[5] }, type := 9, pos := "law.go:43", after := #[{ on := 50, ground := Ground.chain }, { on := 48, ground := Ground.guard }], guard := some (48, true) }) rfl (fun K hK => ?_) ?_
          · go_simp
            go_at_call 25
            refine (lk_fill HS51.out 9 9 rfl HF9.out.1).mono ?_
            rintro e wq54 ⟨rfl, kk⟩
            have HS54 := Lib.hid kk
            clear kk
            go_wp2_with fail
            refine hK.out _ _ HS54.out (fun hHeld => ?_)
            clear hHeld hK K
            try simp only [Act.put, List.setIfInBounds_toArray, List.set_cons_zero, List.set_cons_succ]
            refine wpAnyH_take (i := 54) (oi := { dst := some 146, op := Op.slice 9 (Operand.tmp 145) none (some (Operand.const (Value.int IntKind.i64 3))) none, type := 9, pos := "law.go:43", after := #[{ on := 53, ground := Ground.data }, { on := 48, ground := Ground.guard }], guard := some (48, true) }) (v := ?v55) rfl (by as_aux_lemma => kernel_rfl) (by as_aux_lemma => kernel_rfl) (by as_aux_lemma => kernel_rfl) (fun _ _ _ h => h) (Or.inl ⟨?hw55, ?hy55⟩) HS54.out ?_
            case hw55 => kernel_rfl
            case hy55 => (intro W hSw; clear hSw; go_simp; first | done | with_reducible rfl)
            try simp only [Act.put, List.setIfInBounds_toArray, List.set_cons_zero, List.set_cons_succ]
            refine wpAnyH_take (i := 55) (oi := { dst := some 147, op := Op.binOp BinOp.add 9 (Operand.tmp 144) (Operand.tmp 146) 9, type := 9, pos := "law.go:43", after := #[{ on := 52, ground := Ground.data }, { on := 54, ground := Ground.data }, { on := 48, ground := Ground.guard }], guard := some (48, true) }) (v := ?v56) rfl (by as_aux_lemma => kernel_rfl) (by as_aux_lemma => kernel_rfl) (by as_aux_lemma => kernel_rfl) (fun _ _ _ h => h) (Or.inl ⟨?hw56, ?hy56⟩) HS54.out ?_
            case hw56 => kernel_rfl
            case hy56 => (intro W hSw; clear hSw; go_simp; first | done | with_reducible rfl)
            try simp only [Act.put, List.setIfInBounds_toArray, List.set_cons_zero, List.set_cons_succ]
            refine wpAnyH_take (i := 56) (oi := { dst := some 148, op := Op.binOp BinOp.eql 9 (Operand.tmp 141) (Operand.tmp 147) 9, type := 4, pos := "law.go:43", after := #[{ on := 49, ground := Ground.data }, { on := 55, ground := Ground.data }, { on := 48, ground := Ground.guard }], guard := some (48, true) }) (v := ?v57) rfl (by as_aux_lemma => kernel_rfl) (by as_aux_lemma => kernel_rfl) (by as_aux_lemma => kernel_rfl) (fun _ _ _ h => h) (Or.inl ⟨?hw57, ?hy57⟩) HS54.out ?_
            case hw57 => kernel_rfl
            case hy57 => (intro W hSw; clear hSw; go_simp; first | done | with_reducible rfl)
            try simp only [Act.put, List.setIfInBounds_toArray, List.set_cons_zero, List.set_cons_succ]
            refine wpAnyH_take (i := 57) (oi := { dst := some 149, op := Op.pick (Operand.tmp 140) (Operand.tmp 148) (Operand.const (Value.bool false)), type := 4, pos := "law.go:43", after := #[{ on := 48, ground := Ground.data }, { on := 56, ground := Ground.data }], guard := none }) (v := ?v58) rfl (by as_aux_lemma => kernel_rfl) (by as_aux_lemma => kernel_rfl) (by as_aux_lemma => kernel_rfl) (fun _ _ _ h => h) (Or.inl ⟨?hw58, ?hy58⟩) HS54.out ?_
            case hw58 => kernel_rfl
            case hy58 => (intro W hSw; clear hSw; go_simp; first | done | with_reducible rfl)
            try simp only [Act.put, List.setIfInBounds_toArray, List.set_cons_zero, List.set_cons_succ]
            refine wpAnyH_take (i := 58) (oi := { dst := some 150, op := Op.move (Operand.tmp 149), type := 4, pos := "law.go:43", after := #[{ on := 57, ground := Ground.data }, { on := 53, ground := Ground.chain }], guard := none }) (v := ?v59) rfl (by as_aux_lemma => kernel_rfl) (by as_aux_lemma => kernel_rfl) (by as_aux_lemma => kernel_rfl) (fun _ _ _ h => h) (Or.inl ⟨?hw59, ?hy59⟩) HS54.out ?_
            case hw59 => kernel_rfl
            case hy59 => (intro W hSw; clear hSw; go_simp; first | done | with_reducible rfl)
            try simp only [Act.put, List.setIfInBounds_toArray, List.set_cons_zero, List.set_cons_succ]
            refine wpAnyH_take (i := 59) (oi := { dst := some 151, op := Op.move (Operand.tmp 1), type := 24, pos := "law.go:43", after := #[{ on := 58, ground := Ground.guard }], guard := some (58, true) }) (v := ?v60) rfl (by as_aux_lemma => kernel_rfl) (by as_aux_lemma => kernel_rfl) (by as_aux_lemma => kernel_rfl) (fun _ _ _ h => h) (Or.inl ⟨?hw60, ?hy60⟩) HS54.out ?_
            case hw60 => kernel_rfl
            case hy60 => (intro W hSw; clear hSw; go_simp; first | done | with_reducible rfl)
            try simp only [Act.put, List.setIfInBounds_toArray, List.set_cons_zero, List.set_cons_succ]
            refine wpAnyH_ready (rs := [60]) (by as_aux_lemma => kernel_rfl) (by simp) ?_
            refine AllReadyH.cons (o := { dst := some 152, op := Op.call { callee := Callee.value (Operand.func 22), args := #[Operand.tmp 151], argTypes := #[24] }, type := 3, pos := "law.go:43", after := #[{ on := 59, ground := Ground.data }, { on := 58, ground := Ground.chain }, { on := 58, ground := Ground.guard }], guard := some (58, true) }) rfl (fun K hK => ?_) ?_
            · go_simp
              go_at_call 22
              refine (lk_sectors HS54.out).mono ?_
              rintro e wq61 ⟨rfl, rfl⟩
              have kk := HS54.out
              have HS61 := Lib.hid kk
              clear kk
              go_wp2_with fail
              refine hK.out _ _ HS61.out (fun hHeld => ?_)
              clear hHeld hK K
              try simp only [Act.put, List.setIfInBounds_toArray, List.set_cons_zero, List.set_cons_succ]
              refine wpAnyH_take (i := 61) (oi := { dst := some 153, op := Op.binOp BinOp.eql 3 (Operand.tmp 152) (Operand.const (Value.int IntKind.i64 3)) 3, type := 4, pos := "law.go:43", after := #[{ on := 60, ground := Ground.data }, { on := 58, ground := Ground.guard }], guard := some (58, true) }) (v := ?v62) rfl (by as_aux_lemma => kernel_rfl) (by as_aux_lemma => kernel_rfl) (by as_aux_lemma => kernel_rfl) (fun _ _ _ h => h) (Or.inl ⟨?hw62, ?hy62⟩) HS61.out ?_
              case hw62 => kernel_rfl
              case hy62 => (intro W hSw; clear hSw; go_simp; first | done | with_reducible rfl)
              try simp only [Act.put, List.setIfInBounds_toArray, List.set_cons_zero, List.set_cons_succ]
              refine wpAnyH_take (i := 62) (oi := { dst := some 154, op := Op.pick (Operand.tmp 150) (Operand.tmp 153) (Operand.const (Value.bool false)), type := 4, pos := "law.go:43", after := #[{ on := 58, ground := Ground.data }, { on := 61, ground := Ground.data }], guard := none }) (v := ?v63) rfl (by as_aux_lemma => kernel_rfl) (by as_aux_lemma => kernel_rfl) (by as_aux_lemma => kernel_rfl) (fun _ _ _ h => h) (Or.inl ⟨?hw63, ?hy63⟩) HS61.out ?_
              case hw63 => kernel_rfl
              case hy63 => (intro W hSw; clear hSw; go_simp; first | done | with_reducible rfl)
              try simp only [Act.put, List.setIfInBounds_toArray, List.set_cons_zero, List.set_cons_succ]
              refine wpAnyH_take (i := 63) (oi := { dst := some 155, op := Op.move (Operand.tmp 154), type := 4, pos := "law.go:43", after := #[{ on := 62, ground := Ground.data }, { on := 60, ground := Ground.chain }], guard := none }) (v := ?v64) rfl (by as_aux_lemma => kernel_rfl) (by as_aux_lemma => kernel_rfl) (by as_aux_lemma => kernel_rfl) (fun _ _ _ h => h) (Or.inl ⟨?hw64, ?hy64⟩) HS61.out ?_
              case hw64 => kernel_rfl
              case hy64 => (intro W hSw; clear hSw; go_simp; first | done | with_reducible rfl)
              try simp only [Act.put, List.setIfInBounds_toArray, List.set_cons_zero, List.set_cons_succ]
              refine wpAnyH_take (i := 64) (oi := { dst := some 156, op := Op.move (Operand.tmp 1), type := 24, pos := "law.go:43", after := #[{ on := 63, ground := Ground.guard }], guard := some (63, true) }) (v := ?v65) rfl (by as_aux_lemma => kernel_rfl) (by as_aux_lemma => kernel_rfl) (by as_aux_lemma => kernel_rfl) (fun _ _ _ h => h) (Or.inl ⟨?hw65, ?hy65⟩) HS61.out ?_
              case hw65 => kernel_rfl
              case hy65 => (intro W hSw; clear hSw; go_simp; first | done | with_reducible rfl)
              try simp only [Act.put, List.setIfInBounds_toArray, List.set_cons_zero, List.set_cons_succ]
              refine wpAnyH_ready (rs := [65]) (by as_aux_lemma => kernel_rfl) (by simp) ?_
              refine AllReadyH.cons (o := { dst := some 157, op := Op.call { callee := Callee.value (Operand.func 13), args := #[Operand.tmp 156], argTypes := #[24] }, type := 3, pos := "law.go:43", after := #[{ on := 64, ground := Ground.data }, { on := 63, ground := Ground.chain }, { on := 63, ground := Ground.guard }], guard := some (63, true) }) rfl (fun K hK => ?_) ?_
              · go_simp
                go_at_call 13
                refine (lk_writes HS61.out).mono ?_
                rintro e wq66 ⟨rfl, rfl⟩
                have kk := HS61.out
                have HS66 := Lib.hid kk
                clear kk
                go_wp2_with fail
                refine hK.out _ _ HS66.out (fun hHeld => ?_)
                clear hHeld hK K
                try simp only [Act.put, List.setIfInBounds_toArray, List.set_cons_zero, List.set_cons_succ]
                refine wpAnyH_take (i := 66) (oi := { dst := some 158, op := Op.binOp BinOp.eql 3 (Operand.tmp 157) (Operand.const (Value.int IntKind.i64 3)) 3, type := 4, pos := "law.go:43", after := #[{ on := 65, ground := Ground.data }, { on := 63, ground := Ground.guard }], guard := some (63, true) }) (v := ?v67) rfl (by as_aux_lemma => kernel_rfl) (by as_aux_lemma => kernel_rfl) (by as_aux_lemma => kernel_rfl) (fun _ _ _ h => h) (Or.inl ⟨?hw67, ?hy67⟩) HS66.out ?_
                case hw67 => kernel_rfl
                case hy67 => (intro W hSw; clear hSw; go_simp; first | done | with_reducible rfl)
                try simp only [Act.put, List.setIfInBounds_toArray, List.set_cons_zero, List.set_cons_succ]
                refine wpAnyH_take (i := 67) (oi := { dst := some 159, op := Op.pick (Operand.tmp 155) (Operand.tmp 158) (Operand.const (Value.bool false)), type := 4, pos := "law.go:43", after := #[{ on := 63, ground := Ground.data }, { on := 66, ground := Ground.data }], guard := none }) (v := ?v68) rfl (by as_aux_lemma => kernel_rfl) (by as_aux_lemma => kernel_rfl) (by as_aux_lemma => kernel_rfl) (fun _ _ _ h => h) (Or.inl ⟨?hw68, ?hy68⟩) HS66.out ?_
                case hw68 => kernel_rfl
                case hy68 => (intro W hSw; clear hSw; go_simp; first | done | with_reducible rfl)
                try simp only [Act.put, List.setIfInBounds_toArray, List.set_cons_zero, List.set_cons_succ]
                refine wpAnyH_take (i := 68) (oi := { dst := some 160, op := Op.move (Operand.tmp 159), type := 4, pos := "law.go:43", after := #[{ on := 67, ground := Ground.data }, { on := 65, ground := Ground.chain }], guard := none }) (v := ?v69) rfl (by as_aux_lemma => kernel_rfl) (by as_aux_lemma => kernel_rfl) (by as_aux_lemma => kernel_rfl) (fun _ _ _ h => h) (Or.inl ⟨?hw69, ?hy69⟩) HS66.out ?_
                case hw69 => kernel_rfl
                case hy69 => (intro W hSw; clear hSw; go_simp; first | done | with_reducible rfl)
                try simp only [Act.put, List.setIfInBounds_toArray, List.set_cons_zero, List.set_cons_succ]
                refine wpAnyH_take (i := 69) (oi := { dst := some 161, op := Op.move (Operand.tmp 1), type := 24, pos := "law.go:43", after := #[{ on := 68, ground := Ground.guard }], guard := some (68, true) }) (v := ?v70) rfl (by as_aux_lemma => kernel_rfl) (by as_aux_lemma => kernel_rfl) (by as_aux_lemma => kernel_rfl) (fun _ _ _ h => h) (Or.inl ⟨?hw70, ?hy70⟩) HS66.out ?_
                case hw70 => kernel_rfl
                case hy70 => (intro W hSw; clear hSw; go_simp; first | done | with_reducible rfl)
                try simp only [Act.put, List.setIfInBounds_toArray, List.set_cons_zero, List.set_cons_succ]
                refine wpAnyH_ready (rs := [70, 71]) (by as_aux_lemma => kernel_rfl) (by simp) ?_
                refine AllReadyH.cons (o := { dst := some 162, op := Op.call { callee := Callee.value (Operand.func 17), args := #[Operand.tmp 161], argTypes := #[24] }, type := 40, pos := "law.go:43", after := #[{ on := 69, ground := Ground.data }, { on := 68, ground := Ground.chain }, { on := 68, ground := Ground.guard }], guard := some (68, true) }) rfl (fun K hK => ?_) ?_
                · go_simp
                  go_at_call 17
                  refine (lk_bad HS66.out).mono ?_
                  rintro e wq71 ⟨vb, rfl, hI, hb⟩
                  have HU71 := Lib.hid hI
                  have kk := HS66.out.below hb
                  clear hI hb
                  have HS71 := Lib.hid kk
                  clear kk
                  go_wp2_with fail
                  refine hK.out _ _ HS71.out (fun hHeld => ?_)
                  clear hHeld hK K
                  try simp only [Act.put, List.setIfInBounds_toArray, List.set_cons_zero, List.set_cons_succ]
                  refine wpAnyH_ready (rs := [71]) (by as_aux_lemma => kernel_rfl) (by simp) ?_
                  refine AllReadyH.cons (o := { dst := some 163, op := Op.buildSlice 40 1 #[(0, Operand.const (Value.int IntKind.i64 1))], type := 40, pos := "law.go:43", after := #[{ on := 68, ground := Ground.guard }], guard := some (68, true) }) rfl (fun K hK => ?_) ?_
                  · go_simp
                    have HO72 := Lib.hid (IntsL.one wq71 1)
                    have HU72 := Lib.hid (HU71.out.below (below1 wq71 (.cells #[.int .i64 1] 3)))
                    have kk := HS71.out.below (below1 wq71 (.cells #[.int .i64 1] 3))
                    have HS72 := Lib.hid kk
                    clear kk
                    refine hK.out _ _ HS72.out (fun hHeld => ?_)
                    clear hHeld hK K
                    try simp only [Act.put, List.setIfInBounds_toArray, List.set_cons_zero, List.set_cons_succ]
                    refine wpAnyH_ready (rs := [72]) (by as_aux_lemma => kernel_rfl) (by simp) ?_
                    refine AllReadyH.cons (o := { dst := some 164, op := Op.call { callee := Callee.value (Operand.func 14), args := #[Operand.tmp 162, Operand.tmp 163], argTypes := #[40, 40] }, type := 4, pos := "law.go:43", after := #[{ on := 70, ground := Ground.data }, { on := 71, ground := Ground.data }, { on := 70, ground := Ground.chain }, { on := 68, ground := Ground.guard }], guard := some (68, true) }) rfl (fun K hK => ?_) ?_
                    · go_simp
                      go_at_call 14
                      refine (same_any HU72.out.toR HO72.out.toR).mono ?_
                      rintro e wq73 ⟨rfl, hb⟩
                      have kk := HS72.out.below hb
                      clear hb
                      have HS73 := Lib.hid kk
                      clear kk
                      go_wp2_with fail
                      refine hK.out _ _ HS73.out (fun hHeld => ?_)
                      clear hHeld hK K
                      try simp only [Act.put, List.setIfInBounds_toArray, List.set_cons_zero, List.set_cons_succ]
                      refine wpAnyH_take (i := 73) (oi := { dst := some 165, op := Op.pick (Operand.tmp 160) (Operand.tmp 164) (Operand.const (Value.bool false)), type := 4, pos := "law.go:43", after := #[{ on := 68, ground := Ground.data }, { on := 72, ground := Ground.data }], guard := none }) (v := ?v74) rfl (by as_aux_lemma => kernel_rfl) (by as_aux_lemma => kernel_rfl) (by as_aux_lemma => kernel_rfl) (fun _ _ _ h => h) (Or.inl ⟨?hw74, ?hy74⟩) HS73.out ?_
                      case hw74 => kernel_rfl
                      case hy74 => (intro W hSw; clear hSw; go_simp; first | done | with_reducible rfl)
                      try simp only [Act.put, List.setIfInBounds_toArray, List.set_cons_zero, List.set_cons_succ]
                      refine wpAnyH_take (i := 74) (oi := { dst := some 166, op := Op.move (Operand.tmp 165), type := 4, pos := "law.go:43", after := #[{ on := 73, ground := Ground.data }, { on := 72, ground := Ground.chain }], guard := none }) (v := ?v75) rfl (by as_aux_lemma => kernel_rfl) (by as_aux_lemma => kernel_rfl) (by as_aux_lemma => kernel_rfl) (fun _ _ _ h => h) (Or.inl ⟨?hw75, ?hy75⟩) HS73.out ?_
                      case hw75 => kernel_rfl
                      case hy75 => (intro W hSw; clear hSw; go_simp; first | done | with_reducible rfl)
                      try simp only [Act.put, List.setIfInBounds_toArray, List.set_cons_zero, List.set_cons_succ]
                      refine wpAnyH_take (i := 75) (oi := { dst := some 167, op := Op.move (Operand.tmp 1), type := 24, pos := "law.go:43", after := #[{ on := 74, ground := Ground.guard }], guard := some (74, true) }) (v := ?v76) rfl (by as_aux_lemma => kernel_rfl) (by as_aux_lemma => kernel_rfl) (by as_aux_lemma => kernel_rfl) (fun _ _ _ h => h) (Or.inl ⟨?hw76, ?hy76⟩) HS73.out ?_
                      case hw76 => kernel_rfl
                      case hy76 => (intro W hSw; clear hSw; go_simp; first | done | with_reducible rfl)
                      try simp only [Act.put, List.setIfInBounds_toArray, List.set_cons_zero, List.set_cons_succ]
                      refine wpAnyH_ready (rs := [76]) (by as_aux_lemma => kernel_rfl) (by simp) ?_
                      refine AllReadyH.cons (o := { dst := some 168, op := Op.call { callee := Callee.value (Operand.func 15), args := #[Operand.tmp 167], argTypes := #[24] }, type := 40, pos := "law.go:43", after := #[{ on := 75, ground := Ground.data }, { on := 74, ground := Ground.chain }, { on := 74, ground := Ground.guard }], guard := some (74, true) }) rfl (fun K hK => ?_) ?_
                      · go_simp
                        go_at_call 15
                        refine (devWaiting_any HS73.out.d).mono ?_
                        rintro e wq77 ⟨vb, rfl, hI, hb⟩
                        obtain rfl : vb = .slice none 0 0 := hI.2.2 rfl
                        have kk := HS73.out.below hb
                        clear hI hb
                        have HS77 := Lib.hid kk
                        clear kk
                        go_wp2_with fail
                        refine hK.out _ _ HS77.out (fun hHeld => ?_)
                        clear hHeld hK K
                        try simp only [Act.put, List.setIfInBounds_toArray, List.set_cons_zero, List.set_cons_succ]
                        refine wpAnyH_take (i := 77) (oi := { dst := some 169, op := Op.call { callee := Callee.builtin Builtin.len, args := #[Operand.tmp 168], argTypes := #[40] }, type := 3, pos := "law.go:43", after := #[{ on := 76, ground := Ground.data }, { on := 74, ground := Ground.guard }], guard := some (74, true) }) (v := ?v78) rfl (by as_aux_lemma => kernel_rfl) (by as_aux_lemma => kernel_rfl) (by as_aux_lemma => kernel_rfl) (fun _ _ _ h => h) (Or.inl ⟨?hw78, ?hy78⟩) HS77.out ?_
                        case hw78 => kernel_rfl
                        case hy78 => (intro W hSw; clear hSw; go_simp; first | done | with_reducible rfl)
                        try simp only [Act.put, List.setIfInBounds_toArray, List.set_cons_zero, List.set_cons_succ]
                        refine wpAnyH_take (i := 78) (oi := { dst := some 170, op := Op.binOp BinOp.eql 3 (Operand.tmp 169) (Operand.const (Value.int IntKind.i64 0)) 3, type := 4, pos := "law.go:43", after := #[{ on := 77, ground := Ground.data }, { on := 74, ground := Ground.guard }], guard := some (74, true) }) (v := ?v79) rfl (by as_aux_lemma => kernel_rfl) (by as_aux_lemma => kernel_rfl) (by as_aux_lemma => kernel_rfl) (fun _ _ _ h => h) (Or.inl ⟨?hw79, ?hy79⟩) HS77.out ?_
                        case hw79 => kernel_rfl
                        case hy79 => (intro W hSw; clear hSw; go_simp; first | done | with_reducible rfl)
                        try simp only [Act.put, List.setIfInBounds_toArray, List.set_cons_zero, List.set_cons_succ]
                        refine wpAnyH_take (i := 79) (oi := { dst := some 171, op := Op.pick (Operand.tmp 166) (Operand.tmp 170) (Operand.const (Value.bool false)), type := 4, pos := "law.go:43", after := #[{ on := 74, ground := Ground.data }, { on := 78, ground := Ground.data }], guard := none }) (v := ?v80) rfl (by as_aux_lemma => kernel_rfl) (by as_aux_lemma => kernel_rfl) (by as_aux_lemma => kernel_rfl) (fun _ _ _ h => h) (Or.inl ⟨?hw80, ?hy80⟩) HS77.out ?_
                        case hw80 => kernel_rfl
                        case hy80 => (intro W hSw; clear hSw; go_simp; first | done | with_reducible rfl)
                        try simp only [Act.put, List.setIfInBounds_toArray, List.set_cons_zero, List.set_cons_succ]
                        refine wpAnyH_take (i := 80) (oi := { dst := some 172, op := Op.move (Operand.tmp 171), type := 4, pos := "law.go:43", after := #[{ on := 79, ground := Ground.data }, { on := 76, ground := Ground.chain }], guard := none }) (v := ?v81) rfl (by as_aux_lemma => kernel_rfl) (by as_aux_lemma => kernel_rfl) (by as_aux_lemma => kernel_rfl) (fun _ _ _ h => h) (Or.inl ⟨?hw81, ?hy81⟩) HS77.out ?_
                        case hw81 => kernel_rfl
                        case hy81 => (intro W hSw; clear hSw; go_simp; first | done | with_reducible rfl)
                        try simp only [Act.put, List.setIfInBounds_toArray, List.set_cons_zero, List.set_cons_succ]
                        refine wpAnyH_take (i := 81) (oi := { dst := some 173, op := Op.move (Operand.tmp 1), type := 24, pos := "law.go:43", after := #[{ on := 80, ground := Ground.guard }], guard := some (80, true) }) (v := ?v82) rfl (by as_aux_lemma => kernel_rfl) (by as_aux_lemma => kernel_rfl) (by as_aux_lemma => kernel_rfl) (fun _ _ _ h => h) (Or.inl ⟨?hw82, ?hy82⟩) HS77.out ?_
                        case hw82 => kernel_rfl
                        case hy82 => (intro W hSw; clear hSw; go_simp; first | done | with_reducible rfl)
                        try simp only [Act.put, List.setIfInBounds_toArray, List.set_cons_zero, List.set_cons_succ]
                        refine wpAnyH_ready (rs := [82]) (by as_aux_lemma => kernel_rfl) (by simp) ?_
                        refine AllReadyH.cons (o := { dst := some 174, op := Op.call { callee := Callee.value (Operand.func 20), args := #[Operand.tmp 173], argTypes := #[24] }, type := 9, pos := "law.go:43", after := #[{ on := 81, ground := Ground.data }, { on := 80, ground := Ground.chain }, { on := 80, ground := Ground.guard }], guard := some (80, true) }) rfl (fun K hK => ?_) ?_
                        · go_simp
                          go_at_call 20
                          refine (lk_bytes HS77.out rfl).mono ?_
                          rintro e wq83 ⟨B0, rfl, hB0, kk⟩
                          have hB1 : ((B0.size : Nat) : Int) = 1536 := by rw [hB0]; rfl
                          have HS83 := Lib.hid kk
                          clear kk
                          go_wp2_with fail
                          refine hK.out _ _ HS83.out (fun hHeld => ?_)
                          clear hHeld hK K
                          try simp only [Act.put, List.setIfInBounds_toArray, List.set_cons_zero, List.set_cons_succ]
                          refine wpAnyH_take (i := 83) (oi := { dst := some 175, op := Op.call { callee := Callee.builtin Builtin.len, args := #[Operand.tmp 174], argTypes := #[9] }, type := 3, pos := "law.go:43", after := #[{ on := 82, ground := Ground.data }, { on := 80, ground := Ground.guard }], guard := some (80, true) }) (v := ?v84) rfl (by as_aux_lemma => kernel_rfl) (by as_aux_lemma => kernel_rfl) (by as_aux_lemma => kernel_rfl) (fun _ _ _ h => h) (Or.inl ⟨?hw84, ?hy84⟩) HS83.out ?_
                          case hw84 => kernel_rfl
                          case hy84 => (intro W hSw; clear hSw; go_simp; first | done | with_reducible rfl)
                          try simp only [Act.put, List.setIfInBounds_toArray, List.set_cons_zero, List.set_cons_succ]
                          refine wpAnyH_take (i := 84) (oi := { dst := some 176, op := Op.binOp BinOp.eql 3 (Operand.tmp 175) (Operand.const (Value.int IntKind.i64 1536)) 3, type := 4, pos := "law.go:43", after := #[{ on := 83, ground := Ground.data }, { on := 80, ground := Ground.guard }], guard := some (80, true) }) (v := ?v85) rfl (by as_aux_lemma => kernel_rfl) (by as_aux_lemma => kernel_rfl) (by as_aux_lemma => kernel_rfl) (fun _ _ _ h => h) (Or.inl ⟨?hw85, ?hy85⟩) HS83.out ?_
                          case hw85 => kernel_rfl
                          case hy85 => (intro W hSw; clear hSw; go_simp; first | done | with_reducible rfl)
                          try simp only [Act.put, List.setIfInBounds_toArray, List.set_cons_zero, List.set_cons_succ]
                          refine wpAnyH_take (i := 85) (oi := { dst := some 177, op := Op.pick (Operand.tmp 172) (Operand.tmp 176) (Operand.const (Value.bool false)), type := 4, pos := "law.go:43", after := #[{ on := 80, ground := Ground.data }, { on := 84, ground := Ground.data }], guard := none }) (v := ?v86) rfl (by as_aux_lemma => kernel_rfl) (by as_aux_lemma => kernel_rfl) (by as_aux_lemma => kernel_rfl) (fun _ _ _ h => h) (Or.inl ⟨?hw86, ?hy86⟩) HS83.out ?_
                          case hw86 => kernel_rfl
                          case hy86 => (intro W hSw; clear hSw; go_simp; first | done | with_reducible rfl)
                          try simp only [Act.put, List.setIfInBounds_toArray, List.set_cons_zero, List.set_cons_succ]
                          refine wpAnyH_take (i := 86) (oi := { dst := some 0, op := Op.assign (Operand.tmp 177), type := 4, pos := "law.go:43", after := ([{ on := 85, ground := Ground.data }, { on := 82, ground := Ground.chain }, { on := 0, ground := Ground.phase }, { on := 1, ground := Ground.phase }, { on := 2, ground := Ground.phase }, { on := 3, ground := Ground.phase }, { on := 4, ground := Ground.phase }, { on := 5, ground := Ground.phase }, { on := 6, ground := Ground.phase }, { on := 7, ground := Ground.phase }, { on := 8, ground := Ground.phase }, { on := 9, ground := Ground.phase }, { on := 10, ground := Ground.phase }, { on := 11, ground := Ground.phase }, { on := 12, ground := Ground.phase }, { on := 13, ground := Ground.phase }, { on := 14, ground := Ground.phase }, { on := 15, ground := Ground.phase }, { on := 16, ground := Ground.phase }, { on := 17, ground := Ground.phase }, { on := 18, ground := Ground.phase }, { on := 19, ground := Ground.phase }, { on := 20, ground := Ground.phase }, { on := 21, ground := Ground.phase }, { on := 22, ground := Ground.phase }, { on := 23, ground := Ground.phase }, { on := 24, ground := Ground.phase }, { on := 25, ground := Ground.phase }, { on := 26, ground := Ground.phase }, { on := 27, ground := Ground.phase }, { on := 28, ground := Ground.phase }, { on := 29, ground := Ground.phase }, { on := 30, ground := Ground.phase }, { on := 31, ground := Ground.phase }, { on := 32, ground := Ground.phase }, { on := 33, ground := Ground.phase }, { on := 34, ground := Ground.phase }, { on := 35, ground := Ground.phase }, { on := 36, ground := Ground.phase }, { on := 37, ground := Ground.phase }, { on := 38, ground := Ground.phase }, { on := 39, ground := Ground.phase }, { on := 40, ground := Ground.phase }, { on := 41, ground := Ground.phase }].append [{ on := 42, ground := Ground.phase }, { on := 43, ground := Ground.phase }, { on := 44, ground := Ground.phase }, { on := 45, ground := Ground.phase }, { on := 46, ground := Ground.phase }, { on := 47, ground := Ground.phase }, { on := 48, ground := Ground.phase }, { on := 49, ground := Ground.phase }, { on := 50, ground := Ground.phase }, { on := 51, ground := Ground.phase }, { on := 52, ground := Ground.phase }, { on := 53, ground := Ground.phase }, { on := 54, ground := Ground.phase }, { on := 55, ground := Ground.phase }, { on := 56, ground := Ground.phase }, { on := 57, ground := Ground.phase }, { on := 58, ground := Ground.phase }, { on := 59, ground := Ground.phase }, { on := 60, ground := Ground.phase }, { on := 61, ground := Ground.phase }, { on := 62, ground := Ground.phase }, { on := 63, ground := Ground.phase }, { on := 64, ground := Ground.phase }, { on := 65, ground := Ground.phase }, { on := 66, ground := Ground.phase }, { on := 67, ground := Ground.phase }, { on := 68, ground := Ground.phase }, { on := 69, ground := Ground.phase }, { on := 70, ground := Ground.phase }, { on := 71, ground := Ground.phase }, { on := 72, ground := Ground.phase }, { on := 73, ground := Ground.phase }, { on := 74, ground := Ground.phase }, { on := 75, ground := Ground.phase }, { on := 76, ground := Ground.phase }, { on := 77, ground := Ground.phase }, { on := 78, ground := Ground.phase }, { on := 79, ground := Ground.phase }, { on := 80, ground := Ground.phase }, { on := 81, ground := Ground.phase }, { on := 82, ground := Ground.phase }, { on := 83, ground := Ground.phase }, { on := 84, ground := Ground.phase }, { on := 85, ground := Ground.phase }]).toArray, guard := none }) (v := ?v87) rfl (by as_aux_lemma => kernel_rfl) (by as_aux_lemma => kernel_rfl) (by as_aux_lemma => kernel_rfl) (fun _ _ _ h => h) (Or.inl ⟨?hw87, ?hy87⟩) HS83.out ?_
                          case hw87 => kernel_rfl
                          case hy87 => (intro W hSw; clear hSw; go_simp; first | done | with_reducible rfl)
                          try simp only [Act.put, List.setIfInBounds_toArray, List.set_cons_zero]
                          refine wpAnyH_done (by as_aux_lemma => kernel_rfl) ?_ _
                          go_wp2
                          go_ret
                          exact ⟨rfl, HS83.out.be⟩
                        exact AllReadyH.nil
                      exact AllReadyH.nil
                    exact AllReadyH.nil
                  exact AllReadyH.nil
                refine AllReadyH.cons (o := { dst := some 163, op := Op.buildSlice 40 1 #[(0, Operand.const (Value.int IntKind.i64 1))], type := 40, pos := "law.go:43", after := #[{ on := 68, ground := Ground.guard }], guard := some (68, true) }) rfl (fun K hK => ?_) ?_
                · go_simp
                  have HO88 := Lib.hid (IntsL.one wq54 1)
                  have kk := HS66.out.below (below1 wq54 (.cells #[.int .i64 1] 3))
                  have HS88 := Lib.hid kk
                  clear kk
                  refine hK.out _ _ HS88.out (fun hHeld => ?_)
                  clear hHeld hK K
                  try simp only [Act.put, List.setIfInBounds_toArray, List.set_cons_zero, List.set_cons_succ]
                  refine wpAnyH_ready (rs := [70]) (by as_aux_lemma => kernel_rfl) (by simp) ?_
                  refine AllReadyH.cons (o := { dst := some 162, op := Op.call { callee := Callee.value (Operand.func 17), args := #[Operand.tmp 161], argTypes := #[24] }, type := 40, pos := "law.go:43", after := #[{ on := 69, ground := Ground.data }, { on := 68, ground := Ground.chain }, { on := 68, ground := Ground.guard }], guard := some (68, true) }) rfl (fun K hK => ?_) ?_
                  · go_simp
                    go_at_call 17
                    refine (lk_bad HS88.out).mono ?_
                    rintro e wq89 ⟨vb, rfl, hI, hb⟩
                    have HU89 := Lib.hid hI
                    have HO89 := Lib.hid (HO88.out.below hb)
                    have kk := HS88.out.below hb
                    clear hI hb
                    have HS89 := Lib.hid kk
                    clear kk
                    go_wp2_with fail
                    refine hK.out _ _ HS89.out (fun hHeld => ?_)
                    clear hHeld hK K
                    try simp only [Act.put, List.setIfInBounds_toArray, List.set_cons_zero, List.set_cons_succ]
                    refine wpAnyH_ready (rs := [72]) (by as_aux_lemma => kernel_rfl) (by simp) ?_
                    refine AllReadyH.cons (o := { dst := some 164, op := Op.call { callee := Callee.value (Operand.func 14), args := #[Operand.tmp 162, Operand.tmp 163], argTypes := #[40, 40] }, type := 4, pos := "law.go:43", after := #[{ on := 70, ground := Ground.data }, { on := 71, ground := Ground.data }, { on := 70, ground := Ground.chain }, { on := 68, ground := Ground.guard }], guard := some (68, true) }) rfl (fun K hK => ?_) ?_
                    · go_simp
                      go_at_call 14
                      refine (same_any HU89.out.toR HO89.out.toR).mono ?_
                      rintro e wq90 ⟨rfl, hb⟩
                      have kk := HS89.out.below hb
                      clear hb
                      have HS90 := Lib.hid kk
                      clear kk
                      go_wp2_with fail
                      refine hK.out _ _ HS90.out (fun hHeld => ?_)
                      clear hHeld hK K
                      try simp only [Act.put, List.setIfInBounds_toArray, List.set_cons_zero, List.set_cons_succ]
                      refine wpAnyH_take (i := 73) (oi := { dst := some 165, op := Op.pick (Operand.tmp 160) (Operand.tmp 164) (Operand.const (Value.bool false)), type := 4, pos := "law.go:43", after := #[{ on := 68, ground := Ground.data }, { on := 72, ground := Ground.data }], guard := none }) (v := ?v91) rfl (by as_aux_lemma => kernel_rfl) (by as_aux_lemma => kernel_rfl) (by as_aux_lemma => kernel_rfl) (fun _ _ _ h => h) (Or.inl ⟨?hw91, ?hy91⟩) HS90.out ?_
                      case hw91 => kernel_rfl
                      case hy91 => (intro W hSw; clear hSw; go_simp; first | done | with_reducible rfl)
                      try simp only [Act.put, List.setIfInBounds_toArray, List.set_cons_zero, List.set_cons_succ]
                      refine wpAnyH_take (i := 74) (oi := { dst := some 166, op := Op.move (Operand.tmp 165), type := 4, pos := "law.go:43", after := #[{ on := 73, ground := Ground.data }, { on := 72, ground := Ground.chain }], guard := none }) (v := ?v92) rfl (by as_aux_lemma => kernel_rfl) (by as_aux_lemma => kernel_rfl) (by as_aux_lemma => kernel_rfl) (fun _ _ _ h => h) (Or.inl ⟨?hw92, ?hy92⟩) HS90.out ?_
                      case hw92 => kernel_rfl
                      case hy92 => (intro W hSw; clear hSw; go_simp; first | done | with_reducible rfl)
                      try simp only [Act.put, List.setIfInBounds_toArray, List.set_cons_zero, List.set_cons_succ]
                      refine wpAnyH_take (i := 75) (oi := { dst := some 167, op := Op.move (Operand.tmp 1), type := 24, pos := "law.go:43", after := #[{ on := 74, ground := Ground.guard }], guard := some (74, true) }) (v := ?v93) rfl (by as_aux_lemma => kernel_rfl) (by as_aux_lemma => kernel_rfl) (by as_aux_lemma => kernel_rfl) (fun _ _ _ h => h) (Or.inl ⟨?hw93, ?hy93⟩) HS90.out ?_
                      case hw93 => kernel_rfl
                      case hy93 => (intro W hSw; clear hSw; go_simp; first | done | with_reducible rfl)
                      try simp only [Act.put, List.setIfInBounds_toArray, List.set_cons_zero, List.set_cons_succ]
                      refine wpAnyH_ready (rs := [76]) (by as_aux_lemma => kernel_rfl) (by simp) ?_
                      refine AllReadyH.cons (o := { dst := some 168, op := Op.call { callee := Callee.value (Operand.func 15), args := #[Operand.tmp 167], argTypes := #[24] }, type := 40, pos := "law.go:43", after := #[{ on := 75, ground := Ground.data }, { on := 74, ground := Ground.chain }, { on := 74, ground := Ground.guard }], guard := some (74, true) }) rfl (fun K hK => ?_) ?_
                      · go_simp
                        go_at_call 15
                        refine (devWaiting_any HS90.out.d).mono ?_
                        rintro e wq94 ⟨vb, rfl, hI, hb⟩
                        obtain rfl : vb = .slice none 0 0 := hI.2.2 rfl
                        have kk := HS90.out.below hb
                        clear hI hb
                        have HS94 := Lib.hid kk
                        clear kk
                        go_wp2_with fail
                        refine hK.out _ _ HS94.out (fun hHeld => ?_)
                        clear hHeld hK K
                        try simp only [Act.put, List.setIfInBounds_toArray, List.set_cons_zero, List.set_cons_succ]
                        refine wpAnyH_take (i := 77) (oi := { dst := some 169, op := Op.call { callee := Callee.builtin Builtin.len, args := #[Operand.tmp 168], argTypes := #[40] }, type := 3, pos := "law.go:43", after := #[{ on := 76, ground := Ground.data }, { on := 74, ground := Ground.guard }], guard := some (74, true) }) (v := ?v95) rfl (by as_aux_lemma => kernel_rfl) (by as_aux_lemma => kernel_rfl) (by as_aux_lemma => kernel_rfl) (fun _ _ _ h => h) (Or.inl ⟨?hw95, ?hy95⟩) HS94.out ?_
                        case hw95 => kernel_rfl
                        case hy95 => (intro W hSw; clear hSw; go_simp; first | done | with_reducible rfl)
                        try simp only [Act.put, List.setIfInBounds_toArray, List.set_cons_zero, List.set_cons_succ]
                        refine wpAnyH_take (i := 78) (oi := { dst := some 170, op := Op.binOp BinOp.eql 3 (Operand.tmp 169) (Operand.const (Value.int IntKind.i64 0)) 3, type := 4, pos := "law.go:43", after := #[{ on := 77, ground := Ground.data }, { on := 74, ground := Ground.guard }], guard := some (74, true) }) (v := ?v96) rfl (by as_aux_lemma => kernel_rfl) (by as_aux_lemma => kernel_rfl) (by as_aux_lemma => kernel_rfl) (fun _ _ _ h => h) (Or.inl ⟨?hw96, ?hy96⟩) HS94.out ?_
                        case hw96 => kernel_rfl
                        case hy96 => (intro W hSw; clear hSw; go_simp; first | done | with_reducible rfl)
                        try simp only [Act.put, List.setIfInBounds_toArray, List.set_cons_zero, List.set_cons_succ]
                        refine wpAnyH_take (i := 79) (oi := { dst := some 171, op := Op.pick (Operand.tmp 166) (Operand.tmp 170) (Operand.const (Value.bool false)), type := 4, pos := "law.go:43", after := #[{ on := 74, ground := Ground.data }, { on := 78, ground := Ground.data }], guard := none }) (v := ?v97) rfl (by as_aux_lemma => kernel_rfl) (by as_aux_lemma => kernel_rfl) (by as_aux_lemma => kernel_rfl) (fun _ _ _ h => h) (Or.inl ⟨?hw97, ?hy97⟩) HS94.out ?_
                        case hw97 => kernel_rfl
                        case hy97 => (intro W hSw; clear hSw; go_simp; first | done | with_reducible rfl)
                        try simp only [Act.put, List.setIfInBounds_toArray, List.set_cons_zero, List.set_cons_succ]
                        refine wpAnyH_take (i := 80) (oi := { dst := some 172, op := Op.move (Operand.tmp 171), type := 4, pos := "law.go:43", after := #[{ on := 79, ground := Ground.data }, { on := 76, ground := Ground.chain }], guard := none }) (v := ?v98) rfl (by as_aux_lemma => kernel_rfl) (by as_aux_lemma => kernel_rfl) (by as_aux_lemma => kernel_rfl) (fun _ _ _ h => h) (Or.inl ⟨?hw98, ?hy98⟩) HS94.out ?_
                        case hw98 => kernel_rfl
                        case hy98 => (intro W hSw; clear hSw; go_simp; first | done | with_reducible rfl)
                        try simp only [Act.put, List.setIfInBounds_toArray, List.set_cons_zero, List.set_cons_succ]
                        refine wpAnyH_take (i := 81) (oi := { dst := some 173, op := Op.move (Operand.tmp 1), type := 24, pos := "law.go:43", after := #[{ on := 80, ground := Ground.guard }], guard := some (80, true) }) (v := ?v99) rfl (by as_aux_lemma => kernel_rfl) (by as_aux_lemma => kernel_rfl) (by as_aux_lemma => kernel_rfl) (fun _ _ _ h => h) (Or.inl ⟨?hw99, ?hy99⟩) HS94.out ?_
                        case hw99 => kernel_rfl
                        case hy99 => (intro W hSw; clear hSw; go_simp; first | done | with_reducible rfl)
                        try simp only [Act.put, List.setIfInBounds_toArray, List.set_cons_zero, List.set_cons_succ]
                        refine wpAnyH_ready (rs := [82]) (by as_aux_lemma => kernel_rfl) (by simp) ?_
                        refine AllReadyH.cons (o := { dst := some 174, op := Op.call { callee := Callee.value (Operand.func 20), args := #[Operand.tmp 173], argTypes := #[24] }, type := 9, pos := "law.go:43", after := #[{ on := 81, ground := Ground.data }, { on := 80, ground := Ground.chain }, { on := 80, ground := Ground.guard }], guard := some (80, true) }) rfl (fun K hK => ?_) ?_
                        · go_simp
                          go_at_call 20
                          refine (lk_bytes HS94.out rfl).mono ?_
                          rintro e wq100 ⟨B0, rfl, hB0, kk⟩
                          have hB1 : ((B0.size : Nat) : Int) = 1536 := by rw [hB0]; rfl
                          have HS100 := Lib.hid kk
                          clear kk
                          go_wp2_with fail
                          refine hK.out _ _ HS100.out (fun hHeld => ?_)
                          clear hHeld hK K
                          try simp only [Act.put, List.setIfInBounds_toArray, List.set_cons_zero, List.set_cons_succ]
                          refine wpAnyH_take (i := 83) (oi := { dst := some 175, op := Op.call { callee := Callee.builtin Builtin.len, args := #[Operand.tmp 174], argTypes := #[9] }, type := 3, pos := "law.go:43", after := #[{ on := 82, ground := Ground.data }, { on := 80, ground := Ground.guard }], guard := some (80, true) }) (v := ?v101) rfl (by as_aux_lemma => kernel_rfl) (by as_aux_lemma => kernel_rfl) (by as_aux_lemma => kernel_rfl) (fun _ _ _ h => h) (Or.inl ⟨?hw101, ?hy101⟩) HS100.out ?_
                          case hw101 => kernel_rfl
                          case hy101 => (intro W hSw; clear hSw; go_simp; first | done | with_reducible rfl)
                          try simp only [Act.put, List.setIfInBounds_toArray, List.set_cons_zero, List.set_cons_succ]
                          refine wpAnyH_take (i := 84) (oi := { dst := some 176, op := Op.binOp BinOp.eql 3 (Operand.tmp 175) (Operand.const (Value.int IntKind.i64 1536)) 3, type := 4, pos := "law.go:43", after := #[{ on := 83, ground := Ground.data }, { on := 80, ground := Ground.guard }], guard := some (80, true) }) (v := ?v102) rfl (by as_aux_lemma => kernel_rfl) (by as_aux_lemma => kernel_rfl) (by as_aux_lemma => kernel_rfl) (fun _ _ _ h => h) (Or.inl ⟨?hw102, ?hy102⟩) HS100.out ?_
                          case hw102 => kernel_rfl
                          case hy102 => (intro W hSw; clear hSw; go_simp; first | done | with_reducible rfl)
                          try simp only [Act.put, List.setIfInBounds_toArray, List.set_cons_zero, List.set_cons_succ]
                          refine wpAnyH_take (i := 85) (oi := { dst := some 177, op := Op.pick (Operand.tmp 172) (Operand.tmp 176) (Operand.const (Value.bool false)), type := 4, pos := "law.go:43", after := #[{ on := 80, ground := Ground.data }, { on := 84, ground := Ground.data }], guard := none }) (v := ?v103) rfl (by as_aux_lemma => kernel_rfl) (by as_aux_lemma => kernel_rfl) (by as_aux_lemma => kernel_rfl) (fun _ _ _ h => h) (Or.inl ⟨?hw103, ?hy103⟩) HS100.out ?_
                          case hw103 => kernel_rfl
                          case hy103 => (intro W hSw; clear hSw; go_simp; first | done | with_reducible rfl)
                          try simp only [Act.put, List.setIfInBounds_toArray, List.set_cons_zero, List.set_cons_succ]
                          refine wpAnyH_take (i := 86) (oi := { dst := some 0, op := Op.assign (Operand.tmp 177), type := 4, pos := "law.go:43", after := ([{ on := 85, ground := Ground.data }, { on := 82, ground := Ground.chain }, { on := 0, ground := Ground.phase }, { on := 1, ground := Ground.phase }, { on := 2, ground := Ground.phase }, { on := 3, ground := Ground.phase }, { on := 4, ground := Ground.phase }, { on := 5, ground := Ground.phase }, { on := 6, ground := Ground.phase }, { on := 7, ground := Ground.phase }, { on := 8, ground := Ground.phase }, { on := 9, ground := Ground.phase }, { on := 10, ground := Ground.phase }, { on := 11, ground := Ground.phase }, { on := 12, ground := Ground.phase }, { on := 13, ground := Ground.phase }, { on := 14, ground := Ground.phase }, { on := 15, ground := Ground.phase }, { on := 16, ground := Ground.phase }, { on := 17, ground := Ground.phase }, { on := 18, ground := Ground.phase }, { on := 19, ground := Ground.phase }, { on := 20, ground := Ground.phase }, { on := 21, ground := Ground.phase }, { on := 22, ground := Ground.phase }, { on := 23, ground := Ground.phase }, { on := 24, ground := Ground.phase }, { on := 25, ground := Ground.phase }, { on := 26, ground := Ground.phase }, { on := 27, ground := Ground.phase }, { on := 28, ground := Ground.phase }, { on := 29, ground := Ground.phase }, { on := 30, ground := Ground.phase }, { on := 31, ground := Ground.phase }, { on := 32, ground := Ground.phase }, { on := 33, ground := Ground.phase }, { on := 34, ground := Ground.phase }, { on := 35, ground := Ground.phase }, { on := 36, ground := Ground.phase }, { on := 37, ground := Ground.phase }, { on := 38, ground := Ground.phase }, { on := 39, ground := Ground.phase }, { on := 40, ground := Ground.phase }, { on := 41, ground := Ground.phase }].append [{ on := 42, ground := Ground.phase }, { on := 43, ground := Ground.phase }, { on := 44, ground := Ground.phase }, { on := 45, ground := Ground.phase }, { on := 46, ground := Ground.phase }, { on := 47, ground := Ground.phase }, { on := 48, ground := Ground.phase }, { on := 49, ground := Ground.phase }, { on := 50, ground := Ground.phase }, { on := 51, ground := Ground.phase }, { on := 52, ground := Ground.phase }, { on := 53, ground := Ground.phase }, { on := 54, ground := Ground.phase }, { on := 55, ground := Ground.phase }, { on := 56, ground := Ground.phase }, { on := 57, ground := Ground.phase }, { on := 58, ground := Ground.phase }, { on := 59, ground := Ground.phase }, { on := 60, ground := Ground.phase }, { on := 61, ground := Ground.phase }, { on := 62, ground := Ground.phase }, { on := 63, ground := Ground.phase }, { on := 64, ground := Ground.phase }, { on := 65, ground := Ground.phase }, { on := 66, ground := Ground.phase }, { on := 67, ground := Ground.phase }, { on := 68, ground := Ground.phase }, { on := 69, ground := Ground.phase }, { on := 70, ground := Ground.phase }, { on := 71, ground := Ground.phase }, { on := 72, ground := Ground.phase }, { on := 73, ground := Ground.phase }, { on := 74, ground := Ground.phase }, { on := 75, ground := Ground.phase }, { on := 76, ground := Ground.phase }, { on := 77, ground := Ground.phase }, { on := 78, ground := Ground.phase }, { on := 79, ground := Ground.phase }, { on := 80, ground := Ground.phase }, { on := 81, ground := Ground.phase }, { on := 82, ground := Ground.phase }, { on := 83, ground := Ground.phase }, { on := 84, ground := Ground.phase }, { on := 85, ground := Ground.phase }]).toArray, guard := none }) (v := ?v104) rfl (by as_aux_lemma => kernel_rfl) (by as_aux_lemma => kernel_rfl) (by as_aux_lemma => kernel_rfl) (fun _ _ _ h => h) (Or.inl ⟨?hw104, ?hy104⟩) HS100.out ?_
                          case hw104 => kernel_rfl
                          case hy104 => (intro W hSw; clear hSw; go_simp; first | done | with_reducible rfl)
                          try simp only [Act.put, List.setIfInBounds_toArray, List.set_cons_zero]
                          refine wpAnyH_done (by as_aux_lemma => kernel_rfl) ?_ _
                          go_wp2
                          go_ret
                          exact ⟨rfl, HS100.out.be⟩
                        exact AllReadyH.nil
                      exact AllReadyH.nil
                    exact AllReadyH.nil
                  exact AllReadyH.nil
                exact AllReadyH.nil
              exact AllReadyH.nil
            exact AllReadyH.nil
          exact AllReadyH.nil
        exact AllReadyH.nil
      exact AllReadyH.nil
    exact AllReadyH.nil
  exact AllReadyH.nil
-- END
end Go.Proofs.Ytmbjcphhfnemgaa
