/- Entries: the contracts of Check, Disk, number, fromNumber, Bytes. -/
import Derived.Test.YtjocdbacdbhemaaEntA
namespace Go.Proofs.Ytjocdbacdbhemaa
open Go.RowKit

theorem or_high {a b : Int} (ha : 0 ≤ a ∧ a < 255) (hb : 0 ≤ b ∧ b < 4294967296) : bits .or .u64 (a * 4294967296) b = ((b.toNat + 4294967296 * a.toNat : Nat) : Int) := by
  obtain ⟨m, rfl⟩ : ∃ m : Nat, a = (m : Int) := ⟨a.toNat, by omega⟩
  obtain ⟨n, rfl⟩ : ∃ n : Nat, b = (n : Int) := ⟨b.toNat, by omega⟩
  rw [show (m : Int) * 4294967296 = ((4294967296 * m : Nat) : Int) by omega, Int.toNat_natCast, Int.toNat_natCast]
  show IntKind.u64.wrap ((BitVec.ofInt 64 ((4294967296 * m : Nat) : Int) ||| BitVec.ofInt 64 (n : Int)).toNat : Int) = _
  rw [BitVec.toNat_or, BitVec.ofInt_natCast, BitVec.ofInt_natCast, BitVec.toNat_ofNat, BitVec.toNat_ofNat, Nat.mod_eq_of_lt (by omega), Nat.mod_eq_of_lt (by omega)]
  have h := Nat.two_pow_add_eq_or_of_lt (i := 32) (b := n) (by show n < 4294967296; omega) m
  rw [show (2 : Nat) ^ 32 = 4294967296 from rfl] at h
  rw [← h, IntKind.wrap_u64]; omega
theorem and_low (n : Nat) (hn : n < 18446744073709551616) : bits .and .u64 (n : Int) 4294967295 = ((n % 4294967296 : Nat) : Int) := by
  show IntKind.u64.wrap ((BitVec.ofInt 64 (n : Int) &&& BitVec.ofInt 64 ((4294967295 : Nat) : Int)).toNat : Int) = _
  rw [BitVec.toNat_and, BitVec.ofInt_natCast, BitVec.ofInt_natCast, BitVec.toNat_ofNat, BitVec.toNat_ofNat, Nat.mod_eq_of_lt (by omega), Nat.mod_eq_of_lt (by omega)]
  rw [show (4294967295 : Nat) = 2 ^ 32 - 1 from rfl, Nat.and_two_pow_sub_one_eq_mod, IntKind.wrap_u64]; omega
theorem entDisk_any (st mb : Int) (w : World) : Calls Try.prog 15 #[.agg #[.int .i64 st, .int .i64 mb]] w fun e w' => e = .returned (EN.v ⟨1, st, mb, 0⟩) ∧ Below w.heap.size w w' := by
  go_enter Try.func15, Try.ntmps15
  go_wp2
  refine bodyPost_ret (v := EN.v ⟨1, st, mb, 0⟩) (by unfold EN.v; simp [results, Try.results15, go_sem]) rfl ?_
  exact ⟨rfl, (below1 _ _).alloc (by simp) _⟩
theorem entCheck_any (p : EN) (w : World) : Calls Try.prog 13 #[p.v] w fun e w' => e = .returned (.int .i64 (entE p)) ∧ Below w.heap.size w w' := by
  have hR := entRight_any p
  have he : entE p = if decide (EOk p) = true then 0 else 2 := by unfold entE; simp
  rw [he]
  generalize decide (EOk p) = bb at hR ⊢
  clear he
  obtain ⟨k, st, mb, fr⟩ := p
  unfold EN.v at hR ⊢
  dsimp only at hR ⊢
  have HB0 := Lib.hid (below1 w (.cells #[.int .u8 k, .int .i64 st, .int .i64 mb, .int .i64 fr] 26))
  cases bb
  · go_enter Try.func13, Try.ntmps13
    go_wp2_with (go_at_call 39; refine (hR _).mono ?_; rintro e w2 ⟨rfl, hb⟩; have HB := Lib.hid (HB0.out.trans (hb.mono HB0.out.size)); clear hb)
    go_ret
    exact ⟨rfl, HB.out⟩
  · go_enter Try.func13, Try.ntmps13
    go_wp2_with (go_at_call 39; refine (hR _).mono ?_; rintro e w2 ⟨rfl, hb⟩; have HB := Lib.hid (HB0.out.trans (hb.mono HB0.out.size)); clear hb)
    go_ret
    exact ⟨rfl, HB.out⟩
theorem entNumber_any (p : EN) (hp : EB p) (w : World) : Calls Try.prog 41 #[p.v] w fun e w' => e = .returned (.int .u64 (entN p : Int)) ∧ Below w.heap.size w w' := by
  rcases eb_cases hp with rfl | ⟨h1, ⟨h2, h3⟩, h4⟩
  · unfold EN.zero EN.v
    dsimp only
    go_enter Try.func41, Try.ntmps41
    go_wp2
    go_ret
    exact ⟨rfl, below1 _ _⟩
  · obtain ⟨k, st, mb, fr⟩ := p
    dsimp only at h1 h2 h3 h4
    subst h1 h4
    unfold EN.v
    dsimp only
    go_enter Try.func41, Try.ntmps41
    have HO := Lib.hid (or_high h3 (b := st + 1) (by omega))
    have hw : wrap64 (st + 1) = st + 1 := by unfold wrap64; omega
    have hE : Hid (((st + 1).toNat + 4294967296 * mb.toNat : Nat) = entN ⟨1, st, mb, 0⟩) := Lib.hid (by unfold entN; rw [if_neg (show ¬ (1 : Int) = 0 by decide)])
    go_wp2
    go_ret
    refine ⟨?_, below1 _ _⟩
    rw [← hE.out, ← HO.out]; rfl
theorem entFrom_any (n : Nat) (hn : n < 18446744073709551616) (w : World) : Calls Try.prog 44 #[.int .u64 (n : Int)] w fun e w' => e = .returned (ofN n).v ∧ Below w.heap.size w w' := by
  have hD := entDisk_any
  have HX0 := Lib.hid (EBox.new w 0 0 0 0 26)
  have HB0 := Lib.hid (below1 w (.cells #[.int .u8 0, .int .i64 0, .int .i64 0, .int .i64 0] 26))
  by_cases h0 : n = 0
  · subst h0
    go_enter Try.func44, Try.ntmps44
    go_wp2
    refine bodyPost_ret (v := EN.v EN.zero) (by unfold EN.v EN.zero; simp [results, Try.results44, go_sem]) rfl ?_
    exact ⟨rfl, below1 _ _⟩
  · have d0 : ((n : Int) == 0) = false := by rw [beq_eq_false_iff_ne]; omega
    unfold EN.v at hD
    have ha := and_low n hn
    obtain ⟨a, hae⟩ : ∃ a : Nat, a = n % 4294967296 := ⟨_, rfl⟩
    obtain ⟨b, hbe⟩ : ∃ b : Nat, b = n / 4294967296 := ⟨_, rfl⟩
    have hO : Hid (ofN n = ⟨1, (a : Int) - 1, (b : Int), 0⟩) := Lib.hid (by unfold ofN; rw [if_neg h0, hae, hbe])
    have hs : (n : Int) / 4294967296 = (b : Int) := by omega
    have hw1 : wrap64 (a : Int) = (a : Int) := by unfold wrap64; omega
    have hw2 : wrap64 (b : Int) = (b : Int) := by unfold wrap64; omega
    have hw3 : wrap64 ((a : Int) - 1) = (a : Int) - 1 := by unfold wrap64; omega
    rw [← hae] at ha
    clear hae hbe h0 hn
    go_enter Try.func44, Try.ntmps44
    go_upto_region 1 with fail
    generalize w.alloc (.cells #[.int .u8 0, .int .i64 0, .int .i64 0, .int .i64 0] 26) = w0 at HX0 HB0 ⊢
    go_wp2_with (go_at_call 15; refine (hD _ _ _).mono ?_; rintro e w2 ⟨rfl, hb⟩; have HX2 := Lib.hid (HX0.out.below hb); have HB2 := Lib.hid (HB0.out.trans (hb.mono HB0.out.size)); clear hb; obtain ⟨_, b0, b1, b2, b3, f0, f1, f2, f3⟩ := HX2.out; dsimp only at b0 b1 b2 b3)
    obtain ⟨_, y0, y1, y2, y3, _⟩ := Bx.put HX2.out (.int .u8 1) (.int .i64 ((a : Int) - 1)) (.int .i64 (b : Int)) (.int .i64 0)
    unfold put4 at y0 y1 y2 y3
    refine bodyPost_ret (v := EN.v ⟨1, (a : Int) - 1, (b : Int), 0⟩) (by unfold EN.v; simp [results, Try.results44, go_sem, y0, y1, y2, y3]) rfl ?_
    exact ⟨by rw [hO.out], ((((HB2.out.setCell (p := ⟨_, 0, none⟩) (Nat.le_refl _) _).setCell (p := ⟨_, 1, none⟩) (Nat.le_refl _) _).setCell (p := ⟨_, 2, none⟩) (Nat.le_refl _) _).setCell (p := ⟨_, 3, none⟩) (Nat.le_refl _) _)⟩
theorem putE8 {n : Nat} (h : n < 18446744073709551616) : putE 8 n = 0 ∧ putS 8 n = leB 8 n := by
  have : putE 8 n = 0 := putE_ok.2 ⟨by decide, by show n < 256 ^ 8; omega⟩
  exact ⟨this, putS_ok this⟩
theorem entBytes_any (p : EN) (w : World) : Calls Try.prog 8 #[p.v] w fun e w' => e = .returned (.tuple #[.string ⟨(entBL p).toArray⟩, .int .i64 (entBE p)]) ∧ Below w.heap.size w w' := by
  have hR := entRight_any p
  have HX0 := Lib.hid (EBox.new w p.kind p.st p.mb p.fr 26)
  have HB0 := Lib.hid (below1 w (.cells #[.int .u8 p.kind, .int .i64 p.st, .int .i64 p.mb, .int .i64 p.fr] 26))
  by_cases hE : EOk p
  · rw [decide_eq_true hE] at hR
    by_cases h2 : p.kind = 2
    · rw [show entBE p = 2 from if_neg (fun h => h.2 h2), show entBL p = [] from if_neg (fun h => h.2 h2)]
      have d2 : (p.kind == 2) = true := by simpa using h2
      obtain ⟨k, st, mb, fr⟩ := p
      unfold EN.v at hR ⊢
      dsimp only at hR h2 d2 HX0 HB0 ⊢
      subst h2
      clear hE d2
      go_enter Try.func8, Try.ntmps8
      go_upto_region 1 with fail
      generalize w.alloc (.cells #[.int .u8 2, .int .i64 st, .int .i64 mb, .int .i64 fr] 26) = w0 at HX0 HB0 ⊢
      obtain ⟨_, b0, b1, b2, b3, _⟩ := HX0.out
      dsimp only at b0 b1 b2 b3
      go_wp2_with (go_at_call 39; refine (hR _).mono ?_; rintro e w2 ⟨rfl, hb⟩; have HX2 := Lib.hid (HX0.out.below hb); have HB2 := Lib.hid (HB0.out.trans (hb.mono HB0.out.size)); clear hb b0 b1 b2 b3; obtain ⟨_, b0, b1, b2, b3, _⟩ := HX2.out; dsimp only at b0 b1 b2 b3)
      go_ret2
      exact ⟨rfl, HB2.out⟩
    · have hb : EB p := ⟨hE, h2⟩
      rw [show entBE p = 0 from if_pos hb, show entBL p = leB 8 (entN p) from if_pos hb]
      have d2 : (p.kind == 2) = false := by simpa using h2
      have hN := entNumber_any p hb
      obtain ⟨n, hn⟩ : ∃ n, n = entN p := ⟨_, rfl⟩
      have hlt := entN_lt hb
      rw [← hn] at hN hlt ⊢
      have hP := fldPut_any 8 n
      rw [(putE8 hlt).1, (putE8 hlt).2] at hP
      obtain ⟨k, st, mb, fr⟩ := p
      unfold EN.v at hR hN ⊢
      dsimp only at hR hN h2 d2 HX0 HB0 ⊢
      clear hE h2 hb hn hlt
      go_enter Try.func8, Try.ntmps8
      go_upto_region 1 with fail
      generalize w.alloc (.cells #[.int .u8 k, .int .i64 st, .int .i64 mb, .int .i64 fr] 26) = w0 at HX0 HB0 ⊢
      obtain ⟨_, b0, b1, b2, b3, _⟩ := HX0.out
      dsimp only at b0 b1 b2 b3
      go_wp2_with (first
        | (go_at_call 39; refine (hR _).mono ?_; rintro e w2 ⟨rfl, hb⟩; have HX2 := Lib.hid (HX0.out.below hb); have HB2 := Lib.hid (HB0.out.trans (hb.mono HB0.out.size)); clear hb b0 b1 b2 b3; obtain ⟨_, b0, b1, b2, b3, _⟩ := HX2.out; dsimp only at b0 b1 b2 b3)
        | (go_at_call 41; refine (hN _).mono ?_; rintro e w3 ⟨rfl, hb⟩; have HB3 := Lib.hid (HB2.out.trans (hb.mono HB2.out.size)); clear hb b0 b1 b2 b3)
        | (go_at_call 40; refine (hP _).mono ?_; rintro e w4 ⟨rfl, hb⟩; have HB4 := Lib.hid (HB3.out.trans (hb.mono HB3.out.size)); clear hb))
      go_ret2
      exact ⟨rfl, HB4.out⟩
  · rw [decide_eq_false hE] at hR
    rw [show entBE p = 2 from if_neg (fun h => hE h.1), show entBL p = [] from if_neg (fun h => hE h.1)]
    obtain ⟨k, st, mb, fr⟩ := p
    unfold EN.v at hR ⊢
    dsimp only at hR HX0 HB0 ⊢
    clear hE
    go_enter Try.func8, Try.ntmps8
    go_upto_region 1 with fail
    generalize w.alloc (.cells #[.int .u8 k, .int .i64 st, .int .i64 mb, .int .i64 fr] 26) = w0 at HX0 HB0 ⊢
    obtain ⟨_, b0, b1, b2, b3, _⟩ := HX0.out
    dsimp only at b0 b1 b2 b3
    go_wp2_with (go_at_call 39; refine (hR _).mono ?_; rintro e w2 ⟨rfl, hb⟩; have HB2 := Lib.hid (HB0.out.trans (hb.mono HB0.out.size)); clear hb)
    go_ret2
    exact ⟨rfl, HB2.out⟩
end Go.Proofs.Ytjocdbacdbhemaa
