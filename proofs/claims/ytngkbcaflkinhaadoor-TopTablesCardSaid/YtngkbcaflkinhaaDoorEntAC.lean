/- Entries: the contracts of isPlace, isRight, Check, Disk, number, fromNumber. Entries: the contracts of Check, Disk, number, fromNumber, Bytes. Entries: the contract of Parse. -/
import Derived.Test.YtngkbcaflkinhaaDoorFldEM
import Derived.Test.YtngkbcaflkinhaaDoorFldAE
import Derived.Test.YtngkbcaflkinhaaDoorBx
import Derived.Deep.Cut
namespace Go.Proofs.YtngkbcaflkinhaaDoor
open Go.RowKit

/-- Numbers such as the types have. -/
structure EN.In (p : EN) : Prop where
  kind : 0 ≤ p.kind ∧ p.kind < 256
  st : -9223372036854775808 ≤ p.st ∧ p.st < 9223372036854775808
  mb : -9223372036854775808 ≤ p.mb ∧ p.mb < 9223372036854775808
  fr : -9223372036854775808 ≤ p.fr ∧ p.fr < 9223372036854775808
theorem entPlace_any (st mb : Int) (w : World) : Calls Tryd.prog 50 #[.agg #[.int .i64 st, .int .i64 mb]] w fun e w' => e = .returned (.bool (decide (PlOk st mb))) ∧ Below w.heap.size w w' := by
  by_cases h1 : 0 ≤ st
  · have d1 : decide (0 ≤ st) = true := decide_eq_true h1
    by_cases h2 : st < 2147483648
    · have d2 : decide (st < 2147483648) = true := decide_eq_true h2
      by_cases h3 : 0 ≤ mb
      · have d3 : decide (0 ≤ mb) = true := decide_eq_true h3
        rw [show decide (PlOk st mb) = decide (mb < 255) by unfold PlOk; simp [h1, h2, h3]]
        clear h1 h2 h3
        go_enter Tryd.func50, Tryd.ntmps50
        go_wp2
        go_ret
        exact ⟨rfl, (Below.refl _ _).alloc (Nat.le_refl _) _⟩
      · have d3 : decide (0 ≤ mb) = false := decide_eq_false h3
        rw [show decide (PlOk st mb) = false by unfold PlOk; simp [h3]]
        clear h1 h2 h3
        go_enter Tryd.func50, Tryd.ntmps50
        go_wp2
        go_ret
        exact ⟨rfl, (Below.refl _ _).alloc (Nat.le_refl _) _⟩
    · have d2 : decide (st < 2147483648) = false := decide_eq_false h2
      rw [show decide (PlOk st mb) = false by unfold PlOk; simp [h2]]
      clear h1 h2
      go_enter Tryd.func50, Tryd.ntmps50
      go_wp2
      go_ret
      exact ⟨rfl, (Below.refl _ _).alloc (Nat.le_refl _) _⟩
  · have d1 : decide (0 ≤ st) = false := decide_eq_false h1
    rw [show decide (PlOk st mb) = false by unfold PlOk; simp [h1]]
    clear h1
    go_enter Tryd.func50, Tryd.ntmps50
    go_wp2
    go_ret
    exact ⟨rfl, (Below.refl _ _).alloc (Nat.le_refl _) _⟩
theorem eok_0 (st mb fr : Int) (h : ¬ (st = 0 ∧ mb = 0 ∧ fr = 0)) : decide (EOk ⟨0, st, mb, fr⟩) = false := by
  unfold EOk PlOk; simp; omega
theorem eok_1 (st mb fr : Int) : decide (EOk ⟨1, st, mb, fr⟩) = (decide (PlOk st mb) && decide (fr = 0)) := by
  unfold EOk; simp
theorem eok_2 (st mb fr : Int) (h : ¬ ((1 ≤ fr ∧ fr ≤ 1073741824) ∧ st = 0 ∧ mb = 0)) : decide (EOk ⟨2, st, mb, fr⟩) = false := by
  unfold EOk PlOk; simp; omega
theorem eok_3 {k : Int} (st mb fr : Int) (h0 : k ≠ 0) (h1 : k ≠ 1) (h2 : k ≠ 2) : decide (EOk ⟨k, st, mb, fr⟩) = false := by
  unfold EOk PlOk; simp [h0, h1, h2]
/-- A boxed entry. -/
def EBox (W : World) (b : Nat) (p : EN) : Prop := Bx W b (.int .u8 p.kind) (.int .i64 p.st) (.int .i64 p.mb) (.int .i64 p.fr)
theorem EBox.below {W W' : World} {b : Nat} {p : EN} (k : EBox W b p) (hb : Below W.heap.size W W') : EBox W' b p := Bx.below k hb
theorem EBox.new (w : World) (k st mb fr : Int) (t : Nat) : EBox (w.alloc (.cells #[.int .u8 k, .int .i64 st, .int .i64 mb, .int .i64 fr] t)) w.heap.size ⟨k, st, mb, fr⟩ := Bx.new _ _ _ _ _ _
set_option maxHeartbeats 1000000 in
theorem entRight_any (p : EN) (w : World) : Calls Tryd.prog 35 #[p.v] w fun e w' => e = .returned (.bool (decide (EOk p))) ∧ Below w.heap.size w w' := by
  obtain ⟨k, st, mb, fr⟩ := p
  unfold EN.v
  dsimp only
  by_cases h0 : k = 0
  · subst h0
    by_cases hs : st = 0
    · subst hs
      by_cases hm : mb = 0
      · subst hm
        by_cases hf : fr = 0
        · subst hf
          rw [show decide (EOk ⟨0, 0, 0, 0⟩) = true by decide]
          go_enter Tryd.func35, Tryd.ntmps35
          go_wp2
          go_ret
          exact ⟨rfl, below1 _ _⟩
        · rw [eok_0 _ _ _ (fun h => hf h.2.2)]
          have d0 : (fr == 0) = false := by simpa using hf
          clear hf
          go_enter Tryd.func35, Tryd.ntmps35
          go_wp2
          go_ret
          exact ⟨rfl, below1 _ _⟩
      · rw [eok_0 _ _ _ (fun h => hm h.2.1)]
        have d0 : (mb == 0) = false := by simpa using hm
        clear hm
        go_enter Tryd.func35, Tryd.ntmps35
        go_wp2
        go_ret
        exact ⟨rfl, below1 _ _⟩
    · rw [eok_0 _ _ _ (fun h => hs h.1)]
      have d0 : (st == 0) = false := by simpa using hs
      clear hs
      go_enter Tryd.func35, Tryd.ntmps35
      go_wp2
      go_ret
      exact ⟨rfl, below1 _ _⟩
  have d0 : (k == 0) = false := by simpa using h0
  by_cases h1 : k = 1
  · subst h1
    rw [eok_1]
    have hP := entPlace_any st mb
    clear h0 d0
    have HB0 := Lib.hid (below1 w (.cells #[.int .u8 1, .int .i64 st, .int .i64 mb, .int .i64 fr] 38))
    have HX0 := Lib.hid (EBox.new w 1 st mb fr 38)
    generalize decide (PlOk st mb) = bb at hP ⊢
    go_enter Tryd.func35, Tryd.ntmps35
    go_upto_region 5 with fail
    generalize w.alloc (.cells #[.int .u8 1, .int .i64 st, .int .i64 mb, .int .i64 fr] 38) = w1 at HB0 HX0 ⊢
    have x1 := HX0.out.c1
    have x2 := HX0.out.c2
    dsimp only at x1 x2
    cases bb
    · go_wp2_with (go_at_call 50; refine (hP _).mono ?_; rintro e w2 ⟨rfl, hb⟩; have HB := Lib.hid (HB0.out.trans (hb.mono HB0.out.size)); clear hb)
      go_ret
      exact ⟨rfl, HB.out⟩
    · go_wp2_with (go_at_call 50; refine (hP _).mono ?_; rintro e w2 ⟨rfl, hb⟩; have HB := Lib.hid (HB0.out.trans (hb.mono HB0.out.size)); have y3 := (HX0.out.below hb).c3; dsimp only at y3; clear hb)
      go_ret
      exact ⟨by rw [show decide (fr = 0) = (fr == 0) by rw [Bool.eq_iff_iff]; simp]; simp, HB.out⟩
  have d1 : (k == 1) = false := by simpa using h1
  by_cases h2 : k = 2
  · subst h2
    by_cases hs : st = 0
    · subst hs
      by_cases hm : mb = 0
      · subst hm
        by_cases hf : 1 ≤ fr
        · have e1 : decide (1 ≤ fr) = true := decide_eq_true hf
          rw [show decide (EOk ⟨2, 0, 0, fr⟩) = decide (fr ≤ 1073741824) by unfold EOk PlOk; simp [hf]]
          clear hf h0 h1 d0 d1
          go_enter Tryd.func35, Tryd.ntmps35
          go_wp2
          go_ret
          exact ⟨rfl, below1 _ _⟩
        · rw [eok_2 _ _ _ (fun h => hf h.1.1)]
          have e1 : decide (1 ≤ fr) = false := decide_eq_false hf
          clear hf h0 h1 d0 d1
          go_enter Tryd.func35, Tryd.ntmps35
          go_wp2
          go_ret
          exact ⟨rfl, below1 _ _⟩
      · rw [eok_2 _ _ _ (fun h => hm h.2.2)]
        have e0 : (mb == 0) = false := by simpa using hm
        clear hm h0 h1 d0 d1
        go_enter Tryd.func35, Tryd.ntmps35
        go_wp2
        go_ret
        exact ⟨rfl, below1 _ _⟩
    · rw [eok_2 _ _ _ (fun h => hs h.2.1)]
      have e0 : (st == 0) = false := by simpa using hs
      clear hs h0 h1 d0 d1
      go_enter Tryd.func35, Tryd.ntmps35
      go_wp2
      go_ret
      exact ⟨rfl, below1 _ _⟩
  have d2 : (k == 2) = false := by simpa using h2
  rw [eok_3 _ _ _ h0 h1 h2]
  clear h0 h1 h2
  go_enter Tryd.func35, Tryd.ntmps35
  go_wp2
  go_ret
  exact ⟨rfl, below1 _ _⟩
end Go.Proofs.YtngkbcaflkinhaaDoor
namespace Go.Proofs.YtngkbcaflkinhaaDoor
open Go.RowKit

theorem or_high {a b : Int} (ha : 0 ≤ a ∧ a < 255) (hb : 0 ≤ b ∧ b < 4294967296) : bits .or .u64 (a * 4294967296) b = ((b.toNat + 4294967296 * a.toNat : Nat) : Int) := by
  obtain ⟨m, rfl⟩ : ∃ m : Nat, a = (m : Int) := ⟨a.toNat, by omega⟩
  obtain ⟨n, rfl⟩ : ∃ n : Nat, b = (n : Int) := ⟨b.toNat, by omega⟩
  rw [show (m : Int) * 4294967296 = ((4294967296 * m : Nat) : Int) by omega, Int.toNat_natCast, Int.toNat_natCast]
  show IntKind.u64.wrap ((BitVec.ofInt 64 ((4294967296 * m : Nat) : Int) ||| BitVec.ofInt 64 (n : Int)).toNat : Int) = _
  rw [BitVec.toNat_or, BitVec.ofInt_natCast, BitVec.ofInt_natCast, BitVec.toNat_ofNat, BitVec.toNat_ofNat, Nat.mod_eq_of_lt (by omega), Nat.mod_eq_of_lt (by omega)]
  have h := Nat.two_pow_add_eq_or_of_lt (i := 32) (b := n) (by show n < 4294967296; omega) m
  rw [show (2 : Nat) ^ 32 = 4294967296 from rfl] at h
  rw [← h, IntKind.wrap_u64]; omega
theorem and_low (n : Nat) (hn : n < 18446744073709551616) : bits .and .u64 (n : Int) 4294967295 = ((n % 4294967296 : Nat) : Int) := by
  show IntKind.u64.wrap ((BitVec.ofInt 64 (n : Int) &&& BitVec.ofInt 64 ((4294967295 : Nat) : Int)).toNat : Int) = _
  rw [BitVec.toNat_and, BitVec.ofInt_natCast, BitVec.ofInt_natCast, BitVec.toNat_ofNat, BitVec.toNat_ofNat, Nat.mod_eq_of_lt (by omega), Nat.mod_eq_of_lt (by omega)]
  rw [show (4294967295 : Nat) = 2 ^ 32 - 1 from rfl, Nat.and_two_pow_sub_one_eq_mod, IntKind.wrap_u64]; omega
theorem entDisk_any (st mb : Int) (w : World) : Calls Tryd.prog 8 #[.agg #[.int .i64 st, .int .i64 mb]] w fun e w' => e = .returned (EN.v ⟨1, st, mb, 0⟩) ∧ Below w.heap.size w w' := by
  go_enter Tryd.func8, Tryd.ntmps8
  go_wp2
  refine bodyPost_ret (v := EN.v ⟨1, st, mb, 0⟩) (by unfold EN.v; simp [results, Tryd.results8, go_sem]) rfl ?_
  exact ⟨rfl, (below1 _ _).alloc (by simp) _⟩
theorem entCheck_any (p : EN) (w : World) : Calls Tryd.prog 18 #[p.v] w fun e w' => e = .returned (.int .i64 (entE p)) ∧ Below w.heap.size w w' := by
  have hR := entRight_any p
  have he : entE p = if decide (EOk p) = true then 0 else 2 := by unfold entE; simp
  rw [he]
  generalize decide (EOk p) = bb at hR ⊢
  clear he
  obtain ⟨k, st, mb, fr⟩ := p
  unfold EN.v at hR ⊢
  dsimp only at hR ⊢
  have HB0 := Lib.hid (below1 w (.cells #[.int .u8 k, .int .i64 st, .int .i64 mb, .int .i64 fr] 38))
  cases bb
  · go_enter Tryd.func18, Tryd.ntmps18
    go_wp2_with (go_at_call 35; refine (hR _).mono ?_; rintro e w2 ⟨rfl, hb⟩; have HB := Lib.hid (HB0.out.trans (hb.mono HB0.out.size)); clear hb)
    go_ret
    exact ⟨rfl, HB.out⟩
  · go_enter Tryd.func18, Tryd.ntmps18
    go_wp2_with (go_at_call 35; refine (hR _).mono ?_; rintro e w2 ⟨rfl, hb⟩; have HB := Lib.hid (HB0.out.trans (hb.mono HB0.out.size)); clear hb)
    go_ret
    exact ⟨rfl, HB.out⟩
theorem entNumber_any (p : EN) (hp : EB p) (w : World) : Calls Tryd.prog 44 #[p.v] w fun e w' => e = .returned (.int .u64 (entN p : Int)) ∧ Below w.heap.size w w' := by
  rcases eb_cases hp with rfl | ⟨h1, ⟨h2, h3⟩, h4⟩
  · unfold EN.zero EN.v
    dsimp only
    go_enter Tryd.func44, Tryd.ntmps44
    go_wp2
    go_ret
    exact ⟨rfl, below1 _ _⟩
  · obtain ⟨k, st, mb, fr⟩ := p
    dsimp only at h1 h2 h3 h4
    subst h1 h4
    unfold EN.v
    dsimp only
    go_enter Tryd.func44, Tryd.ntmps44
    have HO := Lib.hid (or_high h3 (b := st + 1) (by omega))
    have hw : wrap64 (st + 1) = st + 1 := by unfold wrap64; omega
    have hE : Hid (((st + 1).toNat + 4294967296 * mb.toNat : Nat) = entN ⟨1, st, mb, 0⟩) := Lib.hid (by unfold entN; rw [if_neg (show ¬ (1 : Int) = 0 by decide)])
    go_wp2
    go_ret
    refine ⟨?_, below1 _ _⟩
    rw [← hE.out, ← HO.out]; rfl
theorem entFrom_any (n : Nat) (hn : n < 18446744073709551616) (w : World) : Calls Tryd.prog 47 #[.int .u64 (n : Int)] w fun e w' => e = .returned (ofN n).v ∧ Below w.heap.size w w' := by
  have hD := entDisk_any
  have HX0 := Lib.hid (EBox.new w 0 0 0 0 38)
  have HB0 := Lib.hid (below1 w (.cells #[.int .u8 0, .int .i64 0, .int .i64 0, .int .i64 0] 38))
  by_cases h0 : n = 0
  · subst h0
    go_enter Tryd.func47, Tryd.ntmps47
    go_wp2
    refine bodyPost_ret (v := EN.v EN.zero) (by unfold EN.v EN.zero; simp [results, Tryd.results47, go_sem]) rfl ?_
    exact ⟨rfl, below1 _ _⟩
  · have d0 : ((n : Int) == 0) = false := by rw [beq_eq_false_iff_ne]; omega
    unfold EN.v at hD
    have ha := and_low n hn
    obtain ⟨a, hae⟩ : ∃ a : Nat, a = n % 4294967296 := ⟨_, rfl⟩
    obtain ⟨b, hbe⟩ : ∃ b : Nat, b = n / 4294967296 := ⟨_, rfl⟩
    have hO : Hid (ofN n = ⟨1, (a : Int) - 1, (b : Int), 0⟩) := Lib.hid (by unfold ofN; rw [if_neg h0, hae, hbe])
    have hs : (n : Int) / 4294967296 = (b : Int) := by omega
    have hw1 : wrap64 (a : Int) = (a : Int) := by unfold wrap64; omega
    have hw2 : wrap64 (b : Int) = (b : Int) := by unfold wrap64; omega
    have hw3 : wrap64 ((a : Int) - 1) = (a : Int) - 1 := by unfold wrap64; omega
    rw [← hae] at ha
    clear hae hbe h0 hn
    go_enter Tryd.func47, Tryd.ntmps47
    go_upto_region 1 with fail
    generalize w.alloc (.cells #[.int .u8 0, .int .i64 0, .int .i64 0, .int .i64 0] 38) = w0 at HX0 HB0 ⊢
    go_wp2_with (go_at_call 8; refine (hD _ _ _).mono ?_; rintro e w2 ⟨rfl, hb⟩; have HX2 := Lib.hid (HX0.out.below hb); have HB2 := Lib.hid (HB0.out.trans (hb.mono HB0.out.size)); clear hb; obtain ⟨_, b0, b1, b2, b3, f0, f1, f2, f3⟩ := HX2.out; dsimp only at b0 b1 b2 b3)
    obtain ⟨_, y0, y1, y2, y3, _⟩ := Bx.put HX2.out (.int .u8 1) (.int .i64 ((a : Int) - 1)) (.int .i64 (b : Int)) (.int .i64 0)
    unfold put4 at y0 y1 y2 y3
    refine bodyPost_ret (v := EN.v ⟨1, (a : Int) - 1, (b : Int), 0⟩) (by unfold EN.v; simp [results, Tryd.results47, go_sem, y0, y1, y2, y3]) rfl ?_
    exact ⟨by rw [hO.out], ((((HB2.out.setCell (p := ⟨_, 0, none⟩) (Nat.le_refl _) _).setCell (p := ⟨_, 1, none⟩) (Nat.le_refl _) _).setCell (p := ⟨_, 2, none⟩) (Nat.le_refl _) _).setCell (p := ⟨_, 3, none⟩) (Nat.le_refl _) _)⟩
theorem putE8 {n : Nat} (h : n < 18446744073709551616) : putE 8 n = 0 ∧ putS 8 n = leB 8 n := by
  have : putE 8 n = 0 := putE_ok.2 ⟨by decide, by show n < 256 ^ 8; omega⟩
  exact ⟨this, putS_ok this⟩
theorem entBytes_any (p : EN) (w : World) : Calls Tryd.prog 22 #[p.v] w fun e w' => e = .returned (.tuple #[.string ⟨(entBL p).toArray⟩, .int .i64 (entBE p)]) ∧ Below w.heap.size w w' := by
  have hR := entRight_any p
  have HX0 := Lib.hid (EBox.new w p.kind p.st p.mb p.fr 38)
  have HB0 := Lib.hid (below1 w (.cells #[.int .u8 p.kind, .int .i64 p.st, .int .i64 p.mb, .int .i64 p.fr] 38))
  by_cases hE : EOk p
  · rw [decide_eq_true hE] at hR
    by_cases h2 : p.kind = 2
    · rw [show entBE p = 2 from if_neg (fun h => h.2 h2), show entBL p = [] from if_neg (fun h => h.2 h2)]
      have d2 : (p.kind == 2) = true := by simpa using h2
      obtain ⟨k, st, mb, fr⟩ := p
      unfold EN.v at hR ⊢
      dsimp only at hR h2 d2 HX0 HB0 ⊢
      subst h2
      clear hE d2
      go_enter Tryd.func22, Tryd.ntmps22
      go_upto_region 1 with fail
      generalize w.alloc (.cells #[.int .u8 2, .int .i64 st, .int .i64 mb, .int .i64 fr] 38) = w0 at HX0 HB0 ⊢
      obtain ⟨_, b0, b1, b2, b3, _⟩ := HX0.out
      dsimp only at b0 b1 b2 b3
      go_wp2_with (go_at_call 35; refine (hR _).mono ?_; rintro e w2 ⟨rfl, hb⟩; have HX2 := Lib.hid (HX0.out.below hb); have HB2 := Lib.hid (HB0.out.trans (hb.mono HB0.out.size)); clear hb b0 b1 b2 b3; obtain ⟨_, b0, b1, b2, b3, _⟩ := HX2.out; dsimp only at b0 b1 b2 b3)
      go_ret2
      exact ⟨rfl, HB2.out⟩
    · have hb : EB p := ⟨hE, h2⟩
      rw [show entBE p = 0 from if_pos hb, show entBL p = leB 8 (entN p) from if_pos hb]
      have d2 : (p.kind == 2) = false := by simpa using h2
      have hN := entNumber_any p hb
      obtain ⟨n, hn⟩ : ∃ n, n = entN p := ⟨_, rfl⟩
      have hlt := entN_lt hb
      rw [← hn] at hN hlt ⊢
      have hP := fldPut_any 8 n
      rw [(putE8 hlt).1, (putE8 hlt).2] at hP
      obtain ⟨k, st, mb, fr⟩ := p
      unfold EN.v at hR hN ⊢
      dsimp only at hR hN h2 d2 HX0 HB0 ⊢
      clear hE h2 hb hn hlt
      go_enter Tryd.func22, Tryd.ntmps22
      go_upto_region 1 with fail
      generalize w.alloc (.cells #[.int .u8 k, .int .i64 st, .int .i64 mb, .int .i64 fr] 38) = w0 at HX0 HB0 ⊢
      obtain ⟨_, b0, b1, b2, b3, _⟩ := HX0.out
      dsimp only at b0 b1 b2 b3
      go_wp2_with (first
        | (go_at_call 35; refine (hR _).mono ?_; rintro e w2 ⟨rfl, hb⟩; have HX2 := Lib.hid (HX0.out.below hb); have HB2 := Lib.hid (HB0.out.trans (hb.mono HB0.out.size)); clear hb b0 b1 b2 b3; obtain ⟨_, b0, b1, b2, b3, _⟩ := HX2.out; dsimp only at b0 b1 b2 b3)
        | (go_at_call 44; refine (hN _).mono ?_; rintro e w3 ⟨rfl, hb⟩; have HB3 := Lib.hid (HB2.out.trans (hb.mono HB2.out.size)); clear hb b0 b1 b2 b3)
        | (go_at_call 43; refine (hP _).mono ?_; rintro e w4 ⟨rfl, hb⟩; have HB4 := Lib.hid (HB3.out.trans (hb.mono HB3.out.size)); clear hb))
      go_ret2
      exact ⟨rfl, HB4.out⟩
  · rw [decide_eq_false hE] at hR
    rw [show entBE p = 2 from if_neg (fun h => hE h.1), show entBL p = [] from if_neg (fun h => hE h.1)]
    obtain ⟨k, st, mb, fr⟩ := p
    unfold EN.v at hR ⊢
    dsimp only at hR HX0 HB0 ⊢
    clear hE
    go_enter Tryd.func22, Tryd.ntmps22
    go_upto_region 1 with fail
    generalize w.alloc (.cells #[.int .u8 k, .int .i64 st, .int .i64 mb, .int .i64 fr] 38) = w0 at HX0 HB0 ⊢
    obtain ⟨_, b0, b1, b2, b3, _⟩ := HX0.out
    dsimp only at b0 b1 b2 b3
    go_wp2_with (go_at_call 35; refine (hR _).mono ?_; rintro e w2 ⟨rfl, hb⟩; have HB2 := Lib.hid (HB0.out.trans (hb.mono HB0.out.size)); clear hb)
    go_ret2
    exact ⟨rfl, HB2.out⟩
end Go.Proofs.YtngkbcaflkinhaaDoor
namespace Go.Proofs.YtngkbcaflkinhaaDoor
open Go.RowKit

theorem get8_ok {s : ByteArray} (h : 8 ≤ s.size) : getE 8 s.data.toList = 0 ∧ getN 8 s.data.toList = leN (s.data.toList.take 8) := by
  have : getE 8 s.data.toList = 0 := getE_ok.2 ⟨by decide, by rw [size_toList]; exact h⟩
  exact ⟨this, getN_ok this⟩
theorem get8_no {s : ByteArray} (h : ¬ 8 ≤ s.size) : getE 8 s.data.toList = 5 ∧ getN 8 s.data.toList = 0 := by
  unfold getE getN
  rw [size_toList]
  exact ⟨by rw [if_pos (by decide)]; exact if_neg h, by rw [if_neg (fun k => h k.2)]⟩
/-- The two boxes of Parse. -/
structure PB (w W : World) (b : Nat) (p : EN) : Prop where
  a : Below w.heap.size w W
  r : EBox W w.heap.size EN.zero
  x : EBox W b p
theorem PB.below {w W W' : World} {b : Nat} {p : EN} (k : PB w W b p) (hb : Below W.heap.size W W') : PB w W' b p :=
  ⟨k.a.trans (hb.mono k.a.size), k.r.below hb, k.x.below hb⟩
theorem PB.new {w w3 : World} (p : EN) (h0 : EBox w3 w.heap.size EN.zero) (hb : Below w.heap.size w w3) : PB w (w3.alloc (.cells #[.int .u8 p.kind, .int .i64 p.st, .int .i64 p.mb, .int .i64 p.fr] 38)) w3.heap.size p :=
  ⟨hb.alloc hb.size _, h0.below (below1 _ _), EBox.new _ _ _ _ _ _⟩
/-- What comes of Get and fromNumber, and whether it is right: all that Parse hangs on. -/
theorem entParse_core (s : ByteArray) (w : World) (n : Nat) (e : Int) (p : EN) (res : EN) (re : Int)
    (hG : ∀ W, Calls Tryd.prog 46 #[.int .i64 8, .string s] W fun e' w' => e' = .returned (.tuple #[.int .u64 (n : Int), .int .i64 e]) ∧ Below W.heap.size W w')
    (hF : ∀ W, Calls Tryd.prog 47 #[.int .u64 (n : Int)] W fun e' w' => e' = .returned p.v ∧ Below W.heap.size W w')
    (hR : ∀ W, Calls Tryd.prog 35 #[p.v] W fun e' w' => e' = .returned (.bool (decide (EOk p))) ∧ Below W.heap.size W w')
    (he : e = 0 ∨ e = 5) (hres : (res, re) = if e = 0 ∧ ¬ 8 < s.size ∧ EOk p then (p, 0) else (EN.zero, 6)) :
    Calls Tryd.prog 25 #[.string s] w fun e' w' => e' = .returned (.tuple #[res.v, .int .i64 re]) ∧ Below w.heap.size w w' := by
  have HX0 := Lib.hid (EBox.new w 0 0 0 0 38)
  have HB0 := Lib.hid (below1 w (.cells #[.int .u8 0, .int .i64 0, .int .i64 0, .int .i64 0] 38))
  have HN := fun w3 => PB.new (w := w) (w3 := w3) p
  have HRES := Lib.hid hres
  clear hres
  have hok : ∃ bb, bb = decide (EOk p) := ⟨_, rfl⟩
  obtain ⟨bb, hbb⟩ := hok
  rw [← hbb] at hR
  have HBB := Lib.hid hbb
  clear hbb
  obtain ⟨k, st, mb, fr⟩ := p
  unfold EN.v at hF hR
  dsimp only at hF hR HN
  go_enter Tryd.func25, Tryd.ntmps25
  go_upto_region 1 with fail
  generalize w.alloc (.cells #[.int .u8 0, .int .i64 0, .int .i64 0, .int .i64 0] 38) = w0 at HX0 HB0 ⊢
  go_upto_region 3 with (first
    | (go_at_call 46; refine (hG _).mono ?_; rintro e w2 ⟨rfl, hb⟩; have HX2 := Lib.hid (HX0.out.below hb); have HB2 := Lib.hid (HB0.out.trans (hb.mono HB0.out.size)); clear hb)
    | (go_at_call 47; refine (hF _).mono ?_; rintro e w3 ⟨rfl, hb⟩; have HP := Lib.hid (HN w3 (HX2.out.below hb) (HB2.out.trans (hb.mono HB2.out.size))); clear hb))
  generalize w3.alloc (.cells #[.int .u8 k, .int .i64 st, .int .i64 mb, .int .i64 fr] 38) = W at HP ⊢
  generalize w3.heap.size = b at HP ⊢
  have HT : Hid (∀ W', PB w W' b ⟨k, st, mb, fr⟩ → W'.cell? ⟨b, 0, none⟩ = some (.int .u8 k) ∧ W'.cell? ⟨b, 1, none⟩ = some (.int .i64 st) ∧ W'.cell? ⟨b, 2, none⟩ = some (.int .i64 mb) ∧ W'.cell? ⟨b, 3, none⟩ = some (.int .i64 fr)) := Lib.hid (fun _ h => ⟨h.x.c0, h.x.c1, h.x.c2, h.x.c3⟩)
  have HZ : Hid (∀ W', PB w W' b ⟨k, st, mb, fr⟩ → Bx W' w.heap.size (.int .u8 0) (.int .i64 0) (.int .i64 0) (.int .i64 0)) := Lib.hid (fun _ h => h.r)
  clear hG hF HN HX0 HB0 HX2 HB2
  have hend : ∀ W', PB w W' b ⟨k, st, mb, fr⟩ → ∀ u0 u1 u2 u3, Below w.heap.size w (put4 W' w.heap.size u0 u1 u2 u3) := fun W' h u0 u1 u2 u3 => (((h.a.setCell (p := ⟨_, 0, none⟩) (Nat.le_refl _) _).setCell (p := ⟨_, 1, none⟩) (Nat.le_refl _) _).setCell (p := ⟨_, 2, none⟩) (Nat.le_refl _) _).setCell (p := ⟨_, 3, none⟩) (Nat.le_refl _) _
  have HEND := Lib.hid hend
  clear hend
  rcases he with rfl | rfl
  · by_cases h9 : 8 < s.size
    · obtain ⟨rfl, rfl⟩ : res = EN.zero ∧ re = 6 := by have h := HRES.out; rw [if_neg (fun h => h.2.1 h9)] at h; exact Prod.mk.inj h
      have d9 : decide ((8 : Int) < (s.size : Int)) = true := decide_eq_true (by omega)
      clear h9
      obtain ⟨b0, b1, b2, b3⟩ := HT.out W HP.out
      obtain ⟨_, z0, z1, z2, z3, f0, f1, f2, f3⟩ := HZ.out W HP.out
      go_wp2
      obtain ⟨_, y0, y1, y2, y3, _⟩ := Bx.put (HZ.out W HP.out) (.int .u8 0) (.int .i64 0) (.int .i64 0) (.int .i64 0)
      have hB := HEND.out W HP.out (.int .u8 0) (.int .i64 0) (.int .i64 0) (.int .i64 0)
      unfold put4 at y0 y1 y2 y3 hB
      refine bodyPost_ret (v := .tuple #[EN.v EN.zero, .int .i64 6]) (by unfold EN.v EN.zero; simp [results, Tryd.results25, go_sem, y0, y1, y2, y3]) rfl ?_
      exact ⟨rfl, hB⟩
    · have d9 : decide ((8 : Int) < (s.size : Int)) = false := decide_eq_false (by omega)
      obtain ⟨b0, b1, b2, b3⟩ := HT.out W HP.out
      cases bb with
      | false =>
        obtain ⟨rfl, rfl⟩ : res = EN.zero ∧ re = 6 := by have h := HRES.out; rw [if_neg (fun h => by have := of_decide_eq_false HBB.out.symm; exact this h.2.2)] at h; exact Prod.mk.inj h
        clear h9
        go_wp2_with (go_at_call 35; refine (hR _).mono ?_; rintro e w4 ⟨rfl, hb⟩; have HP4 := Lib.hid (HP.out.below hb); clear hb b0 b1 b2 b3; obtain ⟨_, z0, z1, z2, z3, f0, f1, f2, f3⟩ := HZ.out _ HP4.out)
        obtain ⟨_, y0, y1, y2, y3, _⟩ := Bx.put (HZ.out _ HP4.out) (.int .u8 0) (.int .i64 0) (.int .i64 0) (.int .i64 0)
        have hB := HEND.out _ HP4.out (.int .u8 0) (.int .i64 0) (.int .i64 0) (.int .i64 0)
        unfold put4 at y0 y1 y2 y3 hB
        refine bodyPost_ret (v := .tuple #[EN.v EN.zero, .int .i64 6]) (by unfold EN.v EN.zero; simp [results, Tryd.results25, go_sem, y0, y1, y2, y3]) rfl ?_
        exact ⟨rfl, hB⟩
      | true =>
        obtain ⟨rfl, rfl⟩ : res = ⟨k, st, mb, fr⟩ ∧ re = 0 := by have h := HRES.out; rw [if_pos ⟨rfl, h9, of_decide_eq_true HBB.out.symm⟩] at h; exact Prod.mk.inj h
        clear h9
        go_wp2_with (go_at_call 35; refine (hR _).mono ?_; rintro e w4 ⟨rfl, hb⟩; have HP4 := Lib.hid (HP.out.below hb); clear hb b0 b1 b2 b3; obtain ⟨b0, b1, b2, b3⟩ := HT.out _ HP4.out; obtain ⟨_, z0, z1, z2, z3, f0, f1, f2, f3⟩ := HZ.out _ HP4.out)
        obtain ⟨_, y0, y1, y2, y3, _⟩ := Bx.put (HZ.out _ HP4.out) (.int .u8 k) (.int .i64 st) (.int .i64 mb) (.int .i64 fr)
        have hB := HEND.out _ HP4.out (.int .u8 k) (.int .i64 st) (.int .i64 mb) (.int .i64 fr)
        unfold put4 at y0 y1 y2 y3 hB
        refine bodyPost_ret (v := .tuple #[EN.v ⟨k, st, mb, fr⟩, .int .i64 0]) (by unfold EN.v; simp [results, Tryd.results25, go_sem, y0, y1, y2, y3]) rfl ?_
        exact ⟨rfl, hB⟩
  · obtain ⟨rfl, rfl⟩ : res = EN.zero ∧ re = 6 := by have h := HRES.out; rw [if_neg (fun h => by have := h.1; omega)] at h; exact Prod.mk.inj h
    obtain ⟨b0, b1, b2, b3⟩ := HT.out W HP.out
    obtain ⟨_, z0, z1, z2, z3, f0, f1, f2, f3⟩ := HZ.out W HP.out
    go_wp2
    obtain ⟨_, y0, y1, y2, y3, _⟩ := Bx.put (HZ.out W HP.out) (.int .u8 0) (.int .i64 0) (.int .i64 0) (.int .i64 0)
    have hB := HEND.out W HP.out (.int .u8 0) (.int .i64 0) (.int .i64 0) (.int .i64 0)
    unfold put4 at y0 y1 y2 y3 hB
    refine bodyPost_ret (v := .tuple #[EN.v EN.zero, .int .i64 6]) (by unfold EN.v EN.zero; simp [results, Tryd.results25, go_sem, y0, y1, y2, y3]) rfl ?_
    exact ⟨rfl, hB⟩
theorem entParse_any (s : ByteArray) (w : World) : Calls Tryd.prog 25 #[.string s] w fun e w' => e = .returned (.tuple #[(entP s.data.toList).v, .int .i64 (entPE s.data.toList)]) ∧ Below w.heap.size w w' := by
  have hG := fldGet_any 8 s
  by_cases h8 : 8 ≤ s.size
  · obtain ⟨hg1, hg2⟩ := get8_ok h8
    rw [hg1, hg2] at hG
    have hlt : leN (s.data.toList.take 8) < 18446744073709551616 := by
      have h1 := leN_lt (s.data.toList.take 8)
      rw [List.length_take, size_toList, Nat.min_eq_left h8] at h1
      exact h1
    refine entParse_core s w _ 0 (ofN (leN (s.data.toList.take 8))) _ _ hG (entFrom_any _ hlt) (entRight_any _) (.inl rfl) ?_
    have hE : EP s.data.toList ↔ s.size = 8 ∧ EOk (ofN (leN s.data.toList)) := by unfold EP; rw [size_toList]
    unfold entP entPE
    by_cases h9 : 8 < s.size
    · have hn : ¬ EP s.data.toList := fun h => by have := (hE.1 h).1; omega
      rw [if_neg hn, if_neg hn, if_neg (fun h => h.2.1 h9)]
    · rw [List.take_of_length_le (by rw [size_toList]; omega)]
      by_cases ho : EOk (ofN (leN s.data.toList))
      · have hn : EP s.data.toList := hE.2 ⟨by omega, ho⟩
        rw [if_pos hn, if_pos hn, if_pos ⟨rfl, h9, ho⟩]
      · have hn : ¬ EP s.data.toList := fun h => ho (hE.1 h).2
        rw [if_neg hn, if_neg hn, if_neg (fun h => ho h.2.2)]
  · obtain ⟨hg1, hg2⟩ := get8_no h8
    rw [hg1, hg2] at hG
    refine entParse_core s w _ 5 (ofN 0) _ _ hG (entFrom_any _ (by omega)) (entRight_any _) (.inr rfl) ?_
    have hn : ¬ EP s.data.toList := fun h => by have := h.1; rw [size_toList] at this; omega
    unfold entP entPE
    rw [if_neg hn, if_neg hn, if_neg (fun h => by omega)]
end Go.Proofs.YtngkbcaflkinhaaDoor
