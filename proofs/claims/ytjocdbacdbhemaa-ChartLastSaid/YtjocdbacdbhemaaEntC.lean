/- Entries: the contract of Parse. -/
import Derived.Test.YtjocdbacdbhemaaEntB
namespace Go.Proofs.Ytjocdbacdbhemaa
open Go.RowKit

theorem get8_ok {s : ByteArray} (h : 8 ≤ s.size) : getE 8 s.data.toList = 0 ∧ getN 8 s.data.toList = leN (s.data.toList.take 8) := by
  have : getE 8 s.data.toList = 0 := getE_ok.2 ⟨by decide, by rw [size_toList]; exact h⟩
  exact ⟨this, getN_ok this⟩
theorem get8_no {s : ByteArray} (h : ¬ 8 ≤ s.size) : getE 8 s.data.toList = 5 ∧ getN 8 s.data.toList = 0 := by
  unfold getE getN
  rw [size_toList]
  exact ⟨by rw [if_pos (by decide)]; exact if_neg h, by rw [if_neg (fun k => h k.2)]⟩
/-- The two boxes of Parse. -/
structure PB (w W : World) (b : Nat) (p : EN) : Prop where
  a : Below w.heap.size w W
  r : EBox W w.heap.size EN.zero
  x : EBox W b p
theorem PB.below {w W W' : World} {b : Nat} {p : EN} (k : PB w W b p) (hb : Below W.heap.size W W') : PB w W' b p :=
  ⟨k.a.trans (hb.mono k.a.size), k.r.below hb, k.x.below hb⟩
theorem PB.new {w w3 : World} (p : EN) (h0 : EBox w3 w.heap.size EN.zero) (hb : Below w.heap.size w w3) : PB w (w3.alloc (.cells #[.int .u8 p.kind, .int .i64 p.st, .int .i64 p.mb, .int .i64 p.fr] 26)) w3.heap.size p :=
  ⟨hb.alloc hb.size _, h0.below (below1 _ _), EBox.new _ _ _ _ _ _⟩
/-- What comes of Get and fromNumber, and whether it is right: all that Parse hangs on. -/
theorem entParse_core (s : ByteArray) (w : World) (n : Nat) (e : Int) (p : EN) (res : EN) (re : Int)
    (hG : ∀ W, Calls Try.prog 43 #[.int .i64 8, .string s] W fun e' w' => e' = .returned (.tuple #[.int .u64 (n : Int), .int .i64 e]) ∧ Below W.heap.size W w')
    (hF : ∀ W, Calls Try.prog 44 #[.int .u64 (n : Int)] W fun e' w' => e' = .returned p.v ∧ Below W.heap.size W w')
    (hR : ∀ W, Calls Try.prog 39 #[p.v] W fun e' w' => e' = .returned (.bool (decide (EOk p))) ∧ Below W.heap.size W w')
    (he : e = 0 ∨ e = 5) (hres : (res, re) = if e = 0 ∧ ¬ 8 < s.size ∧ EOk p then (p, 0) else (EN.zero, 6)) :
    Calls Try.prog 10 #[.string s] w fun e' w' => e' = .returned (.tuple #[res.v, .int .i64 re]) ∧ Below w.heap.size w w' := by
  have HX0 := Lib.hid (EBox.new w 0 0 0 0 26)
  have HB0 := Lib.hid (below1 w (.cells #[.int .u8 0, .int .i64 0, .int .i64 0, .int .i64 0] 26))
  have HN := fun w3 => PB.new (w := w) (w3 := w3) p
  have HRES := Lib.hid hres
  clear hres
  have hok : ∃ bb, bb = decide (EOk p) := ⟨_, rfl⟩
  obtain ⟨bb, hbb⟩ := hok
  rw [← hbb] at hR
  have HBB := Lib.hid hbb
  clear hbb
  obtain ⟨k, st, mb, fr⟩ := p
  unfold EN.v at hF hR
  dsimp only at hF hR HN
  go_enter Try.func10, Try.ntmps10
  go_upto_region 1 with fail
  generalize w.alloc (.cells #[.int .u8 0, .int .i64 0, .int .i64 0, .int .i64 0] 26) = w0 at HX0 HB0 ⊢
  go_upto_region 3 with (first
    | (go_at_call 43; refine (hG _).mono ?_; rintro e w2 ⟨rfl, hb⟩; have HX2 := Lib.hid (HX0.out.below hb); have HB2 := Lib.hid (HB0.out.trans (hb.mono HB0.out.size)); clear hb)
    | (go_at_call 44; refine (hF _).mono ?_; rintro e w3 ⟨rfl, hb⟩; have HP := Lib.hid (HN w3 (HX2.out.below hb) (HB2.out.trans (hb.mono HB2.out.size))); clear hb))
  generalize w3.alloc (.cells #[.int .u8 k, .int .i64 st, .int .i64 mb, .int .i64 fr] 26) = W at HP ⊢
  generalize w3.heap.size = b at HP ⊢
  have HT : Hid (∀ W', PB w W' b ⟨k, st, mb, fr⟩ → W'.cell? ⟨b, 0, none⟩ = some (.int .u8 k) ∧ W'.cell? ⟨b, 1, none⟩ = some (.int .i64 st) ∧ W'.cell? ⟨b, 2, none⟩ = some (.int .i64 mb) ∧ W'.cell? ⟨b, 3, none⟩ = some (.int .i64 fr)) := Lib.hid (fun _ h => ⟨h.x.c0, h.x.c1, h.x.c2, h.x.c3⟩)
  have HZ : Hid (∀ W', PB w W' b ⟨k, st, mb, fr⟩ → Bx W' w.heap.size (.int .u8 0) (.int .i64 0) (.int .i64 0) (.int .i64 0)) := Lib.hid (fun _ h => h.r)
  clear hG hF HN HX0 HB0 HX2 HB2
  have hend : ∀ W', PB w W' b ⟨k, st, mb, fr⟩ → ∀ u0 u1 u2 u3, Below w.heap.size w (put4 W' w.heap.size u0 u1 u2 u3) := fun W' h u0 u1 u2 u3 => (((h.a.setCell (p := ⟨_, 0, none⟩) (Nat.le_refl _) _).setCell (p := ⟨_, 1, none⟩) (Nat.le_refl _) _).setCell (p := ⟨_, 2, none⟩) (Nat.le_refl _) _).setCell (p := ⟨_, 3, none⟩) (Nat.le_refl _) _
  have HEND := Lib.hid hend
  clear hend
  rcases he with rfl | rfl
  · by_cases h9 : 8 < s.size
    · obtain ⟨rfl, rfl⟩ : res = EN.zero ∧ re = 6 := by have h := HRES.out; rw [if_neg (fun h => h.2.1 h9)] at h; exact Prod.mk.inj h
      have d9 : decide ((8 : Int) < (s.size : Int)) = true := decide_eq_true (by omega)
      clear h9
      obtain ⟨b0, b1, b2, b3⟩ := HT.out W HP.out
      obtain ⟨_, z0, z1, z2, z3, f0, f1, f2, f3⟩ := HZ.out W HP.out
      go_wp2
      obtain ⟨_, y0, y1, y2, y3, _⟩ := Bx.put (HZ.out W HP.out) (.int .u8 0) (.int .i64 0) (.int .i64 0) (.int .i64 0)
      have hB := HEND.out W HP.out (.int .u8 0) (.int .i64 0) (.int .i64 0) (.int .i64 0)
      unfold put4 at y0 y1 y2 y3 hB
      refine bodyPost_ret (v := .tuple #[EN.v EN.zero, .int .i64 6]) (by unfold EN.v EN.zero; simp [results, Try.results10, go_sem, y0, y1, y2, y3]) rfl ?_
      exact ⟨rfl, hB⟩
    · have d9 : decide ((8 : Int) < (s.size : Int)) = false := decide_eq_false (by omega)
      obtain ⟨b0, b1, b2, b3⟩ := HT.out W HP.out
      cases bb with
      | false =>
        obtain ⟨rfl, rfl⟩ : res = EN.zero ∧ re = 6 := by have h := HRES.out; rw [if_neg (fun h => by have := of_decide_eq_false HBB.out.symm; exact this h.2.2)] at h; exact Prod.mk.inj h
        clear h9
        go_wp2_with (go_at_call 39; refine (hR _).mono ?_; rintro e w4 ⟨rfl, hb⟩; have HP4 := Lib.hid (HP.out.below hb); clear hb b0 b1 b2 b3; obtain ⟨_, z0, z1, z2, z3, f0, f1, f2, f3⟩ := HZ.out _ HP4.out)
        obtain ⟨_, y0, y1, y2, y3, _⟩ := Bx.put (HZ.out _ HP4.out) (.int .u8 0) (.int .i64 0) (.int .i64 0) (.int .i64 0)
        have hB := HEND.out _ HP4.out (.int .u8 0) (.int .i64 0) (.int .i64 0) (.int .i64 0)
        unfold put4 at y0 y1 y2 y3 hB
        refine bodyPost_ret (v := .tuple #[EN.v EN.zero, .int .i64 6]) (by unfold EN.v EN.zero; simp [results, Try.results10, go_sem, y0, y1, y2, y3]) rfl ?_
        exact ⟨rfl, hB⟩
      | true =>
        obtain ⟨rfl, rfl⟩ : res = ⟨k, st, mb, fr⟩ ∧ re = 0 := by have h := HRES.out; rw [if_pos ⟨rfl, h9, of_decide_eq_true HBB.out.symm⟩] at h; exact Prod.mk.inj h
        clear h9
        go_wp2_with (go_at_call 39; refine (hR _).mono ?_; rintro e w4 ⟨rfl, hb⟩; have HP4 := Lib.hid (HP.out.below hb); clear hb b0 b1 b2 b3; obtain ⟨b0, b1, b2, b3⟩ := HT.out _ HP4.out; obtain ⟨_, z0, z1, z2, z3, f0, f1, f2, f3⟩ := HZ.out _ HP4.out)
        obtain ⟨_, y0, y1, y2, y3, _⟩ := Bx.put (HZ.out _ HP4.out) (.int .u8 k) (.int .i64 st) (.int .i64 mb) (.int .i64 fr)
        have hB := HEND.out _ HP4.out (.int .u8 k) (.int .i64 st) (.int .i64 mb) (.int .i64 fr)
        unfold put4 at y0 y1 y2 y3 hB
        refine bodyPost_ret (v := .tuple #[EN.v ⟨k, st, mb, fr⟩, .int .i64 0]) (by unfold EN.v; simp [results, Try.results10, go_sem, y0, y1, y2, y3]) rfl ?_
        exact ⟨rfl, hB⟩
  · obtain ⟨rfl, rfl⟩ : res = EN.zero ∧ re = 6 := by have h := HRES.out; rw [if_neg (fun h => by have := h.1; omega)] at h; exact Prod.mk.inj h
    obtain ⟨b0, b1, b2, b3⟩ := HT.out W HP.out
    obtain ⟨_, z0, z1, z2, z3, f0, f1, f2, f3⟩ := HZ.out W HP.out
    go_wp2
    obtain ⟨_, y0, y1, y2, y3, _⟩ := Bx.put (HZ.out W HP.out) (.int .u8 0) (.int .i64 0) (.int .i64 0) (.int .i64 0)
    have hB := HEND.out W HP.out (.int .u8 0) (.int .i64 0) (.int .i64 0) (.int .i64 0)
    unfold put4 at y0 y1 y2 y3 hB
    refine bodyPost_ret (v := .tuple #[EN.v EN.zero, .int .i64 6]) (by unfold EN.v EN.zero; simp [results, Try.results10, go_sem, y0, y1, y2, y3]) rfl ?_
    exact ⟨rfl, hB⟩
theorem entParse_any (s : ByteArray) (w : World) : Calls Try.prog 10 #[.string s] w fun e w' => e = .returned (.tuple #[(entP s.data.toList).v, .int .i64 (entPE s.data.toList)]) ∧ Below w.heap.size w w' := by
  have hG := fldGet_any 8 s
  by_cases h8 : 8 ≤ s.size
  · obtain ⟨hg1, hg2⟩ := get8_ok h8
    rw [hg1, hg2] at hG
    have hlt : leN (s.data.toList.take 8) < 18446744073709551616 := by
      have h1 := leN_lt (s.data.toList.take 8)
      rw [List.length_take, size_toList, Nat.min_eq_left h8] at h1
      exact h1
    refine entParse_core s w _ 0 (ofN (leN (s.data.toList.take 8))) _ _ hG (entFrom_any _ hlt) (entRight_any _) (.inl rfl) ?_
    have hE : EP s.data.toList ↔ s.size = 8 ∧ EOk (ofN (leN s.data.toList)) := by unfold EP; rw [size_toList]
    unfold entP entPE
    by_cases h9 : 8 < s.size
    · have hn : ¬ EP s.data.toList := fun h => by have := (hE.1 h).1; omega
      rw [if_neg hn, if_neg hn, if_neg (fun h => h.2.1 h9)]
    · rw [List.take_of_length_le (by rw [size_toList]; omega)]
      by_cases ho : EOk (ofN (leN s.data.toList))
      · have hn : EP s.data.toList := hE.2 ⟨by omega, ho⟩
        rw [if_pos hn, if_pos hn, if_pos ⟨rfl, h9, ho⟩]
      · have hn : ¬ EP s.data.toList := fun h => ho (hE.1 h).2
        rw [if_neg hn, if_neg hn, if_neg (fun h => ho h.2.2)]
  · obtain ⟨hg1, hg2⟩ := get8_no h8
    rw [hg1, hg2] at hG
    refine entParse_core s w _ 5 (ofN 0) _ _ hG (entFrom_any _ (by omega)) (entRight_any _) (.inr rfl) ?_
    have hn : ¬ EP s.data.toList := fun h => by have := h.1; rw [size_toList] at this; omega
    unfold entP entPE
    rw [if_neg hn, if_neg hn, if_neg (fun h => by omega)]
end Go.Proofs.Ytjocdbacdbhemaa
