/- Entries: the contract of Parse. Fields: slices of numbers. Fields: the contracts of All, the program's and the document's. strings.Builder: copyCheck, fresh and used, and WriteString. Fields: the contracts of Join, the program's and the document's. Entries: the document's own Check, Disk, Bytes. Entries: the document's own Bytes and Parse. Entries: the document's own Parse. Entries: slices of them: what they read as, and the contracts of Table, the program's and the document's. -/
import Derived.Test.YthhbaccbhfngbaaMb02
import Derived.Laws.MakeOwn
import Derived.Test.YthhbaccbhfngbaaShelfB
import Derived.Lib.AppendStr
import Derived.Lib.Builder
import Derived.OwnWalk
import Derived.Laws.Externs
import Derived.RangeFuncNested
namespace Go.Proofs.Ythhbaccbhfngbaa
open Go.RowKit

theorem get8_ok {s : ByteArray} (h : 8 ≤ s.size) : getE 8 s.data.toList = 0 ∧ getN 8 s.data.toList = leN (s.data.toList.take 8) := by
  have : getE 8 s.data.toList = 0 := getE_ok.2 ⟨by decide, by rw [size_toList]; exact h⟩
  exact ⟨this, getN_ok this⟩
theorem get8_no {s : ByteArray} (h : ¬ 8 ≤ s.size) : getE 8 s.data.toList = 5 ∧ getN 8 s.data.toList = 0 := by
  unfold getE getN
  rw [size_toList]
  exact ⟨by rw [if_pos (by decide)]; exact if_neg h, by rw [if_neg (fun k => h k.2)]⟩
/-- The two boxes of Parse. -/
structure PB (w W : World) (b : Nat) (p : EN) : Prop where
  a : Below w.heap.size w W
  r : EBox W w.heap.size EN.zero
  x : EBox W b p
theorem PB.below {w W W' : World} {b : Nat} {p : EN} (k : PB w W b p) (hb : Below W.heap.size W W') : PB w W' b p :=
  ⟨k.a.trans (hb.mono k.a.size), k.r.below hb, k.x.below hb⟩
theorem PB.new {w w3 : World} (p : EN) (h0 : EBox w3 w.heap.size EN.zero) (hb : Below w.heap.size w w3) : PB w (w3.alloc (.cells #[.int .u8 p.kind, .int .i64 p.st, .int .i64 p.mb, .int .i64 p.fr] 50)) w3.heap.size p :=
  ⟨hb.alloc hb.size _, h0.below (below1 _ _), EBox.new _ _ _ _ _ _⟩
end Go.Proofs.Ythhbaccbhfngbaa
namespace Go.Proofs.Ythhbaccbhfngbaa
open Go.RowKit

def i64s (ks : List Int) : List Value := ks.map (Value.int .i64)
def u64s (ns : List Nat) : List Value := ns.map fun n : Nat => Value.int .u64 (n : Int)
theorem i64s_len (ks : List Int) : (i64s ks).length = ks.length := by simp [i64s]
theorem u64s_len (ns : List Nat) : (u64s ns).length = ns.length := by simp [u64s]
theorem i64s_at {ks : List Int} {j : Nat} (h : j < ks.length) : (i64s ks)[j]? = some (.int .i64 (ks.getD j 0)) := by
  unfold i64s; rw [List.getElem?_map, List.getElem?_eq_getElem h, List.getD, List.getElem?_eq_getElem h]; rfl
theorem u64s_at {ns : List Nat} {j : Nat} (h : j < ns.length) : (u64s ns)[j]? = some (.int .u64 ((ns.getD j 0 : Nat) : Int)) := by
  unfold u64s; rw [List.getElem?_map, List.getElem?_eq_getElem h, List.getD, List.getElem?_eq_getElem h]; rfl
theorem u64s_one (ns : List Nat) : ∀ u ∈ u64s ns, u.oneCell' = true := by
  intro u hu
  obtain ⟨b, _, rfl⟩ := List.mem_map.1 hu
  rfl
/-- A slice that reads as these values, a cell each. -/
def NumV (w : World) (v : Value) (xs : List Value) : Prop :=
  ∃ A cap, v = .slice A xs.length cap ∧ xs.length ≤ cap ∧ cap ≤ maxLen ∧ (xs = [] ∨ ∃ b off, A = some ⟨b, off, none⟩ ∧ b < w.heap.size ∧ ∀ j, j < xs.length → w.cell? ⟨b, off + j, none⟩ = xs[j]?)
theorem NumV.below {B : Nat} {w w' : World} {v : Value} {xs : List Value} (k : NumV w v xs) (hb : Below B w w') (hB : w.heap.size ≤ B) : NumV w' v xs := by
  obtain ⟨A, cap, hv, h1, h2, h3⟩ := k
  refine ⟨A, cap, hv, h1, h2, ?_⟩
  rcases h3 with h3 | ⟨b, off, hA, hlt, hc⟩
  · exact .inl h3
  · exact .inr ⟨b, off, hA, Nat.lt_of_lt_of_le hlt hb.size, fun j hj => (hb.cell (p := ⟨b, off + j, none⟩) (by show b < B; omega)).trans (hc j hj)⟩
/-- What a call owns reads as that. -/
theorem NumV.of_own {w : World} {base e : Nat} {v : Value} {xs : List Value} (h : w.ownsRow base e 1 v xs.length xs) : NumV w v xs := by
  rcases h.2 with ⟨rfl, h0⟩ | ⟨g, cap, cur, rfl, hb, hh, hn, hm, hs, ht⟩
  · obtain rfl : xs = [] := List.eq_nil_of_length_eq_zero h0
    exact ⟨none, 0, rfl, Nat.le_refl _, Nat.zero_le _, .inl rfl⟩
  · refine ⟨_, cap, rfl, hn, hm, .inr ⟨g, 0, rfl, (Array.getElem?_eq_some_iff.1 hh).1, fun j hj => ?_⟩⟩
    rw [Nat.zero_add, cell_of_row w g j cur e (0, 0) hh]
    rw [Nat.mul_one] at ht
    have h1 : (cur.toList.take xs.length)[j]? = xs[j]? := by rw [ht]
    rw [List.getElem?_take, if_pos hj, Array.getElem?_toList] at h1
    exact h1
/-- A slice of the call's own that holds these numbers. -/
def OwnN (w : World) (base : Nat) (v : Value) (ns : List Nat) : Prop := w.ownsRow base 98 1 v ns.length (u64s ns)
theorem OwnN.num {w : World} {base : Nat} {v : Value} {ns : List Nat} (h : OwnN w base v ns) : NumV w v (u64s ns) :=
  NumV.of_own (base := base) (e := 98) (by rw [u64s_len]; exact h)
theorem OwnN.at {w : World} {base : Nat} {v : Value} {ns : List Nat} (h : OwnN w base v ns) (n : Nat) (hn : n = ns.length) : w.ownsRow base 98 1 v n (u64s ns) := by subst hn; exact h
theorem infoU64 : (Try.prog.info? 98).map (fun i => (i.zero, i.size, i.bytes)) = some (some (.int .u64 0), 1, 8) := by kernel_rfl
theorem ownN_made (n : Nat) (h : n ≤ 200) (W : World) : OwnN (W.alloc (.cells (madeCells #[.int .u64 0] n) 98)) W.heap.size (.slice (some ⟨W.heap.size, 0, none⟩) 0 n) [] :=
  ⟨rfl, .inr ⟨W.heap.size, n, madeCells #[.int .u64 0] n, rfl, Nat.le_refl _, heap_alloc_new W _, Nat.zero_le _, (by unfold maxLen; omega), by simp [madeCells], by simp [u64s]⟩⟩
end Go.Proofs.Ythhbaccbhfngbaa
namespace Go.Proofs.Ythhbaccbhfngbaa
open Go.RowKit

theorem extract_listF (s : ByteArray) (a : Nat) : (s.extract a s.size).data.toList = s.data.toList.drop a := by
  rw [ByteArray.data_extract, Array.toList_extract]
  have : s.size = s.data.toList.length := rfl
  rw [List.extract_eq_take_drop]
  exact List.take_of_length_le (by rw [List.length_drop, this]; omega)
theorem OwnN.mk' {w : World} {base n : Nat} {v : Value} {ns : List Nat} {y : Nat} (hn : n = ns.length) (h : w.ownsRow base 98 1 v (n + 1) (u64s ns ++ [.int .u64 (y : Int)])) : OwnN w base v (ns ++ [y]) := by
  unfold OwnN
  subst hn
  rw [List.length_append, show u64s (ns ++ [y]) = u64s ns ++ [.int .u64 (y : Int)] by unfold u64s; rw [List.map_append]; rfl]
  exact h
end Go.Proofs.Ythhbaccbhfngbaa
namespace Go.Proofs.Ythhbaccbhfngbaa
open Go.RowKit Go.Shelf
attribute [local go_sem] Oper.semAt_some

theorem others_put (W : World) (b i : Nat) (v : Value) (e : TypeId) : Lib.OthersKept e (some b) W (W.setCell ⟨b, i, none⟩ v) := by
  intro k o hk hne _
  rw [Below.heap_setCell _ _ _ _ (by rintro rfl; exact hne rfl)]; exact hk
theorem others_grown {W W' : World} {base e n : Nat} {v : Value} {xs : List Value} (ho : W.ownsRow base e 1 v n xs) (hg : W.grownBy W' v.ownBlock) (b : Option Nat) : Lib.OthersKept e b W W' := by
  intro k o hk _ hne
  refine (hg.block k (Array.getElem?_eq_some_iff.1 hk).1 (fun e' => ?_)).trans hk
  rcases ho.2 with ⟨rfl, _⟩ | ⟨g, cap, cur, rfl, _, hh, _⟩
  · cases e'
  · have e2 : some k = some g := e'
    injection e2 with e2
    subst e2
    rw [hh] at hk
    injection hk with hk
    exact hne _ _ hk.symm
theorem bldInfo : ∃ i, Try.prog.info? 5 = some i ∧ i.zero = some (.int .u8 0) ∧ i.size = 1 ∧ i.bytes = 1 := by
  have h := infoU8
  cases hq : Try.prog.info? 5 with
  | none => rw [hq] at h; cases h
  | some i => rw [hq] at h; simp only [Option.map_some, Option.some.injEq, Prod.mk.injEq] at h; exact ⟨i, rfl, h.1, h.2.1, h.2.2⟩
theorem bld_sl {w : World} {base e n : Nat} {v : Value} {xs : List Value} (ho : w.ownsRow base e 1 v n xs) : ∃ ao cp, v = .slice ao n cp := by
  rcases ho.2 with ⟨rfl, h⟩ | ⟨g, cap, cur, rfl, _⟩
  · subst h; exact ⟨_, _, rfl⟩
  · exact ⟨_, _, rfl⟩
theorem bld_keeps {W W' : World} {base e n : Nat} {v : Value} {xs : List Value} (ho : W.ownsRow base e 1 v n xs) (hg : W.grownBy W' v.ownBlock) : KeepsOthers W W' := by
  refine ⟨hg.size, fun k o hk hc => (hg.block k (Array.getElem?_eq_some_iff.1 hk).1 (fun e' => ?_)).trans hk⟩
  rcases ho.2 with ⟨rfl, _⟩ | ⟨g, cap, cur, rfl, _, hh, _⟩
  · cases e'
  · have : k = g := by have e2 : some k = some g := e'; injection e2
    subst this
    rw [hh] at hk; cases hk; cases hc
end Go.Proofs.Ythhbaccbhfngbaa
namespace Go.Proofs.Ythhbaccbhfngbaa
open Go.RowKit

theorem toList_mk (l : List UInt8) : (⟨l.toArray⟩ : ByteArray).data.toList = l := rfl
theorem size_mk (l : List UInt8) : (⟨l.toArray⟩ : ByteArray).size = l.length := rfl
theorem app_toList (a b : ByteArray) : (a ++ b).data.toList = a.data.toList ++ b.data.toList := by
  rw [ByteArray.data_append]; simp
end Go.Proofs.Ythhbaccbhfngbaa
namespace Go.Proofs.Ythhbaccbhfngbaa
open Go.RowKit

set_option maxHeartbeats 1000000 in
theorem rentCheck_any (p : EN) (w : World) : Calls Try.prog 78 #[p.v] w fun e w' => e = .returned (.int .i64 (entE p)) ∧ Below w.heap.size w w' := by
  have HE : Hid (entE p = if decide (EOk p) = true then 0 else 2) := Lib.hid (by unfold entE; simp)
  obtain ⟨k, st, mb, fr⟩ := p
  unfold EN.v
  dsimp only
  by_cases h0 : k = 0
  · subst h0
    by_cases hs : st = 0
    · subst hs
      by_cases hm : mb = 0
      · subst hm
        by_cases hf : fr = 0
        · subst hf
          rw [HE.out, show decide (EOk ⟨0, 0, 0, 0⟩) = true by decide]
          go_enter Try.func78, Try.ntmps78
          go_wp2
          go_ret
          exact ⟨rfl, below1 _ _⟩
        · rw [HE.out, eok_0 _ _ _ (fun h => hf h.2.2)]
          have d0 : (fr == 0) = false := by simpa using hf
          clear hf
          go_enter Try.func78, Try.ntmps78
          go_wp2
          go_ret
          exact ⟨rfl, below1 _ _⟩
      · rw [HE.out, eok_0 _ _ _ (fun h => hm h.2.1)]
        have d0 : (mb == 0) = false := by simpa using hm
        clear hm
        go_enter Try.func78, Try.ntmps78
        go_wp2
        go_ret
        exact ⟨rfl, below1 _ _⟩
    · rw [HE.out, eok_0 _ _ _ (fun h => hs h.1)]
      have d0 : (st == 0) = false := by simpa using hs
      clear hs
      go_enter Try.func78, Try.ntmps78
      go_wp2
      go_ret
      exact ⟨rfl, below1 _ _⟩
  have d0 : (k == 0) = false := by simpa using h0
  by_cases h1 : k = 1
  · subst h1
    rw [HE.out, eok_1]
    clear h0 d0
    by_cases hs : 0 ≤ st
    · have d1 : decide (0 ≤ st) = true := decide_eq_true hs
      by_cases hs2 : st < 2147483648
      · have d2 : decide (st < 2147483648) = true := decide_eq_true hs2
        by_cases hm : 0 ≤ mb
        · have d3 : decide (0 ≤ mb) = true := decide_eq_true hm
          by_cases hm2 : mb < 255
          · have d4 : decide (mb < 255) = true := decide_eq_true hm2
            rw [show decide (PlOk st mb) = true from decide_eq_true ⟨⟨hs, hs2⟩, hm, hm2⟩]
            by_cases hf : fr = 0
            · subst hf
              clear hs hs2 hm hm2
              go_enter Try.func78, Try.ntmps78
              go_wp2
              go_ret
              exact ⟨rfl, below1 _ _⟩
            · rw [decide_eq_false hf]
              have d5 : (fr == 0) = false := by simpa using hf
              clear hs hs2 hm hm2 hf
              go_enter Try.func78, Try.ntmps78
              go_wp2
              go_ret
              exact ⟨rfl, below1 _ _⟩
          · have d4 : decide (mb < 255) = false := decide_eq_false hm2
            rw [show decide (PlOk st mb) = false from decide_eq_false (fun h => hm2 h.2.2)]
            clear hs hs2 hm hm2
            go_enter Try.func78, Try.ntmps78
            go_wp2
            go_ret
            exact ⟨rfl, below1 _ _⟩
        · have d3 : decide (0 ≤ mb) = false := decide_eq_false hm
          rw [show decide (PlOk st mb) = false from decide_eq_false (fun h => hm h.2.1)]
          clear hs hs2 hm
          go_enter Try.func78, Try.ntmps78
          go_wp2
          go_ret
          exact ⟨rfl, below1 _ _⟩
      · have d2 : decide (st < 2147483648) = false := decide_eq_false hs2
        rw [show decide (PlOk st mb) = false from decide_eq_false (fun h => hs2 h.1.2)]
        clear hs hs2
        go_enter Try.func78, Try.ntmps78
        go_wp2
        go_ret
        exact ⟨rfl, below1 _ _⟩
    · have d1 : decide (0 ≤ st) = false := decide_eq_false hs
      rw [show decide (PlOk st mb) = false from decide_eq_false (fun h => hs h.1.1)]
      clear hs
      go_enter Try.func78, Try.ntmps78
      go_wp2
      go_ret
      exact ⟨rfl, below1 _ _⟩
  have d1 : (k == 1) = false := by simpa using h1
  by_cases h2 : k = 2
  · subst h2
    clear h0 h1 d0 d1
    by_cases hf : 1 ≤ fr
    · have e1 : decide (1 ≤ fr) = true := decide_eq_true hf
      by_cases hf2 : fr ≤ 1073741824
      · have e2 : decide (fr ≤ 1073741824) = true := decide_eq_true hf2
        by_cases hs : st = 0
        · subst hs
          by_cases hm : mb = 0
          · subst hm
            rw [HE.out, show decide (EOk ⟨2, 0, 0, fr⟩) = true by unfold EOk PlOk; simp [hf, hf2]]
            clear hf hf2
            go_enter Try.func78, Try.ntmps78
            go_wp2
            go_ret
            exact ⟨rfl, below1 _ _⟩
          · rw [HE.out, eok_2 _ _ _ (fun h => hm h.2.2)]
            have e0 : (mb == 0) = false := by simpa using hm
            clear hf hf2 hm
            go_enter Try.func78, Try.ntmps78
            go_wp2
            go_ret
            exact ⟨rfl, below1 _ _⟩
        · rw [HE.out, eok_2 _ _ _ (fun h => hs h.2.1)]
          have e0 : (st == 0) = false := by simpa using hs
          clear hf hf2 hs
          go_enter Try.func78, Try.ntmps78
          go_wp2
          go_ret
          exact ⟨rfl, below1 _ _⟩
      · rw [HE.out, eok_2 _ _ _ (fun h => hf2 h.1.2)]
        have e2 : decide (fr ≤ 1073741824) = false := decide_eq_false hf2
        clear hf hf2
        go_enter Try.func78, Try.ntmps78
        go_wp2
        go_ret
        exact ⟨rfl, below1 _ _⟩
    · rw [HE.out, eok_2 _ _ _ (fun h => hf h.1.1)]
      have e1 : decide (1 ≤ fr) = false := decide_eq_false hf
      clear hf
      go_enter Try.func78, Try.ntmps78
      go_wp2
      go_ret
      exact ⟨rfl, below1 _ _⟩
  have d2 : (k == 2) = false := by simpa using h2
  rw [HE.out, eok_3 _ _ _ h0 h1 h2]
  clear h0 h1 h2
  go_enter Try.func78, Try.ntmps78
  go_wp2
  go_ret
  exact ⟨rfl, below1 _ _⟩
end Go.Proofs.Ythhbaccbhfngbaa
namespace Go.Proofs.Ythhbaccbhfngbaa
open Go.RowKit

theorem num_new (W : World) (xs : List Value) (t : TypeId) (h : xs.length ≤ 200) : NumV (W.alloc (.cells xs.toArray t)) (.slice (some ⟨W.heap.size, 0, none⟩) xs.length xs.length) xs := by
  refine ⟨_, xs.length, rfl, Nat.le_refl _, (by unfold maxLen; omega), .inr ⟨W.heap.size, 0, rfl, by simp, fun j hj => ?_⟩⟩
  rw [Nat.zero_add, cell_of_row _ _ _ _ t (0, 0) (heap_alloc_new W _)]
  simp
theorem refN_lt {p : EN} (h : EB p) : ∀ n ∈ refN p, n < 18446744073709551616 := by
  intro n hn
  unfold refN at hn
  rcases eb_cases h with rfl | ⟨a, ⟨⟨b, c⟩, d, e⟩, _⟩
  · simp [EN.zero] at hn; omega
  · rw [if_pos a] at hn
    simp at hn; omega
end Go.Proofs.Ythhbaccbhfngbaa
namespace Go.Proofs.Ythhbaccbhfngbaa
open Go.RowKit

theorem two_of {w : World} {base : Nat} {x : Value} {a b : Nat} (h : OwnN w base x [a, b]) :
    ∃ g cap, x = .slice (some ⟨g, 0, none⟩) 2 cap ∧ 2 ≤ cap ∧ base ≤ g ∧ g < w.heap.size ∧ w.cell? ⟨g, 0, none⟩ = some (.int .u64 (a : Int)) ∧ w.cell? ⟨g, 1, none⟩ = some (.int .u64 (b : Int)) := by
  rcases h.2 with ⟨rfl, h0⟩ | ⟨g, cap, cur, rfl, hb, hh, hn, hm, hs, ht⟩
  · exact absurd h0 (by simp)
  · have hc : ∀ j, j < 2 → w.cell? ⟨g, j, none⟩ = (u64s [a, b])[j]? := by
      intro j hj
      rw [cell_of_row w g j cur _ (0, 0) hh]
      have h1 : (cur.toList.take ([a, b].length * 1))[j]? = (u64s [a, b])[j]? := by rw [ht]
      rw [List.getElem?_take, if_pos (by simpa using hj), Array.getElem?_toList] at h1
      exact h1
    exact ⟨g, cap, rfl, hn, hb, (Array.getElem?_eq_some_iff.1 hh).1, hc 0 (by omega), hc 1 (by omega)⟩
/-- The document's Parse under way. -/
structure RP (w W : World) (b7 g a b : Nat) (p : EN) : Prop where
  bl : Below w.heap.size w W
  r : EBox W w.heap.size EN.zero
  x : EBox W b7 p
  hx : w.heap.size < b7
  hg : g < b7
  lt : g < W.heap.size
  c0 : W.cell? ⟨g, 0, none⟩ = some (.int .u64 (a : Int))
  c1 : W.cell? ⟨g, 1, none⟩ = some (.int .u64 (b : Int))
theorem RP.below {w W W' : World} {b7 g a b : Nat} {p : EN} (k : RP w W b7 g a b p) (hb : Below W.heap.size W W') : RP w W' b7 g a b p :=
  ⟨k.bl.trans (hb.mono k.bl.size), k.r.below hb, k.x.below hb, k.hx, k.hg, Nat.lt_of_lt_of_le k.lt hb.size, (hb.cell (p := ⟨g, 0, none⟩) k.lt).trans k.c0, (hb.cell (p := ⟨g, 1, none⟩) k.lt).trans k.c1⟩
theorem RP.put {w W : World} {b7 g a b : Nat} {p : EN} (k : RP w W b7 g a b p) (q : EN) : RP w (put4 W b7 (.int .u8 q.kind) (.int .i64 q.st) (.int .i64 q.mb) (.int .i64 q.fr)) b7 g a b q := by
  have hap := ap_put4 W b7 (.int .u8 q.kind) (.int .i64 q.st) (.int .i64 q.mb) (.int .i64 q.fr)
  have h1 := k.hx
  have h2 := k.hg
  refine ⟨?_, Bx.ap k.r hap (by omega), Bx.put k.x _ _ _ _, h1, h2, Nat.lt_of_lt_of_le k.lt hap.size, (hap.cell k.lt (by omega) _).trans k.c0, (hap.cell k.lt (by omega) _).trans k.c1⟩
  exact (((k.bl.setCell (p := ⟨_, 0, none⟩) (Nat.le_of_lt h1) _).setCell (p := ⟨_, 1, none⟩) (Nat.le_of_lt h1) _).setCell (p := ⟨_, 2, none⟩) (Nat.le_of_lt h1) _).setCell (p := ⟨_, 3, none⟩) (Nat.le_of_lt h1) _
theorem RP.new {w w3 : World} {g a b : Nat} (h0 : EBox w3 w.heap.size EN.zero) (hb : Below w.heap.size w w3) (hlt : w.heap.size < w3.heap.size) (hg : g < w3.heap.size) (c0 : w3.cell? ⟨g, 0, none⟩ = some (.int .u64 (a : Int))) (c1 : w3.cell? ⟨g, 1, none⟩ = some (.int .u64 (b : Int))) :
    RP w (w3.alloc (.cells #[.int .u8 0, .int .i64 0, .int .i64 0, .int .i64 0] 50)) w3.heap.size g a b EN.zero :=
  ⟨hb.alloc hb.size _, h0.below (below1 _ _), EBox.new _ _ _ _ _ _, hlt, hg, by simp; omega, ((below1 w3 _).cell (p := ⟨g, 0, none⟩) hg).trans c0, ((below1 w3 _).cell (p := ⟨g, 1, none⟩) hg).trans c1⟩
theorem RP.ends {w W : World} {b7 g a b : Nat} {p : EN} (k : RP w W b7 g a b p) (u0 u1 u2 u3 : Value) : Below w.heap.size w (put4 W w.heap.size u0 u1 u2 u3) :=
  (((k.bl.setCell (p := ⟨_, 0, none⟩) (Nat.le_refl _) _).setCell (p := ⟨_, 1, none⟩) (Nat.le_refl _) _).setCell (p := ⟨_, 2, none⟩) (Nat.le_refl _) _).setCell (p := ⟨_, 3, none⟩) (Nat.le_refl _) _
/-- What is told of the two numbers. -/
def ofAB (a b : Nat) : EN := if 0 < a then ⟨1, (a : Int) - 1, (b : Int), 0⟩ else EN.zero
theorem all41 {s : List UInt8} (h : s.length = 8) : allE s [4, 1] = 0 ∧ allV s [4, 1] = [leN (s.take 4), leN ((s.drop 4).take 1)] := by
  have g1 : getE 4 s = 0 := getE_ok.2 ⟨by decide, by rw [h]; decide⟩
  have g2 : getE 1 (s.drop 4) = 0 := getE_ok.2 ⟨by decide, by rw [List.length_drop, h]; decide⟩
  have h0 : allE s [4, 1] = 0 := by
    unfold allE; rw [if_pos g1]
    show allE (s.drop 4) [1] = 0
    unfold allE; rw [if_pos g2]; rfl
  refine ⟨h0, ?_⟩
  unfold allV
  rw [if_pos h0]
  show [getN 4 s, getN 1 (s.drop 4)] = _
  rw [getN_ok g1, getN_ok g2]; rfl
end Go.Proofs.Ythhbaccbhfngbaa
namespace Go.Proofs.Ythhbaccbhfngbaa
open Go.RowKit

/-- An entry, as its cells read from place o of block b on. -/
structure EntAt (w : World) (b o : Nat) (x : EN) : Prop where
  c0 : w.cell? ⟨b, o, none⟩ = some (.int .u8 x.kind)
  c1 : w.cell? ⟨b, o + 1, none⟩ = some (.int .i64 x.st)
  c2 : w.cell? ⟨b, o + 2, none⟩ = some (.int .i64 x.mb)
  c3 : w.cell? ⟨b, o + 3, none⟩ = some (.int .i64 x.fr)
theorem EntAt.below {B : Nat} {w w' : World} {b o : Nat} {x : EN} (a : EntAt w b o x) (hb : Below B w w') (hlt : b < B) : EntAt w' b o x := by
  have h (q : Nat) : w'.cell? ⟨b, q, none⟩ = w.cell? ⟨b, q, none⟩ := hb.cell (p := ⟨b, q, none⟩) hlt
  exact ⟨(h _).trans a.c0, (h _).trans a.c1, (h _).trans a.c2, (h _).trans a.c3⟩
/-- A slice that reads as these entries. -/
def EntsS (w : World) (v : Value) (L : List EN) : Prop :=
  ∃ A cap, v = .slice A L.length cap ∧ L.length ≤ cap ∧ cap ≤ maxLen ∧ (L = [] ∨ ∃ b off, A = some ⟨b, off, none⟩ ∧ b < w.heap.size ∧ ∀ j, j < L.length → EntAt w b (off + j * 4) (L.getD j EN.zero))
theorem EntsS.below {B : Nat} {w w' : World} {v : Value} {L : List EN} (k : EntsS w v L) (hb : Below B w w') (hB : w.heap.size ≤ B) : EntsS w' v L := by
  obtain ⟨A, cap, hv, h1, h2, h3⟩ := k
  refine ⟨A, cap, hv, h1, h2, ?_⟩
  rcases h3 with h3 | ⟨b, off, hA, hlt, hc⟩
  · exact .inl h3
  · exact .inr ⟨b, off, hA, Nat.lt_of_lt_of_le hlt hb.size, fun j hj => (hc j hj).below hb (by omega)⟩
theorem take_snocE {L : List EN} {k : Nat} (hk : k < L.length) : L.take (k + 1) = L.take k ++ [L.getD k EN.zero] := by
  rw [List.take_succ_eq_append_getElem hk, List.getD, List.getElem?_eq_getElem hk]; rfl
theorem tab_step {L : List EN} {j : Nat} (hj : j < L.length) (h0 : ∀ p ∈ L.take j, EB p) (hp : EB (L.getD j EN.zero)) :
    (∀ p ∈ L.take (j + 1), EB p) ∧ (L.take (j + 1)).flatMap entBL = (L.take j).flatMap entBL ++ leB 8 (entN (L.getD j EN.zero)) := by
  rw [take_snocE hj]
  refine ⟨fun p h => ?_, ?_⟩
  · rcases List.mem_append.1 h with h | h
    · exact h0 p h
    · rw [List.mem_singleton.1 h]; exact hp
  · rw [List.flatMap_append, List.flatMap_singleton]
    congr 1
    exact if_pos hp
theorem tab_stop {L : List EN} {j : Nat} (hl : L.length ≤ 8192) (hj : j < L.length) (hp : ¬ EB (L.getD j EN.zero)) : tabE L = 2 ∧ tabL L = [] := by
  have h1 : tabE L = 2 := by
    unfold tabE; rw [if_pos hl, if_neg]
    intro h
    refine hp (h _ ?_)
    rw [List.getD, List.getElem?_eq_getElem hj]; exact List.getElem_mem _
  exact ⟨h1, if_neg (by rw [h1]; decide)⟩
theorem sapp (a : List UInt8) (s : ByteArray) : (⟨a.toArray⟩ : ByteArray) ++ s = ⟨(a ++ s.data.toList).toArray⟩ := by
  apply ByteArray.ext
  rw [ByteArray.data_append]
  apply Array.ext'
  simp
end Go.Proofs.Ythhbaccbhfngbaa
