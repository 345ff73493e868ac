/- Entries: the document's own Check, Disk, Bytes. -/
import Derived.Test.YtjocdbacdbhemaaEntB
import Derived.Test.YtjocdbacdbhemaaFldFH
namespace Go.Proofs.Ytjocdbacdbhemaa
open Go.RowKit

theorem rentDisk_any (st mb : Int) (w : World) : Calls Try.prog 16 #[.agg #[.int .i64 st, .int .i64 mb]] w fun e w' => e = .returned (EN.v ⟨1, st, mb, 0⟩) ∧ Below w.heap.size w w' := by
  go_enter Try.func16, Try.ntmps16
  go_wp2
  refine bodyPost_ret (v := EN.v ⟨1, st, mb, 0⟩) (by unfold EN.v; simp [results, Try.results16, go_sem]) rfl ?_
  exact ⟨rfl, (below1 _ _).alloc (by simp) _⟩
set_option maxHeartbeats 1000000 in
theorem rentCheck_any (p : EN) (w : World) : Calls Try.prog 14 #[p.v] w fun e w' => e = .returned (.int .i64 (entE p)) ∧ Below w.heap.size w w' := by
  have HE : Hid (entE p = if decide (EOk p) = true then 0 else 2) := Lib.hid (by unfold entE; simp)
  obtain ⟨k, st, mb, fr⟩ := p
  unfold EN.v
  dsimp only
  by_cases h0 : k = 0
  · subst h0
    by_cases hs : st = 0
    · subst hs
      by_cases hm : mb = 0
      · subst hm
        by_cases hf : fr = 0
        · subst hf
          rw [HE.out, show decide (EOk ⟨0, 0, 0, 0⟩) = true by decide]
          go_enter Try.func14, Try.ntmps14
          go_wp2
          go_ret
          exact ⟨rfl, below1 _ _⟩
        · rw [HE.out, eok_0 _ _ _ (fun h => hf h.2.2)]
          have d0 : (fr == 0) = false := by simpa using hf
          clear hf
          go_enter Try.func14, Try.ntmps14
          go_wp2
          go_ret
          exact ⟨rfl, below1 _ _⟩
      · rw [HE.out, eok_0 _ _ _ (fun h => hm h.2.1)]
        have d0 : (mb == 0) = false := by simpa using hm
        clear hm
        go_enter Try.func14, Try.ntmps14
        go_wp2
        go_ret
        exact ⟨rfl, below1 _ _⟩
    · rw [HE.out, eok_0 _ _ _ (fun h => hs h.1)]
      have d0 : (st == 0) = false := by simpa using hs
      clear hs
      go_enter Try.func14, Try.ntmps14
      go_wp2
      go_ret
      exact ⟨rfl, below1 _ _⟩
  have d0 : (k == 0) = false := by simpa using h0
  by_cases h1 : k = 1
  · subst h1
    rw [HE.out, eok_1]
    clear h0 d0
    by_cases hs : 0 ≤ st
    · have d1 : decide (0 ≤ st) = true := decide_eq_true hs
      by_cases hs2 : st < 2147483648
      · have d2 : decide (st < 2147483648) = true := decide_eq_true hs2
        by_cases hm : 0 ≤ mb
        · have d3 : decide (0 ≤ mb) = true := decide_eq_true hm
          by_cases hm2 : mb < 255
          · have d4 : decide (mb < 255) = true := decide_eq_true hm2
            rw [show decide (PlOk st mb) = true from decide_eq_true ⟨⟨hs, hs2⟩, hm, hm2⟩]
            by_cases hf : fr = 0
            · subst hf
              clear hs hs2 hm hm2
              go_enter Try.func14, Try.ntmps14
              go_wp2
              go_ret
              exact ⟨rfl, below1 _ _⟩
            · rw [decide_eq_false hf]
              have d5 : (fr == 0) = false := by simpa using hf
              clear hs hs2 hm hm2 hf
              go_enter Try.func14, Try.ntmps14
              go_wp2
              go_ret
              exact ⟨rfl, below1 _ _⟩
          · have d4 : decide (mb < 255) = false := decide_eq_false hm2
            rw [show decide (PlOk st mb) = false from decide_eq_false (fun h => hm2 h.2.2)]
            clear hs hs2 hm hm2
            go_enter Try.func14, Try.ntmps14
            go_wp2
            go_ret
            exact ⟨rfl, below1 _ _⟩
        · have d3 : decide (0 ≤ mb) = false := decide_eq_false hm
          rw [show decide (PlOk st mb) = false from decide_eq_false (fun h => hm h.2.1)]
          clear hs hs2 hm
          go_enter Try.func14, Try.ntmps14
          go_wp2
          go_ret
          exact ⟨rfl, below1 _ _⟩
      · have d2 : decide (st < 2147483648) = false := decide_eq_false hs2
        rw [show decide (PlOk st mb) = false from decide_eq_false (fun h => hs2 h.1.2)]
        clear hs hs2
        go_enter Try.func14, Try.ntmps14
        go_wp2
        go_ret
        exact ⟨rfl, below1 _ _⟩
    · have d1 : decide (0 ≤ st) = false := decide_eq_false hs
      rw [show decide (PlOk st mb) = false from decide_eq_false (fun h => hs h.1.1)]
      clear hs
      go_enter Try.func14, Try.ntmps14
      go_wp2
      go_ret
      exact ⟨rfl, below1 _ _⟩
  have d1 : (k == 1) = false := by simpa using h1
  by_cases h2 : k = 2
  · subst h2
    clear h0 h1 d0 d1
    by_cases hf : 1 ≤ fr
    · have e1 : decide (1 ≤ fr) = true := decide_eq_true hf
      by_cases hf2 : fr ≤ 1073741824
      · have e2 : decide (fr ≤ 1073741824) = true := decide_eq_true hf2
        by_cases hs : st = 0
        · subst hs
          by_cases hm : mb = 0
          · subst hm
            rw [HE.out, show decide (EOk ⟨2, 0, 0, fr⟩) = true by unfold EOk PlOk; simp [hf, hf2]]
            clear hf hf2
            go_enter Try.func14, Try.ntmps14
            go_wp2
            go_ret
            exact ⟨rfl, below1 _ _⟩
          · rw [HE.out, eok_2 _ _ _ (fun h => hm h.2.2)]
            have e0 : (mb == 0) = false := by simpa using hm
            clear hf hf2 hm
            go_enter Try.func14, Try.ntmps14
            go_wp2
            go_ret
            exact ⟨rfl, below1 _ _⟩
        · rw [HE.out, eok_2 _ _ _ (fun h => hs h.2.1)]
          have e0 : (st == 0) = false := by simpa using hs
          clear hf hf2 hs
          go_enter Try.func14, Try.ntmps14
          go_wp2
          go_ret
          exact ⟨rfl, below1 _ _⟩
      · rw [HE.out, eok_2 _ _ _ (fun h => hf2 h.1.2)]
        have e2 : decide (fr ≤ 1073741824) = false := decide_eq_false hf2
        clear hf hf2
        go_enter Try.func14, Try.ntmps14
        go_wp2
        go_ret
        exact ⟨rfl, below1 _ _⟩
    · rw [HE.out, eok_2 _ _ _ (fun h => hf h.1.1)]
      have e1 : decide (1 ≤ fr) = false := decide_eq_false hf
      clear hf
      go_enter Try.func14, Try.ntmps14
      go_wp2
      go_ret
      exact ⟨rfl, below1 _ _⟩
  have d2 : (k == 2) = false := by simpa using h2
  rw [HE.out, eok_3 _ _ _ h0 h1 h2]
  clear h0 h1 h2
  go_enter Try.func14, Try.ntmps14
  go_wp2
  go_ret
  exact ⟨rfl, below1 _ _⟩
end Go.Proofs.Ytjocdbacdbhemaa
