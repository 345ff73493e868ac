/- Spans: the closure that tells them; Cut, the program's and the document's. -/
import Derived.Test.YtdcpgjkaimekbaaSpnA
import Derived.Test.YtdcpgjkaimekbaaRangeI
import Derived.RangeFuncBox
import Derived.OwnWalkIn
namespace Go.Proofs.Ytdcpgjkaimekbaa
open Go.RowKit Go.Shelf
attribute [local go_sem] Oper.semAt_some

theorem sTold_any (s a e : Int) (w : World) :
    Calls Try.prog 44 #[.int .i64 s, .int .i64 a, .int .i64 e] w fun r w' => r = .returned (.func (.func 54) #[] #[.pointer (some ⟨w.heap.size + 1, 0, none⟩), .pointer (some ⟨w.heap.size + 2, 0, none⟩), .pointer (some ⟨w.heap.size, 0, none⟩)]) ∧ w' = ((w.alloc (.cells #[.int .i64 s] 2)).alloc (.cells #[.int .i64 a] 2)).alloc (.cells #[.int .i64 e] 2) := by
  go_enter Try.func44, Try.ntmps44
  go_wp2
  go_ret
  exact ⟨by simp, rfl⟩
def spV (x : SP) : Value := .agg #[.int .i64 x.b, .int .i64 x.f, .int .i64 x.t]
def encsS (L : List SP) (k : Nat) : Array Value := #[spV (L.getD k SP.zero)]
/-- What the closure reads. -/
def RDs (B0 : Nat) (s a e : Nat) (_ : Nat) (A : World) : Prop := A.cell? ⟨B0, 0, none⟩ = some (.int .i64 (s : Int)) ∧ A.cell? ⟨B0 + 1, 0, none⟩ = some (.int .i64 (a : Int)) ∧ A.cell? ⟨B0 + 2, 0, none⟩ = some (.int .i64 (e : Int))
/-- The words of one step, in the walk's spelling. -/
theorem stp_words {s o n : Nat} (hs : 0 < s) (hn : n ≠ 0) : ∃ q m k : Nat, q = o / s ∧ m = o % s ∧ k = stp s o n ∧ m < s ∧ 0 < k ∧ k ≤ n ∧ m + k ≤ s ∧ (o : Int) % (s : Int) = (m : Int) ∧ (o : Int).tmod (s : Int) = (m : Int) ∧ (o : Int) / (s : Int) = (q : Int) ∧ (o : Int).tdiv (s : Int) = (q : Int) ∧ min ((s : Int) - (m : Int)) (n : Int) = (k : Int) ∧ m ≤ o ∧ q ≤ o := by
  refine ⟨o / s, o % s, stp s o n, rfl, rfl, rfl, Nat.mod_lt o hs, stp_pos hs hn, stp_le s o n, ?_, rfl, ?_, rfl, ?_, ?_, Nat.mod_le o s, Nat.div_le_self o s⟩
  · have := Nat.mod_lt o hs; unfold stp; omega
  · rw [Int.tmod_eq_emod_of_nonneg (by omega)]; rfl
  · rw [Int.tdiv_eq_ediv_of_nonneg (by omega)]; rfl
  · have := Nat.mod_lt o hs; unfold stp; omega
set_option maxRecDepth 100000 in
set_option maxHeartbeats 4000000 in
theorem sTold_tells (F : Fence) (n : Nat) (hf : F.fn 54) (hro : F.round = none) (hn : 1 ≤ n) (B0 s a m : Nat) (hs : 0 < s) (hs2 : s ≤ 65536) (ha : a ≤ 1099511627776) (hm : m ≤ 1099511627776) (w : World) :
    TellsI F n Try.prog 54 #[.pointer (some ⟨B0 + 1, 0, none⟩), .pointer (some ⟨B0 + 2, 0, none⟩), .pointer (some ⟨B0, 0, none⟩)] (encsS (cutN s a m)) (cutN s a m).length (RDs B0 s a (a + m)) w := by
  intro l J Jx W hW hJb hJd hY h0
  obtain ⟨L, hL⟩ : ∃ L, L = cutN s a m := ⟨_, rfl⟩
  rw [← hL] at hY ⊢
  have HL := Lib.hid hL
  have HY := Lib.hid hY
  have HJD := Lib.hid hJd
  have H0 := Lib.hid h0
  obtain ⟨E, hE⟩ : ∃ E, E = a + m := ⟨_, rfl⟩
  have HE := Lib.hid hE
  have hE2 : E ≤ 2199023255552 := by omega
  refine callsIn_of_wp Try.func54 rfl hf ?_ hro
  simp only [Try.ntmps54, List.size_toArray, List.length_cons, List.length_nil, Nat.reduceAdd, Nat.reduceSub, Array.replicate_succ, Array.replicate_zero, List.push_toArray, List.append_toArray, List.nil_append, List.cons_append]
  obtain ⟨_, hc1, _⟩ := hJd _ _ h0
  clear hL hY hJd hJb h0 hW hE
  gi_wp2
  clear hc1
  gi_loopw [5] (fun i wr => ∃ k o r : Nat, i = .int .i64 (o : Int) ∧ o + r = E ∧ L.drop k = cutN s o r ∧ k ≤ L.length ∧ J k wr) (fun i _ => E - (intOf i).toNat)
  case atStart => exact ⟨0, a, m, rfl, HE.out.symm, HL.out, Nat.zero_le _, H0.out⟩
  case round =>
    obtain ⟨k, o, r, rfl, hor, hdr, hkl, hJ⟩ := hrel
    have HJ := Lib.hid hJ
    have HDR := Lib.hid hdr
    have HKL := Lib.hid hkl
    clear hJ hdr hkl
    obtain ⟨c0, _, c2⟩ := HJD.out _ _ HJ.out
    rw [← HE.out] at c2
    by_cases hr : r = 0
    · have d0 : decide ((o : Int) < (E : Int)) = false := decide_eq_false (by omega)
      have d1 : decide (o < E) = false := decide_eq_false (by omega)
      have HDN : Hid (k = L.length) := Lib.hid (by have h1 := HDR.out; rw [hr] at h1; have := cut_done h1; have := HKL.out; omega)
      have HJN := Lib.hid (show J L.length wr by rw [← HDN.out]; exact HJ.out)
      clear hr hor c0
      gi_wp2
      go_end0
      exact ⟨⟨_, rfl⟩, .inl HJN.out⟩
    · have d0 : decide ((o : Int) < (E : Int)) = true := decide_eq_true (by omega)
      have d1 : decide (o < E) = true := decide_eq_true (by omega)
      obtain ⟨h1, h2, h3⟩ := cut_drop hs HDR.out hr
      obtain ⟨q, u, t, hq, hu, ht, hus, ht0, htr, hut, e1, e2, e3, e4, _, huo, hqo⟩ := stp_words (o := o) hs hr
      obtain ⟨fn, tmps, assign, body, hy, hRR⟩ := HY.out _ wr HJ.out h1
      unfold encsS spV at hy
      rw [h2, ← hq, ← hu, ← ht] at hy
      rw [← ht] at h3
      dsimp only at hy
      have HD3 := Lib.hid h3
      have HLT := Lib.hid h1
      have e5 : (o : Int) - ((o : Int) - (u : Int)) = (u : Int) := by omega
      have HT := Lib.hid (show 0 < t ∧ t ≤ r ∧ o + r = E from ⟨ht0, htr, hor⟩)
      have hts : t = min (s - u) r := by rw [ht, hu]; rfl
      clear h1 h2 h3 hq hu ht
      by_cases hle : (o : Int) - (u : Int) + (s : Int) ≤ (E : Int)
      · have hc : u + t = s := by omega
        have e6 : (o : Int) - (u : Int) + (s : Int) - ((o : Int) - (u : Int)) = (s : Int) := by omega
        have HN : Hid ((o : Int) - (u : Int) + (s : Int) = ((o + t : Nat) : Int)) := Lib.hid (by omega)
        rw [hc] at hy
        clear hts hc hut
        gi_wp2
        refine hRR.mono ?_
        rintro e W3 (⟨rfl, hJ3⟩ | ⟨rfl, hJx3⟩)
        · have HJ3 := Lib.hid hJ3
          clear hJ3 hRR hy
          gi_wp2
          go_roundw
          case rel => exact ⟨k + 1, o + t, r - t, congrArg (Value.int .i64) HN.out, by have := HT.out; omega, HD3.out, HLT.out, HJ3.out⟩
          case measure => simp [intOf]; have := HT.out; have := HN.out; omega
        · gi_wp2
          refine bodyPost_ret (results_none rfl _ _ _) rfl ?_
          exact ⟨⟨_, rfl⟩, .inr ⟨_, HLT.out, hJx3⟩⟩
      · have hc : t = r := by omega
        have hlt : (E : Int) < (o : Int) - (u : Int) + (s : Int) := by omega
        have e6 : (E : Int) - ((o : Int) - (u : Int)) = ((u + t : Nat) : Int) := by omega
        obtain ⟨y, hy0⟩ : ∃ y : Nat, y = u + t := ⟨_, rfl⟩
        rw [← hy0] at hy e6
        have HN : Hid ((E : Int) = ((o + t : Nat) : Int)) := Lib.hid (by omega)
        clear hts hc hut hle hy0
        gi_wp2
        refine hRR.mono ?_
        rintro e W3 (⟨rfl, hJ3⟩ | ⟨rfl, hJx3⟩)
        · have HJ3 := Lib.hid hJ3
          clear hJ3 hRR hy
          gi_wp2
          go_roundw
          case rel => exact ⟨k + 1, o + t, r - t, congrArg (Value.int .i64) HN.out, by have := HT.out; omega, HD3.out, HLT.out, HJ3.out⟩
          case measure => simp [intOf]; have := HT.out; omega
        · gi_wp2
          refine bodyPost_ret (results_none rfl _ _ _) rfl ?_
          exact ⟨⟨_, rfl⟩, .inr ⟨_, HLT.out, hJx3⟩⟩
end Go.Proofs.Ytdcpgjkaimekbaa
