/- Spans: Whole, the program's and the document's. -/
import Derived.Test.YtdcpgjkaimekbaaSpnD
import Derived.Test.YtdcpgjkaimekbaaBk
namespace Go.Proofs.Ytdcpgjkaimekbaa
open Go.RowKit

theorem who_no {s off n : Int} (h : rightB s off n = false) : whoE s off n = 1 ∧ whoR s off n = RG.zero := by
  have h1 : whoE s off n = 1 := if_neg (fun e => by rw [(rightB_iff _ _ _).2 e] at h; cases h)
  exact ⟨h1, if_neg (by rw [h1]; decide)⟩
theorem who_yes {S O N : Nat} (hs : 0 < S) (h : rightB (S : Int) (O : Int) (N : Int) = true) : whoE (S : Int) (O : Int) (N : Int) = 0 ∧ whoR (S : Int) (O : Int) (N : Int) = if (O + N) / S ≤ (O + S - 1) / S then RG.zero else ⟨((O + S - 1) / S : Nat), ((O + N) / S : Nat)⟩ := by
  have h1 : whoE (S : Int) (O : Int) (N : Int) = 0 := if_pos ((rightB_iff _ _ _).1 h)
  refine ⟨h1, ?_⟩
  unfold whoR
  rw [if_pos h1]
  have e1 : ((O : Int) + (N : Int)) / (S : Int) = (((O + N) / S : Nat) : Int) := by rw [Int.natCast_ediv]; push_cast; rfl
  have e2 : ((O : Int) + (S : Int) - 1) / (S : Int) = (((O + S - 1) / S : Nat) : Int) := by
    rw [Int.natCast_ediv, show ((O + S - 1 : Nat) : Int) = (O : Int) + (S : Int) - 1 by omega]
  rw [e1, e2]
  by_cases h2 : (O + N) / S ≤ (O + S - 1) / S
  · rw [if_pos h2, if_pos (by exact_mod_cast h2)]
  · rw [if_neg h2, if_neg (by exact_mod_cast h2)]
theorem div_words (x s : Nat) : ∃ q : Nat, q = x / s ∧ q ≤ x ∧ (x : Int) / (s : Int) = (q : Int) ∧ (x : Int).tdiv (s : Int) = (q : Int) :=
  ⟨x / s, rfl, Nat.div_le_self x s, rfl, by rw [Int.tdiv_eq_ediv_of_nonneg (by omega)]; rfl⟩
set_option maxRecDepth 100000 in
set_option maxHeartbeats 2000000 in
theorem spanWhole_no (s off n : Int) (w : World) (h : rightB s off n = false) :
    Calls Try.prog 25 #[.int .i64 s, .int .i64 off, .int .i64 n] w fun e w' => e = .returned (.tuple #[.agg #[.int .i64 0, .int .i64 0], .int .i64 1]) ∧ Below w.heap.size w w' := by
  have hS := isSize_any s
  have hO := mayBe_any off
  have hN := mayBe_any n
  have HK := Lib.hid (BkC.new w [.int .i64 0, .int .i64 0] 51)
  have HB := Lib.hid (below_new w (.cells #[.int .i64 0, .int .i64 0] 51))
  have y0 := HK.out.c 0 _ rfl
  have y1 := HK.out.c 1 _ rfl
  have f0 := HK.out.f 0 (by decide)
  have f1 := HK.out.f 1 (by decide)
  unfold rightB at h
  generalize szOk s = a at h hS
  generalize byOk off = b at h hO
  generalize byOk n = c at h hN
  rcases three_false h with rfl | ⟨rfl, rfl⟩ | ⟨rfl, rfl, rfl⟩
  all_goals
    go_enter Try.func25, Try.ntmps25
    go_wp2_with (first
      | (go_at_call 42; (with_reducible refine (hS _).mono ?_); rintro e w1 ⟨rfl, hx⟩; subst w1)
      | (go_at_call 43; (with_reducible refine (hO _).mono ?_); rintro e w1 ⟨rfl, hx⟩; subst w1)
      | (go_at_call 43; (with_reducible refine (hN _).mono ?_); rintro e w1 ⟨rfl, hx⟩; subst w1))
    refine bodyPost_ret (v := .tuple #[.agg #[.int .i64 0, .int .i64 0], .int .i64 1]) (by simp [results, Try.results25, go_sem]) rfl ?_
    exact ⟨rfl, HB.out⟩
/-- What both forms of Whole reckon. -/
theorem who_words {S O N : Nat} (hs : 0 < S) (hs2 : S ≤ 65536) (ho : O ≤ 1099511627776) (hn : N ≤ 1099511627776) : ∃ a b : Nat, a = (O + S - 1) / S ∧ b = (O + N) / S ∧ a ≤ 2199023255552 ∧ b ≤ 2199023255552 ∧
    ((O : Int) + (S : Int) - 1) / (S : Int) = (a : Int) ∧ ((O : Int) + (S : Int) - 1).tdiv (S : Int) = (a : Int) ∧ ((O : Int) + (N : Int)) / (S : Int) = (b : Int) ∧ ((O : Int) + (N : Int)).tdiv (S : Int) = (b : Int) := by
  obtain ⟨a, h1, h2, h3, h4⟩ := div_words (O + S - 1) S
  obtain ⟨b, g1, g2, g3, g4⟩ := div_words (O + N) S
  rw [show ((O + S - 1 : Nat) : Int) = (O : Int) + (S : Int) - 1 by omega] at h3 h4
  rw [show ((O + N : Nat) : Int) = (O : Int) + (N : Int) by omega] at g3 g4
  exact ⟨a, b, h1, g1, by omega, by omega, h3, h4, g3, g4⟩
set_option maxRecDepth 100000 in
set_option maxHeartbeats 2000000 in
theorem spanWhole_yes (S O N : Nat) (w : World) (h : rightB (S : Int) (O : Int) (N : Int) = true) :
    Calls Try.prog 25 #[.int .i64 (S : Int), .int .i64 (O : Int), .int .i64 (N : Int)] w fun e w' => e = .returned (.tuple #[.agg #[.int .i64 (whoR (S : Int) (O : Int) (N : Int)).f, .int .i64 (whoR (S : Int) (O : Int) (N : Int)).t], .int .i64 0]) ∧ Below w.heap.size w w' := by
  obtain ⟨h1, h2, h3⟩ := (rightB_iff _ _ _).1 h
  have hS := isSize_any (S : Int)
  have hO := mayBe_any (O : Int)
  have hN := mayBe_any (N : Int)
  rw [h1] at hS
  rw [h2] at hO
  rw [h3] at hN
  rw [szOk_iff] at h1
  rw [byOk_iff] at h2 h3
  have hs : 0 < S := by omega
  have hW := (who_yes hs h).2
  obtain ⟨a, b, ha, hb, ha2, hb2, e1, e2, e3, e4⟩ := who_words (S := S) (O := O) (N := N) hs (by omega) (by omega) (by omega)
  rw [← ha, ← hb] at hW
  have hO2 : O ≤ 1099511627776 := by omega
  have hN2 : N ≤ 1099511627776 := by omega
  have hS2 : S ≤ 65536 := by omega
  have HK := Lib.hid (BkC.new w [.int .i64 0, .int .i64 0] 51)
  have HB := Lib.hid (below_new w (.cells #[.int .i64 0, .int .i64 0] 51))
  have y0 := HK.out.c 0 _ rfl
  have y1 := HK.out.c 1 _ rfl
  have f0 := HK.out.f 0 (by decide)
  have f1 := HK.out.f 1 (by decide)
  have d0 : ((S : Int) == 0) = false := by rw [beq_eq_false_iff_ne]; omega
  by_cases hab : b ≤ a
  · rw [if_pos hab] at hW
    rw [hW]
    have d1 : decide ((b : Int) ≤ (a : Int)) = true := decide_eq_true (by omega)
    have d2 : decide (b ≤ a) = true := decide_eq_true hab
    clear h h1 h2 h3 ha hb hW
    go_enter Try.func25, Try.ntmps25
    go_wp2_with (first
      | (go_at_call 42; (with_reducible refine (hS _).mono ?_); rintro e w1 ⟨rfl, hx⟩; subst w1)
      | (go_at_call 43; (with_reducible refine (hO _).mono ?_); rintro e w1 ⟨rfl, hx⟩; subst w1)
      | (go_at_call 43; (with_reducible refine (hN _).mono ?_); rintro e w1 ⟨rfl, hx⟩; subst w1))
    go_quiet (fail)
    go_wp2
    have hz := ((HK.out.below (below_drewN (Below.refl _ _) nq)).set 0 (by decide) (.int .i64 0)).set 1 (show 1 < 2 by decide) (.int .i64 0)
    have z0 := hz.c 0 _ rfl
    have z1 := hz.c 1 _ rfl
    refine bodyPost_ret (v := .tuple #[.agg #[.int .i64 0, .int .i64 0], .int .i64 0]) (by simp [results, Try.results25, go_sem, z0, z1]) rfl ?_
    exact ⟨rfl, ((below_drewN HB.out nq).setCell (p := ⟨w.heap.size, 0, none⟩) (Nat.le_refl _) _).setCell (p := ⟨w.heap.size, 1, none⟩) (Nat.le_refl _) _⟩
  · rw [if_neg hab] at hW
    rw [hW]
    have d1 : decide ((b : Int) ≤ (a : Int)) = false := decide_eq_false (by omega)
    have d2 : decide (b ≤ a) = false := decide_eq_false hab
    clear h h1 h2 h3 ha hb hW
    go_enter Try.func25, Try.ntmps25
    go_wp2_with (first
      | (go_at_call 42; (with_reducible refine (hS _).mono ?_); rintro e w1 ⟨rfl, hx⟩; subst w1)
      | (go_at_call 43; (with_reducible refine (hO _).mono ?_); rintro e w1 ⟨rfl, hx⟩; subst w1)
      | (go_at_call 43; (with_reducible refine (hN _).mono ?_); rintro e w1 ⟨rfl, hx⟩; subst w1))
    go_quiet (fail)
    go_wp2
    have hz := ((HK.out.below (below_drewN (Below.refl _ _) nq)).set 0 (by decide) (.int .i64 (a : Int))).set 1 (show 1 < 2 by decide) (.int .i64 (b : Int))
    have z0 := hz.c 0 _ rfl
    have z1 := hz.c 1 _ rfl
    refine bodyPost_ret (v := .tuple #[.agg #[.int .i64 (a : Int), .int .i64 (b : Int)], .int .i64 0]) (by simp [results, Try.results25, go_sem, z0, z1]) rfl ?_
    exact ⟨rfl, ((below_drewN HB.out nq).setCell (p := ⟨w.heap.size, 0, none⟩) (Nat.le_refl _) _).setCell (p := ⟨w.heap.size, 1, none⟩) (Nat.le_refl _) _⟩
theorem spanWhole_any (s off n : Int) (w : World) :
    Calls Try.prog 25 #[.int .i64 s, .int .i64 off, .int .i64 n] w fun e w' => e = .returned (.tuple #[.agg #[.int .i64 (whoR s off n).f, .int .i64 (whoR s off n).t], .int .i64 (whoE s off n)]) ∧ Below w.heap.size w w' := by
  cases h : rightB s off n
  · rw [(who_no h).1, (who_no h).2]
    exact spanWhole_no s off n w h
  · obtain ⟨h1, h2, h3⟩ := (rightB_iff _ _ _).1 h
    rw [szOk_iff] at h1
    rw [byOk_iff] at h2 h3
    obtain ⟨S, rfl⟩ : ∃ S : Nat, s = (S : Int) := ⟨s.toNat, by omega⟩
    obtain ⟨O, rfl⟩ : ∃ O : Nat, off = (O : Int) := ⟨off.toNat, by omega⟩
    obtain ⟨N, rfl⟩ : ∃ N : Nat, n = (N : Int) := ⟨n.toNat, by omega⟩
    rw [(who_yes (by omega) h).1]
    exact spanWhole_yes S O N w h
/-- The document's rounding up. -/
theorem up_words {S O : Nat} (hs : 0 < S) : ∃ p m : Nat, (O : Int) / (S : Int) = (p : Int) ∧ (O : Int).tdiv (S : Int) = (p : Int) ∧ (O : Int) % (S : Int) = (m : Int) ∧ (O : Int).tmod (S : Int) = (m : Int) ∧ p ≤ O ∧ (O + S - 1) / S = if m = 0 then p else p + 1 :=
  ⟨O / S, O % S, rfl, by rw [Int.tdiv_eq_ediv_of_nonneg (by omega)]; rfl, rfl, by rw [Int.tmod_eq_emod_of_nonneg (by omega)]; rfl, Nat.div_le_self O S, up_div hs⟩
set_option maxRecDepth 100000 in
set_option maxHeartbeats 4000000 in
theorem rWhole_any (s off n : Int) (w : World) :
    Calls Try.prog 26 #[.int .i64 s, .int .i64 off, .int .i64 n] w fun e w' => e = .returned (.tuple #[.agg #[.int .i64 (whoR s off n).f, .int .i64 (whoR s off n).t], .int .i64 (whoE s off n)]) ∧ Below w.heap.size w w' := by
  have hR := right_any s off n
  have HK := Lib.hid (BkC.new w [.int .i64 0, .int .i64 0] 51)
  have HB := Lib.hid (below_new w (.cells #[.int .i64 0, .int .i64 0] 51))
  have y0 := HK.out.c 0 _ rfl
  have y1 := HK.out.c 1 _ rfl
  have f0 := HK.out.f 0 (by decide)
  have f1 := HK.out.f 1 (by decide)
  cases h : rightB s off n
  · rw [(who_no h).1, (who_no h).2]
    rw [h] at hR
    clear h
    go_enter Try.func26, Try.ntmps26
    go_wp2_with (go_at_call 45; (with_reducible refine (hR _).mono ?_); rintro e w1 ⟨rfl, hx⟩; subst w1)
    refine bodyPost_ret (v := .tuple #[.agg #[.int .i64 0, .int .i64 0], .int .i64 1]) (by simp [results, Try.results26, go_sem]) rfl ?_
    exact ⟨rfl, HB.out⟩
  · obtain ⟨h1, h2, h3⟩ := (rightB_iff _ _ _).1 h
    rw [szOk_iff] at h1
    rw [byOk_iff] at h2 h3
    obtain ⟨S, rfl⟩ : ∃ S : Nat, s = (S : Int) := ⟨s.toNat, by omega⟩
    obtain ⟨O, rfl⟩ : ∃ O : Nat, off = (O : Int) := ⟨off.toNat, by omega⟩
    obtain ⟨N, rfl⟩ : ∃ N : Nat, n = (N : Int) := ⟨n.toNat, by omega⟩
    have hs : 0 < S := by omega
    have hE := (who_yes hs h).1
    have hW := (who_yes hs h).2
    rw [hE]
    rw [h] at hR
    obtain ⟨a, b, ha, hb, ha2, hb2, _, _, e3, e4⟩ := who_words (S := S) (O := O) (N := N) hs (by omega) (by omega) (by omega)
    obtain ⟨p, m, e5, e6, e7, e8, hp, hm⟩ := up_words (S := S) (O := O) hs
    rw [← ha, ← hb] at hW
    rw [← ha] at hm
    have hO2 : O ≤ 1099511627776 := by omega
    have hN2 : N ≤ 1099511627776 := by omega
    have hS2 : S ≤ 65536 := by omega
    have d0 : ((S : Int) == 0) = false := by rw [beq_eq_false_iff_ne]; omega
    have HW := Lib.hid hW
    have HM := Lib.hid hm
    clear h h1 h2 h3 ha hb hW hm hE
    have key : ∀ (d : Bool), d = decide (0 < m) → Calls Try.prog 26 #[.int .i64 (S : Int), .int .i64 (O : Int), .int .i64 (N : Int)] w fun e w' => e = .returned (.tuple #[.agg #[.int .i64 (whoR (S : Int) (O : Int) (N : Int)).f, .int .i64 (whoR (S : Int) (O : Int) (N : Int)).t], .int .i64 0]) ∧ Below w.heap.size w w' := by
      intro d hd
      have d3 : decide ((0 : Int) < (m : Int)) = d := by rw [hd]; simp
      have d4 : decide (0 < m) = d := hd.symm
      have hap : (a : Int) = if d = true then (p : Int) + 1 else (p : Int) := by
        have := HM.out
        by_cases h0 : m = 0
        · rw [if_pos h0] at this; rw [hd, if_neg (by simp; omega)]; omega
        · rw [if_neg h0] at this; rw [hd, if_pos (by simp; omega)]; omega
      by_cases hab : b ≤ a
      · have hW := HW.out
        rw [if_pos hab] at hW
        rw [hW]
        have d1 : decide ((b : Int) ≤ (a : Int)) = true := decide_eq_true (by omega)
        have d2 : (b : Int) ≤ (a : Int) := by omega
        clear HW HM hd hW hab
        cases d
        · rw [if_neg (by decide)] at hap
          rw [hap] at d1 d2
          clear hap
          go_enter Try.func26, Try.ntmps26
          go_wp2_with (go_at_call 45; (with_reducible refine (hR _).mono ?_); rintro e w1 ⟨rfl, hx⟩; subst w1)
          refine bodyPost_ret (v := .tuple #[.agg #[.int .i64 0, .int .i64 0], .int .i64 0]) (by simp [results, Try.results26, go_sem]) rfl ?_
          exact ⟨rfl, HB.out⟩
        · rw [if_pos rfl] at hap
          rw [hap] at d1 d2
          clear hap
          go_enter Try.func26, Try.ntmps26
          go_wp2_with (go_at_call 45; (with_reducible refine (hR _).mono ?_); rintro e w1 ⟨rfl, hx⟩; subst w1)
          refine bodyPost_ret (v := .tuple #[.agg #[.int .i64 0, .int .i64 0], .int .i64 0]) (by simp [results, Try.results26, go_sem]) rfl ?_
          exact ⟨rfl, HB.out⟩
      · have hW := HW.out
        rw [if_neg hab] at hW
        rw [hW]
        have d1 : decide ((b : Int) ≤ (a : Int)) = false := decide_eq_false (by omega)
        have d2 : (a : Int) < (b : Int) := by omega
        clear HW HM hd hW hab
        cases d
        · rw [if_neg (by decide)] at hap
          rw [hap] at d1 d2
          show Calls _ _ _ _ fun e w' => e = .returned (.tuple #[.agg #[.int .i64 (a : Int), .int .i64 (b : Int)], .int .i64 0]) ∧ _
          rw [hap]
          clear hap
          go_enter Try.func26, Try.ntmps26
          go_wp2_with (go_at_call 45; (with_reducible refine (hR _).mono ?_); rintro e w1 ⟨rfl, hx⟩; subst w1)
          refine bodyPost_ret (v := .tuple #[.agg #[.int .i64 (p : Int), .int .i64 (b : Int)], .int .i64 0]) (by simp [results, Try.results26, go_sem]) rfl ?_
          exact ⟨rfl, below_new w _⟩
        · rw [if_pos rfl] at hap
          rw [hap] at d1 d2
          show Calls _ _ _ _ fun e w' => e = .returned (.tuple #[.agg #[.int .i64 (a : Int), .int .i64 (b : Int)], .int .i64 0]) ∧ _
          rw [hap]
          clear hap
          go_enter Try.func26, Try.ntmps26
          go_wp2_with (go_at_call 45; (with_reducible refine (hR _).mono ?_); rintro e w1 ⟨rfl, hx⟩; subst w1)
          refine bodyPost_ret (v := .tuple #[.agg #[.int .i64 ((p : Int) + 1), .int .i64 (b : Int)], .int .i64 0]) (by simp [results, Try.results26, go_sem]) rfl ?_
          exact ⟨rfl, below_new w _⟩
    exact key _ rfl
end Go.Proofs.Ytdcpgjkaimekbaa
