/- Pools: the document's Ids. -/
import Derived.Test.YtmnjcmpikbihaaaPoolJ
namespace Go.Proofs.Ytmnjcmpikbihaaa
open Go.RowKit Go.Maps

theorem one_intP (x : Int) : ∀ u ∈ ([.int .i64 x] : List Value), u.oneCell' = true := by
  intro u hu
  simp only [List.mem_cons, List.not_mem_nil, or_false] at hu
  subst hu; rfl
set_option maxHeartbeats 4000000 in
set_option maxRecDepth 100000 in
theorem refIds_any {w : World} {v : Value} {L : PL} (hv : OneS w v L) (n : Int) (hn : L.length ≤ 1000) :
    Calls Try.prog 15 #[.agg #[v, .int .i64 n]] w fun e w' => ∃ u, e = .returned u ∧ IdxS w' u (idsP L) ∧ Below w.heap.size w w' := by
  obtain ⟨A, c1, rfl, k1, k2, k3⟩ := hv
  obtain ⟨i0, hi, hz⟩ := Option.map_eq_some_iff.1 infoIn
  simp only [Prod.mk.injEq] at hz
  obtain ⟨hz0, hz1, hz2⟩ := hz
  obtain ⟨N, hN⟩ : ∃ N, N = L.length := ⟨_, rfl⟩
  have HN := Lib.hid hN
  rw [← hN] at k1 hn ⊢
  have HNN := Lib.hid hn
  have HK := Lib.hid k3
  have HB0 := Lib.hid (below1P w (.cells #[.slice A N c1, .int .i64 n] 28))
  clear hN k3 hn
  go_enter Try.func15, Try.ntmps15
  go_wp2
  go_loopw [3, 9] (fun vx ix wr => ∃ (j : Nat) (z : Value), j ≤ N ∧ ix = .int .i64 (j : Int) ∧ z = vx ∧ wr.ownsRow w.heap.size 3 1 z j ((idsP (L.take j)).map (Value.int .i64)) ∧ Below w.heap.size w wr) (fun _ ix _ => N - idxOf ix)
  case atStart => exact ⟨0, _, Nat.zero_le _, rfl, rfl, World.ownsRow_nil _ _ _ _, HB0.out⟩
  case round =>
    obtain ⟨j, z, hj, rfl, rfl, ho, hb⟩ := hrel
    have HB := Lib.hid hb
    have HO := Lib.hid ho
    clear hb ho HB0
    by_cases hlt : j < N
    · obtain ⟨g, o, rfl, hglt, hk⟩ := HK.out.resolve_left (by intro e; have := HN.out; rw [e] at this; simp at this; omega)
      have hjL : j < L.length := by rw [← HN.out]; exact hlt
      have hc : ∀ q u, (enc1 (L.getD j zero1))[q]? = some u → wr.cell? ⟨g, o + j * 2 + q, none⟩ = some u := fun q u hu => (HB.out.cell (p := ⟨g, o + j * 2 + q, none⟩) hglt).trans (hk j hjL q u hu)
      have hst := idsP_take hjL
      generalize L.getD j zero1 = p at hc hst
      obtain ⟨px, pl⟩ := p
      have q0 : wr.cell? ⟨g, o + j * 2, none⟩ = some (.int .i64 px) := hc 0 _ rfl
      have q1 : wr.cell? ⟨g, o + j * 2 + 1, none⟩ = some (.string ⟨pl.toArray⟩) := hc 1 _ rfl
      have HST : Hid ((idsP (L.take (j + 1))).map (Value.int .i64) = (idsP (L.take j)).map (Value.int .i64) ++ [.int .i64 px]) := Lib.hid (by rw [hst, List.map_append]; rfl)
      have hi0 : (0 : Int) ≤ (j : Int) := by omega
      have hi1 : (j : Int) < (N : Int) := by omega
      have hj1 : j + 1 ≤ N := hlt
      have hms : N - (j + 1) < N - j := by omega
      have hj1000 : j ≤ 1000 := by have := HNN.out; omega
      have HJ : Hid (j + 1 ≤ N ∧ N - (j + 1) < N - j ∧ j + 1 ≤ maxLen ∧ (j + 1) * 8 ≤ 140737488355328) := Lib.hid ⟨hj1, hms, by unfold maxLen; omega, by omega⟩
      obtain ⟨BX, hBX⟩ : ∃ BX, BX = wr.alloc (.cells #[.int .i64 px, .string ⟨pl.toArray⟩] 52) := ⟨_, rfl⟩
      have hbx : Below w.heap.size w BX := by rw [hBX]; exact HB.out.trans ((below1P wr _).mono HB.out.size)
      have hox : BX.ownsRow w.heap.size 3 1 z j ((idsP (L.take j)).map (Value.int .i64)) := by rw [hBX]; exact HO.out.alloc _
      have hnew := new_cells BX [.int .i64 px] 3
      have hsz : w.heap.size ≤ (BX.alloc (.cells #[.int .i64 px] 3)).heap.size := by have := hbx.size; simp; omega
      have HBX := Lib.hid (hbx.alloc hbx.size (.cells #[.int .i64 px] 3))
      have HOX := Lib.hid (hox.alloc (.cells #[.int .i64 px] 3))
      have HNW := Lib.hid hnew
      have HSZ := Lib.hid hsz
      have hbs : BX.heap.size = wr.heap.size + 1 := by rw [hBX]; simp
      rw [hbs] at HNW
      rw [hBX] at HBX HOX HNW HSZ
      obtain ⟨hw1, hw2⟩ := nextP j hj1000
      clear hk hc hjL hj1 hms hst hBX hbx hox hnew hsz hbs
      go_wp2_with (at_builtin; (refine wpList_append_own _ rfl _ _ 29 rfl w.heap.size 3 i0 _ 1 8 Try.underlying29 hi hz0 hz1 hz2 rfl (by decide) _ _ _ rfl HOX.out ⟨wr.heap.size + 1, 0, none⟩ 1 1 [.int .i64 px] rfl rfl HNW.out (one_intP px) HJ.out.2.2.1 HJ.out.2.2.2 HSZ.out ?_); intro v' w3 hown3 hgrow _; have HB3 : Hid (Below w.heap.size w w3) := Lib.hid (HBX.out.grown hgrow HSZ.out (fun g hg => (World.ownsRow.lt HOX.out g hg).1)); have HO3 := Lib.hid hown3; clear hown3 hgrow)
      go_roundw
      case rel => exact ⟨j + 1, v', HJ.out.1, by go_num, rfl, by rw [HST.out]; exact HO3.out, HB3.out⟩
      case measure => have h := HJ.out.2.1; clear hw1 hw2; simp only [idxOf]; omega
    · obtain rfl : j = N := by omega
      have hno : ¬ ((j : Int) < (j : Int)) := by omega
      have e : L.take j = L := by rw [HN.out, List.take_length]
      have ho := HO.out
      rw [e] at ho
      have HO2 := Lib.hid ho
      clear ho e
      go_wp2
      go_ret
      exact ⟨_, rfl, idxS_of HO2.out, HB.out⟩
end Go.Proofs.Ytmnjcmpikbihaaa
