/- Pools: the document's Get, Ids, Bytes. -/
import Derived.Test.YtmnjcmpikbihaaaPoolG
namespace Go.Proofs.Ytmnjcmpikbihaaa
open Go.RowKit Go.Maps

def enc1 (p : Int × List UInt8) : List Value := [.int .i64 p.1, .string ⟨p.2.toArray⟩]
def zero1 : Int × List UInt8 := (0, [])
theorem enc1_len (p : Int × List UInt8) : (enc1 p).length = 2 := rfl
theorem enc1_one (p : Int × List UInt8) : ∀ u ∈ enc1 p, u.oneCell' = true := by
  intro u hu
  simp only [enc1, List.mem_cons, List.not_mem_nil, or_false] at hu
  rcases hu with rfl | rfl <;> rfl
/-- A slice that reads as these data. -/
abbrev OneS (w : World) (v : Value) (L : PL) : Prop := StS 2 enc1 zero1 w v L
theorem getP_at : ∀ (L : PL) (j : Nat) (x : Int), j < L.length → (∀ i, i < j → (L.getD i zero1).1 ≠ x) → (L.getD j zero1).1 = x → getP L x = some (L.getD j zero1).2
  | p :: r, 0, x, _, _, h => by
    have h' : p.1 = x := h
    unfold getP
    rw [List.find?_cons, show decide (p.1 = x) = true by simp [h']]
    rfl
  | p :: r, j + 1, x, hj, hb, h => by
    have h0 : p.1 ≠ x := hb 0 (by omega)
    unfold getP
    rw [List.find?_cons, show decide (p.1 = x) = false by simp [h0]]
    exact getP_at r j x (by simpa using hj) (fun i hi => hb (i + 1) (by omega)) h
theorem getP_off {L : PL} {x : Int} (hb : ∀ i, i < L.length → (L.getD i zero1).1 ≠ x) : getP L x = none := by
  refine getP_none fun h => ?_
  unfold idsP at h
  obtain ⟨p, hp, e⟩ := List.mem_map.1 h
  obtain ⟨i, hi, rfl⟩ := List.mem_iff_getElem.1 hp
  have := hb i hi
  rw [List.getD, List.getElem?_eq_getElem hi] at this
  exact this e
set_option maxHeartbeats 4000000 in
set_option maxRecDepth 100000 in
theorem refGet_any {w : World} {v : Value} {L : PL} (hv : OneS w v L) (n x : Int) (hn : L.length ≤ 1000) :
    Calls Try.prog 8 #[.agg #[v, .int .i64 n], .int .i64 x] w fun e w' => e = .returned (.tuple #[.string ⟨(getV L x).toArray⟩, .int .i64 (getE L x)]) ∧ Below w.heap.size w w' := by
  obtain ⟨A, c1, rfl, k1, k2, k3⟩ := hv
  obtain ⟨N, hN⟩ : ∃ N, N = L.length := ⟨_, rfl⟩
  have HN := Lib.hid hN
  rw [← hN] at k1 hn ⊢
  have HNN := Lib.hid hn
  have HK := Lib.hid k3
  obtain ⟨GV, hGV⟩ : ∃ GV, GV = getV L x := ⟨_, rfl⟩
  obtain ⟨GE, hGE⟩ : ∃ GE, GE = getE L x := ⟨_, rfl⟩
  rw [← hGV, ← hGE]
  have HV := Lib.hid hGV
  have HE := Lib.hid hGE
  have HB0 := Lib.hid (below1P w (.cells #[.slice A N c1, .int .i64 n] 28))
  clear hN k3 hGV hGE hn
  go_enter Try.func8, Try.ntmps8
  go_wp2
  go_loopw [11] (fun ix wr => ∃ j : Nat, j ≤ N ∧ ix = .int .i64 (j : Int) ∧ (∀ i, i < j → (L.getD i zero1).1 ≠ x) ∧ Below w.heap.size w wr) (fun ix _ => N - idxOf ix)
  case atStart => exact ⟨0, Nat.zero_le _, rfl, (fun i hi => absurd hi (by omega)), HB0.out⟩
  case round =>
    obtain ⟨j, hj, rfl, hp, hb⟩ := hrel
    have HB := Lib.hid hb
    have HP := Lib.hid hp
    clear hp hb HB0
    by_cases hlt : j < N
    · obtain ⟨g, o, rfl, hglt, hk⟩ := HK.out.resolve_left (by intro e; have := HN.out; rw [e] at this; simp at this; omega)
      have hjL : j < L.length := by rw [← HN.out]; exact hlt
      have hc : ∀ q u, (enc1 (L.getD j zero1))[q]? = some u → wr.cell? ⟨g, o + j * 2 + q, none⟩ = some u := fun q u hu => (HB.out.cell (p := ⟨g, o + j * 2 + q, none⟩) hglt).trans (hk j hjL q u hu)
      have HY : Hid ((L.getD j zero1).1 = x → GV = (L.getD j zero1).2 ∧ GE = 0) := Lib.hid (fun e => by
        have h := getP_at L j x hjL HP.out e
        rw [HV.out, HE.out]
        exact ⟨by unfold getV; rw [h]; rfl, by unfold getE; rw [h]; rfl⟩)
      have HZ : Hid ((L.getD j zero1).1 ≠ x → ∀ i, i < j + 1 → (L.getD i zero1).1 ≠ x) := Lib.hid (fun h i hi => by
        by_cases e : i = j
        · rw [e]; exact h
        · exact HP.out i (by omega))
      generalize L.getD j zero1 = p at hc HY HZ
      obtain ⟨px, pl⟩ := p
      have q0 : wr.cell? ⟨g, o + j * 2, none⟩ = some (.int .i64 px) := hc 0 _ rfl
      have q1 : wr.cell? ⟨g, o + j * 2 + 1, none⟩ = some (.string ⟨pl.toArray⟩) := hc 1 _ rfl
      have hi0 : (0 : Int) ≤ (j : Int) := by omega
      have hi1 : (j : Int) < (N : Int) := by omega
      have hj1 : j + 1 ≤ N := hlt
      have hms : N - (j + 1) < N - j := by omega
      have HJ : Hid (j + 1 ≤ N ∧ N - (j + 1) < N - j) := Lib.hid ⟨hj1, hms⟩
      have hj1000 : j ≤ 1000 := by have := HNN.out; omega
      have HBX := Lib.hid (HB.out.trans ((below1P wr (.cells #[.int .i64 px, .string ⟨pl.toArray⟩] 52)).mono HB.out.size))
      clear hk hc hjL hj1 hms
      by_cases hpx : px = x
      · obtain ⟨e1, e2⟩ := HY.out hpx
        have hbq : (px == x) = true := by rw [beq_iff_eq]; exact hpx
        subst e1
        subst e2
        clear HY HZ HV HE hpx
        go_wp2
        go_ret2
        exact ⟨rfl, HBX.out⟩
      · have hbq : (px == x) = false := by rw [beq_eq_false_iff_ne]; exact hpx
        have HZ2 := Lib.hid (HZ.out hpx)
        obtain ⟨hw1, hw2⟩ := nextP j hj1000
        clear HY HZ hpx
        go_wp2
        go_roundw
        case rel => exact ⟨j + 1, HJ.out.1, by go_num, HZ2.out, HBX.out⟩
        case measure => have h := HJ.out.2; clear hw1 hw2; simp only [idxOf]; omega
    · obtain rfl : j = N := by omega
      have hno : ¬ ((j : Int) < (j : Int)) := by omega
      have h := getP_off (L := L) (x := x) (fun i hi => HP.out i (by rw [HN.out]; exact hi))
      have e1 : GV = [] := by rw [HV.out]; unfold getV; rw [h]; rfl
      have e2 : GE = 3 := by rw [HE.out]; unfold getE; rw [h]; rfl
      subst e1
      subst e2
      clear HV HE h
      go_wp2
      go_ret2
      exact ⟨rfl, HB.out⟩
theorem idsP_take {L : PL} {j : Nat} (h : j < L.length) : idsP (L.take (j + 1)) = idsP (L.take j) ++ [(L.getD j zero1).1] := by
  rw [getD_snoc zero1 h]; unfold idsP; rw [List.map_append]; rfl
theorem bytesP_take {L : PL} {j : Nat} (h : j < L.length) : bytesP (L.take (j + 1)) = bytesP (L.take j) + (L.getD j zero1).2.length := by
  rw [getD_snoc zero1 h]; unfold bytesP; rw [List.map_append, List.sum_append]; simp
theorem bytesP_le {L : PL} (j : Nat) : bytesP (L.take j) ≤ bytesP L := by
  have h : bytesP (L.take j ++ L.drop j) = bytesP (L.take j) + bytesP (L.drop j) := by unfold bytesP; rw [List.map_append, List.sum_append]
  rw [List.take_append_drop] at h
  omega
set_option maxHeartbeats 4000000 in
set_option maxRecDepth 100000 in
theorem refBytes_any {w : World} {v : Value} {L : PL} (hv : OneS w v L) (n : Int) (hn : L.length ≤ 1000) (hB : (bytesP L : Int) ≤ 4611686018427387904) :
    Calls Try.prog 17 #[.agg #[v, .int .i64 n]] w fun e w' => e = .returned (.int .i64 (bytesP L : Nat)) ∧ Below w.heap.size w w' := by
  obtain ⟨A, c1, rfl, k1, k2, k3⟩ := hv
  obtain ⟨N, hN⟩ : ∃ N, N = L.length := ⟨_, rfl⟩
  have HN := Lib.hid hN
  rw [← hN] at k1 hn ⊢
  have HNN := Lib.hid hn
  have HK := Lib.hid k3
  have HBB := Lib.hid hB
  obtain ⟨Z, hZ⟩ : ∃ Z, Z = bytesP L := ⟨_, rfl⟩
  rw [← hZ]
  have HZ := Lib.hid hZ
  have HB0 := Lib.hid (below1P w (.cells #[.slice A N c1, .int .i64 n] 28))
  clear hN k3 hZ hn hB
  go_enter Try.func17, Try.ntmps17
  go_wp2
  go_loopw [3, 9] (fun ax ix wr => ∃ j : Nat, j ≤ N ∧ ix = .int .i64 (j : Int) ∧ ax = .int .i64 (bytesP (L.take j) : Nat) ∧ Below w.heap.size w wr) (fun _ ix _ => N - idxOf ix)
  case atStart => exact ⟨0, Nat.zero_le _, rfl, rfl, HB0.out⟩
  case round =>
    obtain ⟨j, hj, rfl, rfl, hb⟩ := hrel
    have HB := Lib.hid hb
    clear hb HB0
    by_cases hlt : j < N
    · obtain ⟨g, o, rfl, hglt, hk⟩ := HK.out.resolve_left (by intro e; have := HN.out; rw [e] at this; simp at this; omega)
      have hjL : j < L.length := by rw [← HN.out]; exact hlt
      have hc : ∀ q u, (enc1 (L.getD j zero1))[q]? = some u → wr.cell? ⟨g, o + j * 2 + q, none⟩ = some u := fun q u hu => (HB.out.cell (p := ⟨g, o + j * 2 + q, none⟩) hglt).trans (hk j hjL q u hu)
      have hst := bytesP_take hjL
      have hle := bytesP_le (L := L) (j + 1)
      generalize L.getD j zero1 = p at hc hst
      obtain ⟨px, pl⟩ := p
      have q0 : wr.cell? ⟨g, o + j * 2, none⟩ = some (.int .i64 px) := hc 0 _ rfl
      have q1 : wr.cell? ⟨g, o + j * 2 + 1, none⟩ = some (.string ⟨pl.toArray⟩) := hc 1 _ rfl
      obtain ⟨s, hs⟩ : ∃ s : ByteArray, s = ⟨pl.toArray⟩ := ⟨_, rfl⟩
      have hsz : s.size = pl.length := by rw [hs]; show pl.toArray.size = _; simp
      rw [← hs] at q1
      have hst2 : bytesP (L.take (j + 1)) = bytesP (L.take j) + s.size := by rw [hsz]; exact hst
      generalize bytesP (L.take j) = a at hst2 ⊢
      have hqs : (a : Int) + (s.size : Int) ≤ 4611686018427387904 := by
        have h1 : a + s.size ≤ bytesP L := hst2 ▸ hle
        exact Int.le_trans (by exact_mod_cast h1) HBB.out
      have HST := Lib.hid hst2
      have hi0 : (0 : Int) ≤ (j : Int) := by omega
      have hi1 : (j : Int) < (N : Int) := by omega
      have hj1 : j + 1 ≤ N := hlt
      have hms : N - (j + 1) < N - j := by omega
      have HJ : Hid (j + 1 ≤ N ∧ N - (j + 1) < N - j) := Lib.hid ⟨hj1, hms⟩
      have hj1000 : j ≤ 1000 := by have := HNN.out; omega
      have HBX := Lib.hid (HB.out.trans ((below1P wr (.cells #[.int .i64 px, .string s] 52)).mono HB.out.size))
      obtain ⟨hw1, hw2⟩ := nextP j hj1000
      obtain ⟨hw3, hw4⟩ := addWrapP hqs rfl
      clear hk hc hjL hj1 hms hst hle hs hsz hst2 hqs
      go_wp2
      go_roundw
      case rel => exact ⟨j + 1, HJ.out.1, by go_num, by rw [HST.out]; go_num, HBX.out⟩
      case measure => have h := HJ.out.2; clear hw1 hw2 hw3 hw4; simp only [idxOf]; omega
    · obtain rfl : j = N := by omega
      have hno : ¬ ((j : Int) < (j : Int)) := by omega
      have e : bytesP (L.take j) = Z := by rw [HZ.out, HN.out, List.take_length]
      rw [e]
      clear HZ e
      go_wp2
      go_ret
      exact ⟨rfl, HB.out⟩
end Go.Proofs.Ytmnjcmpikbihaaa
