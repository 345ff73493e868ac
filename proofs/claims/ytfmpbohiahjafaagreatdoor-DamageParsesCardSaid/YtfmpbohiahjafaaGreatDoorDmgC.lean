/- Reports of damage: the document's Check; Open, Many; whether two are one. -/
import Derived.Test.YtfmpbohiahjafaaGreatDoorDmgB
namespace Go.Proofs.YtfmpbohiahjafaaGreatDoor
open Go.RowKit

theorem wrap_eqD (x : Int) : IntKind.i64.wrap x = wrap64 x := by rw [IntKind.wrap_i64]; unfold wrap64; omega
theorem opn_y {W : List WD} {j : Nat} (h : j < W.length) (hy : (W.getD j WD.zero).hl = false) : opn (W.take (j + 1)) = opn (W.take j) + 1 := by
  rw [getD_snoc WD.zero h]; unfold opn; rw [List.filter_append, List.filter_cons_of_pos (by rw [hy]; rfl)]; simp
theorem opn_n {W : List WD} {j : Nat} (h : j < W.length) (hy : (W.getD j WD.zero).hl = true) : opn (W.take (j + 1)) = opn (W.take j) := by
  rw [getD_snoc WD.zero h]; unfold opn; rw [List.filter_append, List.filter_cons_of_neg (by rw [hy]; decide)]; simp
theorem opn_le (W : List WD) : 0 ≤ opn W ∧ opn W ≤ W.length := by
  unfold opn
  have := List.length_filter_le (fun x : WD => !x.hl) W
  omega
theorem many_y {L : List LO} {j : Nat} (h : j < L.length) (hy : loOk (L.getD j LO.zero) = true) : manyW wrap64 (L.take (j + 1)) = wrap64 (manyW wrap64 (L.take j) + wrap64 ((L.getD j LO.zero).t - (L.getD j LO.zero).f)) := by
  rw [getD_snoc LO.zero h]; unfold manyW; rw [List.foldl_append]; simp only [List.foldl_cons, List.foldl_nil]; rw [if_pos hy]
theorem many_n {L : List LO} {j : Nat} (h : j < L.length) (hy : loOk (L.getD j LO.zero) = false) : manyW wrap64 (L.take (j + 1)) = manyW wrap64 (L.take j) := by
  rw [getD_snoc LO.zero h]; unfold manyW; rw [List.foldl_append]; simp only [List.foldl_cons, List.foldl_nil]; rw [if_neg (by rw [hy]; decide)]
set_option maxHeartbeats 4000000 in
theorem dmgOpen_any {w : World} {u v : Value} {W : List WD} {L : List LO} (hu : WdS w u W) (hv : LoS w v L) :
    Calls Tryz.prog 14 #[.agg #[u, v]] w fun e w' => e = .returned (.int .i64 (opn W)) ∧ Below w.heap.size w w' := by
  obtain ⟨A, ca, rfl, ha1, ha2, ha3⟩ := hu
  obtain ⟨B, cb, rfl, hb1, hb2, hb3⟩ := hv
  obtain ⟨n, hn⟩ : ∃ n, n = W.length := ⟨_, rfl⟩
  obtain ⟨m, hm⟩ : ∃ m, m = L.length := ⟨_, rfl⟩
  have HN := Lib.hid hn
  have HM := Lib.hid hm
  have hnx : n ≤ maxLen := by rw [hn]; exact Nat.le_trans ha1 ha2
  have hmx : m ≤ maxLen := by rw [hm]; exact Nat.le_trans hb1 hb2
  have HNX := Lib.hid hnx
  have HMX := Lib.hid hmx
  have HA := Lib.hid ha3
  have HBB := Lib.hid hb3
  rw [← hn, ← hm]
  clear hn hm hnx hmx ha1 ha2 ha3 hb1 hb2 hb3
  have HX := box2 w (.slice A n ca) (.slice B m cb) 25
  have HB0 := Lib.hid (below_new w (.cells #[.slice A n ca, .slice B m cb] 25))
  go_enter Tryz.func14, Tryz.ntmps14
  go_upto_region 1 with fail
  have HQ : Hid (w.heap.size < (w.alloc (.cells #[.slice A n ca, .slice B m cb] 25)).heap.size ∧ w.heap.size + 1 = (w.alloc (.cells #[.slice A n ca, .slice B m cb] 25)).heap.size) := Lib.hid ⟨by simp, by simp⟩
  generalize w.alloc (.cells #[.slice A n ca, .slice B m cb] 25) = w1 at HX HB0 HQ ⊢
  rw [HQ.out.2] at HX
  obtain ⟨y0, y1⟩ := HX.out w1 (Below.refl _ _)
  go_wp2
  go_loopw [3, 9] (fun vx ix wr => ∃ j : Nat, j ≤ n ∧ ix = .int .i64 (j : Int) ∧ vx = .int .i64 (opn (W.take j)) ∧ Below w1.heap.size w1 wr) (fun _ ix _ => n - (intOf ix).toNat)
  case atStart => exact ⟨0, Nat.zero_le _, rfl, rfl, Below.refl _ _⟩
  case round =>
    obtain ⟨j, hj, rfl, rfl, hb⟩ := hrel
    have HB := Lib.hid hb
    clear hb
    by_cases hlt : j < n
    · obtain ⟨g, o, rfl, hglt, hk⟩ := HA.out.resolve_left (by intro e; have := HN.out; rw [e] at this; simp at this; omega)
      have hjL : j < W.length := by rw [← HN.out]; exact hlt
      have hbw : Below w.heap.size w wr := HB0.out.trans (HB.out.mono HB0.out.size)
      have hc := stAt (k := 5) hbw hglt hk hjL
      have HY := Lib.hid (opn_y hjL)
      have HZ := Lib.hid (opn_n hjL)
      have hle := opn_le (W.take j)
      rw [List.length_take] at hle
      generalize W.getD j WD.zero = p at hc HY HZ
      obtain ⟨k, id, ix, pl, hl⟩ := p
      have q0 : wr.cell? ⟨g, o + j * 5, none⟩ = some (.int .u8 k) := hc 0 _ rfl
      have q1 : wr.cell? ⟨g, o + j * 5 + 1, none⟩ = some (.int .i64 id) := hc 1 _ rfl
      have q2 : wr.cell? ⟨g, o + j * 5 + 2, none⟩ = some (.int .i64 ix) := hc 2 _ rfl
      have q3 : wr.cell? ⟨g, o + j * 5 + 3, none⟩ = some (.int .i64 pl) := hc 3 _ rfl
      have q4 : wr.cell? ⟨g, o + j * 5 + 4, none⟩ = some (.bool hl) := hc 4 _ rfl
      have HJ : Hid (j + 1 ≤ n ∧ n - (j + 1) < n - j) := Lib.hid ⟨hlt, by omega⟩
      have hbx := (Below.refl wr.heap.size wr).alloc (Nat.le_refl _) (.cells #[.int .u8 k, .int .i64 id, .int .i64 ix, .int .i64 pl, .bool hl] 42)
      have HBX := Lib.hid (HB.out.trans (hbx.mono HB.out.size))
      have hw1 := nextD hlt HNX.out
      generalize opn (W.take j) = acc at HY HZ hle ⊢
      have hw2 : wrap64 (acc + 1) = acc + 1 := by have := HNX.out; unfold maxLen at this; unfold wrap64; omega
      clear hk hc hjL hbw hbx hle
      cases hl
      · have HE := Lib.hid (HY.out rfl)
        clear HY HZ
        go_wp2
        (try rw [hw1])
        (try rw [hw2])
        clear hw1 hw2
        go_roundw
        case rel => exact ⟨j + 1, HJ.out.1, by go_num, by rw [HE.out], HBX.out⟩
        case measure => have h := HJ.out.2; simp only [intOf]; omega
      · have HE := Lib.hid (HZ.out rfl)
        clear HY HZ hw2
        go_wp2
        (try rw [hw1])
        clear hw1
        go_roundw
        case rel => exact ⟨j + 1, HJ.out.1, by go_num, by rw [HE.out], HBX.out⟩
        case measure => have h := HJ.out.2; simp only [intOf]; omega
    · obtain rfl : j = n := by omega
      have e : W.take j = W := by rw [HN.out, List.take_length]
      rw [e]
      clear e
      go_wp2
      go_ret
      exact ⟨rfl, HB0.out.trans (HB.out.mono HB0.out.size)⟩
set_option maxHeartbeats 4000000 in
theorem refOpen_any {w : World} {u v : Value} {W : List WD} {L : List LO} (hu : WdS w u W) (hv : LoS w v L) :
    Calls Tryz.prog 15 #[.agg #[u, v]] w fun e w' => e = .returned (.int .i64 (opn W)) ∧ Below w.heap.size w w' := by
  obtain ⟨A, ca, rfl, ha1, ha2, ha3⟩ := hu
  obtain ⟨B, cb, rfl, hb1, hb2, hb3⟩ := hv
  obtain ⟨n, hn⟩ : ∃ n, n = W.length := ⟨_, rfl⟩
  obtain ⟨m, hm⟩ : ∃ m, m = L.length := ⟨_, rfl⟩
  have HN := Lib.hid hn
  have HM := Lib.hid hm
  have hnx : n ≤ maxLen := by rw [hn]; exact Nat.le_trans ha1 ha2
  have hmx : m ≤ maxLen := by rw [hm]; exact Nat.le_trans hb1 hb2
  have HNX := Lib.hid hnx
  have HMX := Lib.hid hmx
  have HA := Lib.hid ha3
  have HBB := Lib.hid hb3
  rw [← hn, ← hm]
  clear hn hm hnx hmx ha1 ha2 ha3 hb1 hb2 hb3
  have HX := box2 w (.slice A n ca) (.slice B m cb) 25
  have HB0 := Lib.hid (below_new w (.cells #[.slice A n ca, .slice B m cb] 25))
  go_enter Tryz.func15, Tryz.ntmps15
  go_upto_region 1 with fail
  have HQ : Hid (w.heap.size < (w.alloc (.cells #[.slice A n ca, .slice B m cb] 25)).heap.size ∧ w.heap.size + 1 = (w.alloc (.cells #[.slice A n ca, .slice B m cb] 25)).heap.size) := Lib.hid ⟨by simp, by simp⟩
  generalize w.alloc (.cells #[.slice A n ca, .slice B m cb] 25) = w1 at HX HB0 HQ ⊢
  rw [HQ.out.2] at HX
  obtain ⟨y0, y1⟩ := HX.out w1 (Below.refl _ _)
  go_wp2
  go_loopw [3, 9] (fun vx ix wr => ∃ j : Nat, j ≤ n ∧ ix = .int .i64 (j : Int) ∧ vx = .int .i64 (opn (W.take j)) ∧ Below w1.heap.size w1 wr) (fun _ ix _ => n - (intOf ix).toNat)
  case atStart => exact ⟨0, Nat.zero_le _, rfl, rfl, Below.refl _ _⟩
  case round =>
    obtain ⟨j, hj, rfl, rfl, hb⟩ := hrel
    have HB := Lib.hid hb
    clear hb
    by_cases hlt : j < n
    · obtain ⟨g, o, rfl, hglt, hk⟩ := HA.out.resolve_left (by intro e; have := HN.out; rw [e] at this; simp at this; omega)
      have hjL : j < W.length := by rw [← HN.out]; exact hlt
      have hbw : Below w.heap.size w wr := HB0.out.trans (HB.out.mono HB0.out.size)
      have hc := stAt (k := 5) hbw hglt hk hjL
      have HY := Lib.hid (opn_y hjL)
      have HZ := Lib.hid (opn_n hjL)
      have hle := opn_le (W.take j)
      rw [List.length_take] at hle
      generalize W.getD j WD.zero = p at hc HY HZ
      obtain ⟨k, id, ix, pl, hl⟩ := p
      have q0 : wr.cell? ⟨g, o + j * 5, none⟩ = some (.int .u8 k) := hc 0 _ rfl
      have q1 : wr.cell? ⟨g, o + j * 5 + 1, none⟩ = some (.int .i64 id) := hc 1 _ rfl
      have q2 : wr.cell? ⟨g, o + j * 5 + 2, none⟩ = some (.int .i64 ix) := hc 2 _ rfl
      have q3 : wr.cell? ⟨g, o + j * 5 + 3, none⟩ = some (.int .i64 pl) := hc 3 _ rfl
      have q4 : wr.cell? ⟨g, o + j * 5 + 4, none⟩ = some (.bool hl) := hc 4 _ rfl
      have HJ : Hid (j + 1 ≤ n ∧ n - (j + 1) < n - j) := Lib.hid ⟨hlt, by omega⟩
      have hbx := (Below.refl wr.heap.size wr).alloc (Nat.le_refl _) (.cells #[.int .u8 k, .int .i64 id, .int .i64 ix, .int .i64 pl, .bool hl] 42)
      have HBX := Lib.hid (HB.out.trans (hbx.mono HB.out.size))
      have hw1 := nextD hlt HNX.out
      generalize opn (W.take j) = acc at HY HZ hle ⊢
      have hw2 : wrap64 (acc + 1) = acc + 1 := by have := HNX.out; unfold maxLen at this; unfold wrap64; omega
      clear hk hc hjL hbw hbx hle
      cases hl
      · have HE := Lib.hid (HY.out rfl)
        clear HY HZ
        go_wp2
        (try rw [hw1])
        (try rw [hw2])
        clear hw1 hw2
        go_roundw
        case rel => exact ⟨j + 1, HJ.out.1, by go_num, by rw [HE.out], HBX.out⟩
        case measure => have h := HJ.out.2; simp only [intOf]; omega
      · have HE := Lib.hid (HZ.out rfl)
        clear HY HZ hw2
        go_wp2
        (try rw [hw1])
        clear hw1
        go_roundw
        case rel => exact ⟨j + 1, HJ.out.1, by go_num, by rw [HE.out], HBX.out⟩
        case measure => have h := HJ.out.2; simp only [intOf]; omega
    · obtain rfl : j = n := by omega
      have e : W.take j = W := by rw [HN.out, List.take_length]
      rw [e]
      clear e
      go_wp2
      go_ret
      exact ⟨rfl, HB0.out.trans (HB.out.mono HB0.out.size)⟩
set_option maxHeartbeats 4000000 in
theorem dmgMany_any {w : World} {u v : Value} {W : List WD} {L : List LO} (hu : WdS w u W) (hv : LoS w v L) :
    Calls Tryz.prog 16 #[.agg #[u, v]] w fun e w' => e = .returned (.int .i64 (manyW wrap64 L)) ∧ Below w.heap.size w w' := by
  obtain ⟨A, ca, rfl, ha1, ha2, ha3⟩ := hu
  obtain ⟨B, cb, rfl, hb1, hb2, hb3⟩ := hv
  obtain ⟨n, hn⟩ : ∃ n, n = W.length := ⟨_, rfl⟩
  obtain ⟨m, hm⟩ : ∃ m, m = L.length := ⟨_, rfl⟩
  have HN := Lib.hid hn
  have HM := Lib.hid hm
  have hnx : n ≤ maxLen := by rw [hn]; exact Nat.le_trans ha1 ha2
  have hmx : m ≤ maxLen := by rw [hm]; exact Nat.le_trans hb1 hb2
  have HNX := Lib.hid hnx
  have HMX := Lib.hid hmx
  have HA := Lib.hid ha3
  have HBB := Lib.hid hb3
  rw [← hn, ← hm]
  clear hn hm hnx hmx ha1 ha2 ha3 hb1 hb2 hb3
  have HX := box2 w (.slice A n ca) (.slice B m cb) 25
  have HB0 := Lib.hid (below_new w (.cells #[.slice A n ca, .slice B m cb] 25))
  go_enter Tryz.func16, Tryz.ntmps16
  go_upto_region 1 with fail
  have HQ : Hid (w.heap.size < (w.alloc (.cells #[.slice A n ca, .slice B m cb] 25)).heap.size ∧ w.heap.size + 1 = (w.alloc (.cells #[.slice A n ca, .slice B m cb] 25)).heap.size) := Lib.hid ⟨by simp, by simp⟩
  generalize w.alloc (.cells #[.slice A n ca, .slice B m cb] 25) = w1 at HX HB0 HQ ⊢
  rw [HQ.out.2] at HX
  obtain ⟨y0, y1⟩ := HX.out w1 (Below.refl _ _)
  have hC := isLost_any
  go_wp2
  go_loopw [3, 9] (fun vx ix wr => ∃ j : Nat, j ≤ m ∧ ix = .int .i64 (j : Int) ∧ vx = .int .i64 (manyW wrap64 (L.take j)) ∧ Below w1.heap.size w1 wr) (fun _ ix _ => m - (intOf ix).toNat)
  case atStart => exact ⟨0, Nat.zero_le _, rfl, rfl, Below.refl _ _⟩
  case round =>
    obtain ⟨j, hj, rfl, rfl, hb⟩ := hrel
    have HB := Lib.hid hb
    clear hb
    by_cases hlt : j < m
    · obtain ⟨g, o, rfl, hglt, hk⟩ := HBB.out.resolve_left (by intro e; have := HM.out; rw [e] at this; simp at this; omega)
      have hjL : j < L.length := by rw [← HM.out]; exact hlt
      have hbw : Below w.heap.size w wr := HB0.out.trans (HB.out.mono HB0.out.size)
      have hc := stAt (k := 3) hbw hglt hk hjL
      have HY := Lib.hid (many_y hjL)
      have HZ := Lib.hid (many_n hjL)
      have hCj := hC (L.getD j LO.zero)
      generalize L.getD j LO.zero = p at hc HY HZ hCj
      generalize loOk p = bb at HY HZ hCj
      obtain ⟨c, f, t⟩ := p
      unfold LO.enc at hCj hc
      dsimp only at hCj hc HY HZ
      have q0 : wr.cell? ⟨g, o + j * 3, none⟩ = some (.int .i64 c) := hc 0 _ rfl
      have q1 : wr.cell? ⟨g, o + j * 3 + 1, none⟩ = some (.int .i64 f) := hc 1 _ rfl
      have q2 : wr.cell? ⟨g, o + j * 3 + 2, none⟩ = some (.int .i64 t) := hc 2 _ rfl
      have HJ : Hid (j + 1 ≤ m ∧ m - (j + 1) < m - j) := Lib.hid ⟨hlt, by omega⟩
      have hbx := (Below.refl wr.heap.size wr).alloc (Nat.le_refl _) (.cells #[.int .i64 c, .int .i64 f, .int .i64 t] 46)
      have HBX := Lib.hid (HB.out.trans (hbx.mono HB.out.size))
      obtain ⟨x0, x1, x2⟩ := new3 wr (.int .i64 c) (.int .i64 f) (.int .i64 t) 46
      have HK : Hid (∀ V, Below (wr.alloc (.cells #[.int .i64 c, .int .i64 f, .int .i64 t] 46)).heap.size (wr.alloc (.cells #[.int .i64 c, .int .i64 f, .int .i64 t] 46)) V → V.cell? ⟨wr.heap.size, 0, none⟩ = some (.int .i64 c) ∧ V.cell? ⟨wr.heap.size, 1, none⟩ = some (.int .i64 f) ∧ V.cell? ⟨wr.heap.size, 2, none⟩ = some (.int .i64 t)) := Lib.hid (fun V hb => ⟨(hb.cell (p := ⟨wr.heap.size, 0, none⟩) (by simp)).trans x0, (hb.cell (p := ⟨wr.heap.size, 1, none⟩) (by simp)).trans x1, (hb.cell (p := ⟨wr.heap.size, 2, none⟩) (by simp)).trans x2⟩)
      have hw1 := nextD hlt HMX.out
      generalize manyW wrap64 (L.take j) = acc at HY HZ ⊢
      have e1 := wrap_eqD (t - f)
      generalize hd : wrap64 (t - f) = d at HY e1
      have e2 := wrap_eqD (acc + d)
      generalize hz : wrap64 (acc + d) = z at HY e2
      clear hk hc hjL hbw hbx x0 x1 x2
      cases bb
      · have HE := Lib.hid (HZ.out rfl)
        clear HY HZ e1 e2 hd hz
        go_wp2_with (go_at_call 34; (with_reducible refine (hCj _).mono ?_); rintro e w2 ⟨rfl, hb2⟩; have HB2 := Lib.hid (HBX.out.trans (hb2.mono HBX.out.size)); clear hb2)
        (try rw [hw1])
        clear hw1
        go_roundw
        case rel => exact ⟨j + 1, HJ.out.1, by go_num, by rw [HE.out], HB2.out⟩
        case measure => have h := HJ.out.2; simp only [intOf]; omega
      · have HE := Lib.hid (HY.out rfl)
        clear HY HZ
        go_wp2_with (go_at_call 34; (with_reducible refine (hCj _).mono ?_); rintro e w2 ⟨rfl, hb2⟩; have HB2 := Lib.hid (HBX.out.trans (hb2.mono HBX.out.size)); obtain ⟨z0, z1, z2⟩ := HK.out w2 hb2; clear hb2)
        (try rw [hw1])
        clear hw1
        go_roundw
        case rel => exact ⟨j + 1, HJ.out.1, by go_num, by rw [HE.out], HB2.out⟩
        case measure => have h := HJ.out.2; clear e1 e2 hd hz; simp only [intOf]; omega
    · obtain rfl : j = m := by omega
      have e : L.take j = L := by rw [HM.out, List.take_length]
      rw [e]
      clear e
      go_wp2
      go_ret
      exact ⟨rfl, HB0.out.trans (HB.out.mono HB0.out.size)⟩
set_option maxHeartbeats 4000000 in
theorem refMany_any {w : World} {u v : Value} {W : List WD} {L : List LO} (hu : WdS w u W) (hv : LoS w v L) :
    Calls Tryz.prog 17 #[.agg #[u, v]] w fun e w' => e = .returned (.int .i64 (manyW wrap64 L)) ∧ Below w.heap.size w w' := by
  obtain ⟨A, ca, rfl, ha1, ha2, ha3⟩ := hu
  obtain ⟨B, cb, rfl, hb1, hb2, hb3⟩ := hv
  obtain ⟨n, hn⟩ : ∃ n, n = W.length := ⟨_, rfl⟩
  obtain ⟨m, hm⟩ : ∃ m, m = L.length := ⟨_, rfl⟩
  have HN := Lib.hid hn
  have HM := Lib.hid hm
  have hnx : n ≤ maxLen := by rw [hn]; exact Nat.le_trans ha1 ha2
  have hmx : m ≤ maxLen := by rw [hm]; exact Nat.le_trans hb1 hb2
  have HNX := Lib.hid hnx
  have HMX := Lib.hid hmx
  have HA := Lib.hid ha3
  have HBB := Lib.hid hb3
  rw [← hn, ← hm]
  clear hn hm hnx hmx ha1 ha2 ha3 hb1 hb2 hb3
  have HX := box2 w (.slice A n ca) (.slice B m cb) 25
  have HB0 := Lib.hid (below_new w (.cells #[.slice A n ca, .slice B m cb] 25))
  go_enter Tryz.func17, Tryz.ntmps17
  go_upto_region 1 with fail
  have HQ : Hid (w.heap.size < (w.alloc (.cells #[.slice A n ca, .slice B m cb] 25)).heap.size ∧ w.heap.size + 1 = (w.alloc (.cells #[.slice A n ca, .slice B m cb] 25)).heap.size) := Lib.hid ⟨by simp, by simp⟩
  generalize w.alloc (.cells #[.slice A n ca, .slice B m cb] 25) = w1 at HX HB0 HQ ⊢
  rw [HQ.out.2] at HX
  obtain ⟨y0, y1⟩ := HX.out w1 (Below.refl _ _)
  have hC := refLost_any
  go_wp2
  go_loopw [3, 9] (fun vx ix wr => ∃ j : Nat, j ≤ m ∧ ix = .int .i64 (j : Int) ∧ vx = .int .i64 (manyW wrap64 (L.take j)) ∧ Below w1.heap.size w1 wr) (fun _ ix _ => m - (intOf ix).toNat)
  case atStart => exact ⟨0, Nat.zero_le _, rfl, rfl, Below.refl _ _⟩
  case round =>
    obtain ⟨j, hj, rfl, rfl, hb⟩ := hrel
    have HB := Lib.hid hb
    clear hb
    by_cases hlt : j < m
    · obtain ⟨g, o, rfl, hglt, hk⟩ := HBB.out.resolve_left (by intro e; have := HM.out; rw [e] at this; simp at this; omega)
      have hjL : j < L.length := by rw [← HM.out]; exact hlt
      have hbw : Below w.heap.size w wr := HB0.out.trans (HB.out.mono HB0.out.size)
      have hc := stAt (k := 3) hbw hglt hk hjL
      have HY := Lib.hid (many_y hjL)
      have HZ := Lib.hid (many_n hjL)
      have hCj := hC (L.getD j LO.zero)
      generalize L.getD j LO.zero = p at hc HY HZ hCj
      generalize loOk p = bb at HY HZ hCj
      obtain ⟨c, f, t⟩ := p
      unfold LO.enc at hCj hc
      dsimp only at hCj hc HY HZ
      have q0 : wr.cell? ⟨g, o + j * 3, none⟩ = some (.int .i64 c) := hc 0 _ rfl
      have q1 : wr.cell? ⟨g, o + j * 3 + 1, none⟩ = some (.int .i64 f) := hc 1 _ rfl
      have q2 : wr.cell? ⟨g, o + j * 3 + 2, none⟩ = some (.int .i64 t) := hc 2 _ rfl
      have HJ : Hid (j + 1 ≤ m ∧ m - (j + 1) < m - j) := Lib.hid ⟨hlt, by omega⟩
      have hbx := (Below.refl wr.heap.size wr).alloc (Nat.le_refl _) (.cells #[.int .i64 c, .int .i64 f, .int .i64 t] 46)
      have HBX := Lib.hid (HB.out.trans (hbx.mono HB.out.size))
      obtain ⟨x0, x1, x2⟩ := new3 wr (.int .i64 c) (.int .i64 f) (.int .i64 t) 46
      have HK : Hid (∀ V, Below (wr.alloc (.cells #[.int .i64 c, .int .i64 f, .int .i64 t] 46)).heap.size (wr.alloc (.cells #[.int .i64 c, .int .i64 f, .int .i64 t] 46)) V → V.cell? ⟨wr.heap.size, 0, none⟩ = some (.int .i64 c) ∧ V.cell? ⟨wr.heap.size, 1, none⟩ = some (.int .i64 f) ∧ V.cell? ⟨wr.heap.size, 2, none⟩ = some (.int .i64 t)) := Lib.hid (fun V hb => ⟨(hb.cell (p := ⟨wr.heap.size, 0, none⟩) (by simp)).trans x0, (hb.cell (p := ⟨wr.heap.size, 1, none⟩) (by simp)).trans x1, (hb.cell (p := ⟨wr.heap.size, 2, none⟩) (by simp)).trans x2⟩)
      have hw1 := nextD hlt HMX.out
      generalize manyW wrap64 (L.take j) = acc at HY HZ ⊢
      have e1 := wrap_eqD (t - f)
      generalize hd : wrap64 (t - f) = d at HY e1
      have e2 := wrap_eqD (acc + d)
      generalize hz : wrap64 (acc + d) = z at HY e2
      clear hk hc hjL hbw hbx x0 x1 x2
      cases bb
      · have HE := Lib.hid (HZ.out rfl)
        clear HY HZ e1 e2 hd hz
        go_wp2_with (go_at_call 38; (with_reducible refine (hCj _).mono ?_); rintro e w2 ⟨rfl, hb2⟩; have HB2 := Lib.hid (HBX.out.trans (hb2.mono HBX.out.size)); clear hb2)
        (try rw [hw1])
        clear hw1
        go_roundw
        case rel => exact ⟨j + 1, HJ.out.1, by go_num, by rw [HE.out], HB2.out⟩
        case measure => have h := HJ.out.2; simp only [intOf]; omega
      · have HE := Lib.hid (HY.out rfl)
        clear HY HZ
        go_wp2_with (go_at_call 38; (with_reducible refine (hCj _).mono ?_); rintro e w2 ⟨rfl, hb2⟩; have HB2 := Lib.hid (HBX.out.trans (hb2.mono HBX.out.size)); obtain ⟨z0, z1, z2⟩ := HK.out w2 hb2; clear hb2)
        (try rw [hw1])
        clear hw1
        go_roundw
        case rel => exact ⟨j + 1, HJ.out.1, by go_num, by rw [HE.out], HB2.out⟩
        case measure => have h := HJ.out.2; clear e1 e2 hd hz; simp only [intOf]; omega
    · obtain rfl : j = m := by omega
      have e : L.take j = L := by rw [HM.out, List.take_length]
      rw [e]
      clear e
      go_wp2
      go_ret
      exact ⟨rfl, HB0.out.trans (HB.out.mono HB0.out.size)⟩
end Go.Proofs.YtfmpbohiahjafaaGreatDoor
