/- Superblocks: the contracts of the document's own Check. (Printed by wip/gensupr.py.) Superblocks: the contracts of the document's own Bytes. Superblocks: the contract of the document's own Parse. -/
import Derived.Test.YtfpnlaafefdcaaaDoorSupA
import Derived.Test.YtfpnlaafefdcaaaDoorGeoD
import Derived.Test.YtfpnlaafefdcaaaDoorCrcD
namespace Go.Proofs.YtfpnlaafefdcaaaDoor
open Go.RowKit

/-- Two places in a slice. -/
theorem two_cells (W : World) (t : TypeId) (x y : Value) : (W.alloc (.cells #[x, y] t)).cell? ⟨W.heap.size, 0, none⟩ = some x ∧ (W.alloc (.cells #[x, y] t)).cell? ⟨W.heap.size, 1, none⟩ = some y := by
  constructor <;> simp [go_sem]
/-- The number of an index. -/
def cntOf : Value → Nat
  | .int _ q => q.toNat
  | _ => 0
set_option maxHeartbeats 4000000 in
set_option maxRecDepth 100000 in
theorem refSupCheck_any (p : SP) (hp : p.In) (w : World) : Calls Tryd.prog 28 #[p.v] w fun e w' => e = .returned (.int .i64 (supE p)) ∧ Below w.heap.size w w' := by
  have hC := refGeoCheck_any p.s p.k p.m p.c hp.k hp.m
  have HX0 := Lib.hid (SBox.new w p 53)
  have HB0 : Hid (Below w.heap.size w (w.alloc (.cells #[.int .i64 p.gen, .int .i64 p.s, .int .i64 p.k, .int .i64 p.m, .int .i64 p.c, .int .i64 p.len, .int .i64 p.a, .int .i64 p.b, .int .u32 (p.sum : Int)] 53))) := Lib.hid (below1 _ _)
  have HO : Hid (supE p = if ((1 ≤ p.gen ∧ p.gen ≤ 281474976710656) ∧ (0 ≤ p.len ∧ p.len ≤ 1048576) ∧ GeoOk p.s p.k p.m p.c ∧ (2 ≤ p.a ∧ p.a < p.c) ∧ (2 ≤ p.b ∧ p.b < p.c)) then 0 else 2) := Lib.hid rfl
  unfold SP.v
  obtain ⟨gen, s, k, m, c, len, a, b, sum⟩ := p
  dsimp only at *
  unfold geoE at hC
  clear hp
  by_cases hd0 : gen < 1
  · have d0 : decide (gen < 1) = true := decide_eq_true hd0
    rw [HO.out, if_neg (by omega)]
    clear HO
    go_enter Tryd.func28, Tryd.ntmps28
    go_upto_region 1 with fail
    generalize w.alloc (.cells #[.int .i64 gen, .int .i64 s, .int .i64 k, .int .i64 m, .int .i64 c, .int .i64 len, .int .i64 a, .int .i64 b, .int .u32 (sum : Int)] 53) = w0 at HX0 HB0 ⊢
    obtain ⟨_, x0, x1, x2, x3, x4, x5, x6, x7, x8⟩ := HX0.out
    dsimp only at x0 x1 x2 x3 x4 x5 x6 x7 x8
    go_wp2
    go_ret
    exact ⟨rfl, HB0.out⟩
  have d0 : decide (gen < 1) = false := decide_eq_false hd0
  by_cases hd1 : 281474976710656 < gen
  · have d1 : decide (281474976710656 < gen) = true := decide_eq_true hd1
    rw [HO.out, if_neg (by omega)]
    clear HO
    go_enter Tryd.func28, Tryd.ntmps28
    go_upto_region 1 with fail
    generalize w.alloc (.cells #[.int .i64 gen, .int .i64 s, .int .i64 k, .int .i64 m, .int .i64 c, .int .i64 len, .int .i64 a, .int .i64 b, .int .u32 (sum : Int)] 53) = w0 at HX0 HB0 ⊢
    obtain ⟨_, x0, x1, x2, x3, x4, x5, x6, x7, x8⟩ := HX0.out
    dsimp only at x0 x1 x2 x3 x4 x5 x6 x7 x8
    go_wp2
    go_ret
    exact ⟨rfl, HB0.out⟩
  have d1 : decide (281474976710656 < gen) = false := decide_eq_false hd1
  rcases Decidable.em (GeoOk s k m c) with g | g
  rotate_left
  · rw [if_neg g] at hC
    rw [HO.out, if_neg (by intro h; exact g h.2.2.1)]
    clear HO
    go_enter Tryd.func28, Tryd.ntmps28
    go_upto_region 1 with fail
    generalize w.alloc (.cells #[.int .i64 gen, .int .i64 s, .int .i64 k, .int .i64 m, .int .i64 c, .int .i64 len, .int .i64 a, .int .i64 b, .int .u32 (sum : Int)] 53) = w0 at HX0 HB0 ⊢
    obtain ⟨_, x0, x1, x2, x3, x4, x5, x6, x7, x8⟩ := HX0.out
    dsimp only at x0 x1 x2 x3 x4 x5 x6 x7 x8
    go_wp2_with (go_at_call 45; with_reducible refine (hC _).mono ?_; rintro e w1 ⟨rfl, hb1⟩; have HX1 := Lib.hid (HX0.out.below hb1); have HB1 := Lib.hid (HB0.out.trans (hb1.mono HB0.out.size)); clear hb1; obtain ⟨_, y0, y1, y2, y3, y4, y5, y6, y7, y8⟩ := HX1.out; dsimp only at y0 y1 y2 y3 y4 y5 y6 y7 y8)
    go_ret
    exact ⟨rfl, HB1.out⟩
  rw [if_pos g] at hC
  by_cases hd2 : len < 0
  · have d2 : decide (len < 0) = true := decide_eq_true hd2
    rw [HO.out, if_neg (by omega)]
    clear HO
    go_enter Tryd.func28, Tryd.ntmps28
    go_upto_region 1 with fail
    generalize w.alloc (.cells #[.int .i64 gen, .int .i64 s, .int .i64 k, .int .i64 m, .int .i64 c, .int .i64 len, .int .i64 a, .int .i64 b, .int .u32 (sum : Int)] 53) = w0 at HX0 HB0 ⊢
    obtain ⟨_, x0, x1, x2, x3, x4, x5, x6, x7, x8⟩ := HX0.out
    dsimp only at x0 x1 x2 x3 x4 x5 x6 x7 x8
    go_wp2_with (go_at_call 45; with_reducible refine (hC _).mono ?_; rintro e w1 ⟨rfl, hb1⟩; have HX1 := Lib.hid (HX0.out.below hb1); have HB1 := Lib.hid (HB0.out.trans (hb1.mono HB0.out.size)); clear hb1; obtain ⟨_, y0, y1, y2, y3, y4, y5, y6, y7, y8⟩ := HX1.out; dsimp only at y0 y1 y2 y3 y4 y5 y6 y7 y8)
    go_ret
    exact ⟨rfl, HB1.out⟩
  have d2 : decide (len < 0) = false := decide_eq_false hd2
  by_cases hd3 : 1048576 < len
  · have d3 : decide (1048576 < len) = true := decide_eq_true hd3
    rw [HO.out, if_neg (by omega)]
    clear HO
    go_enter Tryd.func28, Tryd.ntmps28
    go_upto_region 1 with fail
    generalize w.alloc (.cells #[.int .i64 gen, .int .i64 s, .int .i64 k, .int .i64 m, .int .i64 c, .int .i64 len, .int .i64 a, .int .i64 b, .int .u32 (sum : Int)] 53) = w0 at HX0 HB0 ⊢
    obtain ⟨_, x0, x1, x2, x3, x4, x5, x6, x7, x8⟩ := HX0.out
    dsimp only at x0 x1 x2 x3 x4 x5 x6 x7 x8
    go_wp2_with (go_at_call 45; with_reducible refine (hC _).mono ?_; rintro e w1 ⟨rfl, hb1⟩; have HX1 := Lib.hid (HX0.out.below hb1); have HB1 := Lib.hid (HB0.out.trans (hb1.mono HB0.out.size)); clear hb1; obtain ⟨_, y0, y1, y2, y3, y4, y5, y6, y7, y8⟩ := HX1.out; dsimp only at y0 y1 y2 y3 y4 y5 y6 y7 y8)
    go_ret
    exact ⟨rfl, HB1.out⟩
  have d3 : decide (1048576 < len) = false := decide_eq_false hd3
  obtain ⟨z, hz⟩ : ∃ z : Int, z = if ((1 ≤ gen ∧ gen ≤ 281474976710656) ∧ (0 ≤ len ∧ len ≤ 1048576) ∧ GeoOk s k m c ∧ (2 ≤ a ∧ a < c) ∧ (2 ≤ b ∧ b < c)) then 0 else 2 := ⟨_, rfl⟩
  have HZ : Hid ((2 ≤ a ∧ a < c) ∧ (2 ≤ b ∧ b < c) → z = 0) := Lib.hid (fun h => by rw [hz, if_pos ⟨⟨by omega, by omega⟩, ⟨by omega, by omega⟩, g, h.1, h.2⟩])
  have HN : Hid (¬ ((2 ≤ a ∧ a < c) ∧ (2 ≤ b ∧ b < c)) → z = 2) := Lib.hid (fun h => by rw [hz, if_neg (fun k => h ⟨k.2.2.2.1, k.2.2.2.2⟩)])
  rw [HO.out, ← hz]
  clear HO
  go_enter Tryd.func28, Tryd.ntmps28
  go_upto_region 1 with fail
  generalize w.alloc (.cells #[.int .i64 gen, .int .i64 s, .int .i64 k, .int .i64 m, .int .i64 c, .int .i64 len, .int .i64 a, .int .i64 b, .int .u32 (sum : Int)] 53) = w0 at HX0 HB0 ⊢
  obtain ⟨_, x0, x1, x2, x3, x4, x5, x6, x7, x8⟩ := HX0.out
  dsimp only at x0 x1 x2 x3 x4 x5 x6 x7 x8
  clear hz hd0 hd1 hd2 hd3 g
  go_upto_region 4 with (go_at_call 45; with_reducible refine (hC _).mono ?_; rintro e w1 ⟨rfl, hb1⟩; have HX1 := Lib.hid (HX0.out.below hb1); have HB1 := Lib.hid (HB0.out.trans (hb1.mono HB0.out.size)); clear hb1; obtain ⟨_, y0, y1, y2, y3, y4, y5, y6, y7, y8⟩ := HX1.out; dsimp only at y0 y1 y2 y3 y4 y5 y6 y7 y8)
  have HT := two_cells w1 3 (.int .i64 a) (.int .i64 b)
  have hx2 := HX1.out.below (below1 w1 (.cells #[.int .i64 a, .int .i64 b] 3))
  have hb2 := HB1.out.trans ((below1 w1 (.cells #[.int .i64 a, .int .i64 b] 3)).mono HB1.out.size)
  have HT := Lib.hid HT
  have HX2 := Lib.hid hx2
  have HB2 := Lib.hid hb2
  clear hx2 hb2 y0 y1 y2 y3 y4 y5 y6 y7 y8 x0 x1 x2 x3 x4 x5 x6 x7 x8
  generalize w1.heap.size = bs at HT ⊢
  generalize w1.alloc (.cells #[.int .i64 a, .int .i64 b] 3) = w2 at HT HX2 HB2 ⊢
  go_loopw [4, 37] (fun v4 ix wr => wr = w2 ∧ ∃ j : Nat, j ≤ 2 ∧ ix = .int .i64 (j : Int) ∧ (1 ≤ j → 2 ≤ a ∧ a < c) ∧ (2 ≤ j → 2 ≤ b ∧ b < c)) (fun _ ix _ => 2 - cntOf ix)
  case atStart => exact ⟨rfl, 0, by omega, rfl, by omega, by omega⟩
  case round =>
    obtain ⟨rfl, j, hj, rfl, h1, h2⟩ := hrel
    obtain ⟨t0, t1⟩ := HT.out
    obtain ⟨_, x0, x1, x2, x3, x4, x5, x6, x7, x8⟩ := HX2.out
    dsimp only at x0 x1 x2 x3 x4 x5 x6 x7 x8
    have hjj : j = 0 ∨ j = 1 ∨ j = 2 := by omega
    rcases hjj with rfl | hjj
    · rcases Decidable.em (2 ≤ a ∧ a < c) with g | g
      · have d4 : decide (a < 2) = false := decide_eq_false (by omega)
        have d5 : decide (c ≤ a) = false := decide_eq_false (by omega)
        have HG := Lib.hid g
        have H1 := Lib.hid h1
        clear g h1 h2 hj
        go_wp2
        go_roundw
        case rel => exact ⟨by first | trivial | rfl, 1, by omega, rfl, (fun _ => HG.out), (fun h => by omega)⟩
        case measure => simp [cntOf]
      · have q : decide (a < 2) = true ∨ (decide (a < 2) = false ∧ decide (c ≤ a) = true) := by
          by_cases h3 : a < 2
          · exact .inl (decide_eq_true h3)
          · exact .inr ⟨decide_eq_false h3, decide_eq_true (by omega)⟩
        have hz2 := HN.out (fun h => g h.1)
        clear g h1 h2 hj
        rcases q with d4 | ⟨d4, d5⟩
        all_goals go_wp2
        all_goals go_ret
        all_goals (subst hz2; exact ⟨rfl, HB2.out⟩)
    rcases hjj with rfl | hjj
    · rcases Decidable.em (2 ≤ b ∧ b < c) with g | g
      · have d4 : decide (b < 2) = false := decide_eq_false (by omega)
        have d5 : decide (c ≤ b) = false := decide_eq_false (by omega)
        have HG := Lib.hid g
        have H1 := Lib.hid h1
        clear g h1 h2 hj
        go_wp2
        go_roundw
        case rel => exact ⟨by first | trivial | rfl, 2, by omega, rfl, (fun _ => H1.out (by omega)), (fun h => HG.out)⟩
        case measure => simp [cntOf]
      · have q : decide (b < 2) = true ∨ (decide (b < 2) = false ∧ decide (c ≤ b) = true) := by
          by_cases h3 : b < 2
          · exact .inl (decide_eq_true h3)
          · exact .inr ⟨decide_eq_false h3, decide_eq_true (by omega)⟩
        have hz2 := HN.out (fun h => g h.2)
        clear g h1 h2 hj
        rcases q with d4 | ⟨d4, d5⟩
        all_goals go_wp2
        all_goals go_ret
        all_goals (subst hz2; exact ⟨rfl, HB2.out⟩)
    subst hjj
    have hz2 := HZ.out ⟨h1 (by omega), h2 (by omega)⟩
    clear h1 h2 hj
    go_wp2
    go_ret
    (subst hz2; exact ⟨rfl, HB2.out⟩)
end Go.Proofs.YtfpnlaafefdcaaaDoor
namespace Go.Proofs.YtfpnlaafefdcaaaDoor
open Go.RowKit

theorem refSupBytes_no (p : SP) (hp : p.In) (h : ¬ SupOk p) (w : World) : Calls Tryd.prog 24 #[p.v] w fun e w' => e = .returned (.tuple #[.string ⟨#[]⟩, .int .i64 2]) ∧ Below w.heap.size w w' := by
  have hC := fun W => refSupCheck_any p hp W
  rw [show supE p = 2 from if_neg h] at hC
  have HX0 := Lib.hid (SBox.new w p 53)
  have HB0 : Hid (Below w.heap.size w (w.alloc (.cells #[.int .i64 p.gen, .int .i64 p.s, .int .i64 p.k, .int .i64 p.m, .int .i64 p.c, .int .i64 p.len, .int .i64 p.a, .int .i64 p.b, .int .u32 (p.sum : Int)] 53))) := Lib.hid (below1 _ _)
  unfold SP.v at hC ⊢
  clear hp h
  go_enter Tryd.func24, Tryd.ntmps24
  go_upto_region 1 with fail
  generalize w.alloc (.cells #[.int .i64 p.gen, .int .i64 p.s, .int .i64 p.k, .int .i64 p.m, .int .i64 p.c, .int .i64 p.len, .int .i64 p.a, .int .i64 p.b, .int .u32 (p.sum : Int)] 53) = w0 at HX0 HB0 ⊢
  obtain ⟨_, x0, x1, x2, x3, x4, x5, x6, x7, x8⟩ := HX0.out
  go_wp2_with (go_at_call 28; with_reducible refine (hC _).mono ?_; rintro e w1 ⟨rfl, hb1⟩; have HB1 := Lib.hid (HB0.out.trans (hb1.mono HB0.out.size)); clear hb1)
  go_ret2
  exact ⟨rfl, HB1.out⟩
set_option maxRecDepth 100000 in
set_option maxHeartbeats 4000000 in
theorem refSupBytes_yes (p : SP) (hp : p.In) (h : SupOk p) (w : World) : Calls Tryd.prog 24 #[p.v] w fun e w' => e = .returned (.tuple #[.string ⟨(supL p).toArray⟩, .int .i64 0]) ∧ Below w.heap.size w w' := by
  have hC := fun W => refSupCheck_any p hp W
  rw [show supE p = 0 from if_pos h] at hC
  have hJ0 : joinE supK (supNs p) = 0 := sup_join h
  have hP := refPtr_any p.a p.b p.sum hp.sum hp.a.1 hp.b.1
  rw [sup_ptr hp.sum h] at hP
  have u1 := un_wrap p.gen
  have u2 := un_wrap p.s
  have u3 := un_wrap p.k
  have u4 := un_wrap p.m
  have u5 := un_wrap p.c
  have u6 := un_wrap p.len
  have hlt : ∀ n ∈ supNs p, n < 18446744073709551616 := by
    unfold supNs; intro n hn
    simp only [List.mem_cons, List.not_mem_nil, or_false] at hn
    rcases hn with rfl | rfl | rfl | rfl | rfl | rfl | rfl <;> first | exact un_lt _ | omega
  have hJ : ∀ W : World, Calls Tryd.prog 73 #[.slice (some ⟨W.heap.size, 0, none⟩) 7 7, .slice (some ⟨W.heap.size + 1, 0, none⟩) 7 7] ((W.alloc (.cells #[.int .i64 8, .int .i64 1, .int .i64 1, .int .i64 1, .int .i64 1, .int .i64 4, .int .i64 4] 3)).alloc (.cells #[.int .u64 (un p.gen : Int), .int .u64 (un p.s : Int), .int .u64 (un p.k : Int), .int .u64 (un p.m : Int), .int .u64 0, .int .u64 (un p.c : Int), .int .u64 (un p.len : Int)] 95)) fun e w' => e = .returned (.tuple #[.string ⟨(joinS supK (supNs p)).toArray⟩, .int .i64 0]) ∧ Below ((W.alloc (.cells #[.int .i64 8, .int .i64 1, .int .i64 1, .int .i64 1, .int .i64 1, .int .i64 4, .int .i64 4] 3)).alloc (.cells #[.int .u64 (un p.gen : Int), .int .u64 (un p.s : Int), .int .u64 (un p.k : Int), .int .u64 (un p.m : Int), .int .u64 0, .int .u64 (un p.c : Int), .int .u64 (un p.len : Int)] 95)).heap.size ((W.alloc (.cells #[.int .i64 8, .int .i64 1, .int .i64 1, .int .i64 1, .int .i64 1, .int .i64 4, .int .i64 4] 3)).alloc (.cells #[.int .u64 (un p.gen : Int), .int .u64 (un p.s : Int), .int .u64 (un p.k : Int), .int .u64 (un p.m : Int), .int .u64 0, .int .u64 (un p.c : Int), .int .u64 (un p.len : Int)] 95)) w' := fun W => by
    have h1 := num_seven W _ 3 (.int .i64 8) (.int .i64 1) (.int .i64 1) (.int .i64 1) (.int .i64 1) (.int .i64 4) (.int .i64 4) ((Below.refl _ _).alloc (by simp) (.cells #[.int .u64 (un p.gen : Int), .int .u64 (un p.s : Int), .int .u64 (un p.k : Int), .int .u64 (un p.m : Int), .int .u64 0, .int .u64 (un p.c : Int), .int .u64 (un p.len : Int)] 95))
    have h2 := num_ns (W.alloc (.cells #[.int .i64 8, .int .i64 1, .int .i64 1, .int .i64 1, .int .i64 1, .int .i64 4, .int .i64 4] 3)) _ 95 p (Below.refl _ _)
    rw [World.size_alloc] at h2
    have := refJoin_any supK (supNs p) _ _ _ h1 h2 (by decide) hlt
    rw [hJ0] at this
    exact this
  have HX0 := Lib.hid (SBox.new w p 53)
  have HB0 : Hid (Below w.heap.size w (w.alloc (.cells #[.int .i64 p.gen, .int .i64 p.s, .int .i64 p.k, .int .i64 p.m, .int .i64 p.c, .int .i64 p.len, .int .i64 p.a, .int .i64 p.b, .int .u32 (p.sum : Int)] 53))) := Lib.hid (below1 _ _)
  have hcat := supBody_cat p
  rw [show (⟨magicL.toArray⟩ : ByteArray) = ⟨#[99, 97, 117, 108, 107, 32, 48, 49]⟩ from rfl] at hcat
  have hlen := supBody_len hp.sum h
  have hJl : (⟨(joinS supK (supNs p)).toArray⟩ : ByteArray).size ≤ 512 := by
    show (joinS supK (supNs p)).length ≤ 512
    unfold supBody at hlen; simp only [List.length_append] at hlen; omega
  have hPl : (⟨(ptrS p.a p.b p.sum).toArray⟩ : ByteArray).size ≤ 512 := by
    show (ptrS p.a p.b p.sum).length ≤ 512
    unfold supBody at hlen; simp only [List.length_append] at hlen; omega
  have hS := fun W => refCrcBytes_any (⟨(supBody p).toArray⟩ : ByteArray) (by show (supBody p).length ≤ maxLen; unfold maxLen; omega) W
  have hBS := supL_cat p
  have hBsz : (⟨(supBody p).toArray⟩ : ByteArray).size = 40 := hlen
  rw [toList_mk] at hS
  have hSsz : (sumBytes (Caulk.Crc.sum (supBody p))).size = 4 := rfl
  have hfin : (⟨(supBody p ++ supSum p).toArray⟩ : ByteArray) ++ (⟨(List.replicate 468 (0 : UInt8)).toArray⟩ : ByteArray) = ⟨(supL p).toArray⟩ := by
    unfold supL; rw [if_pos h]
    apply ByteArray.ext
    rw [ByteArray.data_append]
    apply Array.ext'
    simp
  have hmk : ∀ w : World, (Instr.makeSlice 87 (.int .i64 468) (.int .i64 468)).run Tryd.prog w = .ok (.slice (some ⟨w.heap.size, 0, none⟩) 468 468) (w.alloc (.cells (madeCells #[.int .u8 0] 468) 5)) :=
    fun w => run_make_row' 87 5 (.int .u8 0) 1 Tryd.underlying87 infoU8 rfl .i64 .i64 468 (by omega) (by omega) w
  have hcz : ∀ W : World, (convert 87 9 (.slice (some ⟨W.heap.size, 0, none⟩) 468 468)).run Tryd.prog (W.alloc (.cells (madeCells #[.int .u8 0] 468) 5)) = .ok (.string (⟨(List.replicate 468 (0 : UInt8)).toArray⟩ : ByteArray)) (W.alloc (.cells (madeCells #[.int .u8 0] 468) 5)) := fun W =>
    string_of_row 468 List.length_replicate.symm (row_made W 468 5) 87 9 5 Tryd.underlying87 Tryd.underlying5 Tryd.underlying9
  have hrs : (⟨(List.replicate 468 (0 : UInt8)).toArray⟩ : ByteArray).size = 468 := by show (List.replicate 468 (0 : UInt8)).toArray.size = _; rw [List.size_toArray, List.length_replicate]
  generalize (⟨(List.replicate 468 (0 : UInt8)).toArray⟩ : ByteArray) = r at hfin hcz hrs
  generalize sumBytes (Caulk.Crc.sum (supBody p)) = S at hS hBS hSsz
  generalize (⟨(joinS supK (supNs p)).toArray⟩ : ByteArray) = J at hJ hcat hJl
  generalize (⟨(ptrS p.a p.b p.sum).toArray⟩ : ByteArray) = P at hP hcat hPl
  generalize (⟨(supBody p).toArray⟩ : ByteArray) = B at hS hBS hcat hBsz
  generalize (⟨(supBody p ++ supSum p).toArray⟩ : ByteArray) = Z at hBS hfin
  generalize (⟨(supL p).toArray⟩ : ByteArray) = Y at hfin ⊢
  have n1 : ¬ 9223372036854775807 < (⟨#[99, 97, 117, 108, 107, 32, 48, 49]⟩ : ByteArray).size + J.size := by show ¬ _ < 8 + J.size; omega
  have n1' : ¬ 9223372036854775807 < 8 + J.size := by omega
  have n2 : ¬ 9223372036854775807 < ((⟨#[99, 97, 117, 108, 107, 32, 48, 49]⟩ : ByteArray) ++ J).size + P.size := by rw [ByteArray.size_append]; show ¬ _ < (8 + J.size) + P.size; omega
  have n3 : ¬ 9223372036854775807 < B.size + S.size := by omega
  have hZ : Z.size = 44 := by rw [← hBS, ByteArray.size_append, hBsz, hSsz]
  have n4 : ¬ 9223372036854775807 < 44 + r.size := by omega
  unfold SP.v at hC ⊢
  clear hp h hJ0 hlen hJl hPl hBsz hSsz hrs hlt
  go_enter Tryd.func24, Tryd.ntmps24
  go_upto_region 1 with fail
  generalize w.alloc (.cells #[.int .i64 p.gen, .int .i64 p.s, .int .i64 p.k, .int .i64 p.m, .int .i64 p.c, .int .i64 p.len, .int .i64 p.a, .int .i64 p.b, .int .u32 (p.sum : Int)] 53) = w0 at HX0 HB0 ⊢
  obtain ⟨_, x0, x1, x2, x3, x4, x5, x6, x7, x8⟩ := HX0.out
  go_wp2_with (first
    | (go_at_call 28; with_reducible refine (hC _).mono ?_; rintro e w1 ⟨rfl, hb1⟩; have HB1 := Lib.hid (HB0.out.trans (hb1.mono HB0.out.size)); have HX1 := Lib.hid (HX0.out.below hb1); clear hb1; clear x0 x1 x2 x3 x4 x5 x6 x7 x8; obtain ⟨_, x0, x1, x2, x3, x4, x5, x6, x7, x8⟩ := HX1.out)
    | (go_at_call 73; refine (hJ _).mono ?_; rintro e w2 ⟨rfl, hb2⟩; have HB2 := Lib.hid (((HB1.out.alloc HB1.out.size (.cells #[.int .i64 8, .int .i64 1, .int .i64 1, .int .i64 1, .int .i64 1, .int .i64 4, .int .i64 4] 3)).alloc (by have := HB1.out.size; simp; omega) (.cells #[.int .u64 (un p.gen : Int), .int .u64 (un p.s : Int), .int .u64 (un p.k : Int), .int .u64 (un p.m : Int), .int .u64 0, .int .u64 (un p.c : Int), .int .u64 (un p.len : Int)] 95)).trans (hb2.mono (by have := HB1.out.size; simp; omega))); have HX2 := Lib.hid (((HX1.out.below (below1 _ (.cells #[.int .i64 8, .int .i64 1, .int .i64 1, .int .i64 1, .int .i64 1, .int .i64 4, .int .i64 4] 3))).below (below1 _ (.cells #[.int .u64 (un p.gen : Int), .int .u64 (un p.s : Int), .int .u64 (un p.k : Int), .int .u64 (un p.m : Int), .int .u64 0, .int .u64 (un p.c : Int), .int .u64 (un p.len : Int)] 95))).below hb2); clear hb2; clear x0 x1 x2 x3 x4 x5 x6 x7 x8; obtain ⟨_, x0, x1, x2, x3, x4, x5, x6, x7, x8⟩ := HX2.out)
    | (go_at_call 53; with_reducible refine (hP _).mono ?_; rintro e w3 ⟨rfl, hb3⟩; have HB3 := Lib.hid (HB2.out.trans (hb3.mono HB2.out.size)); clear hb3)
    | (go_at_call 74; refine (hS _).mono ?_; rintro e w4 ⟨rfl, hb4⟩; have HB4 := Lib.hid (HB3.out.trans (hb4.mono HB3.out.size)); clear hb4))
  go_ret2
  exact ⟨rfl, HB4.out.alloc HB4.out.size _⟩
theorem refSupBytes_any (p : SP) (hp : p.In) (w : World) : Calls Tryd.prog 24 #[p.v] w fun e w' => e = .returned (.tuple #[.string ⟨(supL p).toArray⟩, .int .i64 (supE p)]) ∧ Below w.heap.size w w' := by
  by_cases h : SupOk p
  · rw [show supE p = 0 from if_pos h]; exact refSupBytes_yes p hp h w
  · rw [show supE p = 2 from if_neg h, show supL p = [] from if_neg h]; exact refSupBytes_no p hp h w
end Go.Proofs.YtfpnlaafefdcaaaDoor
namespace Go.Proofs.YtfpnlaafefdcaaaDoor
open Go.RowKit

theorem allE_supK {s : List UInt8} (h : 24 ≤ s.length) : allE s supK = 0 := by
  have g : ∀ (k : Int) (t : List UInt8), isW k = true → k.toNat ≤ t.length → getE k t = 0 := fun k t h1 h2 => getE_ok.2 ⟨h1, h2⟩
  have t8 : (8 : Int).toNat = 8 := rfl
  have t1 : (1 : Int).toNat = 1 := rfl
  have t4 : (4 : Int).toNat = 4 := rfl
  unfold supK
  simp only [allE, t8, t1, t4]
  rw [if_pos (g 8 _ (by decide) (by omega)), if_pos (g 1 _ (by decide) (by simp only [List.length_drop]; omega)), if_pos (g 1 _ (by decide) (by simp only [List.length_drop]; omega)), if_pos (g 1 _ (by decide) (by simp only [List.length_drop]; omega)), if_pos (g 1 _ (by decide) (by simp only [List.length_drop]; omega)), if_pos (g 4 _ (by decide) (by simp only [List.length_drop]; omega)), if_pos (g 4 _ (by decide) (by simp only [List.length_drop]; omega))]
theorem PF.nine {w W : World} {b off b8 : Nat} {l : List UInt8} (k : PF w W b off b8 l) : W.cell? ⟨b, off, none⟩ = some (.int .u64 (supN l 0 : Int)) ∧ W.cell? ⟨b, off + 1, none⟩ = some (.int .u64 (supN l 1 : Int)) ∧ W.cell? ⟨b, off + 2, none⟩ = some (.int .u64 (supN l 2 : Int)) ∧ W.cell? ⟨b, off + 3, none⟩ = some (.int .u64 (supN l 3 : Int)) ∧ W.cell? ⟨b, off + 5, none⟩ = some (.int .u64 (supN l 5 : Int)) ∧ W.cell? ⟨b, off + 6, none⟩ = some (.int .u64 (supN l 6 : Int)) ∧ W.cell? ⟨b8, 0, none⟩ = some (.int .i64 (getA (supR l) 0 : Int)) ∧ W.cell? ⟨b8, 1, none⟩ = some (.int .i64 (getA (supR l) 1 : Int)) ∧ W.cell? ⟨b8, 2, none⟩ = some (.int .u32 (getA (supR l) 2 : Int)) :=
  ⟨k.nums 0 (by omega), k.nums 1 (by omega), k.nums 2 (by omega), k.nums 3 (by omega), k.nums 5 (by omega), k.nums 6 (by omega), k.p0, k.p1, k.p2⟩
theorem refSupParse_n1 (s : ByteArray) (hn : s.size ≠ 512) (w : World) : Calls Tryd.prog 26 #[.string s] w fun e w' => e = .returned (.tuple #[.agg #[.int .i64 0, .int .i64 0, .int .i64 0, .int .i64 0, .int .i64 0, .int .i64 0, .int .i64 0, .int .i64 0, .int .u32 0], .int .i64 6]) ∧ Below w.heap.size w w' := by
  have d0 : ((s.size : Int) == 512) = false := by rw [beq_eq_false_iff_ne]; omega
  have d1 : (s.size == 512) = false := by rw [beq_eq_false_iff_ne]; exact hn
  have HX0 : Hid (B9 w (w.alloc (.cells #[.int .i64 0, .int .i64 0, .int .i64 0, .int .i64 0, .int .i64 0, .int .i64 0, .int .i64 0, .int .i64 0, .int .u32 0] 53)) w.heap.size SP.zero) := Lib.hid (B9.new w SP.zero 53)
  go_enter Tryd.func26, Tryd.ntmps26
  go_upto_region 1 with fail
  generalize w.alloc (.cells #[.int .i64 0, .int .i64 0, .int .i64 0, .int .i64 0, .int .i64 0, .int .i64 0, .int .i64 0, .int .i64 0, .int .u32 0] 53) = W0 at HX0 ⊢
  obtain ⟨_, _, ⟨_, z0, z1, z2, z3, z4, z5, z6, z7, z8⟩, f0, f1, f2, f3, f4, f5, f6, f7, f8⟩ := HX0.out
  go_wp2_with fail
  obtain ⟨W3, hW3, y0, y1, y2, y3, y4, y5, y6, y7, y8, hBF⟩ := HX0.out.put (.int .i64 0) (.int .i64 0) (.int .i64 0) (.int .i64 0) (.int .i64 0) (.int .i64 0) (.int .i64 0) (.int .i64 0) (.int .u32 0)
  rw [hW3]
  clear hW3
  exact bodyPost_ret (v := .tuple #[.agg #[.int .i64 0, .int .i64 0, .int .i64 0, .int .i64 0, .int .i64 0, .int .i64 0, .int .i64 0, .int .i64 0, .int .u32 0], .int .i64 6]) (by simp [results, Tryd.results26, go_sem, y0, y1, y2, y3, y4, y5, y6, y7, y8]) rfl ⟨rfl, hBF⟩
set_option maxRecDepth 100000 in
set_option maxHeartbeats 4000000 in
theorem refSupParse_yes (s : ByteArray) (hn : s.size = 512) (w : World) : Calls Tryd.prog 26 #[.string s] w fun e w' => e = .returned (.tuple #[SP.v (supP s.data.toList), .int .i64 (supPE s.data.toList)]) ∧ Below w.heap.size w w' := by
  obtain ⟨l, hl⟩ : ∃ l, l = s.data.toList := ⟨_, rfl⟩
  have hs : s = ⟨l.toArray⟩ := by rw [hl]
  have hll : l.length = 512 := by rw [hl]; exact (size_toList s).trans hn
  have hex : s.extract 8 s.size = ⟨(l.drop 8).toArray⟩ := by
    apply ByteArray.ext; apply Array.ext'; rw [extract_listF, ← hl]
  rw [← hl]
  have hA : allE (l.drop 8) supK = 0 := allE_supK (by rw [List.length_drop]; omega)
  have hAll := fun v W hk => refAll_any (⟨(l.drop 8).toArray⟩ : ByteArray) supK v W hk (by decide)
  rw [show (⟨(l.drop 8).toArray⟩ : ByteArray).data.toList = l.drop 8 from rfl, hA] at hAll
  rw [show allT (l.drop 8) supK = supR l from rfl] at hAll
  have hGet := fun W => refGetPtr_any (⟨(supR l).toArray⟩ : ByteArray) W
  rw [show (⟨(supR l).toArray⟩ : ByteArray).data.toList = supR l from rfl] at hGet
  unfold getPV at hGet
  have hSv := Lib.hid (fun (B : Nat) (W : World) (v : Value) (h : OwnN W B v (allV (l.drop 8) supK)) => own_seven h (allL_seven hA))
  have hBy := fun W => refSupBytes_any (supD l) (supD_in l) W
  rw [supD_cells] at hBy
  have hN : ∀ j, (allV (l.drop 8) supK).getD j 0 = supN l j := fun _ => rfl
  simp only [hN] at hSv
  have hDv := Lib.hid (supD_cells l)
  have hW : ∀ j, IntKind.i64.wrap (supN l j : Int) = si (supN l j) := fun _ => rfl
  have HX0 : Hid (B9 w (w.alloc (.cells #[.int .i64 0, .int .i64 0, .int .i64 0, .int .i64 0, .int .i64 0, .int .i64 0, .int .i64 0, .int .i64 0, .int .u32 0] 53)) w.heap.size SP.zero) := Lib.hid (B9.new w SP.zero 53)
  have HS := Lib.hid hs
  clear hA hN hl hs hll
  generalize (⟨(l.drop 8).toArray⟩ : ByteArray) = R1 at *
  generalize (⟨(supR l).toArray⟩ : ByteArray) = R3 at *
  have hex2 : s.extract 8 512 = R1 := by rw [← hex, hn]
  have hK7 : ∀ W : World, NumV (W.alloc (.cells #[.int .i64 8, .int .i64 1, .int .i64 1, .int .i64 1, .int .i64 1, .int .i64 4, .int .i64 4] 3)) (.slice (some ⟨W.heap.size, 0, none⟩) 7 7) (i64s supK) := fun W => num_seven W _ 3 (.int .i64 8) (.int .i64 1) (.int .i64 1) (.int .i64 1) (.int .i64 1) (.int .i64 4) (.int .i64 4) (Below.refl _ _)
  have HK7 := Lib.hid hK7
  clear hK7
  go_enter Tryd.func26, Tryd.ntmps26
  go_upto_region 1 with fail
  generalize w.alloc (.cells #[.int .i64 0, .int .i64 0, .int .i64 0, .int .i64 0, .int .i64 0, .int .i64 0, .int .i64 0, .int .i64 0, .int .u32 0] 53) = W0 at HX0 ⊢
  go_upto_region 5 with (first
    | (go_at_call 78; refine (hAll _ _ (HK7.out _)).mono ?_; rintro e w3 ⟨⟨x, rfl, hown⟩, hb3⟩; obtain ⟨b, off, cap, rfl, hcap, hlt, hc⟩ := hSv.out _ _ _ hown; have HX3 := Lib.hid ((HX0.out.below (below1 W0 (.cells #[.int .i64 8, .int .i64 1, .int .i64 1, .int .i64 1, .int .i64 1, .int .i64 4, .int .i64 4] 3))).below hb3); have HC3 := Lib.hid hc; have HLT := Lib.hid hlt; clear hb3 hown hc hlt)
    | (go_at_call 79; with_reducible refine (hGet _).mono ?_; rintro e w4 ⟨rfl, hb4⟩; have HX4 := Lib.hid (HX3.out.below hb4); have HC4 := Lib.hid (fun j hj => (hb4.cell (p := ⟨b, off + j, none⟩) HLT.out).trans (HC3.out j hj)); have HLT4 := Lib.hid (Nat.lt_of_lt_of_le HLT.out hb4.size); clear hb4))
  have HB8 := B3.new w4 (.int .i64 (getA (supR l) 0 : Int)) (.int .i64 (getA (supR l) 1 : Int)) (.int .u32 (getA (supR l) 2 : Int)) 32
  have HBW := below1 w4 (.cells #[.int .i64 (getA (supR l) 0 : Int), .int .i64 (getA (supR l) 1 : Int), .int .u32 (getA (supR l) 2 : Int)] 32)
  have HP : Hid (PF w (w4.alloc (.cells #[.int .i64 (getA (supR l) 0 : Int), .int .i64 (getA (supR l) 1 : Int), .int .u32 (getA (supR l) 2 : Int)] 32)) b off w4.heap.size l) :=
    Lib.hid ⟨HX4.out.below HBW, Nat.lt_of_lt_of_le HLT4.out HBW.size, fun j hj => (HBW.cell (p := ⟨b, off + j, none⟩) HLT4.out).trans (HC4.out j hj), HB8.lt, HB8.c0, HB8.c1, HB8.c2⟩
  clear HB8 HBW HX0 HX3 HC3 HLT HX4 HC4 HLT4 hGet hAll hSv HK7
  generalize w4.heap.size = b8 at HP ⊢
  generalize w4.alloc (.cells #[.int .i64 (getA (supR l) 0 : Int), .int .i64 (getA (supR l) 1 : Int), .int .u32 (getA (supR l) 2 : Int)] 32) = w5 at HP ⊢
  have HK0 : Hid (w5.cell? ⟨b, off, none⟩ = some (.int .u64 (supN l 0 : Int)) ∧ w5.cell? ⟨b, off + 1, none⟩ = some (.int .u64 (supN l 1 : Int)) ∧ w5.cell? ⟨b, off + 2, none⟩ = some (.int .u64 (supN l 2 : Int)) ∧ w5.cell? ⟨b, off + 3, none⟩ = some (.int .u64 (supN l 3 : Int)) ∧ w5.cell? ⟨b, off + 5, none⟩ = some (.int .u64 (supN l 5 : Int)) ∧ w5.cell? ⟨b, off + 6, none⟩ = some (.int .u64 (supN l 6 : Int)) ∧ w5.cell? ⟨b8, 0, none⟩ = some (.int .i64 (getA (supR l) 0 : Int)) ∧ w5.cell? ⟨b8, 1, none⟩ = some (.int .i64 (getA (supR l) 1 : Int)) ∧ w5.cell? ⟨b8, 2, none⟩ = some (.int .u32 (getA (supR l) 2 : Int))) := Lib.hid HP.out.nine
  have HKC : Hid (w5.drew.cell? ⟨b, off, none⟩ = some (.int .u64 (supN l 0 : Int)) ∧ w5.drew.cell? ⟨b, off + 1, none⟩ = some (.int .u64 (supN l 1 : Int)) ∧ w5.drew.cell? ⟨b, off + 2, none⟩ = some (.int .u64 (supN l 2 : Int)) ∧ w5.drew.cell? ⟨b, off + 3, none⟩ = some (.int .u64 (supN l 3 : Int)) ∧ w5.drew.cell? ⟨b, off + 5, none⟩ = some (.int .u64 (supN l 5 : Int)) ∧ w5.drew.cell? ⟨b, off + 6, none⟩ = some (.int .u64 (supN l 6 : Int)) ∧ w5.drew.cell? ⟨b8, 0, none⟩ = some (.int .i64 (getA (supR l) 0 : Int)) ∧ w5.drew.cell? ⟨b8, 1, none⟩ = some (.int .i64 (getA (supR l) 1 : Int)) ∧ w5.drew.cell? ⟨b8, 2, none⟩ = some (.int .u32 (getA (supR l) 2 : Int))) := Lib.hid HP.out.nine
  have HKA : Hid (∀ oo : Obj, (w5.alloc oo).cell? ⟨b, off, none⟩ = some (.int .u64 (supN l 0 : Int)) ∧ (w5.alloc oo).cell? ⟨b, off + 1, none⟩ = some (.int .u64 (supN l 1 : Int)) ∧ (w5.alloc oo).cell? ⟨b, off + 2, none⟩ = some (.int .u64 (supN l 2 : Int)) ∧ (w5.alloc oo).cell? ⟨b, off + 3, none⟩ = some (.int .u64 (supN l 3 : Int)) ∧ (w5.alloc oo).cell? ⟨b, off + 5, none⟩ = some (.int .u64 (supN l 5 : Int)) ∧ (w5.alloc oo).cell? ⟨b, off + 6, none⟩ = some (.int .u64 (supN l 6 : Int)) ∧ (w5.alloc oo).cell? ⟨b8, 0, none⟩ = some (.int .i64 (getA (supR l) 0 : Int)) ∧ (w5.alloc oo).cell? ⟨b8, 1, none⟩ = some (.int .i64 (getA (supR l) 1 : Int)) ∧ (w5.alloc oo).cell? ⟨b8, 2, none⟩ = some (.int .u32 (getA (supR l) 2 : Int))) := Lib.hid (fun oo => (HP.out.below (below1 w5 oo)).nine)
  have HKD : Hid (∀ oo : Obj, (w5.alloc oo).drew.cell? ⟨b, off, none⟩ = some (.int .u64 (supN l 0 : Int)) ∧ (w5.alloc oo).drew.cell? ⟨b, off + 1, none⟩ = some (.int .u64 (supN l 1 : Int)) ∧ (w5.alloc oo).drew.cell? ⟨b, off + 2, none⟩ = some (.int .u64 (supN l 2 : Int)) ∧ (w5.alloc oo).drew.cell? ⟨b, off + 3, none⟩ = some (.int .u64 (supN l 3 : Int)) ∧ (w5.alloc oo).drew.cell? ⟨b, off + 5, none⟩ = some (.int .u64 (supN l 5 : Int)) ∧ (w5.alloc oo).drew.cell? ⟨b, off + 6, none⟩ = some (.int .u64 (supN l 6 : Int)) ∧ (w5.alloc oo).drew.cell? ⟨b8, 0, none⟩ = some (.int .i64 (getA (supR l) 0 : Int)) ∧ (w5.alloc oo).drew.cell? ⟨b8, 1, none⟩ = some (.int .i64 (getA (supR l) 1 : Int)) ∧ (w5.alloc oo).drew.cell? ⟨b8, 2, none⟩ = some (.int .u32 (getA (supR l) 2 : Int))) := Lib.hid (fun oo => (HP.out.below (below1 w5 oo)).nine)
  have HKE : Hid (∀ oo : Obj, (w5.drew.alloc oo).cell? ⟨b, off, none⟩ = some (.int .u64 (supN l 0 : Int)) ∧ (w5.drew.alloc oo).cell? ⟨b, off + 1, none⟩ = some (.int .u64 (supN l 1 : Int)) ∧ (w5.drew.alloc oo).cell? ⟨b, off + 2, none⟩ = some (.int .u64 (supN l 2 : Int)) ∧ (w5.drew.alloc oo).cell? ⟨b, off + 3, none⟩ = some (.int .u64 (supN l 3 : Int)) ∧ (w5.drew.alloc oo).cell? ⟨b, off + 5, none⟩ = some (.int .u64 (supN l 5 : Int)) ∧ (w5.drew.alloc oo).cell? ⟨b, off + 6, none⟩ = some (.int .u64 (supN l 6 : Int)) ∧ (w5.drew.alloc oo).cell? ⟨b8, 0, none⟩ = some (.int .i64 (getA (supR l) 0 : Int)) ∧ (w5.drew.alloc oo).cell? ⟨b8, 1, none⟩ = some (.int .i64 (getA (supR l) 1 : Int)) ∧ (w5.drew.alloc oo).cell? ⟨b8, 2, none⟩ = some (.int .u32 (getA (supR l) 2 : Int))) := Lib.hid (fun oo => (HP.out.drew.below (below1 w5.drew oo)).nine)
  go_region_held3 (fun w' => w'.cell? ⟨b, off, none⟩ = some (.int .u64 (supN l 0 : Int)) ∧ w'.cell? ⟨b, off + 1, none⟩ = some (.int .u64 (supN l 1 : Int)) ∧ w'.cell? ⟨b, off + 2, none⟩ = some (.int .u64 (supN l 2 : Int)) ∧ w'.cell? ⟨b, off + 3, none⟩ = some (.int .u64 (supN l 3 : Int)) ∧ w'.cell? ⟨b, off + 5, none⟩ = some (.int .u64 (supN l 5 : Int)) ∧ w'.cell? ⟨b, off + 6, none⟩ = some (.int .u64 (supN l 6 : Int)) ∧ w'.cell? ⟨b8, 0, none⟩ = some (.int .i64 (getA (supR l) 0 : Int)) ∧ w'.cell? ⟨b8, 1, none⟩ = some (.int .i64 (getA (supR l) 1 : Int)) ∧ w'.cell? ⟨b8, 2, none⟩ = some (.int .u32 (getA (supR l) 2 : Int))) (first | with_reducible exact HK0.out | with_reducible exact HKC.out | with_reducible exact HKA.out _ | with_reducible exact HKD.out _ | with_reducible exact HKE.out _) (fail)
  go_upto_region 6 with fail
  have HR := Lib.hid ((HP.out.k.below (below1 w5 (.cells #[.int .i64 (si (supN l 0)), .int .i64 (si (supN l 1)), .int .i64 (si (supN l 2)), .int .i64 (si (supN l 3)), .int .i64 (si (supN l 5)), .int .i64 (si (supN l 6)), .int .i64 (getA (supR l) 0 : Int), .int .i64 (getA (supR l) 1 : Int), .int .u32 (getA (supR l) 2 : Int)] 53))).below ((Below.refl _ _).drew))
  have HY : Hid (SBox (w5.alloc (.cells #[.int .i64 (si (supN l 0)), .int .i64 (si (supN l 1)), .int .i64 (si (supN l 2)), .int .i64 (si (supN l 3)), .int .i64 (si (supN l 5)), .int .i64 (si (supN l 6)), .int .i64 (getA (supR l) 0 : Int), .int .i64 (getA (supR l) 1 : Int), .int .u32 (getA (supR l) 2 : Int)] 53)).drew w5.heap.size (supD l)) := Lib.hid (SBox.new w5 (supD l) 53).drew
  generalize w5.heap.size = b10 at HY ⊢
  generalize (w5.alloc (.cells #[.int .i64 (si (supN l 0)), .int .i64 (si (supN l 1)), .int .i64 (si (supN l 2)), .int .i64 (si (supN l 3)), .int .i64 (si (supN l 5)), .int .i64 (si (supN l 6)), .int .i64 (getA (supR l) 0 : Int), .int .i64 (getA (supR l) 1 : Int), .int .u32 (getA (supR l) 2 : Int)] 53)).drew = w7 at HR HY ⊢
  clear HP HK0 HKC HKA HKD HKE
  obtain ⟨_, c0, c1, c2, c3, c4, c5, c6, c7, c8⟩ := HY.out
  unfold supD at c0 c1 c2 c3 c4 c5 c6 c7 c8
  dsimp only at c0 c1 c2 c3 c4 c5 c6 c7 c8
  by_cases hO : SupOk (supD l)
  · have e0 : supE (supD l) = 0 := if_pos hO
    rw [e0] at hBy
    by_cases hL : supL (supD l) = l
    · have HP : Hid (SP.v (supP l) = .agg #[.int .i64 (si (supN l 0)), .int .i64 (si (supN l 1)), .int .i64 (si (supN l 2)), .int .i64 (si (supN l 3)), .int .i64 (si (supN l 5)), .int .i64 (si (supN l 6)), .int .i64 (getA (supR l) 0 : Int), .int .i64 (getA (supR l) 1 : Int), .int .u32 (getA (supR l) 2 : Int)]) := Lib.hid (by rw [← hDv.out]; unfold supP; rw [if_pos ⟨hO, hL⟩])
      have HE : Hid (supPE l = 0) := Lib.hid (if_pos ⟨hO, hL⟩)
      rw [hL, ← HS.out] at hBy
      clear hO hL e0
      go_wp2_with (go_at_call 24; refine (hBy _).mono ?_; rintro e w8 ⟨rfl, hb8⟩; have HR8 := Lib.hid (HR.out.below hb8); have HY8 := Lib.hid (HY.out.below hb8); clear hb8; clear c0 c1 c2 c3 c4 c5 c6 c7 c8; obtain ⟨_, c0, c1, c2, c3, c4, c5, c6, c7, c8⟩ := HY8.out; unfold supD at c0 c1 c2 c3 c4 c5 c6 c7 c8; dsimp only at c0 c1 c2 c3 c4 c5 c6 c7 c8; obtain ⟨_, _, ⟨_, z0, z1, z2, z3, z4, z5, z6, z7, z8⟩, f0, f1, f2, f3, f4, f5, f6, f7, f8⟩ := HR8.out)
      obtain ⟨W3, hW3, y0, y1, y2, y3, y4, y5, y6, y7, y8, hBF⟩ := HR8.out.put (.int .i64 (si (supN l 0))) (.int .i64 (si (supN l 1))) (.int .i64 (si (supN l 2))) (.int .i64 (si (supN l 3))) (.int .i64 (si (supN l 5))) (.int .i64 (si (supN l 6))) (.int .i64 (getA (supR l) 0 : Int)) (.int .i64 (getA (supR l) 1 : Int)) (.int .u32 (getA (supR l) 2 : Int))
      rw [hW3]
      clear hW3
      exact bodyPost_ret (v := .tuple #[.agg #[.int .i64 (si (supN l 0)), .int .i64 (si (supN l 1)), .int .i64 (si (supN l 2)), .int .i64 (si (supN l 3)), .int .i64 (si (supN l 5)), .int .i64 (si (supN l 6)), .int .i64 (getA (supR l) 0 : Int), .int .i64 (getA (supR l) 1 : Int), .int .u32 (getA (supR l) 2 : Int)], .int .i64 0]) (by simp [results, Tryd.results26, go_sem, y0, y1, y2, y3, y4, y5, y6, y7, y8]) rfl ⟨by rw [HP.out, HE.out], hBF⟩
    · have HP : Hid (SP.v (supP l) = .agg #[.int .i64 0, .int .i64 0, .int .i64 0, .int .i64 0, .int .i64 0, .int .i64 0, .int .i64 0, .int .i64 0, .int .u32 0]) := Lib.hid (by unfold supP; rw [if_neg (fun h => hL h.2)]; rfl)
      have HE : Hid (supPE l = 6) := Lib.hid (if_neg (fun h => hL h.2))
      have hX : (⟨(supL (supD l)).toArray⟩ : ByteArray) ≠ s := fun e => hL (by rw [HS.out] at e; have := congrArg (fun b : ByteArray => b.data.toList) e; simpa using this)
      generalize (⟨(supL (supD l)).toArray⟩ : ByteArray) = X at hBy hX
      have d0 : (X.toList == s.toList) = false := by rw [beq_eq_false_iff_ne]; intro e; rw [Lib.toList_data, Lib.toList_data] at e; exact hX (ByteArray.ext (Array.ext' e))
      clear hO hL e0
      go_wp2_with (go_at_call 24; refine (hBy _).mono ?_; rintro e w8 ⟨rfl, hb8⟩; have HR8 := Lib.hid (HR.out.below hb8); have HY8 := Lib.hid (HY.out.below hb8); clear hb8; clear c0 c1 c2 c3 c4 c5 c6 c7 c8; obtain ⟨_, c0, c1, c2, c3, c4, c5, c6, c7, c8⟩ := HY8.out; unfold supD at c0 c1 c2 c3 c4 c5 c6 c7 c8; dsimp only at c0 c1 c2 c3 c4 c5 c6 c7 c8; obtain ⟨_, _, ⟨_, z0, z1, z2, z3, z4, z5, z6, z7, z8⟩, f0, f1, f2, f3, f4, f5, f6, f7, f8⟩ := HR8.out)
      obtain ⟨W3, hW3, y0, y1, y2, y3, y4, y5, y6, y7, y8, hBF⟩ := HR8.out.put (.int .i64 0) (.int .i64 0) (.int .i64 0) (.int .i64 0) (.int .i64 0) (.int .i64 0) (.int .i64 0) (.int .i64 0) (.int .u32 0)
      rw [hW3]
      clear hW3
      exact bodyPost_ret (v := .tuple #[.agg #[.int .i64 0, .int .i64 0, .int .i64 0, .int .i64 0, .int .i64 0, .int .i64 0, .int .i64 0, .int .i64 0, .int .u32 0], .int .i64 6]) (by simp [results, Tryd.results26, go_sem, y0, y1, y2, y3, y4, y5, y6, y7, y8]) rfl ⟨by rw [HP.out, HE.out], hBF⟩
  · have e0 : supE (supD l) = 2 := if_neg hO
    rw [e0] at hBy
    have HP : Hid (SP.v (supP l) = .agg #[.int .i64 0, .int .i64 0, .int .i64 0, .int .i64 0, .int .i64 0, .int .i64 0, .int .i64 0, .int .i64 0, .int .u32 0]) := Lib.hid (by unfold supP; rw [if_neg (fun h => hO h.1)]; rfl)
    have HE : Hid (supPE l = 6) := Lib.hid (if_neg (fun h => hO h.1))
    generalize (⟨(supL (supD l)).toArray⟩ : ByteArray) = X at hBy
    clear hO e0
    go_wp2_with (go_at_call 24; refine (hBy _).mono ?_; rintro e w8 ⟨rfl, hb8⟩; have HR8 := Lib.hid (HR.out.below hb8); have HY8 := Lib.hid (HY.out.below hb8); clear hb8; clear c0 c1 c2 c3 c4 c5 c6 c7 c8; obtain ⟨_, c0, c1, c2, c3, c4, c5, c6, c7, c8⟩ := HY8.out; unfold supD at c0 c1 c2 c3 c4 c5 c6 c7 c8; dsimp only at c0 c1 c2 c3 c4 c5 c6 c7 c8; obtain ⟨_, _, ⟨_, z0, z1, z2, z3, z4, z5, z6, z7, z8⟩, f0, f1, f2, f3, f4, f5, f6, f7, f8⟩ := HR8.out)
    obtain ⟨W3, hW3, y0, y1, y2, y3, y4, y5, y6, y7, y8, hBF⟩ := HR8.out.put (.int .i64 0) (.int .i64 0) (.int .i64 0) (.int .i64 0) (.int .i64 0) (.int .i64 0) (.int .i64 0) (.int .i64 0) (.int .u32 0)
    rw [hW3]
    clear hW3
    exact bodyPost_ret (v := .tuple #[.agg #[.int .i64 0, .int .i64 0, .int .i64 0, .int .i64 0, .int .i64 0, .int .i64 0, .int .i64 0, .int .i64 0, .int .u32 0], .int .i64 6]) (by simp [results, Tryd.results26, go_sem, y0, y1, y2, y3, y4, y5, y6, y7, y8]) rfl ⟨by rw [HP.out, HE.out], hBF⟩
theorem refSupParse_any (s : ByteArray) (w : World) : Calls Tryd.prog 26 #[.string s] w fun e w' => e = .returned (.tuple #[SP.v (supP s.data.toList), .int .i64 (supPE s.data.toList)]) ∧ Below w.heap.size w w' := by
  by_cases h : s.size = 512
  · exact refSupParse_yes s h w
  · have hi : ¬ SupIs s.data.toList := fun hi => h (by have := supIs_len hi; rw [size_toList] at this; exact this)
    rw [show SP.v (supP s.data.toList) = .agg #[.int .i64 0, .int .i64 0, .int .i64 0, .int .i64 0, .int .i64 0, .int .i64 0, .int .i64 0, .int .i64 0, .int .u32 0] by unfold supP; rw [if_neg hi]; rfl, show supPE s.data.toList = 6 from if_neg hi]
    exact refSupParse_n1 s h w
end Go.Proofs.YtfpnlaafefdcaaaDoor
