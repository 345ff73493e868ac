/- Scripts: the kind that a word names, and what a kind's lines tell. -/
import Derived.Test.YtfmpbohiahjafaaDoorScrA
namespace Go.Proofs.YtfmpbohiahjafaaDoor
open Go.RowKit Go.Lib Go.Shelf Go.Sort

theorem shLen : shC.length = 76 := by rfl
theorem shIdx (i : Nat) (hi : i < 19) (W : World) : (Instr.index 46 (.agg shC.toArray) (.int .i64 (i : Int))).run Tryd.prog W = .ok (.agg #[Bs (kWd i), .int .i64 (kTw i 0), .int .i64 (kTw i 1), .int .i64 (kTw i 2)]) W := by
  match i, hi with
  | 0, _ => show _ = _; kernel_rfl
  | 1, _ => show _ = _; kernel_rfl
  | 2, _ => show _ = _; kernel_rfl
  | 3, _ => show _ = _; kernel_rfl
  | 4, _ => show _ = _; kernel_rfl
  | 5, _ => show _ = _; kernel_rfl
  | 6, _ => show _ = _; kernel_rfl
  | 7, _ => show _ = _; kernel_rfl
  | 8, _ => show _ = _; kernel_rfl
  | 9, _ => show _ = _; kernel_rfl
  | 10, _ => show _ = _; kernel_rfl
  | 11, _ => show _ = _; kernel_rfl
  | 12, _ => show _ = _; kernel_rfl
  | 13, _ => show _ = _; kernel_rfl
  | 14, _ => show _ = _; kernel_rfl
  | 15, _ => show _ = _; kernel_rfl
  | 16, _ => show _ = _; kernel_rfl
  | 17, _ => show _ = _; kernel_rfl
  | 18, _ => show _ = _; kernel_rfl
  | n + 19, h => omega
theorem kOf_none {w : List UInt8} (h : ∀ k, k < 19 → kWd k ≠ w) : kOf w = 0 := by
  by_cases h0 : kOf w = 0
  · exact h0
  · exact absurd (kOf_is h0) (h _ (kOf_lt w))
set_option maxHeartbeats 8000000 in
set_option maxRecDepth 100000 in
theorem toKind_any (s : List UInt8) {w : World} (hD : ScW w) :
    Calls Tryd.prog 22 #[.string ⟨s.toArray⟩] w fun e w' => e = .returned (.int .u8 (kOf s : Int)) ∧ Below w.heap.size w w' := by
  have hsh := hD.sh
  obtain ⟨A, hA⟩ : ∃ A, A = shC.toArray := ⟨_, rfl⟩
  have HIX : Hid (∀ i : Nat, i < 19 → ∀ W, (Instr.index 46 (.agg A) (.int .i64 (i : Int))).run Tryd.prog W = .ok (.agg #[Bs (kWd i), .int .i64 (kTw i 0), .int .i64 (kTw i 1), .int .i64 (kTw i 2)]) W) := Lib.hid (by rw [hA]; exact fun i hi W => shIdx i hi W)
  have hld : ∀ {ops : Array Oper} {rest : List Oper} {op : Oper} {a : Act} {Q : Exit → Act → World → Prop} (hgd : op.guard = none) (ho : op.op = .load 46 (.global 0)), wpList Tryd.prog ops Q rest (a.put op.dst (.agg A)) w → wpList Tryd.prog ops Q (op :: rest) a w := by
    intro ops rest op a Q hgd ho h
    rw [hA] at h
    exact wpList_load_mid hgd _ _ ho 0 0 rfl shC _ hsh Tryd.underlying46 rfl (by kernel_rfl) h
  clear hA hsh hD
  go_enter Tryd.func22, Tryd.ntmps22
  go_upto_region 2 with (refine hld rfl rfl ?_)
  clear hld
  go_loopw [3, 4, 6] (fun _ _ ix wr => ∃ i : Nat, ix = .int .i64 (i : Int) ∧ i ≤ 19 ∧ (∀ k, k < i → kWd k ≠ s) ∧ Below w.heap.size w wr) (fun _ _ ix _ => 19 - (RowKit.intOf ix).toNat)
  case atStart => exact ⟨0, rfl, by omega, fun k hk => absurd hk (by omega), Below.refl _ _⟩
  case round =>
    obtain ⟨i, rfl, hi, hno, hb⟩ := hrel
    have HB := Lib.hid hb
    have HNO := Lib.hid hno
    clear hb hno
    by_cases hlt : i < 19
    · have k1 : decide ((i : Int) < 19) = true := decide_eq_true (by omega)
      have k2 : (i : Int) < 19 := by omega
      have hix := HIX.out i hlt
      have HI := Lib.hid hlt
      have hw1 : wrap64 ((i : Int) + 1) = (i : Int) + 1 := by unfold wrap64; omega
      have hw8 : IntKind.u8.wrap (i : Int) = (i : Int) := by rw [show IntKind.u8.wrap (i : Int) = (i : Int) % 256 from rfl]; omega
      have HW1 := Lib.hid hw1
      have HSE := Lib.hid (fun h : kWd i = s => (by rw [← h]; exact kOf_kWd i hlt : kOf s = i))
      have HSN := Lib.hid (fun (h : kWd i ≠ s) k (hk : k < i + 1) => (by
        by_cases e : k = i
        · rw [e]; exact h
        · exact HNO.out k (by omega) : kWd k ≠ s))
      clear hw1 HNO
      obtain ⟨u, hu⟩ : ∃ u, u = kWd i := ⟨_, rfl⟩
      rw [← hu] at hix HSE HSN
      generalize kTw i 0 = t0 at hix
      generalize kTw i 1 = t1 at hix
      generalize kTw i 2 = t2 at hix
      have hb2 := HB.out.alloc HB.out.size (.cells #[Bs u, .int .i64 t0, .int .i64 t1, .int .i64 t2] 45)
      have HB2 := Lib.hid hb2
      obtain ⟨y0, y1, y2, y3⟩ := new4 wr (Bs u) (.int .i64 t0) (.int .i64 t1) (.int .i64 t2) 45
      clear hu hb2
      by_cases he : u = s
      · have e1 : (u == s) = true := by rw [beq_iff_eq]; exact he
        have HK := Lib.hid (HSE.out he)
        clear HSE HSN HW1 he
        go_wp2
        go_ret
        exact ⟨by rw [HK.out]; rfl, HB2.out⟩
      · have e1 : (u == s) = false := by rw [beq_eq_false_iff_ne]; exact he
        have HK := Lib.hid (HSN.out he)
        clear HSE HSN he
        go_wp2
        (try rw [HW1.out])
        go_roundw
        case rel => exact ⟨i + 1, by go_num, HI.out, HK.out, HB2.out⟩
        case measure => simp only [RowKit.intOf]; have := HI.out; omega
    · have k1 : decide ((i : Int) < 19) = false := decide_eq_false (by omega)
      have k1n : ¬ (i : Int) < 19 := by omega
      have HK : Hid (kOf s = 0) := Lib.hid (kOf_none (fun k hk => HNO.out k (by omega)))
      clear HNO
      go_wp2
      go_ret
      exact ⟨by rw [HK.out]; rfl, HB.out⟩
/-! ### what a kind's lines tell -/
/-- How many places are told. -/
def kTn (k : Nat) : Nat := (kTl k).length
theorem kTw_is : ∀ k, k < 19 → kTn k ≤ 3 ∧ (kTn k = 0 → kTw k 0 = 0) ∧ (kTn k = 1 → kTw k 0 ≠ 0 ∧ kTw k 1 = 0) ∧ (kTn k = 2 → kTw k 0 ≠ 0 ∧ kTw k 1 ≠ 0 ∧ kTw k 2 = 0) ∧ (kTn k = 3 → kTw k 0 ≠ 0 ∧ kTw k 1 ≠ 0 ∧ kTw k 2 ≠ 0) := by decide
/-- Numbers that lie in a block. -/
def NsAt (W : World) (b : Nat) (L : List Int) : Prop := b < W.heap.size ∧ ∀ j, j < L.length → W.cell? ⟨b, j, none⟩ = some (.int .i64 (L.getD j 0))
theorem NsAt.below {W W' : World} {b : Nat} {L : List Int} (h : NsAt W b L) (hb : Below W.heap.size W W') : NsAt W' b L :=
  ⟨Nat.lt_of_lt_of_le h.1 hb.size, fun j hj => cell_keep hb (h.2 j hj)⟩
set_option maxHeartbeats 8000000 in
set_option maxRecDepth 100000 in
theorem parts_any {k : Nat} (hk : k < 19) {w : World} (hD : ScW w) :
    Calls Tryd.prog 16 #[.int .u8 (k : Int)] w fun e w' => ∃ b c, e = .returned (.slice (some ⟨b, 0, none⟩) (kTl k).length c) ∧ NsAt w' b (kTl k) ∧ (kTl k).length ≤ 3 ∧ 3 ≤ c ∧ c ≤ 3 ∧ w.heap.size ≤ b ∧ Below w.heap.size w w' := by
  obtain ⟨_, g1, g2, g3⟩ := hD.shape hk
  obtain ⟨c0, c1, c2, c3, c4⟩ := kTw_is k hk
  have HNS : Hid (∀ (W : World) b, b < W.heap.size → W.cell? ⟨b, 0, none⟩ = some (.int .i64 (kTw k 0)) → W.cell? ⟨b, 1, none⟩ = some (.int .i64 (kTw k 1)) → W.cell? ⟨b, 2, none⟩ = some (.int .i64 (kTw k 2)) → NsAt W b (kTl k)) := Lib.hid (fun W b hb h0 h1 h2 => ⟨hb, fun j hj => by
    have hj3 : j < 3 := by unfold kTn at c0; omega
    match j, hj3 with
    | 0, _ => exact h0
    | 1, _ => exact h1
    | 2, _ => exact h2⟩)
  have e1 : (k : Int) < 19 := by omega
  have e2 : (0 : Int) ≤ (k : Int) := by omega
  have HL : Hid ((kTl k).length = kTn k) := Lib.hid rfl
  rw [HL.out]
  generalize kTw k 0 = t0 at *
  generalize kTw k 1 = t1 at *
  generalize kTw k 2 = t2 at *
  generalize kTn k = n at *
  obtain ⟨y0, y1, y2⟩ := new3 w (.int .i64 t0) (.int .i64 t1) (.int .i64 t2) 43
  have HB := Lib.hid (below_new w (.cells #[.int .i64 t0, .int .i64 t1, .int .i64 t2] 43))
  have hsz : w.heap.size < (w.alloc (.cells #[.int .i64 t0, .int .i64 t1, .int .i64 t2] 43)).heap.size := by simp
  have HNA := Lib.hid (HNS.out _ _ hsz y0 y1 y2)
  clear hD hsz HNS
  go_enter Tryd.func16, Tryd.ntmps16
  go_upto_region 2 with fail
  generalize w.alloc (.cells #[.int .i64 t0, .int .i64 t1, .int .i64 t2] 43) = w1 at *
  have HY := Lib.hid (And.intro y0 (And.intro y1 y2))
  go_wp2
  go_loopw [4] (fun ix wr => ∃ i : Nat, ix = .int .i64 (i : Int) ∧ i ≤ n ∧ wr = w1) (fun ix _ => 3 - (RowKit.intOf ix).toNat)
  case atStart => exact ⟨0, rfl, by omega, rfl⟩
  case round =>
    obtain ⟨i, rfl, hi, rfl⟩ := hrel
    rcases (by omega : i = 0 ∨ i = 1 ∨ i = 2 ∨ i = 3) with rfl | rfl | rfl | rfl
    · have hi' := hi
      by_cases hlt : 0 < n
      · have z0 : t0 ≠ 0 := by rcases (by omega : n = 1 ∨ n = 2 ∨ n = 3) with h | h | h <;> simp_all
        have z1 : (t0 == 0) = false := by rw [beq_eq_false_iff_ne]; exact z0
        have z2 : (t0 != 0) = true := by rw [bne_iff_ne]; exact z0
        have HLT := Lib.hid hlt
        obtain ⟨y0, y1, y2⟩ := HY.out
        clear c0 c1 c2 c3 c4 hi hi' hlt z0
        go_wp2
        go_roundw
        case rel => exact ⟨1, by go_num, HLT.out, by first | rfl | trivial⟩
        case measure => simp only [RowKit.intOf]; decide
      · obtain rfl : n = 0 := by omega
        have z0 : t0 = 0 := by simp_all
        subst z0
        obtain ⟨y0, y1, y2⟩ := HY.out
        clear c0 c1 c2 c3 c4 hi hi' hlt
        go_wp2
        go_ret
        exact ⟨_, _, rfl, HNA.out, by omega, by omega, by omega, Nat.le_refl _, HB.out⟩
    · have hi' := hi
      by_cases hlt : 1 < n
      · have z0 : t1 ≠ 0 := by rcases (by omega : n = 1 ∨ n = 2 ∨ n = 3) with h | h | h <;> simp_all
        have z1 : (t1 == 0) = false := by rw [beq_eq_false_iff_ne]; exact z0
        have z2 : (t1 != 0) = true := by rw [bne_iff_ne]; exact z0
        have HLT := Lib.hid hlt
        obtain ⟨y0, y1, y2⟩ := HY.out
        clear c0 c1 c2 c3 c4 hi hi' hlt z0
        go_wp2
        go_roundw
        case rel => exact ⟨2, by go_num, HLT.out, by first | rfl | trivial⟩
        case measure => simp only [RowKit.intOf]; decide
      · obtain rfl : n = 1 := by omega
        have z0 : t1 = 0 := by simp_all
        subst z0
        obtain ⟨y0, y1, y2⟩ := HY.out
        clear c0 c1 c2 c3 c4 hi hi' hlt
        go_wp2
        go_ret
        exact ⟨_, _, rfl, HNA.out, by omega, by omega, by omega, Nat.le_refl _, HB.out⟩
    · have hi' := hi
      by_cases hlt : 2 < n
      · have z0 : t2 ≠ 0 := by rcases (by omega : n = 1 ∨ n = 2 ∨ n = 3) with h | h | h <;> simp_all
        have z1 : (t2 == 0) = false := by rw [beq_eq_false_iff_ne]; exact z0
        have z2 : (t2 != 0) = true := by rw [bne_iff_ne]; exact z0
        have HLT := Lib.hid hlt
        obtain ⟨y0, y1, y2⟩ := HY.out
        clear c0 c1 c2 c3 c4 hi hi' hlt z0
        go_wp2
        go_roundw
        case rel => exact ⟨3, by go_num, HLT.out, by first | rfl | trivial⟩
        case measure => simp only [RowKit.intOf]; decide
      · obtain rfl : n = 2 := by omega
        have z0 : t2 = 0 := by simp_all
        subst z0
        obtain ⟨y0, y1, y2⟩ := HY.out
        clear c0 c1 c2 c3 c4 hi hi' hlt
        go_wp2
        go_ret
        exact ⟨_, _, rfl, HNA.out, by omega, by omega, by omega, Nat.le_refl _, HB.out⟩
    · obtain rfl : n = 3 := by omega
      obtain ⟨y0, y1, y2⟩ := HY.out
      clear c0 c1 c2 c3 c4 hi
      go_wp2
      go_ret
      exact ⟨_, _, rfl, HNA.out, by omega, by omega, by omega, Nat.le_refl _, HB.out⟩
end Go.Proofs.YtfmpbohiahjafaaDoor
