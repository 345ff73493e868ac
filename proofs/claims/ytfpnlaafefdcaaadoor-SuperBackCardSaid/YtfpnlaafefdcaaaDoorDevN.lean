/- How a device lies in memory; the contract of dev.New. -/
import Derived.Test.YtfpnlaafefdcaaaDoorDevM
import Derived.Test.YtfpnlaafefdcaaaDoorReg
import Derived.Laws.OwnMore
namespace Go.Proofs.YtfpnlaafefdcaaaDoor
open Go.RowKit Go.Maps

/-- A device, as the document has it: of each sector the sure bytes, those that wait, and whether it is bad. -/
structure DM where
  n : Nat
  sure : Nat → List UInt8
  fresh : Nat → Option (List UInt8)
  bad : Nat → Bool
  writes : Nat
  down : Bool
  left : Int
/-- Where it lies. -/
structure DH where
  b : Nat
  bs : Nat
  bw : Nat
  bb : Nat
  cap : Nat
def DH.S (h : DH) (k : Nat) : Prop := k = h.b ∨ k = h.bs ∨ k = h.bw ∨ k = h.bb
def DH.above (h : DH) (B : Nat) : Prop := B ≤ h.b ∧ B ≤ h.bs ∧ B ≤ h.bw ∧ B ≤ h.bb
theorem DH.above_S {h : DH} {B : Nat} (g : h.above B) : ∀ k, h.S k → B ≤ k := by
  rintro k (rfl | rfl | rfl | rfl)
  · exact g.1
  · exact g.2.1
  · exact g.2.2.1
  · exact g.2.2.2
structure DevAt (w : World) (h : DH) (M : DM) : Prop where
  ltb : h.b < w.heap.size
  c0 : w.cell? ⟨h.b, 0, none⟩ = some (.slice (some ⟨h.bs, 0, none⟩) M.n h.cap)
  c1 : w.cell? ⟨h.b, 1, none⟩ = some (.map (some h.bw))
  c2 : w.cell? ⟨h.b, 2, none⟩ = some (.map (some h.bb))
  c3 : w.cell? ⟨h.b, 3, none⟩ = some (.int .i64 (M.writes : Int))
  c4 : w.cell? ⟨h.b, 4, none⟩ = some (.bool M.down)
  c5 : w.cell? ⟨h.b, 5, none⟩ = some (.bool (decide (0 ≤ M.left)))
  c6 : ∃ f : Int, w.cell? ⟨h.b, 6, none⟩ = some (.int .i64 f) ∧ (0 ≤ M.left → f = M.left) ∧ 0 ≤ f ∧ f ≤ 9223372036854775807
  fz : ∀ o, o < 7 → w.frozen? ⟨h.b, o, none⟩ = false
  rows : ∀ i, i < M.n → Row8 w h.bs (i * 512) (M.sure i)
  lens : ∀ i, i < M.n → (M.sure i).length = 512
  flen : ∀ i l, i < M.n → M.fresh i = some l → l.length = 512
  wait : WaitMap w h.bw M.n M.fresh
  badm : BadMap w h.bb M.n M.bad
  n1 : 1 ≤ M.n
  n2 : M.n ≤ 32768
  cap1 : M.n ≤ h.cap
  cap2 : h.cap ≤ 9223372036854775807
  ne : h.b ≠ h.bs ∧ h.b ≠ h.bw ∧ h.b ≠ h.bb ∧ h.bs ≠ h.bw ∧ h.bs ≠ h.bb ∧ h.bw ≠ h.bb
theorem WaitMap.lt {w : World} {b n : Nat} {f : Nat → Option (List UInt8)} (h : WaitMap w b n f) : b < w.heap.size := by
  obtain ⟨D, ho, _⟩ := h; exact ho.lt
theorem BadMap.lt {w : World} {b n : Nat} {f : Nat → Bool} (h : BadMap w b n f) : b < w.heap.size := by
  obtain ⟨D, ho, _⟩ := h; exact ho.lt
theorem WaitMap.ap {S : Nat → Prop} {w w' : World} {b n : Nat} {f : Nat → Option (List UInt8)} (h : WaitMap w b n f) (a : Ap S w w') (hn : ¬ S b) : WaitMap w' b n f := by
  obtain ⟨D, ho, r⟩ := h; exact ⟨D, a.owns ho hn, r⟩
theorem BadMap.ap {S : Nat → Prop} {w w' : World} {b n : Nat} {f : Nat → Bool} (h : BadMap w b n f) (a : Ap S w w') (hn : ¬ S b) : BadMap w' b n f := by
  obtain ⟨D, ho, r⟩ := h; exact ⟨D, a.owns ho hn, r⟩
theorem DevAt.ltbs {w : World} {h : DH} {M : DM} (d : DevAt w h M) : h.bs < w.heap.size := (d.rows 0 d.n1).1
/-- Whatever leaves the device's blocks alone leaves the device. -/
theorem DevAt.ap {S : Nat → Prop} {w w' : World} {h : DH} {M : DM} (d : DevAt w h M) (a : Ap S w w') (hn : ∀ k, h.S k → ¬ S k) : DevAt w' h M := by
  have h1 := hn h.b (.inl rfl)
  have h2 := hn h.bs (.inr (.inl rfl))
  have h3 := hn h.bw (.inr (.inr (.inl rfl)))
  have h4 := hn h.bb (.inr (.inr (.inr rfl)))
  obtain ⟨f, f1, f2⟩ := d.c6
  exact ⟨Nat.lt_of_lt_of_le d.ltb a.size, (a.cell d.ltb h1 _).trans d.c0, (a.cell d.ltb h1 _).trans d.c1, (a.cell d.ltb h1 _).trans d.c2, (a.cell d.ltb h1 _).trans d.c3, (a.cell d.ltb h1 _).trans d.c4, (a.cell d.ltb h1 _).trans d.c5,
    ⟨f, (a.cell d.ltb h1 _).trans f1, f2⟩, fun o ho => (a.frozen d.ltb h1 _).trans (d.fz o ho), fun i hi => a.row (d.rows i hi) h2, d.lens, d.flen, d.wait.ap a h3, d.badm.ap a h4, d.n1, d.n2, d.cap1, d.cap2, d.ne⟩
theorem DevAt.below {w w' : World} {h : DH} {M : DM} (d : DevAt w h M) (a : Below w.heap.size w w') : DevAt w' h M := d.ap (S := fun _ => False) (Ap.of_below a) (fun _ _ => id)
theorem DevAt.drew {w : World} {h : DH} {M : DM} (d : DevAt w h M) : DevAt w.drew h M := d.below ((Below.refl _ _).drew)
theorem DevAt.drewN {w : World} {h : DH} {M : DM} (d : DevAt w h M) (n : Nat) : DevAt (w.drewN n) h M := d.below (below_drewN (Below.refl _ _) n)
theorem DevAt.alloc {w : World} {h : DH} {M : DM} (d : DevAt w h M) (o : Obj) : DevAt (w.alloc o) h M := d.below ((Below.refl _ _).alloc (Nat.le_refl _) o)

/-! ### New -/
theorem sectInfo : (Tryd.prog.info? 117).map (fun i => (i.zero, i.size, i.bytes)) = some (some (.agg (Array.replicate 512 (.int .u8 0))), 512, 512) := by kernel_rfl
theorem secZero : ∃ i, Tryd.prog.info? 117 = some i ∧ i.zero = some (.agg (Array.replicate 512 (.int .u8 0))) ∧ i.size = 512 ∧ i.bytes = 512 := by
  have h := sectInfo
  cases hq : Tryd.prog.info? 117 with
  | none => rw [hq] at h; cases h
  | some i => rw [hq] at h; simp only [Option.map_some, Option.some.injEq, Prod.mk.injEq] at h; exact ⟨i, rfl, h.1, h.2.1, h.2.2⟩
/-- Blank cells. -/
def blankC (n : Nat) : Array Value := madeCells (Array.replicate 512 (.int .u8 0)) (n * 512)
def blankB : List UInt8 := List.replicate 512 0
theorem makeSects (n : Int) (h1 : 1 ≤ n) (h2 : n ≤ 32768) (W : World) : (Instr.makeSlice 108 (.int .i64 n) (.int .i64 n)).run Tryd.prog W = .ok (.slice (some ⟨W.heap.size, 0, none⟩) n.toNat n.toNat) (W.alloc (.cells (blankC n.toNat) 117)) := by
  obtain ⟨i, hi, hz, hs, hb⟩ := secZero
  have := run_make (P := Tryd.prog) W 108 117 i (.agg (Array.replicate 512 (.int .u8 0))) Tryd.underlying108 hi hz .i64 .i64 n n (by omega) (by omega) (by rw [hb]; omega) (by omega)
  rw [hs] at this
  exact this
theorem madeC_at (m : Nat) (v : Value) (n j : Nat) (hm : 0 < m) (h : j < n) : (madeCells (Array.replicate m v) n)[j]? = some v := by
  unfold madeCells
  rw [Array.getElem?_map, Array.getElem?_range, if_pos h]
  simp only [Option.map_some, Array.size_replicate]
  rw [getElem!_pos _ _ (by rw [Array.size_replicate]; exact Nat.mod_lt _ hm), Array.getElem_replicate]
theorem blankC_at (n j : Nat) (h : j < n * 512) : (blankC n)[j]? = some (.int .u8 0) := madeC_at 512 _ _ _ (by omega) h
theorem blankB_len : blankB.length = 512 := List.length_replicate ..
theorem replD (m j : Nat) (h : j < m) : (List.replicate m (0 : UInt8)).getD j 0 = 0 := by
  rw [List.getD, List.getElem?_replicate, if_pos h]; rfl
theorem blankB_at (j : Nat) (h : j < 512) : blankB.getD j 0 = 0 := replD 512 j h
theorem blank_row (w : World) (n i : Nat) (t : Nat) (hi : i < n) : Row8 (w.alloc (.cells (blankC n) t)) w.heap.size (i * 512) blankB := by
  refine ⟨by simp, fun j hj => ?_⟩
  rw [blankB_len] at hj
  constructor
  · rw [cell_of_row _ _ _ (blankC n) t (0, 0) (heap_alloc_new w _), blankC_at n _ (by omega), blankB_at j hj]; rfl
  · exact frozen_of_row _ _ _ (blankC n) t (heap_alloc_new w _)
def newM (n : Nat) : DM := ⟨n, fun _ => blankB, fun _ => none, fun _ => false, 0, false, -1⟩
def newH (w : World) (n : Nat) : DH := ⟨w.heap.size + 1 + 1 + 1, w.heap.size, w.heap.size + 1, w.heap.size + 1 + 1, n⟩
theorem waitMap_new (w : World) (n : Nat) : WaitMap (w.alloc (.map #[] 0)) w.heap.size n (fun _ => none) :=
  ⟨.map [], World.ownsMap_made w _ _ _, fun x => by simp [has], fun i l _ h => (by cases h), by simp [Maps.size]⟩
theorem badMap_new (w : World) (n : Nat) : BadMap (w.alloc (.map #[] 0)) w.heap.size n (fun _ => false) :=
  ⟨.map [], World.ownsMap_made w _ _ _, fun x => by simp [has], by simp [Maps.size]⟩
theorem below1 (w : World) (o : Obj) : Below w.heap.size w (w.alloc o) := (Below.refl _ _).alloc (Nat.le_refl _) o
set_option maxHeartbeats 400000 in
theorem devNew_ok (n : Nat) (h1 : 1 ≤ n) (h2 : n ≤ 32768) (w : World) :
    Calls Tryd.prog 15 #[.int .i64 (n : Int)] w fun e w' => e = .returned (.tuple #[.pointer (some ⟨(newH w n).b, 0, none⟩), .int .i64 0]) ∧ DevAt w' (newH w n) (newM n) ∧ Below w.heap.size w w' := by
  have d0 : decide ((n : Int) < 1) = false := decide_eq_false (by omega)
  have d1 : decide (32768 < (n : Int)) = false := decide_eq_false (by omega)
  have hmk := makeSects n (by omega) (by omega)
  simp only [Int.toNat_natCast] at hmk
  have hmm := @run_makeMap Tryd.prog
  have B1 := below1 w (.cells (blankC n) 117)
  have B2 := below1 (w.alloc (.cells (blankC n) 117)) (.map #[] 0)
  have B3 := below1 ((w.alloc (.cells (blankC n) 117)).alloc (.map #[] 0)) (.map #[] 0)
  have HB := Lib.hid B1
  have HB2 := Lib.hid B2
  have HB3 := Lib.hid B3
  clear B1 B2 B3
  go_enter Tryd.func15, Tryd.ntmps15
  go_wp2_with fail
  go_ret2
  have B4 := below1 (((w.alloc (.cells (blankC n) 117)).alloc (.map #[] 0)).alloc (.map #[] 0)) (.cells #[.slice (some ⟨w.heap.size, 0, none⟩) n n, .map (some (w.heap.size + 1)), .map (some (w.heap.size + 1 + 1)), .int .i64 0, .bool false, .bool false, .int .i64 0] 112)
  refine ⟨rfl, ?_, ((HB.out.trans (HB2.out.mono (by simp))).trans (HB3.out.mono (by simp; omega))).trans (B4.mono (by simp; omega))⟩
  refine ⟨by simp [newH], ?_, ?_, ?_, ?_, ?_, ?_, ⟨0, ?_, (fun h => by simp only [newM] at h; omega), by omega, by omega⟩, fun o ho => ?_, fun i hi => ?_, fun i hi => blankB_len, (fun i l _ h => by cases h), ?_, ?_, h1, h2, Nat.le_refl _, by simp [newH]; omega, by simp [newH]; omega⟩
  · simp [go_sem, newH, newM]
  · simp [go_sem, newH]
  · simp [go_sem, newH]
  · simp [go_sem, newH, newM]
  · simp [go_sem, newH, newM]
  · simp [go_sem, newH, newM]
  · simp [go_sem, newH]
  · have e := frozen_of_row _ _ o _ 112 (heap_alloc_new (((w.alloc (.cells (blankC n) 117)).alloc (.map #[] 0)).alloc (.map #[] 0)) (.cells #[.slice (some ⟨w.heap.size, 0, none⟩) n n, .map (some (w.heap.size + 1)), .map (some (w.heap.size + 1 + 1)), .int .i64 0, .bool false, .bool false, .int .i64 0] 112))
    rw [show (((w.alloc (.cells (blankC n) 117)).alloc (.map #[] 0)).alloc (.map #[] 0)).heap.size = w.heap.size + 1 + 1 + 1 by simp] at e
    exact e
  · exact (((blank_row w n i 117 hi).below HB2.out (by simp)).below HB3.out (by simp; omega)).below B4 (by simp; omega)
  · have := waitMap_new (w.alloc (.cells (blankC n) 117)) n
    rw [show (w.alloc (.cells (blankC n) 117)).heap.size = w.heap.size + 1 by simp] at this
    exact ((this.ap (S := fun _ => False) (Ap.of_below HB3.out) id).ap (S := fun _ => False) (Ap.of_below B4) id)
  · have := badMap_new ((w.alloc (.cells (blankC n) 117)).alloc (.map #[] 0)) n
    rw [show ((w.alloc (.cells (blankC n) 117)).alloc (.map #[] 0)).heap.size = w.heap.size + 1 + 1 by simp] at this
    exact this.ap (S := fun _ => False) (Ap.of_below B4) id
theorem devNew_no (n : Int) (h : n < 1 ∨ 32768 < n) (w : World) :
    Calls Tryd.prog 15 #[.int .i64 n] w fun e w' => e = .returned (.tuple #[.pointer none, .int .i64 1]) ∧ w = w' := by
  rcases h with h | h
  · have d0 : decide (n < 1) = true := decide_eq_true h
    go_enter Tryd.func15, Tryd.ntmps15
    go_wp2_with fail
    go_ret2
    exact ⟨rfl, rfl⟩
  · have d0 : decide (n < 1) = false := decide_eq_false (by omega)
    have d1 : decide (32768 < n) = true := decide_eq_true h
    go_enter Tryd.func15, Tryd.ntmps15
    go_wp2_with fail
    go_ret2
    exact ⟨rfl, rfl⟩
end Go.Proofs.YtfpnlaafefdcaaaDoor
