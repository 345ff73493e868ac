/- Clusters: the plain model: writing, and reading, sector by sector. Clusters: the sectors of a cluster, one by one: what makes the iterator, and the iterator. Clusters: what lies behind the start of a call of Write or Raw. -/
import Derived.Test.YtjhpheepimbbdaaGreatDoorZDevC
import Derived.RangeFuncNested
import Derived.RangeFuncBound
import Derived.RangeFuncCalls
import Derived.RangeFuncLeaves
import Derived.Shelf.Abstract
import Derived.Shelf.RegionOpen
import Derived.OwnWalkIn
import Derived.TacticsInMore
import Derived.LoopNIn
import Derived.LoopIn
import Derived.Test.YtjhpheepimbbdaaGreatDoorZGeoA
namespace Go.Proofs.YtjhpheepimbbdaaGreatDoor
open Go.RowKit

/-- The bytes of one sector of a text. -/
def partS (s : ByteArray) (j : Nat) : ByteArray := s.extract (j * 512) (j * 512 + 512)
/-- One write, as long as none failed. -/
def wrStep (F : Nat) (s : ByteArray) (st : DM × Int) (j : Nat) : DM × Int :=
  if st.2 = 0 then (writeM st.1 ((F + j : Nat) : Int) (partS s j), writeE st.1 ((F + j : Nat) : Int) (partS s j)) else st
def wrS (M : DM) (F : Nat) (s : ByteArray) (j : Nat) : DM × Int := (List.range j).foldl (wrStep F s) (M, 0)
theorem wrS_succ (M : DM) (F : Nat) (s : ByteArray) (j : Nat) : wrS M F s (j + 1) = wrStep F s (wrS M F s j) j := by
  unfold wrS; rw [List.range_succ, List.foldl_append]; rfl
theorem writeM_n (M : DM) (a : Int) (s : ByteArray) : (writeM M a s).n = M.n := by
  have h := (burnM_fresh M).2.1
  unfold writeM; split
  · exact h
  · split
    · rfl
    · exact h
theorem writeM_wr (M : DM) (a : Int) (s : ByteArray) : M.writes ≤ (writeM M a s).writes ∧ (writeM M a s).writes ≤ M.writes + 1 := by
  have h := (burnM_fresh M).2.2.1
  unfold writeM; split
  · exact ⟨Nat.le_succ _, Nat.le_refl _⟩
  · split
    · exact ⟨Nat.le_refl _, Nat.le_succ _⟩
    · rw [h]; exact ⟨Nat.le_refl _, Nat.le_succ _⟩
theorem wrStep_b (F : Nat) (s : ByteArray) (st : DM × Int) (j : Nat) : (wrStep F s st j).1.n = st.1.n ∧ (wrStep F s st j).1.writes ≤ st.1.writes + 1 := by
  unfold wrStep
  split
  · exact ⟨writeM_n _ _ _, (writeM_wr _ _ _).2⟩
  · exact ⟨rfl, Nat.le_succ _⟩
theorem wrFold_b (F : Nat) (s : ByteArray) : ∀ (l : List Nat) (st : DM × Int), (l.foldl (wrStep F s) st).1.n = st.1.n ∧ (l.foldl (wrStep F s) st).1.writes ≤ st.1.writes + l.length
  | [], st => ⟨rfl, Nat.le_refl _⟩
  | j :: r, st => by
    obtain ⟨h1, h2⟩ := wrStep_b F s st j
    obtain ⟨h3, h4⟩ := wrFold_b F s r (wrStep F s st j)
    rw [List.foldl_cons, List.length_cons]
    exact ⟨h3.trans h1, by omega⟩
theorem wrFold_stop (F : Nat) (s : ByteArray) : ∀ (l : List Nat) (st : DM × Int), st.2 ≠ 0 → l.foldl (wrStep F s) st = st
  | [], _, _ => rfl
  | j :: r, st, h => by
    have e : wrStep F s st j = st := if_neg h
    rw [List.foldl_cons, e]; exact wrFold_stop F s r st h
theorem wrS_b (M : DM) (F : Nat) (s : ByteArray) (j : Nat) : (wrS M F s j).1.n = M.n ∧ (wrS M F s j).1.writes ≤ M.writes + j := by
  have h := wrFold_b F s (List.range j) (M, 0)
  rw [List.length_range] at h
  exact h
/-- The first error stands. -/
theorem wrS_stop (M : DM) (F : Nat) (s : ByteArray) {i j : Nat} (h : (wrS M F s i).2 ≠ 0) (hij : i ≤ j) : wrS M F s j = wrS M F s i := by
  obtain ⟨k, rfl⟩ := Nat.le.dest hij
  have e : List.range (i + k) = List.range i ++ (List.range k).map (i + ·) := List.range_add
  unfold wrS at h ⊢
  rw [e, List.foldl_append]
  exact wrFold_stop F s _ _ h

/-- One read, as long as none failed. -/
def rdStep (M : DM) (F : Nat) (st : List UInt8 × Int) (j : Nat) : List UInt8 × Int :=
  if st.2 = 0 then (if readE M ((F + j : Nat) : Int) = 0 then (st.1 ++ readV M ((F + j : Nat) : Int), 0) else ([], readE M ((F + j : Nat) : Int))) else st
def rdS (M : DM) (F : Nat) (j : Nat) : List UInt8 × Int := (List.range j).foldl (rdStep M F) ([], 0)
theorem rdS_succ (M : DM) (F j : Nat) : rdS M F (j + 1) = rdStep M F (rdS M F j) j := by
  unfold rdS; rw [List.range_succ, List.foldl_append]; rfl
theorem rdFold_stop (M : DM) (F : Nat) : ∀ (l : List Nat) (st : List UInt8 × Int), st.2 ≠ 0 → l.foldl (rdStep M F) st = st
  | [], _, _ => rfl
  | j :: r, st, h => by
    have e : rdStep M F st j = st := if_neg h
    rw [List.foldl_cons, e]; exact rdFold_stop M F r st h
theorem rdS_stop (M : DM) (F : Nat) {i j : Nat} (h : (rdS M F i).2 ≠ 0) (hij : i ≤ j) : rdS M F j = rdS M F i := by
  obtain ⟨k, rfl⟩ := Nat.le.dest hij
  have e : List.range (i + k) = List.range i ++ (List.range k).map (i + ·) := List.range_add
  unfold rdS at h ⊢
  rw [e, List.foldl_append]
  exact rdFold_stop M F _ _ h
theorem rdStep_len (M : DM) (F : Nat) (st : List UInt8 × Int) (j : Nat) (hr : ∀ a, (readV M a).length ≤ 512) : (rdStep M F st j).1.length ≤ st.1.length + 512 := by
  unfold rdStep
  split
  · split
    · rw [List.length_append]; have := hr ((F + j : Nat) : Int); omega
    · simp
  · omega
theorem rdFold_len (M : DM) (F : Nat) (hr : ∀ a, (readV M a).length ≤ 512) : ∀ (l : List Nat) (st : List UInt8 × Int), (l.foldl (rdStep M F) st).1.length ≤ st.1.length + 512 * l.length
  | [], _ => Nat.le_refl _
  | j :: r, st => by
    have h1 := rdStep_len M F st j hr
    have h2 := rdFold_len M F hr r (rdStep M F st j)
    rw [List.foldl_cons, List.length_cons]; omega
end Go.Proofs.YtjhpheepimbbdaaGreatDoor
namespace Go.Proofs.YtjhpheepimbbdaaGreatDoor
open Go.RowKit Go.Shelf
attribute [local go_sem] Oper.semAt_some

/-- The first k of T. -/
def uptoF (T k : Nat) : List (Fin T) := (List.finRange T).take k
theorem uptoF_len {T k : Nat} (h : k ≤ T) : (uptoF T k).length = k := by unfold uptoF; simp; omega
theorem uptoF_succ {T k : Nat} (h : k < T) : uptoF T (k + 1) = uptoF T k ++ [⟨k, h⟩] := by
  unfold uptoF
  rw [List.take_succ_eq_append_getElem (by simpa using h), List.getElem_finRange]; rfl
theorem uptoF_map {T : Nat} : ∀ k, k ≤ T → (uptoF T k).map (fun x => x.1) = List.range k
  | 0, _ => by simp [uptoF]
  | k + 1, h => by rw [uptoF_succ (by omega), List.map_append, uptoF_map k (by omega), List.range_succ]; rfl
/-- The box of the first sector's number; and that it is kept. -/
def boxO (A : Nat) : Obj := .cells #[.int .i64 (A : Int)] 3 (0, 0)
def kpO (B0 A : Nat) (X Y : World) : Prop := X.heap[B0]? = some (boxO A) → Y.heap[B0]? = some (boxO A)
theorem boxO_cell {W : World} {B A : Nat} (h : W.heap[B]? = some (boxO A)) : W.cell? ⟨B, 0, none⟩ = some (.int .i64 (A : Int)) := by
  rw [cell_of_row W B 0 #[.int .i64 (A : Int)] 3 (0, 0) h]; rfl
theorem kpO_t {B0 A : Nat} {X Y Z : World} (h : kpO B0 A X Y) (k : kpO B0 A Y Z) : kpO B0 A X Z := fun g => k (h g)
theorem kpO_b {B0 A : Nat} {w : World} (W : World) (l : Nat) (o o' : Obj) (_ : w.heap.size ≤ l) (hl : W.heap[l]? = some o) (ho : o.isCells = false) (_ : o.isWalk = false) : kpO B0 A W (W.putObj l o') := fun h =>
  ((grownBy_putObj' W l o').block B0 (Array.getElem?_eq_some_iff.1 h).1 (fun e => by injection e with e; subst e; rw [hl] at h; injection h with h; subst h; cases ho)).trans h
theorem kpO_ap {S : Nat → Prop} {B0 A : Nat} {X Y : World} (a : Ap S X Y) (hS : ¬ S B0) : kpO B0 A X Y := fun h => (a.block B0 (Array.getElem?_eq_some_iff.1 h).1 hS).trans h
theorem kpO_below {B0 A : Nat} {X Y : World} (a : Below X.heap.size X Y) : kpO B0 A X Y := kpO_ap (S := fun _ => False) (Ap.of_below a) id
theorem boxO_new (W : World) (A : Nat) (o : Obj) : ((W.alloc (.cells #[.int .i64 (A : Int)] 3)).alloc o).heap[W.heap.size]? = some (boxO A) :=
  ((below1 (W.alloc (.cells #[.int .i64 (A : Int)] 3)) o).block W.heap.size (by simp)).trans (heap_alloc_new W _)
def secNo : Value → Nat
  | .int _ q => q.toNat
  | _ => 0
theorem secMaker_any (a z : Int) (w : World) :
    Calls Tryz.prog 40 #[.int .i64 a, .int .i64 z] w fun e w' => e = .returned (.func (.func 67) #[] #[.pointer (some ⟨w.heap.size + 1, 0, none⟩), .pointer (some ⟨w.heap.size, 0, none⟩)]) ∧ w' = (w.alloc (.cells #[.int .i64 a] 3)).alloc (.cells #[.int .i64 z] 3) := by
  go_enter Tryz.func40, Tryz.ntmps40
  go_wp2
  go_ret
  exact ⟨rfl, rfl⟩
set_option maxRecDepth 100000 in
set_option maxHeartbeats 1000000 in
theorem secIter_in (F : Fence) (n : Nat) (hf : F.fn 67) (hro : F.round = none) (hn : 1 ≤ n) (l B0 B1 A T : Nat) (z : Int) (hz : z / 512 = (T : Int)) (hz0 : 0 ≤ z) (hz1 : z ≤ 65536) (hA : A ≤ 1000000) (hT : T ≤ 128) (Kp : World → World → Prop) (hKp : ∀ X Y, Kp X Y → kpO B0 A X Y) (J Jx : List (Fin T) → World → Prop)
    (hY : ∀ pre x W, J pre W → pre.length < T → YieldAt F (n - 1) Tryz.prog l #[.int .i64 ((A : Int) + ((x.1 : Nat) : Int)), .int .i64 (((x.1 : Nat) : Int) * 512)] W fun e W' =>
      (e = .returned (.bool true) ∧ J (pre ++ [x]) W' ∧ Kp W W') ∨ (e = .returned (.bool false) ∧ Jx (pre ++ [x]) W'))
    (W : World) (hc0 : W.heap[B0]? = some (boxO A)) (hc1 : W.cell? ⟨B1, 0, none⟩ = some (.int .i64 z)) (h0 : J [] W) :
    CallsIn F n Tryz.prog 67 #[.func (.yield l) #[] #[], .pointer (some ⟨B1, 0, none⟩), .pointer (some ⟨B0, 0, none⟩)] W fun e W' => (∃ v, e = .returned v) ∧
      ((∃ ys, ys.map (fun x : Fin T => x.1) = List.range T ∧ J ys W') ∨ (∃ pre, (∃ k, k ≤ T ∧ pre.map (fun x : Fin T => x.1) = List.range k) ∧ Jx pre W')) := by
  refine callsIn_of_wp Tryz.func67 rfl hf ?_ hro
  simp only [Tryz.ntmps67, List.size_toArray, List.length_cons, List.length_nil, Nat.reduceAdd, Nat.reduceSub, Array.replicate_succ, Array.replicate_zero, List.push_toArray, List.append_toArray, List.nil_append, List.cons_append]
  have HZ := Lib.hid hz
  have HC00 := Lib.hid hc0
  clear hz hc0
  gi_wp2
  rw [HZ.out]
  gi_loopw [7] (fun i wr => ∃ k : Nat, k ≤ T ∧ i = .int .i64 (k : Int) ∧ J (uptoF T k) wr ∧ wr.heap[B0]? = some (boxO A))
    (fun i _ => T - secNo i)
  case atStart => exact ⟨0, Nat.zero_le _, rfl, h0, HC00.out⟩
  case round =>
    obtain ⟨k, hk, rfl, hJs, hox⟩ := hrel
    have hcx := boxO_cell hox
    have HOX := Lib.hid hox
    clear hox
    by_cases hlt : k < T
    · obtain ⟨fn, tmps, assign, body, hy, hR⟩ := hY _ ⟨k, hlt⟩ wr hJs (by rw [uptoF_len hk]; exact hlt)
      dsimp only at hy
      have hw1 : wrap64 ((A : Int) + (k : Int)) = (A : Int) + (k : Int) := by unfold wrap64; omega
      have hw2 : wrap64 ((k : Int) * 512) = (k : Int) * 512 := by unfold wrap64; omega
      gi_wp2
      refine hR.mono ?_
      rintro e W3 (⟨rfl, hJ3, hk3⟩ | ⟨rfl, hJx3⟩)
      · have hc3 := Lib.hid (hKp _ _ hk3 HOX.out)
        gi_wp2
        go_roundw
        case rel => exact ⟨k + 1, by omega, by simp, by rw [uptoF_succ hlt]; exact hJ3, hc3.out⟩
        case measure => simp [secNo]; omega
      · gi_wp2
        refine bodyPost_ret (results_none rfl _ _ _) rfl ?_
        exact ⟨⟨_, rfl⟩, .inr ⟨_, ⟨k + 1, by omega, by rw [← uptoF_succ hlt]; exact uptoF_map _ hlt⟩, hJx3⟩⟩
    · obtain rfl : k = T := by omega
      gi_wp2
      go_end0
      exact ⟨⟨_, rfl⟩, .inl ⟨_, uptoF_map _ (Nat.le_refl _), hJs⟩⟩
theorem sec_stops (F : Fence) (n : Nat) (hf : F.fn 67) (hro : F.round = none) (hn : 1 ≤ n) (B0 B1 A T : Nat) (z : Int) (hz : z / 512 = (T : Int)) (hz0 : 0 ≤ z) (hz1 : z ≤ 65536) (hA : A ≤ 1000000) (hT : T ≤ 128)
    (w : World) (l0 : B0 < w.heap.size) (l1 : B1 < w.heap.size) (hc0 : w.heap[B0]? = some (boxO A)) (hc1 : w.cell? ⟨B1, 0, none⟩ = some (.int .i64 z)) :
    SeqStopsK F n Tryz.prog 67 #[.pointer (some ⟨B1, 0, none⟩), .pointer (some ⟨B0, 0, none⟩)] (fun x : Fin T => #[.int .i64 ((A : Int) + ((x.1 : Nat) : Int)), .int .i64 (((x.1 : Nat) : Int) * 512)]) (kpO B0 A)
      (fun ys => ys.map (fun x : Fin T => x.1) = List.range T) (fun pre => ∃ k, k ≤ T ∧ pre.map (fun x : Fin T => x.1) = List.range k) T w :=
  fun l J Jx W hW _ _ hY h0 => secIter_in F n hf hro hn l B0 B1 A T z hz hz0 hz1 hA hT (kpO B0 A) (fun _ _ h => h) J Jx hY W ((hW.block B0 l0).trans hc0) ((hW.cell (p := ⟨B1, 0, none⟩) l1).trans hc1) h0
theorem apK_from {S : Nat → Prop} {B : Nat} {W W' : World} (h : Ap S W W') (hS : ∀ q, S q → q < B) : KeepsFrom B W W' :=
  ⟨h.size, fun k o hk ho _ => (h.block k (Array.getElem?_eq_some_iff.1 ho).1 (fun g => by have := hS k g; omega)).trans ho⟩
end Go.Proofs.YtjhpheepimbbdaaGreatDoor
namespace Go.Proofs.YtjhpheepimbbdaaGreatDoor
open Go.RowKit

/-- A call has boxed a device, a geometry, a text and an error, in four new blocks. -/
structure CB (w W : World) (h : DH) (M : DM) (s k m c : Int) (t : ByteArray) (e : Int) : Prop where
  d : DevAt W h M
  lt : ∀ q, h.S q → q < w.heap.size
  b0 : W.cell? ⟨w.heap.size, 0, none⟩ = some (.pointer (some ⟨h.b, 0, none⟩))
  g0 : W.cell? ⟨w.heap.size + 1, 0, none⟩ = some (.int .i64 s)
  g1 : W.cell? ⟨w.heap.size + 1, 1, none⟩ = some (.int .i64 k)
  g2 : W.cell? ⟨w.heap.size + 1, 2, none⟩ = some (.int .i64 m)
  g3 : W.cell? ⟨w.heap.size + 1, 3, none⟩ = some (.int .i64 c)
  b2 : W.cell? ⟨w.heap.size + 1 + 1, 0, none⟩ = some (.string t)
  b3 : W.cell? ⟨w.heap.size + 1 + 1 + 1, 0, none⟩ = some (.int .i64 e)
  f2 : W.frozen? ⟨w.heap.size + 1 + 1, 0, none⟩ = false
  f3 : W.frozen? ⟨w.heap.size + 1 + 1 + 1, 0, none⟩ = false
  sz : w.heap.size + 4 ≤ W.heap.size
  ap : Ap h.S w W
section
variable {w W W' : World} {h : DH} {M M' : DM} {s k m c : Int} {t : ByteArray} {e : Int}
theorem CB.move {S : Nat → Prop} (z : CB w W h M s k m c t e) (d' : DevAt W' h M') (a : Ap S W W') (hS : ∀ q, q < w.heap.size + 4 → ¬ h.S q → ¬ S q) : CB w W' h M' s k m c t e := by
  have hz := z.sz
  have hn (q : Nat) (h0 : w.heap.size ≤ q) (h1 : q < w.heap.size + 4) : ¬ S q := hS q h1 (fun g => by have := z.lt q g; omega)
  have hc (q o : Nat) (h0 : w.heap.size ≤ q) (h1 : q < w.heap.size + 4) : W'.cell? ⟨q, o, none⟩ = W.cell? ⟨q, o, none⟩ := a.cell (by omega) (hn q h0 h1) o
  have hf (q o : Nat) (h0 : w.heap.size ≤ q) (h1 : q < w.heap.size + 4) : W'.frozen? ⟨q, o, none⟩ = W.frozen? ⟨q, o, none⟩ := a.frozen (by omega) (hn q h0 h1) o
  exact ⟨d', z.lt, (hc _ _ (by omega) (by omega)).trans z.b0, (hc _ _ (by omega) (by omega)).trans z.g0, (hc _ _ (by omega) (by omega)).trans z.g1, (hc _ _ (by omega) (by omega)).trans z.g2, (hc _ _ (by omega) (by omega)).trans z.g3,
    (hc _ _ (by omega) (by omega)).trans z.b2, (hc _ _ (by omega) (by omega)).trans z.b3, (hf _ _ (by omega) (by omega)).trans z.f2, (hf _ _ (by omega) (by omega)).trans z.f3, Nat.le_trans hz a.size,
    ⟨a.os.trans z.ap.os, a.tape.trans z.ap.tape, a.output.trans z.ap.output, Nat.le_trans z.ap.size a.size, fun q hq hn => (a.block q (by omega) (hS q (by omega) hn)).trans (z.ap.block q hq hn)⟩⟩
theorem CB.below (z : CB w W h M s k m c t e) (hb : Below W.heap.size W W') : CB w W' h M s k m c t e := z.move (S := fun _ => False) (z.d.below hb) (Ap.of_below hb) (fun _ _ _ => id)
theorem CB.drew (z : CB w W h M s k m c t e) : CB w W.drew h M s k m c t e := z.below ((Below.refl _ _).drew)
theorem CB.dev (z : CB w W h M s k m c t e) (d' : DevAt W' h M') (a : Ap h.S W W') : CB w W' h M' s k m c t e := z.move d' a (fun _ _ g => g)
theorem CB.own (z : CB w W h M s k m c t e) {B : Nat} (hB : w.heap.size + 4 ≤ B) {row : Option Nat} (hg : W.grownBy W' row) (hr : ∀ r, row = some r → B ≤ r) : CB w W' h M s k m c t e := by
  have a : Ap (fun q => B ≤ q) W W' := (Ap.refl W).grown hg (fun q hq => .inl (hr q hq))
  exact z.move (z.d.ap a (fun q hq hB' => by have := z.lt q hq; omega)) a (fun q hq _ hB' => by omega)
theorem CB.set3 (z : CB w W h M s k m c t e) (e' : Int) : CB w (W.setCell ⟨w.heap.size + 1 + 1 + 1, 0, none⟩ (.int .i64 e')) h M s k m c t e' := by
  have a := ap_put W (w.heap.size + 1 + 1 + 1) 0 (.int .i64 e')
  have hc (q o : Nat) (hq : q ≠ w.heap.size + 1 + 1 + 1) (hl : q < w.heap.size + 4) : (W.setCell ⟨w.heap.size + 1 + 1 + 1, 0, none⟩ (.int .i64 e')).cell? ⟨q, o, none⟩ = W.cell? ⟨q, o, none⟩ := a.cell (by have := z.sz; omega) hq o
  exact ⟨z.d.ap a (fun q hq hB' => by have := z.lt q hq; omega), z.lt, (hc _ _ (by omega) (by omega)).trans z.b0, (hc _ _ (by omega) (by omega)).trans z.g0, (hc _ _ (by omega) (by omega)).trans z.g1, (hc _ _ (by omega) (by omega)).trans z.g2, (hc _ _ (by omega) (by omega)).trans z.g3,
    (hc _ _ (by omega) (by omega)).trans z.b2, cell_put z.b3 _, (World.frozen?_setCell _ _ _ _).trans z.f2, (World.frozen?_setCell _ _ _ _).trans z.f3, Nat.le_trans z.sz a.size,
    ⟨a.os.trans z.ap.os, a.tape.trans z.ap.tape, a.output.trans z.ap.output, Nat.le_trans z.ap.size a.size, fun q hq hn => (a.block q (by have := z.sz; omega) (by show q ≠ _; omega)).trans (z.ap.block q hq hn)⟩⟩
theorem CB.set2 (z : CB w W h M s k m c t e) (t' : ByteArray) : CB w (W.setCell ⟨w.heap.size + 1 + 1, 0, none⟩ (.string t')) h M s k m c t' e := by
  have a := ap_put W (w.heap.size + 1 + 1) 0 (.string t')
  have hc (q o : Nat) (hq : q ≠ w.heap.size + 1 + 1) (hl : q < w.heap.size + 4) : (W.setCell ⟨w.heap.size + 1 + 1, 0, none⟩ (.string t')).cell? ⟨q, o, none⟩ = W.cell? ⟨q, o, none⟩ := a.cell (by have := z.sz; omega) hq o
  exact ⟨z.d.ap a (fun q hq hB' => by have := z.lt q hq; omega), z.lt, (hc _ _ (by omega) (by omega)).trans z.b0, (hc _ _ (by omega) (by omega)).trans z.g0, (hc _ _ (by omega) (by omega)).trans z.g1, (hc _ _ (by omega) (by omega)).trans z.g2, (hc _ _ (by omega) (by omega)).trans z.g3,
    cell_put z.b2 _, (hc _ _ (by omega) (by omega)).trans z.b3, (World.frozen?_setCell _ _ _ _).trans z.f2, (World.frozen?_setCell _ _ _ _).trans z.f3, Nat.le_trans z.sz a.size,
    ⟨a.os.trans z.ap.os, a.tape.trans z.ap.tape, a.output.trans z.ap.output, Nat.le_trans z.ap.size a.size, fun q hq hn => (a.block q (by have := z.sz; omega) (by show q ≠ _; omega)).trans (z.ap.block q hq hn)⟩⟩
theorem clu_slt (d : DevAt w h M) : ∀ q, h.S q → q < w.heap.size := by
  have h1 := d.ltb; have h2 := d.ltbs; have h3 := d.wait.lt; have h4 := d.badm.lt
  rintro q (rfl | rfl | rfl | rfl) <;> assumption
/-- The start. -/
theorem CB.start (d : DevAt w h M) (s k m c : Int) (t : ByteArray) (T0 T1 T2 T3 : Nat) :
    CB w ((((w.alloc (.cells #[.pointer (some ⟨h.b, 0, none⟩)] T0)).alloc (.cells #[.int .i64 s, .int .i64 k, .int .i64 m, .int .i64 c] T1)).alloc (.cells #[.string t] T2)).alloc (.cells #[.int .i64 0] T3)) h M s k m c t 0 := by
  have hb0 := below1 w (.cells #[.pointer (some ⟨h.b, 0, none⟩)] T0)
  have hb1 := below1 (w.alloc (.cells #[.pointer (some ⟨h.b, 0, none⟩)] T0)) (.cells #[.int .i64 s, .int .i64 k, .int .i64 m, .int .i64 c] T1)
  have hb2 := below1 ((w.alloc (.cells #[.pointer (some ⟨h.b, 0, none⟩)] T0)).alloc (.cells #[.int .i64 s, .int .i64 k, .int .i64 m, .int .i64 c] T1)) (.cells #[.string t] T2)
  have hb3 := below1 (((w.alloc (.cells #[.pointer (some ⟨h.b, 0, none⟩)] T0)).alloc (.cells #[.int .i64 s, .int .i64 k, .int .i64 m, .int .i64 c] T1)).alloc (.cells #[.string t] T2)) (.cells #[.int .i64 0] T3)
  have hb : Below w.heap.size w ((((w.alloc (.cells #[.pointer (some ⟨h.b, 0, none⟩)] T0)).alloc (.cells #[.int .i64 s, .int .i64 k, .int .i64 m, .int .i64 c] T1)).alloc (.cells #[.string t] T2)).alloc (.cells #[.int .i64 0] T3)) :=
    ((hb0.trans (hb1.mono (by simp))).trans (hb2.mono (by simp; omega))).trans (hb3.mono (by simp; omega))
  refine ⟨d.below hb, clu_slt d, ?_, ?_, ?_, ?_, ?_, ?_, ?_, ?_, ?_, by simp, Ap.of_below hb⟩
  · simp [go_sem]
  · simp [go_sem]
  · simp [go_sem]
  · simp [go_sem]
  · simp [go_sem]
  · simp [go_sem]
  · simp [go_sem]
  · have e := frozen_of_row _ _ 0 _ T2 (heap_alloc_new ((w.alloc (.cells #[.pointer (some ⟨h.b, 0, none⟩)] T0)).alloc (.cells #[.int .i64 s, .int .i64 k, .int .i64 m, .int .i64 c] T1)) (.cells #[.string t] T2))
    rw [show ((w.alloc (.cells #[.pointer (some ⟨h.b, 0, none⟩)] T0)).alloc (.cells #[.int .i64 s, .int .i64 k, .int .i64 m, .int .i64 c] T1)).heap.size = w.heap.size + 1 + 1 by simp] at e
    exact (hb3.frozen (p := ⟨w.heap.size + 1 + 1, 0, none⟩) (by show _ < _; simp)).trans e
  · have e := frozen_of_row _ _ 0 _ T3 (heap_alloc_new (((w.alloc (.cells #[.pointer (some ⟨h.b, 0, none⟩)] T0)).alloc (.cells #[.int .i64 s, .int .i64 k, .int .i64 m, .int .i64 c] T1)).alloc (.cells #[.string t] T2)) (.cells #[.int .i64 0] T3))
    rw [show (((w.alloc (.cells #[.pointer (some ⟨h.b, 0, none⟩)] T0)).alloc (.cells #[.int .i64 s, .int .i64 k, .int .i64 m, .int .i64 c] T1)).alloc (.cells #[.string t] T2)).heap.size = w.heap.size + 1 + 1 + 1 by simp] at e
    exact e
end
theorem slice_part (t : ByteArray) (x : Nat) (h : x * 512 + 512 ≤ t.size) (W : World) :
    (Instr.slice 9 (.string t) (some (.int .i64 ((x : Int) * 512))) (some (.int .i64 ((x : Int) * 512 + 512))) none).run Tryz.prog W = .ok (.string (partS t x)) W := by
  have h0 : (0 : Int) ≤ (x : Int) * 512 := by omega
  have h1 : (x : Int) * 512 + 512 ≤ (t.size : Int) := by omega
  have h2 : (0 : Int) ≤ (x : Int) * 512 + 512 := by omega
  have h3 : ((x : Int) * 512 + 512).toNat = x * 512 + 512 := by omega
  have h4 : ((x : Int) * 512).toNat = x * 512 := by omega
  have h5 : (x : Int) * 512 ≤ (x : Int) * 512 + 512 := by omega
  unfold partS
  go_simp
/-- An exit that does not come: so that a drawn region may be walked in a body with marks. -/
def calmQ (Q : Exit → Act → World → Prop) : Exit → Act → World → Prop
  | .panic _, _, _ => False
  | .normal, a, w => Q .normal a w
  | .ret, a, w => Q .ret a w
  | .exit i, a, w => Q (.exit i) a w
  | .goto i, a, w => Q (.goto i) a w
  | .outgrown, a, w => Q .outgrown a w
theorem wpIn_calm {F : Fence} {n : Nat} {P : Program} {c : Code} {Q : Exit → Act → World → Prop} {a : Act} {w : World} (h : c.wpIn F n P (calmQ Q) a w) : c.wpIn F n P Q a w := by
  refine wpIn_mono h ?_
  intro e a' w' hq
  cases e with
  | panic ch => exact hq.elim
  | normal => exact hq
  | ret => exact hq
  | exit i => exact hq
  | goto i => exact hq
  | outgrown => exact hq
end Go.Proofs.YtjhpheepimbbdaaGreatDoor
