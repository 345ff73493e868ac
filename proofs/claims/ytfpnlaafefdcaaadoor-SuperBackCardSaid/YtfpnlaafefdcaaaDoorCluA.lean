/- Clusters: the sectors of a cluster, one by one: what makes the iterator, and the iterator. -/
import Derived.Test.YtfpnlaafefdcaaaDoorCluM
import Derived.RangeFuncNested
import Derived.RangeFuncBound
import Derived.RangeFuncCalls
import Derived.RangeFuncLeaves
import Derived.Shelf.Abstract
import Derived.Shelf.RegionOpen
import Derived.OwnWalkIn
import Derived.TacticsInMore
import Derived.LoopNIn
import Derived.LoopIn
namespace Go.Proofs.YtfpnlaafefdcaaaDoor
open Go.RowKit Go.Shelf
attribute [local go_sem] Oper.semAt_some

/-- The first k of T. -/
def uptoF (T k : Nat) : List (Fin T) := (List.finRange T).take k
theorem uptoF_len {T k : Nat} (h : k ≤ T) : (uptoF T k).length = k := by unfold uptoF; simp; omega
theorem uptoF_succ {T k : Nat} (h : k < T) : uptoF T (k + 1) = uptoF T k ++ [⟨k, h⟩] := by
  unfold uptoF
  rw [List.take_succ_eq_append_getElem (by simpa using h), List.getElem_finRange]; rfl
theorem uptoF_map {T : Nat} : ∀ k, k ≤ T → (uptoF T k).map (fun x => x.1) = List.range k
  | 0, _ => by simp [uptoF]
  | k + 1, h => by rw [uptoF_succ (by omega), List.map_append, uptoF_map k (by omega), List.range_succ]; rfl
/-- The box of the first sector's number; and that it is kept. -/
def boxO (A : Nat) : Obj := .cells #[.int .i64 (A : Int)] 3 (0, 0)
def kpO (B0 A : Nat) (X Y : World) : Prop := X.heap[B0]? = some (boxO A) → Y.heap[B0]? = some (boxO A)
theorem boxO_cell {W : World} {B A : Nat} (h : W.heap[B]? = some (boxO A)) : W.cell? ⟨B, 0, none⟩ = some (.int .i64 (A : Int)) := by
  rw [cell_of_row W B 0 #[.int .i64 (A : Int)] 3 (0, 0) h]; rfl
theorem kpO_t {B0 A : Nat} {X Y Z : World} (h : kpO B0 A X Y) (k : kpO B0 A Y Z) : kpO B0 A X Z := fun g => k (h g)
theorem kpO_b {B0 A : Nat} {w : World} (W : World) (l : Nat) (o o' : Obj) (_ : w.heap.size ≤ l) (hl : W.heap[l]? = some o) (ho : o.isCells = false) (_ : o.isWalk = false) : kpO B0 A W (W.putObj l o') := fun h =>
  ((grownBy_putObj' W l o').block B0 (Array.getElem?_eq_some_iff.1 h).1 (fun e => by injection e with e; subst e; rw [hl] at h; injection h with h; subst h; cases ho)).trans h
theorem kpO_ap {S : Nat → Prop} {B0 A : Nat} {X Y : World} (a : Ap S X Y) (hS : ¬ S B0) : kpO B0 A X Y := fun h => (a.block B0 (Array.getElem?_eq_some_iff.1 h).1 hS).trans h
theorem kpO_below {B0 A : Nat} {X Y : World} (a : Below X.heap.size X Y) : kpO B0 A X Y := kpO_ap (S := fun _ => False) (Ap.of_below a) id
theorem boxO_new (W : World) (A : Nat) (o : Obj) : ((W.alloc (.cells #[.int .i64 (A : Int)] 3)).alloc o).heap[W.heap.size]? = some (boxO A) :=
  ((below1 (W.alloc (.cells #[.int .i64 (A : Int)] 3)) o).block W.heap.size (by simp)).trans (heap_alloc_new W _)
def secNo : Value → Nat
  | .int _ q => q.toNat
  | _ => 0
theorem secMaker_any (a z : Int) (w : World) :
    Calls Tryd.prog 112 #[.int .i64 a, .int .i64 z] w fun e w' => e = .returned (.func (.func 136) #[] #[.pointer (some ⟨w.heap.size + 1, 0, none⟩), .pointer (some ⟨w.heap.size, 0, none⟩)]) ∧ w' = (w.alloc (.cells #[.int .i64 a] 3)).alloc (.cells #[.int .i64 z] 3) := by
  go_enter Tryd.func112, Tryd.ntmps112
  go_wp2
  go_ret
  exact ⟨rfl, rfl⟩
set_option maxRecDepth 100000 in
set_option maxHeartbeats 1000000 in
theorem secIter_in (F : Fence) (n : Nat) (hf : F.fn 136) (hro : F.round = none) (hn : 1 ≤ n) (l B0 B1 A T : Nat) (z : Int) (hz : z / 512 = (T : Int)) (hz0 : 0 ≤ z) (hz1 : z ≤ 65536) (hA : A ≤ 1000000) (hT : T ≤ 128) (Kp : World → World → Prop) (hKp : ∀ X Y, Kp X Y → kpO B0 A X Y) (J Jx : List (Fin T) → World → Prop)
    (hY : ∀ pre x W, J pre W → pre.length < T → YieldAt F (n - 1) Tryd.prog l #[.int .i64 ((A : Int) + ((x.1 : Nat) : Int)), .int .i64 (((x.1 : Nat) : Int) * 512)] W fun e W' =>
      (e = .returned (.bool true) ∧ J (pre ++ [x]) W' ∧ Kp W W') ∨ (e = .returned (.bool false) ∧ Jx (pre ++ [x]) W'))
    (W : World) (hc0 : W.heap[B0]? = some (boxO A)) (hc1 : W.cell? ⟨B1, 0, none⟩ = some (.int .i64 z)) (h0 : J [] W) :
    CallsIn F n Tryd.prog 136 #[.func (.yield l) #[] #[], .pointer (some ⟨B1, 0, none⟩), .pointer (some ⟨B0, 0, none⟩)] W fun e W' => (∃ v, e = .returned v) ∧
      ((∃ ys, ys.map (fun x : Fin T => x.1) = List.range T ∧ J ys W') ∨ (∃ pre, (∃ k, k ≤ T ∧ pre.map (fun x : Fin T => x.1) = List.range k) ∧ Jx pre W')) := by
  refine callsIn_of_wp Tryd.func136 rfl hf ?_ hro
  simp only [Tryd.ntmps136, List.size_toArray, List.length_cons, List.length_nil, Nat.reduceAdd, Nat.reduceSub, Array.replicate_succ, Array.replicate_zero, List.push_toArray, List.append_toArray, List.nil_append, List.cons_append]
  have HZ := Lib.hid hz
  have HC00 := Lib.hid hc0
  clear hz hc0
  gi_wp2
  rw [HZ.out]
  gi_loopw [7] (fun i wr => ∃ k : Nat, k ≤ T ∧ i = .int .i64 (k : Int) ∧ J (uptoF T k) wr ∧ wr.heap[B0]? = some (boxO A))
    (fun i _ => T - secNo i)
  case atStart => exact ⟨0, Nat.zero_le _, rfl, h0, HC00.out⟩
  case round =>
    obtain ⟨k, hk, rfl, hJs, hox⟩ := hrel
    have hcx := boxO_cell hox
    have HOX := Lib.hid hox
    clear hox
    by_cases hlt : k < T
    · obtain ⟨fn, tmps, assign, body, hy, hR⟩ := hY _ ⟨k, hlt⟩ wr hJs (by rw [uptoF_len hk]; exact hlt)
      dsimp only at hy
      have hw1 : wrap64 ((A : Int) + (k : Int)) = (A : Int) + (k : Int) := by unfold wrap64; omega
      have hw2 : wrap64 ((k : Int) * 512) = (k : Int) * 512 := by unfold wrap64; omega
      gi_wp2
      refine hR.mono ?_
      rintro e W3 (⟨rfl, hJ3, hk3⟩ | ⟨rfl, hJx3⟩)
      · have hc3 := Lib.hid (hKp _ _ hk3 HOX.out)
        gi_wp2
        go_roundw
        case rel => exact ⟨k + 1, by omega, by simp, by rw [uptoF_succ hlt]; exact hJ3, hc3.out⟩
        case measure => simp [secNo]; omega
      · gi_wp2
        refine bodyPost_ret (results_none rfl _ _ _) rfl ?_
        exact ⟨⟨_, rfl⟩, .inr ⟨_, ⟨k + 1, by omega, by rw [← uptoF_succ hlt]; exact uptoF_map _ hlt⟩, hJx3⟩⟩
    · obtain rfl : k = T := by omega
      gi_wp2
      go_end0
      exact ⟨⟨_, rfl⟩, .inl ⟨_, uptoF_map _ (Nat.le_refl _), hJs⟩⟩
theorem sec_stops (F : Fence) (n : Nat) (hf : F.fn 136) (hro : F.round = none) (hn : 1 ≤ n) (B0 B1 A T : Nat) (z : Int) (hz : z / 512 = (T : Int)) (hz0 : 0 ≤ z) (hz1 : z ≤ 65536) (hA : A ≤ 1000000) (hT : T ≤ 128)
    (w : World) (l0 : B0 < w.heap.size) (l1 : B1 < w.heap.size) (hc0 : w.heap[B0]? = some (boxO A)) (hc1 : w.cell? ⟨B1, 0, none⟩ = some (.int .i64 z)) :
    SeqStopsK F n Tryd.prog 136 #[.pointer (some ⟨B1, 0, none⟩), .pointer (some ⟨B0, 0, none⟩)] (fun x : Fin T => #[.int .i64 ((A : Int) + ((x.1 : Nat) : Int)), .int .i64 (((x.1 : Nat) : Int) * 512)]) (kpO B0 A)
      (fun ys => ys.map (fun x : Fin T => x.1) = List.range T) (fun pre => ∃ k, k ≤ T ∧ pre.map (fun x : Fin T => x.1) = List.range k) T w :=
  fun l J Jx W hW _ _ hY h0 => secIter_in F n hf hro hn l B0 B1 A T z hz hz0 hz1 hA hT (kpO B0 A) (fun _ _ h => h) J Jx hY W ((hW.block B0 l0).trans hc0) ((hW.cell (p := ⟨B1, 0, none⟩) l1).trans hc1) h0
theorem apK_from {S : Nat → Prop} {B : Nat} {W W' : World} (h : Ap S W W') (hS : ∀ q, S q → q < B) : KeepsFrom B W W' :=
  ⟨h.size, fun k o hk ho _ => (h.block k (Array.getElem?_eq_some_iff.1 ho).1 (fun g => by have := hS k g; omega)).trans ho⟩
end Go.Proofs.YtfpnlaafefdcaaaDoor
