/- What TopClusters needs beside the contracts: its model, and its sums. -/
import Derived.Test.YtmbjcphhfnemgaaDoorDevG
import Derived.Test.YtmbjcphhfnemgaaDoorGeoB
import Derived.Test.YtmbjcphhfnemgaaDoorTopBeg
import Derived.Deep.Upon
import Derived.Maps.AppendAt
namespace Go.Proofs.YtmbjcphhfnemgaaDoor
open Go.RowKit Go.Maps

/-- A slice that reads as these bools. -/
def BoolsS (w : World) (v : Value) (Q : List Bool) : Prop :=
  ∃ A cap, v = .slice A Q.length cap ∧ Q.length ≤ cap ∧ cap ≤ maxLen ∧ (Q = [] ∨ ∃ b off, A = some ⟨b, off, none⟩ ∧ b < w.heap.size ∧ ∀ j, j < Q.length → w.cell? ⟨b, off + j, none⟩ = some (.bool (Q.getD j false)))
/-- A device that is up, has no fuse, and none bad. -/
def cM (n : Nat) (su : Nat → List UInt8) (fr : Nat → Option (List UInt8)) (wr : Nat) : DM := ⟨n, su, fr, fun _ => false, wr, false, -1⟩
def inC (F T i : Nat) : Bool := decide (F ≤ i ∧ i < F + T)
def frM (F : Nat) (l : List UInt8) (j : Nat) (i : Nat) : Option (List UInt8) := if inC F j i = true then some l else none
def suM (F T : Nat) (l : List UInt8) (i : Nat) : List UInt8 := if inC F T i = true then l else blankB
theorem has_in {n a : Nat} (h : a < n) : hasB n (a : Int) = true := decide_eq_true ⟨by omega, by omega⟩
theorem cM_write {n : Nat} {su fr wr} {a : Nat} {s : ByteArray} (ha : a < n) (hs : s.size = 512) : writeE (cM n su fr wr) (a : Int) s = 0 ∧ writeM (cM n su fr wr) (a : Int) s = cM n su (upd fr a (some s.data.toList)) (wr + 1) := by
  have h1 : writeE (cM n su fr wr) (a : Int) s = 0 := by
    unfold writeE
    rw [if_neg (by simp [cM]), if_neg (by rw [show (cM n su fr wr).n = n from rfl, has_in ha]; simp), if_neg (by omega)]
    unfold burnE; rw [if_neg (by simp [cM])]
  refine ⟨h1, ?_⟩
  unfold writeM
  rw [if_pos h1]
  unfold burnM
  rw [if_neg (by simp [cM]), if_neg (by simp [cM])]
  simp [cM]
theorem fr_zero (F : Nat) (l : List UInt8) : frM F l 0 = fun _ => none := by
  funext i; unfold frM inC; rw [if_neg (by simp)]
theorem fr_step (F : Nat) (l : List UInt8) (j : Nat) : upd (frM F l j) (F + j) (some l) = frM F l (j + 1) := by
  funext i
  by_cases e : i = F + j
  · subst e; rw [upd_same]; unfold frM inC; rw [if_pos (by simp)]
  · rw [upd_ne _ _ e]; unfold frM inC
    by_cases g : F ≤ i ∧ i < F + j
    · rw [if_pos (by simpa using g), if_pos (by simp; omega)]
    · rw [if_neg (by simpa using g), if_neg (by simp; omega)]
theorem cM_flush {n F T wr : Nat} {l : List UInt8} : flushE (cM n (fun _ => blankB) (frM F l T) wr) = 0 ∧ flushM (cM n (fun _ => blankB) (frM F l T) wr) = cM n (suM F T l) (fun _ => none) wr := by
  have h0 : burnE (cM n (fun _ => blankB) (frM F l T) wr) = 0 := by unfold burnE; rw [if_neg (by simp [cM])]
  refine ⟨by unfold flushE; rw [if_neg (by simp [cM]), h0], ?_⟩
  unfold flushM
  rw [if_neg (by simp [cM]), if_pos h0]
  unfold burnM
  rw [if_neg (by simp [cM]), if_neg (by simp [cM])]
  unfold landM cM
  congr 1
  · funext i; show (frM F l T i).getD blankB = suM F T l i
    unfold frM suM; split <;> rfl
theorem cM_crash {n a wr : Nat} {su : Nat → List UInt8} {z : List UInt8} {Q : List Bool} (ha : a < n) : crashM (cM n su (upd (fun _ => none) a (some z)) wr) (false :: Q) = cM n su (fun _ => none) wr := by
  have hw : waitL (cM n su (upd (fun _ => none) a (some z)) wr) = [a] := by
    unfold waitL
    show (List.range n).filter (fun i => (upd (fun _ => none) a (some z) i).isSome) = [a]
    rw [show (fun i => (upd (fun _ => (none : Option (List UInt8))) a (some z) i).isSome) = (fun i => decide (i = a)) by
      funext i
      by_cases e : i = a
      · subst e; rw [upd_same]; simp
      · rw [upd_ne _ _ e]; simp [e]]
    clear wr su
    induction n with
    | zero => omega
    | succ m ih =>
      rw [List.range_succ, List.filter_append]
      by_cases e : a = m
      · subst e
        have : (List.range a).filter (fun i => decide (i = a)) = [] := by
          rw [List.filter_eq_nil_iff]; intro i hi; have := List.mem_range.1 hi; simp; omega
        rw [this]; simp
      · rw [ih (by omega)]; simp; omega
  have hk : ∀ i, keptB [a] (false :: Q) i = false := fun i => by unfold keptB; simp
  unfold crashM crashN
  rw [hw]
  simp only [hk, Bool.false_eq_true, if_false]
  unfold cM
  simp
theorem cM_read {n a wr : Nat} {su : Nat → List UInt8} (ha : a < n) : readE (cM n su (fun _ => none) wr) (a : Int) = 0 ∧ readV (cM n su (fun _ => none) wr) (a : Int) = su a := by
  have h1 : readE (cM n su (fun _ => none) wr) (a : Int) = 0 := by
    unfold readE
    rw [if_neg (by simp [cM]), if_neg (by rw [show (cM n su (fun _ => none) wr).n = n from rfl, has_in ha]; simp)]
    simp [cM]
  refine ⟨h1, ?_⟩
  unfold readV
  rw [if_pos h1]
  simp [cM]
theorem clu_in {A T q : Nat} (hT : 1 ≤ T) : q / T = A ↔ A * T ≤ q ∧ q < A * T + T := by
  constructor
  · rintro rfl
    have h1 := Nat.div_add_mod q T
    have h2 := Nat.mod_lt q (show 0 < T by omega)
    rw [Nat.mul_comm] at h1
    omega
  · rintro ⟨h1, h2⟩
    have h3 : A ≤ q / T := (Nat.le_div_iff_mul_le (by omega)).2 h1
    have h4 : q / T < A + 1 := (Nat.div_lt_iff_lt_mul (by omega)).2 (by rw [Nat.succ_mul]; exact h2)
    omega
theorem box_cells {w : World} (s k m c : Int) (t : Nat) : (w.alloc (.cells #[.int .i64 s, .int .i64 k, .int .i64 m, .int .i64 c] t)).cell? ⟨w.heap.size, 0, none⟩ = some (.int .i64 s) ∧ (w.alloc (.cells #[.int .i64 s, .int .i64 k, .int .i64 m, .int .i64 c] t)).cell? ⟨w.heap.size, 1, none⟩ = some (.int .i64 k) ∧
    (w.alloc (.cells #[.int .i64 s, .int .i64 k, .int .i64 m, .int .i64 c] t)).cell? ⟨w.heap.size, 2, none⟩ = some (.int .i64 m) ∧ (w.alloc (.cells #[.int .i64 s, .int .i64 k, .int .i64 m, .int .i64 c] t)).cell? ⟨w.heap.size, 3, none⟩ = some (.int .i64 c) := by
  refine ⟨?_, ?_, ?_, ?_⟩ <;> simp [go_sem]
theorem box_below {w1 w2 : World} {B b : Nat} {s k m c : Int} (h : w1.cell? ⟨b, 0, none⟩ = some (.int .i64 s) ∧ w1.cell? ⟨b, 1, none⟩ = some (.int .i64 k) ∧ w1.cell? ⟨b, 2, none⟩ = some (.int .i64 m) ∧ w1.cell? ⟨b, 3, none⟩ = some (.int .i64 c)) (hb : Below B w1 w2) (hB : b < B) :
    w2.cell? ⟨b, 0, none⟩ = some (.int .i64 s) ∧ w2.cell? ⟨b, 1, none⟩ = some (.int .i64 k) ∧ w2.cell? ⟨b, 2, none⟩ = some (.int .i64 m) ∧ w2.cell? ⟨b, 3, none⟩ = some (.int .i64 c) :=
  ⟨(hb.cell (p := ⟨b, 0, none⟩) hB).trans h.1, (hb.cell (p := ⟨b, 1, none⟩) hB).trans h.2.1, (hb.cell (p := ⟨b, 2, none⟩) hB).trans h.2.2.1, (hb.cell (p := ⟨b, 3, none⟩) hB).trans h.2.2.2⟩
theorem devNew_ex (n : Nat) (h1 : 1 ≤ n) (h2 : n ≤ 32768) (w : World) :
    Calls Tryd.prog 6 #[.int .i64 (n : Int)] w fun e w' => ∃ h : DH, e = .returned (.tuple #[.pointer (some ⟨h.b, 0, none⟩), .int .i64 0]) ∧ DevAt w' h (newM n) ∧ h.above w.heap.size ∧ Below w.heap.size w w' := by
  refine (devNew_ok n h1 h2 w).mono ?_
  rintro e w' ⟨he, hd, hb⟩
  exact ⟨newH w n, he, hd, ⟨by simp only [newH]; omega, by simp only [newH]; omega, by simp only [newH]; omega, by simp only [newH]; omega⟩, hb⟩
theorem DevAt.S_lt {w : World} {h : DH} {M : DM} (d : DevAt w h M) : ∀ k, h.S k → k < w.heap.size := by
  have h1 := d.ltb; have h2 := d.ltbs; have h3 := d.wait.lt; have h4 := d.badm.lt
  rintro k (rfl | rfl | rfl | rfl) <;> assumption
theorem Row8.ap {S : Nat → Prop} {w w' : World} {b off : Nat} {l : List UInt8} (h : Row8 w b off l) (a : Ap S w w') (hn : ¬ S b) : Row8 w' b off l := a.row h hn
/-- A slice of bools in a block that is not older than B. -/
def NewBools (B : Nat) (w : World) (v : Value) (Q : List Bool) : Prop :=
  ∃ g cap, v = .slice (some ⟨g, 0, none⟩) Q.length cap ∧ Q.length ≤ cap ∧ cap ≤ maxLen ∧ B ≤ g ∧ g < w.heap.size ∧ ∀ j, j < Q.length → w.cell? ⟨g, j, none⟩ = some (.bool (Q.getD j false))
theorem NewBools.at {B : Nat} {w : World} {v : Value} {Q : List Bool} {h : DH} (n : NewBools B w v Q) (hS : ∀ k, h.S k → k < B) : BoolsAt w h v Q := by
  obtain ⟨g, cap, rfl, h1, h2, h3, h4, h5⟩ := n
  exact ⟨_, cap, rfl, h1, (by unfold maxLen at h2; omega), .inr ⟨g, 0, rfl, h4, (fun e => by have := hS g e; omega), fun j hj => by rw [Nat.zero_add]; exact h5 j hj⟩⟩
theorem BoolsS.below {B : Nat} {w w' : World} {v : Value} {Q : List Bool} (k : BoolsS w v Q) (hb : Below B w w') (hB : w.heap.size ≤ B) : BoolsS w' v Q := by
  obtain ⟨A, cap, hv, h1, h2, h3⟩ := k
  refine ⟨A, cap, hv, h1, h2, ?_⟩
  rcases h3 with h3 | ⟨b, off, hA, hlt, hc⟩
  · exact .inl h3
  · exact .inr ⟨b, off, hA, Nat.lt_of_lt_of_le hlt hb.size, fun j hj => (hb.cell (p := ⟨b, off + j, none⟩) (by show b < B; omega)).trans (hc j hj)⟩
theorem infoBool : ∃ i, Tryd.prog.info? 4 = some i ∧ i.zero = some (.bool false) ∧ i.size = 1 ∧ i.bytes = 1 := by
  have h : (Tryd.prog.info? 4).map (fun i => (i.zero, i.size, i.bytes)) = some (some (.bool false), 1, 1) := by kernel_rfl
  cases hq : Tryd.prog.info? 4 with
  | none => rw [hq] at h; cases h
  | some i => rw [hq] at h; simp only [Option.map_some, Option.some.injEq, Prod.mk.injEq] at h; exact ⟨i, rfl, h.1, h.2.1, h.2.2⟩
/-- append([]bool{false}, q...). -/
theorem wpList_app_bools {W : World} {ops : Array Oper} {rest : List Oper} {o : Oper} {a : Act} {K : Exit → Act → World → Prop} (hgd : o.guard = none) (s x : Operand)
    (ho : o.op = .call { callee := .builtin .append, args := #[s, x], argTypes := #[24, 24] })
    (hs : a.eval s = .slice (some ⟨W.heap.size, 0, none⟩) 1 1) (v : Value) (hx : a.eval x = v) {Q : List Bool} (hQ : BoolsS W v Q) (hQs : Q.length ≤ 140737488351232)
    (hK : ∀ v' w', NewBools W.heap.size w' v' (false :: Q) → Below W.heap.size W w' → wpList Tryd.prog ops K rest (a.put o.dst v') w') :
    wpList Tryd.prog ops K (o :: rest) a (W.alloc (.cells #[.bool false] 4)) := by
  obtain ⟨i, hi, hz, hsz, hby⟩ := infoBool
  obtain ⟨A, cap, rfl, hq1, hq2, hq3⟩ := hQ
  have hbA : Below W.heap.size W (W.alloc (.cells #[.bool false] 4)) := (Below.refl _ _).alloc (Nat.le_refl _) _
  have hnew : (W.alloc (.cells #[.bool false] 4)).cell? ⟨W.heap.size, 0, none⟩ = some (.bool false) := by simp [go_sem]
  by_cases hQ0 : Q = []
  · subst hQ0
    have hsrc : Src Tryd.prog i.size 24 (.slice A 0 cap) 0 [] (W.alloc (.cells #[.bool false] 4)) := by
      cases A with
      | none => exact Src.ofNil _ Tryd.underlying24 cap
      | some ad => exact Src.ofSlice _ Tryd.underlying24 ad 0 cap [] (by simp) (fun j u h => by simp at h) (fun u h => by cases h)
    have hr := run_append_nothing (P := Tryd.prog) (W.alloc (.cells #[.bool false] 4)) 24 24 o.type 4 i Tryd.underlying24 hi (some ⟨W.heap.size, 0, none⟩) 1 1 (Nat.le_refl _) _ hsrc
    refine wpList_plain hgd fun K' hK' => ?_
    unfold Oper.wp execOp
    simp only [ho, resolve, invoke, builtin, Sem.run_bind, Sem.run_pure, Result.andThen_ok, List.map_toArray, List.map_cons, List.map_nil, hs, hx, List.length_nil, hr]
    exact hK' _ _ (hK _ _ ⟨W.heap.size, 1, rfl, Nat.le_refl _, (by unfold maxLen; omega), Nat.le_refl _, (by simp), fun j hj => by
      obtain rfl : j = 0 := by simpa using hj
      exact hnew⟩ hbA)
  · obtain ⟨b, off, rfl, hlt, hc⟩ := hq3.resolve_left hQ0
    have hown : (W.alloc (.cells #[.bool false] 4)).ownsRow W.heap.size 4 1 (.slice (some ⟨W.heap.size, 0, none⟩) 1 1) 1 [.bool false] :=
      ⟨rfl, .inr ⟨W.heap.size, 1, #[.bool false], rfl, Nat.le_refl _, heap_alloc_new W _, Nat.le_refl _, (by unfold maxLen; omega), rfl, rfl⟩⟩
    refine wpList_append_own_at _ hgd s x 24 ho W.heap.size 4 i (.bool false) 1 1 Tryd.underlying24 hi hz hsz hby rfl (by decide) _ 1 [.bool false] hs hown ⟨b, off, none⟩ Q.length cap (Q.map Value.bool) hx (by simp) (fun j u hu => ?_) (fun u hu => ?_) (by unfold maxLen; omega) (by omega) (by simp) ?_
    · have hj : j < Q.length := by have := (List.getElem?_eq_some_iff.1 hu).1; simpa using this
      rw [show (⟨b, off, none⟩ : Addr).add j = ⟨b, off + j, none⟩ by unfold Addr.add; split <;> simp_all, hbA.cell (p := ⟨b, off + j, none⟩) hlt, hc j hj, ← hu, List.getElem?_map, List.getElem?_eq_getElem hj, List.getD, List.getElem?_eq_getElem hj]; rfl
    · obtain ⟨q, _, rfl⟩ := List.mem_map.1 hu; rfl
    · intro v' w' hown' hg _ _
      refine hK v' w' ?_ (hbA.trans (Below.grown (Below.refl _ _) hg (by simp) (fun k hk => by have hk2 : some W.heap.size = some k := hk; injection hk2 with hk2; omega)))
      rcases hown'.2 with ⟨_, e⟩ | ⟨g, c, cur, rfl, hb, hh, hn, hm, _, ht⟩
      · omega
      · refine ⟨g, c, by rw [List.length_cons, Nat.add_comm], by rw [List.length_cons]; omega, hm, hb, (Array.getElem?_eq_some_iff.1 hh).1, fun j hj => ?_⟩
        rw [List.length_cons] at hj
        rw [cell_of_row w' g j cur 4 (0, 0) hh]
        have h1 : (cur.toList.take ((1 + Q.length) * 1))[j]? = ([Value.bool false] ++ Q.map Value.bool)[j]? := by rw [ht]
        rw [List.getElem?_take, if_pos (by omega), Array.getElem?_toList] at h1
        rw [h1]
        cases j with
        | zero => rfl
        | succ q => simp [List.getD, show q < Q.length by omega]
end Go.Proofs.YtmbjcphhfnemgaaDoor
