/- The document's answers for devices: how one lies; has, landed, with. The document's answers for devices: Write, Erase, Fuse, Read. The document's answers for devices: Erase, Fuse, Read. -/
import Derived.Test.YtjhpheepimbbdaaGreatDoorZActs
import Derived.Test.YtjhpheepimbbdaaGreatDoorZDevK
import Derived.Maps.AppendAt
namespace Go.Proofs.YtjhpheepimbbdaaGreatDoor
open Go.RowKit Go.Maps

/-- A sector, as the document's answers have it. -/
structure SM where
  su : ByteArray
  fr : ByteArray
  wt : Bool
  bd : Bool
structure SectAt (W : World) (b o : Nat) (s : SM) : Prop where
  c0 : W.cell? ⟨b, o, none⟩ = some (.string s.su)
  c1 : W.cell? ⟨b, o + 1, none⟩ = some (.string s.fr)
  c2 : W.cell? ⟨b, o + 2, none⟩ = some (.bool s.wt)
  c3 : W.cell? ⟨b, o + 3, none⟩ = some (.bool s.bd)
def SM.v (s : SM) : Value := .agg #[.string s.su, .string s.fr, .bool s.wt, .bool s.bd]
def SM.l (s : SM) : List Value := [.string s.su, .string s.fr, .bool s.wt, .bool s.bd]
/-- So many sectors, one behind the other. -/
def RowS (W : World) (b n : Nat) (f : Nat → SM) : Prop := b < W.heap.size ∧ (∀ i, i < n → SectAt W b (i * 4) (f i)) ∧ ∀ o, o < n * 4 → W.frozen? ⟨b, o, none⟩ = false
theorem RowS.below {W W' : World} {b n : Nat} {f : Nat → SM} (k : RowS W b n f) (hb : Below W.heap.size W W') : RowS W' b n f := by
  have a := Ap.of_below (S := fun _ => False) hb
  have h (q : Nat) : W'.cell? ⟨b, q, none⟩ = W.cell? ⟨b, q, none⟩ := a.cell k.1 id q
  exact ⟨Nat.lt_of_lt_of_le k.1 hb.size, fun i hi => ⟨(h _).trans (k.2.1 i hi).c0, (h _).trans (k.2.1 i hi).c1, (h _).trans (k.2.1 i hi).c2, (h _).trans (k.2.1 i hi).c3⟩, fun o ho => (a.frozen k.1 id o).trans (k.2.2 o ho)⟩
theorem RowS.drew {W : World} {b n : Nat} {f : Nat → SM} (k : RowS W b n f) : RowS W.drew b n f := k.below ((Below.refl _ _).drew)
/-- Four stores, one sector. -/
def putS (W : World) (b o : Nat) (s : SM) : World := (((W.setCell ⟨b, o, none⟩ (.string s.su)).setCell ⟨b, o + 1, none⟩ (.string s.fr)).setCell ⟨b, o + 2, none⟩ (.bool s.wt)).setCell ⟨b, o + 3, none⟩ (.bool s.bd)
theorem ap_putS (W : World) (b o : Nat) (s : SM) : Ap (fun k => k = b) W (putS W b o s) :=
  (((ap_put W b o _).trans (ap_put _ b (o + 1) _)).trans (ap_put _ b (o + 2) _)).trans (ap_put _ b (o + 3) _)
theorem RowS.put {W : World} {b n : Nat} {f : Nat → SM} (k : RowS W b n f) (i : Nat) (hi : i < n) (s : SM) : RowS (putS W b (i * 4) s) b n (upd f i s) := by
  have s0 := k.2.1 i hi
  refine ⟨Nat.lt_of_lt_of_le k.1 (ap_putS W b (i * 4) s).size, fun j hj => ?_, fun o ho => ?_⟩
  · by_cases e : j = i
    · subst e
      rw [upd_same]
      have f0 : (W.setCell ⟨b, j * 4, none⟩ (.string s.su)).cell? ⟨b, j * 4, none⟩ = some (.string s.su) := cell_put s0.c0 _
      have f1 : ((W.setCell ⟨b, j * 4, none⟩ (.string s.su)).setCell ⟨b, j * 4 + 1, none⟩ (.string s.fr)).cell? ⟨b, j * 4 + 1, none⟩ = some (.string s.fr) := cell_put ((cell_putne _ _ _ _ _ (by omega)).trans s0.c1) _
      have f2 : (((W.setCell ⟨b, j * 4, none⟩ (.string s.su)).setCell ⟨b, j * 4 + 1, none⟩ (.string s.fr)).setCell ⟨b, j * 4 + 2, none⟩ (.bool s.wt)).cell? ⟨b, j * 4 + 2, none⟩ = some (.bool s.wt) :=
        cell_put (((cell_putne _ _ _ _ _ (by omega)).trans (cell_putne _ _ _ _ _ (by omega))).trans s0.c2) _
      have f3 : (putS W b (j * 4) s).cell? ⟨b, j * 4 + 3, none⟩ = some (.bool s.bd) :=
        cell_put ((((cell_putne _ _ _ _ _ (by omega)).trans (cell_putne _ _ _ _ _ (by omega))).trans (cell_putne _ _ _ _ _ (by omega))).trans s0.c3) _
      exact ⟨((cell_putne _ _ _ _ _ (by omega)).trans ((cell_putne _ _ _ _ _ (by omega)).trans (cell_putne _ _ _ _ _ (by omega)))).trans f0, ((cell_putne _ _ _ _ _ (by omega)).trans (cell_putne _ _ _ _ _ (by omega))).trans f1, (cell_putne _ _ _ _ _ (by omega)).trans f2, f3⟩
    · rw [upd_ne _ _ e]
      have s1 := k.2.1 j hj
      have h (q : Nat) (hq : q < i * 4 ∨ i * 4 + 4 ≤ q) : (putS W b (i * 4) s).cell? ⟨b, q, none⟩ = W.cell? ⟨b, q, none⟩ :=
        ((cell_putne _ _ _ _ _ (by omega)).trans ((cell_putne _ _ _ _ _ (by omega)).trans (cell_putne _ _ _ _ _ (by omega)))).trans (cell_putne _ _ _ _ _ (by omega))
      exact ⟨(h _ (by omega)).trans s1.c0, (h _ (by omega)).trans s1.c1, (h _ (by omega)).trans s1.c2, (h _ (by omega)).trans s1.c3⟩
  · unfold putS
    rw [World.frozen?_setCell, World.frozen?_setCell, World.frozen?_setCell, World.frozen?_setCell]
    exact k.2.2 o ho
theorem RowS.ap {S : Nat → Prop} {W W' : World} {b n : Nat} {f : Nat → SM} (k : RowS W b n f) (a : Ap S W W') (hn : ¬ S b) : RowS W' b n f :=
  ⟨Nat.lt_of_lt_of_le k.1 a.size, fun i hi => ⟨(a.cell k.1 hn _).trans (k.2.1 i hi).c0, (a.cell k.1 hn _).trans (k.2.1 i hi).c1, (a.cell k.1 hn _).trans (k.2.1 i hi).c2, (a.cell k.1 hn _).trans (k.2.1 i hi).c3⟩, fun o ho => (a.frozen k.1 hn o).trans (k.2.2 o ho)⟩
/-- A block of four cells. -/
structure Bx (W : World) (b : Nat) (v0 v1 v2 v3 : Value) : Prop where
  lt : b < W.heap.size
  c0 : W.cell? ⟨b, 0, none⟩ = some v0
  c1 : W.cell? ⟨b, 1, none⟩ = some v1
  c2 : W.cell? ⟨b, 2, none⟩ = some v2
  c3 : W.cell? ⟨b, 3, none⟩ = some v3
  f0 : W.frozen? ⟨b, 0, none⟩ = false
  f1 : W.frozen? ⟨b, 1, none⟩ = false
  f2 : W.frozen? ⟨b, 2, none⟩ = false
  f3 : W.frozen? ⟨b, 3, none⟩ = false
theorem Bx.new (w : World) (v0 v1 v2 v3 : Value) (t : Nat) : Bx (w.alloc (.cells #[v0, v1, v2, v3] t)) w.heap.size v0 v1 v2 v3 :=
  ⟨by simp, by simp [go_sem], by simp [go_sem], by simp [go_sem], by simp [go_sem], frozen_of_row _ _ _ _ t (heap_alloc_new w _), frozen_of_row _ _ _ _ t (heap_alloc_new w _), frozen_of_row _ _ _ _ t (heap_alloc_new w _), frozen_of_row _ _ _ _ t (heap_alloc_new w _)⟩
theorem Bx.ap {S : Nat → Prop} {W W' : World} {b : Nat} {v0 v1 v2 v3 : Value} (k : Bx W b v0 v1 v2 v3) (a : Ap S W W') (hn : ¬ S b) : Bx W' b v0 v1 v2 v3 :=
  ⟨Nat.lt_of_lt_of_le k.lt a.size, (a.cell k.lt hn _).trans k.c0, (a.cell k.lt hn _).trans k.c1, (a.cell k.lt hn _).trans k.c2, (a.cell k.lt hn _).trans k.c3,
    (a.frozen k.lt hn _).trans k.f0, (a.frozen k.lt hn _).trans k.f1, (a.frozen k.lt hn _).trans k.f2, (a.frozen k.lt hn _).trans k.f3⟩
theorem Bx.below {W W' : World} {b : Nat} {v0 v1 v2 v3 : Value} (k : Bx W b v0 v1 v2 v3) (hb : Below W.heap.size W W') : Bx W' b v0 v1 v2 v3 := k.ap (S := fun _ => False) (Ap.of_below hb) id
theorem Bx.drew {W : World} {b : Nat} {v0 v1 v2 v3 : Value} (k : Bx W b v0 v1 v2 v3) : Bx W.drew b v0 v1 v2 v3 := k.below ((Below.refl _ _).drew)
theorem Bx.set0 {W : World} {b : Nat} {v0 v1 v2 v3 : Value} (k : Bx W b v0 v1 v2 v3) (u : Value) : Bx (W.setCell ⟨b, 0, none⟩ u) b u v1 v2 v3 :=
  ⟨by rw [World.size_setCell]; exact k.lt, cell_put k.c0 u, (cell_putne _ _ _ _ _ (by omega)).trans k.c1, (cell_putne _ _ _ _ _ (by omega)).trans k.c2, (cell_putne _ _ _ _ _ (by omega)).trans k.c3,
    (World.frozen?_setCell _ _ _ _).trans k.f0, (World.frozen?_setCell _ _ _ _).trans k.f1, (World.frozen?_setCell _ _ _ _).trans k.f2, (World.frozen?_setCell _ _ _ _).trans k.f3⟩
theorem Bx.set1 {W : World} {b : Nat} {v0 v1 v2 v3 : Value} (k : Bx W b v0 v1 v2 v3) (u : Value) : Bx (W.setCell ⟨b, 1, none⟩ u) b v0 u v2 v3 :=
  ⟨by rw [World.size_setCell]; exact k.lt, (cell_putne _ _ _ _ _ (by omega)).trans k.c0, cell_put k.c1 u, (cell_putne _ _ _ _ _ (by omega)).trans k.c2, (cell_putne _ _ _ _ _ (by omega)).trans k.c3,
    (World.frozen?_setCell _ _ _ _).trans k.f0, (World.frozen?_setCell _ _ _ _).trans k.f1, (World.frozen?_setCell _ _ _ _).trans k.f2, (World.frozen?_setCell _ _ _ _).trans k.f3⟩
theorem Bx.set2 {W : World} {b : Nat} {v0 v1 v2 v3 : Value} (k : Bx W b v0 v1 v2 v3) (u : Value) : Bx (W.setCell ⟨b, 2, none⟩ u) b v0 v1 u v3 :=
  ⟨by rw [World.size_setCell]; exact k.lt, (cell_putne _ _ _ _ _ (by omega)).trans k.c0, (cell_putne _ _ _ _ _ (by omega)).trans k.c1, cell_put k.c2 u, (cell_putne _ _ _ _ _ (by omega)).trans k.c3,
    (World.frozen?_setCell _ _ _ _).trans k.f0, (World.frozen?_setCell _ _ _ _).trans k.f1, (World.frozen?_setCell _ _ _ _).trans k.f2, (World.frozen?_setCell _ _ _ _).trans k.f3⟩
theorem Bx.set3 {W : World} {b : Nat} {v0 v1 v2 v3 : Value} (k : Bx W b v0 v1 v2 v3) (u : Value) : Bx (W.setCell ⟨b, 3, none⟩ u) b v0 v1 v2 u :=
  ⟨by rw [World.size_setCell]; exact k.lt, (cell_putne _ _ _ _ _ (by omega)).trans k.c0, (cell_putne _ _ _ _ _ (by omega)).trans k.c1, (cell_putne _ _ _ _ _ (by omega)).trans k.c2, cell_put k.c3 u,
    (World.frozen?_setCell _ _ _ _).trans k.f0, (World.frozen?_setCell _ _ _ _).trans k.f1, (World.frozen?_setCell _ _ _ _).trans k.f2, (World.frozen?_setCell _ _ _ _).trans k.f3⟩
/-- All four stored. -/
def put4 (W : World) (b : Nat) (u0 u1 u2 u3 : Value) : World := (((W.setCell ⟨b, 0, none⟩ u0).setCell ⟨b, 1, none⟩ u1).setCell ⟨b, 2, none⟩ u2).setCell ⟨b, 3, none⟩ u3
theorem ap_put4 (W : World) (b : Nat) (u0 u1 u2 u3 : Value) : Ap (fun k => k = b) W (put4 W b u0 u1 u2 u3) := (((ap_put W b 0 _).trans (ap_put _ b 1 _)).trans (ap_put _ b 2 _)).trans (ap_put _ b 3 _)
theorem Bx.put {W : World} {b : Nat} {v0 v1 v2 v3 : Value} (k : Bx W b v0 v1 v2 v3) (u0 u1 u2 u3 : Value) : Bx (put4 W b u0 u1 u2 u3) b u0 u1 u2 u3 := (((k.set0 u0).set1 u1).set2 u2).set3 u3
/-- A value that is a device, as the document's answers have it. -/
def RG (W : World) (v : Value) (n : Nat) (f : Nat → SM) (off : Bool) (left : Int) (wr : Nat) : Prop :=
  ∃ b cap, v = .agg #[.slice (some ⟨b, 0, none⟩) n cap, .bool off, .int .i64 left, .int .i64 (wr : Int)] ∧ n ≤ cap ∧ cap ≤ maxLen ∧ RowS W b n f
theorem RG.below {W W' : World} {v : Value} {n : Nat} {f : Nat → SM} {off : Bool} {left : Int} {wr : Nat} (k : RG W v n f off left wr) (hb : Below W.heap.size W W') : RG W' v n f off left wr := by
  obtain ⟨b, cap, hv, h1, h2, h3⟩ := k
  exact ⟨b, cap, hv, h1, h2, h3.below hb⟩
/-- The same, in a block that is not older than B. -/
def RGx (B : Nat) (W : World) (v : Value) (n : Nat) (f : Nat → SM) (off : Bool) (left : Int) (wr : Nat) : Prop :=
  ∃ b cap, v = .agg #[.slice (some ⟨b, 0, none⟩) n cap, .bool off, .int .i64 left, .int .i64 (wr : Int)] ∧ n ≤ cap ∧ cap ≤ maxLen ∧ B ≤ b ∧ RowS W b n f
theorem RGx.rg {B : Nat} {W : World} {v : Value} {n : Nat} {f : Nat → SM} {off : Bool} {left : Int} {wr : Nat} (k : RGx B W v n f off left wr) : RG W v n f off left wr := by
  obtain ⟨b, cap, hv, h1, h2, _, h3⟩ := k
  exact ⟨b, cap, hv, h1, h2, h3⟩
set_option maxHeartbeats 400000 in
theorem refHas_any {w : World} {A : Option Addr} {n cap : Nat} {off : Bool} {left wr : Int} (a : Int) :
    Calls Tryz.prog 53 #[.agg #[.slice A n cap, .bool off, .int .i64 left, .int .i64 wr], .int .i64 a] w fun e w' => e = .returned (.bool (hasB n a)) ∧ Below w.heap.size w w' := by
  by_cases h0 : 0 ≤ a
  · have d0 : decide (0 ≤ a) = true := decide_eq_true h0
    have he : hasB n a = decide (a < (n : Int)) := by unfold hasB; simp [h0]
    rw [he]
    clear he
    go_enter Tryz.func53, Tryz.ntmps53
    go_wp2_with fail
    go_ret
    exact ⟨rfl, below1 _ _⟩
  · have d0 : decide (0 ≤ a) = false := decide_eq_false h0
    have he : hasB n a = false := by unfold hasB; simp [h0]
    rw [he]
    clear he
    go_enter Tryz.func53, Tryz.ntmps53
    go_wp2_with fail
    go_ret
    exact ⟨rfl, below1 _ _⟩
set_option maxHeartbeats 400000 in
theorem refLanded_any {w : World} (s : SM) :
    Calls Tryz.prog 56 #[s.v] w fun e w' => e = .returned (SM.v ⟨s.fr, ⟨#[]⟩, false, false⟩) ∧ Below w.heap.size w w' := by
  unfold SM.v
  go_enter Tryz.func56, Tryz.ntmps56
  go_wp2_with fail
  refine bodyPost_ret (v := .agg #[.string s.fr, .string ⟨#[]⟩, .bool false, .bool false]) (by simp [results, Tryz.results56, go_sem]) rfl ?_
  exact ⟨rfl, (below1 _ _).trans ((below1 _ _).mono (by simp))⟩
def allS (f : Nat → SM) (n : Nat) : List Value := (List.range n).flatMap (fun i => (f i).l)
theorem allS_len (f : Nat → SM) (n : Nat) : (allS f n).length = n * 4 := by
  induction n with
  | zero => rfl
  | succ n ih =>
    unfold allS at ih ⊢
    rw [List.range_succ, List.flatMap_append, List.length_append, ih, List.flatMap_singleton]
    show n * 4 + 4 = _
    omega
theorem allS_at (f : Nat → SM) (n i j : Nat) (hi : i < n) (hj : j < 4) : (allS f n)[i * 4 + j]? = (f i).l[j]? := by
  induction n with
  | zero => omega
  | succ n ih =>
    have e : allS f (n + 1) = allS f n ++ (f n).l := by unfold allS; rw [List.range_succ, List.flatMap_append, List.flatMap_singleton]
    rw [e]
    by_cases h : i < n
    · rw [List.getElem?_append_left (by rw [allS_len]; omega)]; exact ih h
    · obtain rfl : i = n := by omega
      rw [List.getElem?_append_right (by rw [allS_len]; omega), allS_len]
      congr 1; omega
theorem RowS.at {W : World} {b n : Nat} {f : Nat → SM} (k : RowS W b n f) (q : Nat) (hq : q < n * 4) : W.cell? ⟨b, q, none⟩ = (allS f n)[q]? := by
  obtain ⟨i, j, rfl, hi, hj⟩ : ∃ i j, q = i * 4 + j ∧ i < n ∧ j < 4 := ⟨q / 4, q % 4, by omega, by omega, by omega⟩
  rw [allS_at f n i j hi hj]
  have s := k.2.1 i hi
  match j, hj with
  | 0, _ => exact s.c0
  | 1, _ => exact s.c1
  | 2, _ => exact s.c2
  | 3, _ => exact s.c3
theorem allS_one (f : Nat → SM) (n : Nat) : ∀ u ∈ allS f n, u.oneCell' = true := by
  intro u hu
  obtain ⟨i, _, h⟩ := List.mem_flatMap.1 hu
  simp only [SM.l, List.mem_cons, List.not_mem_nil, or_false] at h
  rcases h with rfl | rfl | rfl | rfl <;> rfl
theorem RowS.of_row {W : World} {g n t : Nat} {f : Nat → SM} {cur : Array Value} (hh : W.heap[g]? = some (.cells cur t (0, 0))) (ht : cur.toList.take (n * 4) = allS f n) : RowS W g n f := by
  have hc (q : Nat) (hq : q < n * 4) : W.cell? ⟨g, q, none⟩ = (allS f n)[q]? := by
    rw [cell_of_row W g q cur t (0, 0) hh, ← ht, List.getElem?_take, if_pos hq]; simp
  refine ⟨(Array.getElem?_eq_some_iff.1 hh).1, fun i hi => ⟨?_, ?_, ?_, ?_⟩, fun o _ => frozen_of_row W g o cur t hh⟩
  · rw [hc _ (by omega)]; exact allS_at f n i 0 hi (by omega)
  · rw [hc _ (by omega)]; exact allS_at f n i 1 hi (by omega)
  · rw [hc _ (by omega)]; exact allS_at f n i 2 hi (by omega)
  · rw [hc _ (by omega)]; exact allS_at f n i 3 hi (by omega)
theorem infoSect : ∃ i, Tryz.prog.info? 58 = some i ∧ i.zero = some (.agg #[.string ⟨#[]⟩, .string ⟨#[]⟩, .bool false, .bool false]) ∧ i.size = 4 ∧ i.bytes = 40 := by
  have h : (Tryz.prog.info? 58).map (fun i => (i.zero, i.size, i.bytes)) = some (some (.agg #[.string ⟨#[]⟩, .string ⟨#[]⟩, .bool false, .bool false]), 4, 40) := by kernel_rfl
  cases hq : Tryz.prog.info? 58 with
  | none => rw [hq] at h; cases h
  | some i => rw [hq] at h; simp only [Option.map_some, Option.some.injEq, Prod.mk.injEq] at h; exact ⟨i, rfl, h.1, h.2.1, h.2.2⟩
/-- append([]Sect{}, l...). -/
theorem wpList_app_sects {W : World} {ops : Array Oper} {rest : List Oper} {o : Oper} {a : Act} {K : Exit → Act → World → Prop} (hgd : o.guard = none) (s x : Operand)
    (ho : o.op = .call { callee := .builtin .append, args := #[s, x], argTypes := #[30, 30] })
    {gb : Nat} (hgb : gb = W.heap.size) (hs : a.eval s = .slice (some ⟨gb, 0, none⟩) 0 0) {b n cap : Nat} {f : Nat → SM} (hx : a.eval x = .slice (some ⟨b, 0, none⟩) n cap) (hR : RowS (W.alloc (.cells #[] 58)) b n f) (hn : n ≤ 256) (hn1 : 1 ≤ n)
    (hK : ∀ g c w', n ≤ c → c ≤ maxLen → W.heap.size ≤ g → RowS w' g n f → Below W.heap.size W w' → wpList Tryz.prog ops K rest (a.put o.dst (.slice (some ⟨g, 0, none⟩) n c)) w') :
    wpList Tryz.prog ops K (o :: rest) a (W.alloc (.cells #[] 58)) := by
  subst hgb
  obtain ⟨i, hi, hz, hsz, hby⟩ := infoSect
  have hbA : Below W.heap.size W (W.alloc (.cells #[] 58)) := below1 _ _
  have hown : (W.alloc (.cells #[] 58)).ownsRow W.heap.size 58 4 (.slice (some ⟨W.heap.size, 0, none⟩) 0 0) 0 [] :=
    ⟨rfl, .inr ⟨W.heap.size, 0, #[], rfl, Nat.le_refl _, heap_alloc_new W _, Nat.le_refl _, Nat.zero_le _, rfl, rfl⟩⟩
  refine wpList_append_own_at _ hgd s x 30 ho W.heap.size 58 i _ 4 40 Tryz.underlying30 hi hz hsz hby rfl (by decide) _ 0 [] hs hown ⟨b, 0, none⟩ n cap (allS f n) hx (allS_len f n) (fun j u hu => ?_) (allS_one f n) (by unfold maxLen; omega) (by omega) (by simp) ?_
  · have hj : j < n * 4 := by have := (List.getElem?_eq_some_iff.1 hu).1; rw [allS_len] at this; exact this
    rw [adr_add, Nat.zero_add, hR.at j hj, hu]
  · intro v' w' hown' hg _ _
    rcases hown'.2 with ⟨_, e⟩ | ⟨g, c, cur, rfl, hb, hh, hnc, hm, _, ht⟩
    · omega
    · rw [Nat.zero_add] at hnc ht ⊢
      refine hK g c w' hnc hm hb (RowS.of_row hh ht) (hbA.trans (Below.grown (Below.refl _ _) hg (by simp) (fun k hk => ?_)))
      have hk2 : some W.heap.size = some k := hk
      injection hk2 with hk2; omega
set_option maxHeartbeats 400000 in
theorem refWith_any {w : World} {v : Value} {n : Nat} {f : Nat → SM} {off : Bool} {left : Int} {wr : Nat} (k : RG w v n f off left wr) (hn : n ≤ 256) (i : Nat) (hi : i < n) (s : SM) :
    Calls Tryz.prog 54 #[v, .int .i64 (i : Int), s.v] w fun e w' => ∃ v', e = .returned v' ∧ RGx w.heap.size w' v' n (upd f i s) off left wr ∧ Below w.heap.size w w' := by
  obtain ⟨b, cap, rfl, h1, h2, h3⟩ := k
  unfold SM.v
  have n1 : 1 ≤ n := by omega
  have HI := Lib.hid hi
  obtain ⟨W0, hW⟩ : ∃ W0 : World, W0 = (((w.alloc (.cells #[.slice (some ⟨b, 0, none⟩) n cap, .bool off, .int .i64 left, .int .i64 (wr : Int)] 32)).alloc (.cells #[.string s.su, .string s.fr, .bool s.wt, .bool s.bd] 58)).alloc (.cells #[.slice none 0 0, .bool false, .int .i64 0, .int .i64 0] 32)) := ⟨_, rfl⟩
  have HX : Hid (Bx W0 w.heap.size (.slice (some ⟨b, 0, none⟩) n cap) (.bool off) (.int .i64 left) (.int .i64 (wr : Int))) := Lib.hid (by
    rw [hW]; exact ((Bx.new w _ _ _ _ _).below (below1 _ _)).below (below1 _ _))
  have HS : Hid (Bx W0 (w.heap.size + 1) (.string s.su) (.string s.fr) (.bool s.wt) (.bool s.bd)) := Lib.hid (by
    rw [hW]; have h := (Bx.new (w.alloc (.cells #[.slice (some ⟨b, 0, none⟩) n cap, .bool off, .int .i64 left, .int .i64 (wr : Int)] 32)) (.string s.su) (.string s.fr) (.bool s.wt) (.bool s.bd) 58).below (below1 _ (.cells #[.slice none 0 0, .bool false, .int .i64 0, .int .i64 0] 32))
    rw [show (w.alloc (.cells #[.slice (some ⟨b, 0, none⟩) n cap, .bool off, .int .i64 left, .int .i64 (wr : Int)] 32)).heap.size = w.heap.size + 1 by simp] at h; exact h)
  have HR : Hid (Bx W0 (w.heap.size + 1 + 1) (.slice none 0 0) (.bool false) (.int .i64 0) (.int .i64 0)) := Lib.hid (by
    rw [hW]; have h := Bx.new ((w.alloc (.cells #[.slice (some ⟨b, 0, none⟩) n cap, .bool off, .int .i64 left, .int .i64 (wr : Int)] 32)).alloc (.cells #[.string s.su, .string s.fr, .bool s.wt, .bool s.bd] 58)) (.slice none 0 0) (.bool false) (.int .i64 0) (.int .i64 0) 32
    rw [show ((w.alloc (.cells #[.slice (some ⟨b, 0, none⟩) n cap, .bool off, .int .i64 left, .int .i64 (wr : Int)] 32)).alloc (.cells #[.string s.su, .string s.fr, .bool s.wt, .bool s.bd] 58)).heap.size = w.heap.size + 1 + 1 by simp] at h; exact h)
  have HB : Hid (Below w.heap.size w W0) := Lib.hid (by rw [hW]; exact ((below1 _ _).trans ((below1 _ _).mono (by simp))).trans ((below1 _ _).mono (by simp; omega)))
  have HL := Lib.hid (h3.below HB.out)
  have HZ : Hid (W0.heap.size = w.heap.size + 1 + 1 + 1) := Lib.hid (by rw [hW]; simp)
  have HLT := Lib.hid h3.1
  clear h3
  go_enter Tryz.func54, Tryz.ntmps54
  go_upto_region 1 with fail
  rw [← hW]
  clear hW
  generalize hbr : w.heap.size + 1 + 1 = br at HR HZ ⊢
  have HLT1 : Hid (w.heap.size + 1 < br) := Lib.hid (by omega)
  clear hbr
  have q0 := (HX.out.below (below1 _ (.cells #[] 58))).c0
  have HL1 := Lib.hid (HL.out.below (below1 _ (.cells #[] 58)))
  go_upto_region 2 with (at_builtin; refine wpList_app_sects rfl (.tmp 7) (.tmp 9) rfl rfl rfl rfl HL1.out hn n1 ?_; intro g c w1 hgc hcm hgs hR1 hb1; have HG := Lib.hid hR1; have HX1 := Lib.hid (HX.out.below hb1); have HS1 := Lib.hid (HS.out.below hb1); have HR1 := Lib.hid (HR.out.below hb1); have HB1 := Lib.hid (HB.out.trans (hb1.mono HB.out.size)); have HGS := Lib.hid hgs; have q1 := HX1.out.c0; have q2 := HX1.out.f0; clear hR1 hb1 hgs)
  clear q0 q1 q2
  have HGB : Hid (br < g) := Lib.hid (by have h1 := HGS.out; have h2 := HZ.out; have h3 := HR.out.lt; omega)
  have HX2 := Lib.hid (HX1.out.set0 (.slice (some ⟨g, 0, none⟩) n c))
  have A2 := ap_put w1 w.heap.size 0 (.slice (some ⟨g, 0, none⟩) n c)
  have HS2 := Lib.hid (HS1.out.ap A2 (fun e => by omega))
  have HR2 := Lib.hid (HR1.out.ap A2 (fun e => by have := HLT1.out; omega))
  have HG2 := Lib.hid (HG.out.ap A2 (fun e => by have h1 := HLT1.out; have h2 := HGB.out; omega))
  have HB2 := Lib.hid (HB1.out.trans ((A2.below (B := w.heap.size) (by have := HB1.out.size; omega) (fun k e => by omega)).mono (Nat.le_refl _)))
  clear A2 HX1 HS1 HR1 HG HB1 HX HS HR HB HL HL1
  generalize w1.setCell ⟨w.heap.size, 0, none⟩ (.slice (some ⟨g, 0, none⟩) n c) = W2 at HX2 HS2 HR2 HG2 HB2 ⊢
  obtain ⟨_, x0, x1, x2, x3, _, _, _, _⟩ := HX2.out
  obtain ⟨_, s0, s1, s2, s3, _, _, _, _⟩ := HS2.out
  obtain ⟨g0, g1, g2, g3⟩ := HG2.out.2.1 i hi
  have f0 := HG2.out.2.2 (i * 4) (by omega)
  have f1 := HG2.out.2.2 (i * 4 + 1) (by omega)
  have f2 := HG2.out.2.2 (i * 4 + 2) (by omega)
  have f3 := HG2.out.2.2 (i * 4 + 3) (by omega)
  go_upto_region 3 with fail
  have A3 := ap_putS W2 g (i * 4) s
  have HX3 := Lib.hid (HX2.out.ap A3 (fun e => by have h1 := HLT1.out; have h2 := HGB.out; omega))
  have HR3 := Lib.hid (HR2.out.ap A3 (fun e => by have h1 := HLT1.out; have h2 := HGB.out; omega))
  have HG3 := Lib.hid (HG2.out.put i hi s)
  have HB3 := Lib.hid (HB2.out.trans (A3.below (B := w.heap.size) HB2.out.size (fun k e => by have h1 := HLT1.out; have h2 := HGB.out; omega)))
  clear A3 HX2 HS2 HR2 HG2 HB2 x0 x1 x2 x3 s0 s1 s2 s3 g0 g1 g2 g3 f0 f1 f2 f3
  unfold putS at HX3 HR3 HG3 HB3
  generalize (((W2.setCell ⟨g, i * 4, none⟩ (.string s.su)).setCell ⟨g, i * 4 + 1, none⟩ (.string s.fr)).setCell ⟨g, i * 4 + 2, none⟩ (.bool s.wt)).setCell ⟨g, i * 4 + 3, none⟩ (.bool s.bd) = W3 at HX3 HR3 HG3 HB3 ⊢
  obtain ⟨_, x0, x1, x2, x3, _, _, _, _⟩ := HX3.out
  obtain ⟨_, r0, r1, r2, r3, f0, f1, f2, f3⟩ := HR3.out
  go_wp2_with fail
  have A4 := ap_put4 W3 br (.slice (some ⟨g, 0, none⟩) n c) (.bool off) (.int .i64 left) (.int .i64 (wr : Int))
  obtain ⟨_, y0, y1, y2, y3, _, _, _, _⟩ := HR3.out.put (.slice (some ⟨g, 0, none⟩) n c) (.bool off) (.int .i64 left) (.int .i64 (wr : Int))
  have HG4 := HG3.out.ap A4 (fun e => by have h2 := HGB.out; omega)
  have HB4 := HB3.out.trans (A4.below (B := w.heap.size) HB3.out.size (fun k e => by have h1 := HLT1.out; omega))
  unfold put4 at y0 y1 y2 y3 HG4 HB4
  refine bodyPost_ret (v := .agg #[.slice (some ⟨g, 0, none⟩) n c, .bool off, .int .i64 left, .int .i64 (wr : Int)]) (by simp [results, Tryz.results54, go_sem, y0, y1, y2, y3]) rfl ?_
  exact ⟨_, rfl, ⟨g, c, rfl, hgc, hcm, by have h1 := HLT1.out; have h2 := HGB.out; omega, HG4⟩, HB4⟩
end Go.Proofs.YtjhpheepimbbdaaGreatDoor
namespace Go.Proofs.YtjhpheepimbbdaaGreatDoor
open Go.RowKit Go.Maps

/-- A sector of the model, as the document's answers have it. -/
def sM (M : DM) (i : Nat) : SM := ⟨⟨(M.sure i).toArray⟩, ⟨((M.fresh i).getD []).toArray⟩, (M.fresh i).isSome, M.bad i⟩
def RefAt (W : World) (v : Value) (M : DM) : Prop := RG W v M.n (sM M) M.down M.left M.writes
theorem RG.congr {W : World} {v : Value} {n : Nat} {f g : Nat → SM} {off : Bool} {left : Int} {wr : Nat} (k : RG W v n f off left wr) (h : ∀ i, i < n → g i = f i) : RG W v n g off left wr := by
  obtain ⟨b, cap, hv, h1, h2, h3, h4, h5⟩ := k
  exact ⟨b, cap, hv, h1, h2, h3, fun i hi => by rw [h i hi]; exact h4 i hi, h5⟩
/-- What a plain model keeps to. -/
structure Nrm (M : DM) : Prop where
  n1 : 1 ≤ M.n
  n2 : M.n ≤ 256
  l1 : -1 ≤ M.left
  l2 : M.left ≤ 9223372036854775807
/-- A box, and a result's place. -/
theorem start2 (w : World) (v0 v1 v2 v3 : Value) (t : Nat) : ∃ W0 : World, W0 = (w.alloc (.cells #[v0, v1, v2, v3] t)).alloc (.cells #[.slice none 0 0, .bool false, .int .i64 0, .int .i64 0] t) ∧
    Bx W0 w.heap.size v0 v1 v2 v3 ∧ Bx W0 (w.heap.size + 1) (.slice none 0 0) (.bool false) (.int .i64 0) (.int .i64 0) ∧ Below w.heap.size w W0 := by
  refine ⟨_, rfl, (Bx.new w v0 v1 v2 v3 t).below (below1 _ _), ?_, (below1 _ _).trans ((below1 _ _).mono (by simp))⟩
  have h := Bx.new (w.alloc (.cells #[v0, v1, v2, v3] t)) (.slice none 0 0) (.bool false) (.int .i64 0) (.int .i64 0) t
  rw [show (w.alloc (.cells #[v0, v1, v2, v3] t)).heap.size = w.heap.size + 1 by simp] at h
  exact h
/-- The result, stored. -/
theorem stored {w W : World} {br : Nat} {z0 z1 z2 z3 : Value} (hz : Bx W br z0 z1 z2 z3) (hb : Below w.heap.size w W) (hB : w.heap.size ≤ br) {b n : Nat} {f : Nat → SM} (hR : RowS W b n f) (hne : b ≠ br) (u0 u1 u2 u3 : Value) :
    ((((W.setCell ⟨br, 0, none⟩ u0).setCell ⟨br, 1, none⟩ u1).setCell ⟨br, 2, none⟩ u2).setCell ⟨br, 3, none⟩ u3).cell? ⟨br, 0, none⟩ = some u0 ∧
    ((((W.setCell ⟨br, 0, none⟩ u0).setCell ⟨br, 1, none⟩ u1).setCell ⟨br, 2, none⟩ u2).setCell ⟨br, 3, none⟩ u3).cell? ⟨br, 1, none⟩ = some u1 ∧
    ((((W.setCell ⟨br, 0, none⟩ u0).setCell ⟨br, 1, none⟩ u1).setCell ⟨br, 2, none⟩ u2).setCell ⟨br, 3, none⟩ u3).cell? ⟨br, 2, none⟩ = some u2 ∧
    ((((W.setCell ⟨br, 0, none⟩ u0).setCell ⟨br, 1, none⟩ u1).setCell ⟨br, 2, none⟩ u2).setCell ⟨br, 3, none⟩ u3).cell? ⟨br, 3, none⟩ = some u3 ∧
    RowS ((((W.setCell ⟨br, 0, none⟩ u0).setCell ⟨br, 1, none⟩ u1).setCell ⟨br, 2, none⟩ u2).setCell ⟨br, 3, none⟩ u3) b n f ∧
    Below w.heap.size w ((((W.setCell ⟨br, 0, none⟩ u0).setCell ⟨br, 1, none⟩ u1).setCell ⟨br, 2, none⟩ u2).setCell ⟨br, 3, none⟩ u3) := by
  have h := hz.put u0 u1 u2 u3
  have a := ap_put4 W br u0 u1 u2 u3
  exact ⟨h.c0, h.c1, h.c2, h.c3, hR.ap a hne, hb.trans (a.below hb.size (fun k e => by omega))⟩
set_option maxRecDepth 10000 in
set_option maxHeartbeats 1000000 in
theorem refWrite_any {w : World} {v : Value} {M : DM} (k : RefAt w v M) (hN : Nrm M) (hw : M.writes < 100000) (a : Int) (s : ByteArray) :
    Calls Tryz.prog 50 #[v, .int .i64 a, .string s] w fun e w' => ∃ v', e = .returned (.tuple #[v', .int .i64 (writeE M a s)]) ∧ RefAt w' v' (writeM M a s) ∧ Below w.heap.size w w' := by
  obtain ⟨n, su, fr, bd, wr, dn, lf⟩ := M
  obtain ⟨b, cap, rfl, h1, h2, h3⟩ := k
  obtain ⟨n1, n2, l1, l2⟩ := hN
  dsimp only at n1 n2 l1 l2 h1 h3 hw
  have hblt := h3.1
  obtain ⟨W0, hW, hX, hR, hB⟩ := start2 w (.slice (some ⟨b, 0, none⟩) n cap) (.bool dn) (.int .i64 lf) (.int .i64 (wr : Int)) 32
  have HL := Lib.hid (h3.below hB)
  have HB := Lib.hid hB
  have HX := Lib.hid hX
  have HR := Lib.hid hR
  have HNE : Hid (b < w.heap.size) := Lib.hid hblt
  have hH := fun W => refHas_any (w := W) (A := some ⟨b, 0, none⟩) (n := n) (cap := cap) (off := dn) (left := lf) (wr := (wr : Int)) a
  clear h3 hB hblt
  obtain ⟨_, x0, x1, x2, x3, _, fx1, fx2, fx3⟩ := hX
  obtain ⟨_, r0, r1, r2, r3, f0, f1, f2, f3⟩ := hR
  by_cases e1 : dn = true
  · subst e1
    have q1 : writeE ⟨n, su, fr, bd, wr, true, lf⟩ a s = 12 := rfl
    have q2 : writeM ⟨n, su, fr, bd, wr, true, lf⟩ a s = ⟨n, su, fr, bd, wr, true, lf⟩ := by unfold writeM; rw [q1, if_neg (by omega), if_pos (.inl rfl)]
    rw [q1, q2]
    go_enter Tryz.func50, Tryz.ntmps50
    go_upto_region 1 with fail
    rw [← hW]
    clear hW
    go_wp2_with fail
    obtain ⟨y0, y1, y2, y3, hG, hBB⟩ := stored HR.out HB.out (by omega) HL.out (by have := HNE.out; omega) (.slice (some ⟨b, 0, none⟩) n cap) (.bool true) (.int .i64 lf) (.int .i64 (wr : Int))
    refine bodyPost_ret (v := .tuple #[.agg #[.slice (some ⟨b, 0, none⟩) n cap, .bool true, .int .i64 lf, .int .i64 (wr : Int)], .int .i64 12]) (by simp [results, Tryz.results50, go_sem, y0, y1, y2, y3]) rfl ?_
    exact ⟨_, rfl, ⟨b, cap, rfl, h1, h2, hG⟩, hBB⟩
  have e1' : dn = false := by simpa using e1
  subst e1'
  clear e1
  by_cases e2 : hasB n a = false
  · rw [e2] at hH
    have q1 : writeE ⟨n, su, fr, bd, wr, false, lf⟩ a s = 1 := by unfold writeE; rw [if_neg (by simp), if_pos e2]
    have q2 : writeM ⟨n, su, fr, bd, wr, false, lf⟩ a s = ⟨n, su, fr, bd, wr, false, lf⟩ := by unfold writeM; rw [q1, if_neg (by omega), if_pos (.inr (.inl e2))]
    rw [q1, q2]
    clear q1 q2 e2
    go_enter Tryz.func50, Tryz.ntmps50
    go_upto_region 1 with fail
    rw [← hW]
    clear hW
    go_wp2_with (go_at_call 53; refine (hH _).mono ?_; rintro e w1 ⟨rfl, hb1⟩; have HX1 := Lib.hid (HX.out.below hb1); have HR1 := Lib.hid (HR.out.below hb1); have HL1 := Lib.hid (HL.out.below hb1); have HB1 := Lib.hid (HB.out.trans (hb1.mono HB.out.size)); obtain ⟨_, p0, p1, p2, p3, _, g1, g2, g3⟩ := HX1.out; obtain ⟨_, t0, t1, t2, t3, k0, k1, k2, k3⟩ := HR1.out; clear hb1)
    obtain ⟨y0, y1, y2, y3, hG, hBB⟩ := stored HR1.out HB1.out (by omega) HL1.out (by have := HNE.out; omega) (.slice (some ⟨b, 0, none⟩) n cap) (.bool false) (.int .i64 lf) (.int .i64 (wr : Int))
    refine bodyPost_ret (v := .tuple #[.agg #[.slice (some ⟨b, 0, none⟩) n cap, .bool false, .int .i64 lf, .int .i64 (wr : Int)], .int .i64 1]) (by simp [results, Tryz.results50, go_sem, y0, y1, y2, y3]) rfl ?_
    exact ⟨_, rfl, ⟨b, cap, rfl, h1, h2, hG⟩, hBB⟩
  have e2' : hasB n a = true := by simpa using e2
  rw [e2'] at hH
  obtain ⟨i, hi, rfl⟩ : ∃ i : Nat, i < n ∧ a = (i : Int) := by
    unfold hasB at e2'
    have h := of_decide_eq_true e2'
    exact ⟨a.toNat, by omega, by omega⟩
  clear e2
  by_cases e3 : s.size = 512
  case neg =>
    have d3 : ((s.size : Int) != 512) = true := bne_iff_ne.2 (by omega)
    have q1 : writeE ⟨n, su, fr, bd, wr, false, lf⟩ (i : Int) s = 2 := by unfold writeE; rw [if_neg (by simp), if_neg (by rw [show (DM.mk n su fr bd wr false lf).n = n from rfl, e2']; simp), if_pos e3]
    have q2 : writeM ⟨n, su, fr, bd, wr, false, lf⟩ (i : Int) s = ⟨n, su, fr, bd, wr, false, lf⟩ := by unfold writeM; rw [q1, if_neg (by omega), if_pos (.inr (.inr e3))]
    rw [q1, q2]
    clear q1 q2 e2' e3
    go_enter Tryz.func50, Tryz.ntmps50
    go_upto_region 1 with fail
    rw [← hW]
    clear hW
    go_wp2_with (go_at_call 53; refine (hH _).mono ?_; rintro e w1 ⟨rfl, hb1⟩; have HX1 := Lib.hid (HX.out.below hb1); have HR1 := Lib.hid (HR.out.below hb1); have HL1 := Lib.hid (HL.out.below hb1); have HB1 := Lib.hid (HB.out.trans (hb1.mono HB.out.size)); obtain ⟨_, p0, p1, p2, p3, _, g1, g2, g3⟩ := HX1.out; obtain ⟨_, t0, t1, t2, t3, k0, k1, k2, k3⟩ := HR1.out; clear hb1)
    obtain ⟨y0, y1, y2, y3, hG, hBB⟩ := stored HR1.out HB1.out (by omega) HL1.out (by have := HNE.out; omega) (.slice (some ⟨b, 0, none⟩) n cap) (.bool false) (.int .i64 lf) (.int .i64 (wr : Int))
    refine bodyPost_ret (v := .tuple #[.agg #[.slice (some ⟨b, 0, none⟩) n cap, .bool false, .int .i64 lf, .int .i64 (wr : Int)], .int .i64 2]) (by simp [results, Tryz.results50, go_sem, y0, y1, y2, y3]) rfl ?_
    exact ⟨_, rfl, ⟨b, cap, rfl, h1, h2, hG⟩, hBB⟩
  case pos =>
  have d3 : ((s.size : Int) != 512) = false := bne_eq_false_iff_eq.2 (by omega)
  have qE : writeE ⟨n, su, fr, bd, wr, false, lf⟩ (i : Int) s = burnE ⟨n, su, fr, bd, wr, false, lf⟩ := by unfold writeE; rw [if_neg (by simp), if_neg (by rw [show (DM.mk n su fr bd wr false lf).n = n from rfl, e2']; simp), if_neg (by omega)]
  by_cases e4 : lf = 0
  · subst e4
    have q1 : writeE ⟨n, su, fr, bd, wr, false, 0⟩ (i : Int) s = 12 := by rw [qE]; rfl
    have q2 : writeM ⟨n, su, fr, bd, wr, false, 0⟩ (i : Int) s = ⟨n, su, fr, bd, wr, true, 0⟩ := by
      unfold writeM; rw [q1, if_neg (by omega), if_neg (by rw [show (DM.mk n su fr bd wr false 0).n = n from rfl, e2']; simp [e3])]; rfl
    rw [q1, q2]
    clear q1 q2 qE e2' e3
    go_enter Tryz.func50, Tryz.ntmps50
    go_upto_region 1 with fail
    rw [← hW]
    clear hW
    go_upto_region 9 with (go_at_call 53; refine (hH _).mono ?_; rintro e w1 ⟨rfl, hb1⟩; have HX1 := Lib.hid (HX.out.below hb1); have HR1 := Lib.hid (HR.out.below hb1); have HL1 := Lib.hid (HL.out.below hb1); have HB1 := Lib.hid (HB.out.trans (hb1.mono HB.out.size)); obtain ⟨_, p0, p1, p2, p3, _, g1, g2, g3⟩ := HX1.out; obtain ⟨_, t0, t1, t2, t3, k0, k1, k2, k3⟩ := HR1.out; clear hb1)
    have HX2 := Lib.hid (HX1.out.set1 (.bool true))
    have A2 := ap_put w1 w.heap.size 1 (.bool true)
    have HR2 := Lib.hid (HR1.out.ap A2 (fun e => by omega))
    have HL2 := Lib.hid (HL1.out.ap A2 (fun e => by have := HNE.out; omega))
    have HB2 := Lib.hid (HB1.out.trans (A2.below (B := w.heap.size) HB1.out.size (fun k e => by omega)))
    clear A2 p0 p1 p2 p3 g1 g2 g3 t0 t1 t2 t3 k0 k1 k2 k3
    generalize w1.setCell ⟨w.heap.size, 1, none⟩ (.bool true) = w2 at HX2 HR2 HL2 HB2 ⊢
    obtain ⟨_, p0, p1, p2, p3, _, _, _, _⟩ := HX2.out
    obtain ⟨_, t0, t1, t2, t3, k0, k1, k2, k3⟩ := HR2.out
    go_wp2_with fail
    obtain ⟨y0, y1, y2, y3, hG, hBB⟩ := stored HR2.out HB2.out (by omega) HL2.out (by have := HNE.out; omega) (.slice (some ⟨b, 0, none⟩) n cap) (.bool true) (.int .i64 0) (.int .i64 (wr : Int))
    refine bodyPost_ret (v := .tuple #[.agg #[.slice (some ⟨b, 0, none⟩) n cap, .bool true, .int .i64 0, .int .i64 (wr : Int)], .int .i64 12]) (by simp [results, Tryz.results50, go_sem, y0, y1, y2, y3]) rfl ?_
    exact ⟨_, rfl, ⟨b, cap, rfl, h1, h2, hG⟩, hBB⟩
  have HI := Lib.hid hi
  obtain ⟨g0, g1, g2, g3⟩ := HL.out.2.1 i hi
  clear g0 g1 g2 g3
  have hM : ∀ L : Int, ∀ j, j < n → sM ⟨n, su, upd fr i (some s.data.toList), bd, wr + 1, false, L⟩ j = upd (sM ⟨n, su, fr, bd, wr, false, lf⟩) i ⟨⟨(su i).toArray⟩, s, true, bd i⟩ j := by
    intro L j _
    unfold upd sM
    by_cases e : j = i
    · subst e; simp
    · simp [e]
  have HM := Lib.hid hM
  clear hM
  have hd4 : (lf == 0) = false := beq_eq_false_iff_ne.2 e4
  by_cases e5 : 0 < lf
  · have q0 : burnE ⟨n, su, fr, bd, wr, false, lf⟩ = 0 := by unfold burnE; rw [if_neg e4]
    have q1 : writeE ⟨n, su, fr, bd, wr, false, lf⟩ (i : Int) s = 0 := by rw [qE, q0]
    have q2 : writeM ⟨n, su, fr, bd, wr, false, lf⟩ (i : Int) s = ⟨n, su, upd fr i (some s.data.toList), bd, wr + 1, false, lf - 1⟩ := by
      unfold writeM; rw [q1, if_pos rfl]; unfold burnM; rw [if_neg e4, if_pos e5]; rfl
    rw [q1, q2]
    have d5 : decide (0 < lf) = true := decide_eq_true e5
    have hl1 : -9223372036854775808 ≤ lf - 1 ∧ lf - 1 ≤ 9223372036854775807 := by omega
    clear q0 q1 q2 qE e2' e3 e4 e5 hi
    go_enter Tryz.func50, Tryz.ntmps50
    go_upto_region 1 with fail
    rw [← hW]
    clear hW
    go_upto_region 12 with (go_at_call 53; refine (hH _).mono ?_; rintro e w1 ⟨rfl, hb1⟩; have HX1 := Lib.hid (HX.out.below hb1); have HR1 := Lib.hid (HR.out.below hb1); have HL1 := Lib.hid (HL.out.below hb1); have HB1 := Lib.hid (HB.out.trans (hb1.mono HB.out.size)); obtain ⟨_, p0, p1, p2, p3, _, g1, g2, g3⟩ := HX1.out; obtain ⟨_, t0, t1, t2, t3, k0, k1, k2, k3⟩ := HR1.out; clear hb1)
    have HX2 := Lib.hid (HX1.out.set2 (.int .i64 (lf - 1)))
    have A2 := ap_put w1 w.heap.size 2 (.int .i64 (lf - 1))
    have HR2 := Lib.hid (HR1.out.ap A2 (fun e => by omega))
    have HL2 := Lib.hid (HL1.out.ap A2 (fun e => by have := HNE.out; omega))
    have HB2 := Lib.hid (HB1.out.trans (A2.below (B := w.heap.size) HB1.out.size (fun k e => by omega)))
    have hi := HI.out
    clear A2 p0 p1 p2 p3 g1 g2 g3 t0 t1 t2 t3 k0 k1 k2 k3
    generalize w1.setCell ⟨w.heap.size, 2, none⟩ (.int .i64 (lf - 1)) = w2 at HX2 HR2 HL2 HB2 ⊢
    obtain ⟨_, p0, p1, p2, p3, g0, g1, g2, g3⟩ := HX2.out
    obtain ⟨_, t0, t1, t2, t3, k0, k1, k2, k3⟩ := HR2.out
    go_upto_region 13 with fail
    have HX3 := Lib.hid (HX2.out.set3 (.int .i64 ((wr : Int) + 1)))
    have A3 := ap_put w2 w.heap.size 3 (.int .i64 ((wr : Int) + 1))
    have HR3 := Lib.hid (HR2.out.ap A3 (fun e => by omega))
    have HL3 := Lib.hid (HL2.out.ap A3 (fun e => by have := HNE.out; omega))
    have HB3 := Lib.hid (HB2.out.trans (A3.below (B := w.heap.size) HB2.out.size (fun k e => by omega)))
    clear A3 p0 p1 p2 p3 g1 g2 g3 t0 t1 t2 t3 k0 k1 k2 k3 HX2 HR2 HL2 HB2
    generalize w2.setCell ⟨w.heap.size, 3, none⟩ (.int .i64 ((wr : Int) + 1)) = w3 at HX3 HR3 HL3 HB3 ⊢
    obtain ⟨_, p0, p1, p2, p3, _, _, _, _⟩ := HX3.out
    obtain ⟨g0, g1, g2, g3⟩ := HL3.out.2.1 i hi
    dsimp only [sM] at g0 g1 g2 g3
    go_upto_region 16 with fail
    have HX4 := Lib.hid (HX3.out.below (below1 w3 (.cells #[.string ⟨(su i).toArray⟩, .string s, .bool true, .bool (bd i)] 58)))
    have HR4 := Lib.hid (HR3.out.below (below1 w3 (.cells #[.string ⟨(su i).toArray⟩, .string s, .bool true, .bool (bd i)] 58)))
    have HB4 := Lib.hid (HB3.out.trans ((below1 w3 (.cells #[.string ⟨(su i).toArray⟩, .string s, .bool true, .bool (bd i)] 58)).mono HB3.out.size))
    have HK4 : Hid (RG (w3.alloc (.cells #[.string ⟨(su i).toArray⟩, .string s, .bool true, .bool (bd i)] 58)) (.agg #[.slice (some ⟨b, 0, none⟩) n cap, .bool false, .int .i64 (lf - 1), .int .i64 ((wr : Int) + 1)]) n (sM ⟨n, su, fr, bd, wr, false, lf⟩) false (lf - 1) (wr + 1)) := Lib.hid ⟨b, cap, rfl, h1, h2, HL3.out.below (below1 _ _)⟩
    have HS4 := Lib.hid (Bx.new w3 (.string ⟨(su i).toArray⟩) (.string s) (.bool true) (.bool (bd i)) 58)
    clear HX3 HR3 HL3 HB3 p0 p1 p2 p3 g0 g1 g2 g3
    generalize w3.alloc (.cells #[.string ⟨(su i).toArray⟩, .string s, .bool true, .bool (bd i)] 58) = w4 at HX4 HR4 HB4 HK4 HS4 ⊢
    generalize w3.heap.size = bs at HS4 ⊢
    obtain ⟨_, p0, p1, p2, p3, _, _, _, _⟩ := HX4.out
    obtain ⟨_, s0, s1, s2, s3, _, _, _, _⟩ := HS4.out
    go_wp2_with (go_at_call 54; refine (refWith_any HK4.out n2 i HI.out ⟨⟨(su i).toArray⟩, s, true, bd i⟩).mono ?_; rintro e w5 ⟨v5, rfl, hk5, hb5⟩; obtain ⟨g, c, rfl, hgc, hcm, hgb, hG5⟩ := hk5; have HGB := Lib.hid hgb; clear hgb; have HG5 := Lib.hid hG5; have HR5 := Lib.hid (HR4.out.below hb5); have HB5 := Lib.hid (HB4.out.trans (hb5.mono HB4.out.size)); obtain ⟨_, t0, t1, t2, t3, k0, k1, k2, k3⟩ := HR5.out; clear hb5 hG5)
    have hgne : g ≠ w.heap.size + 1 := fun e => by have h1 := HGB.out; have h2 := HR4.out.lt; omega
    obtain ⟨y0, y1, y2, y3, hG, hBB⟩ := stored HR5.out HB5.out (by omega) HG5.out hgne (.slice (some ⟨g, 0, none⟩) n c) (.bool false) (.int .i64 (lf - 1)) (.int .i64 ((wr : Int) + 1))
    refine bodyPost_ret (v := .tuple #[.agg #[.slice (some ⟨g, 0, none⟩) n c, .bool false, .int .i64 (lf - 1), .int .i64 ((wr : Int) + 1)], .int .i64 0]) (by simp [results, Tryz.results50, go_sem, y0, y1, y2, y3]) rfl ?_
    exact ⟨_, rfl, RG.congr ⟨g, c, rfl, hgc, hcm, hG⟩ (HM.out _), hBB⟩
  · have q0 : burnE ⟨n, su, fr, bd, wr, false, lf⟩ = 0 := by unfold burnE; rw [if_neg e4]
    have q1 : writeE ⟨n, su, fr, bd, wr, false, lf⟩ (i : Int) s = 0 := by rw [qE, q0]
    have q2 : writeM ⟨n, su, fr, bd, wr, false, lf⟩ (i : Int) s = ⟨n, su, upd fr i (some s.data.toList), bd, wr + 1, false, lf⟩ := by
      unfold writeM; rw [q1, if_pos rfl]; unfold burnM; rw [if_neg e4, if_neg e5]; rfl
    rw [q1, q2]
    have d5 : decide (0 < lf) = false := decide_eq_false e5
    clear q0 q1 q2 qE e2' e3 e4 e5 hi
    go_enter Tryz.func50, Tryz.ntmps50
    go_upto_region 1 with fail
    rw [← hW]
    clear hW
    go_upto_region 13 with (go_at_call 53; refine (hH _).mono ?_; rintro e w1 ⟨rfl, hb1⟩; have HX1 := Lib.hid (HX.out.below hb1); have HR1 := Lib.hid (HR.out.below hb1); have HL1 := Lib.hid (HL.out.below hb1); have HB1 := Lib.hid (HB.out.trans (hb1.mono HB.out.size)); obtain ⟨_, p0, p1, p2, p3, _, g1, g2, g3⟩ := HX1.out; obtain ⟨_, t0, t1, t2, t3, k0, k1, k2, k3⟩ := HR1.out; clear hb1)
    have hi := HI.out
    have HX2 := HX1
    have HR2 := HR1
    have HL2 := HL1
    have HB2 := HB1
    generalize hw2 : w1 = w2 at *
    clear hw2
    have HX3 := Lib.hid (HX2.out.set3 (.int .i64 ((wr : Int) + 1)))
    have A3 := ap_put w2 w.heap.size 3 (.int .i64 ((wr : Int) + 1))
    have HR3 := Lib.hid (HR2.out.ap A3 (fun e => by omega))
    have HL3 := Lib.hid (HL2.out.ap A3 (fun e => by have := HNE.out; omega))
    have HB3 := Lib.hid (HB2.out.trans (A3.below (B := w.heap.size) HB2.out.size (fun k e => by omega)))
    clear A3 p0 p1 p2 p3 g1 g2 g3 t0 t1 t2 t3 k0 k1 k2 k3 HX2 HR2 HL2 HB2
    generalize w2.setCell ⟨w.heap.size, 3, none⟩ (.int .i64 ((wr : Int) + 1)) = w3 at HX3 HR3 HL3 HB3 ⊢
    obtain ⟨_, p0, p1, p2, p3, _, _, _, _⟩ := HX3.out
    obtain ⟨g0, g1, g2, g3⟩ := HL3.out.2.1 i hi
    dsimp only [sM] at g0 g1 g2 g3
    go_upto_region 16 with fail
    have HX4 := Lib.hid (HX3.out.below (below1 w3 (.cells #[.string ⟨(su i).toArray⟩, .string s, .bool true, .bool (bd i)] 58)))
    have HR4 := Lib.hid (HR3.out.below (below1 w3 (.cells #[.string ⟨(su i).toArray⟩, .string s, .bool true, .bool (bd i)] 58)))
    have HB4 := Lib.hid (HB3.out.trans ((below1 w3 (.cells #[.string ⟨(su i).toArray⟩, .string s, .bool true, .bool (bd i)] 58)).mono HB3.out.size))
    have HK4 : Hid (RG (w3.alloc (.cells #[.string ⟨(su i).toArray⟩, .string s, .bool true, .bool (bd i)] 58)) (.agg #[.slice (some ⟨b, 0, none⟩) n cap, .bool false, .int .i64 (lf), .int .i64 ((wr : Int) + 1)]) n (sM ⟨n, su, fr, bd, wr, false, lf⟩) false (lf) (wr + 1)) := Lib.hid ⟨b, cap, rfl, h1, h2, HL3.out.below (below1 _ _)⟩
    have HS4 := Lib.hid (Bx.new w3 (.string ⟨(su i).toArray⟩) (.string s) (.bool true) (.bool (bd i)) 58)
    clear HX3 HR3 HL3 HB3 p0 p1 p2 p3 g0 g1 g2 g3
    generalize w3.alloc (.cells #[.string ⟨(su i).toArray⟩, .string s, .bool true, .bool (bd i)] 58) = w4 at HX4 HR4 HB4 HK4 HS4 ⊢
    generalize w3.heap.size = bs at HS4 ⊢
    obtain ⟨_, p0, p1, p2, p3, _, _, _, _⟩ := HX4.out
    obtain ⟨_, s0, s1, s2, s3, _, _, _, _⟩ := HS4.out
    go_wp2_with (go_at_call 54; refine (refWith_any HK4.out n2 i HI.out ⟨⟨(su i).toArray⟩, s, true, bd i⟩).mono ?_; rintro e w5 ⟨v5, rfl, hk5, hb5⟩; obtain ⟨g, c, rfl, hgc, hcm, hgb, hG5⟩ := hk5; have HGB := Lib.hid hgb; clear hgb; have HG5 := Lib.hid hG5; have HR5 := Lib.hid (HR4.out.below hb5); have HB5 := Lib.hid (HB4.out.trans (hb5.mono HB4.out.size)); obtain ⟨_, t0, t1, t2, t3, k0, k1, k2, k3⟩ := HR5.out; clear hb5 hG5)
    have hgne : g ≠ w.heap.size + 1 := fun e => by have h1 := HGB.out; have h2 := HR4.out.lt; omega
    obtain ⟨y0, y1, y2, y3, hG, hBB⟩ := stored HR5.out HB5.out (by omega) HG5.out hgne (.slice (some ⟨g, 0, none⟩) n c) (.bool false) (.int .i64 (lf)) (.int .i64 ((wr : Int) + 1))
    refine bodyPost_ret (v := .tuple #[.agg #[.slice (some ⟨g, 0, none⟩) n c, .bool false, .int .i64 (lf), .int .i64 ((wr : Int) + 1)], .int .i64 0]) (by simp [results, Tryz.results50, go_sem, y0, y1, y2, y3]) rfl ?_
    exact ⟨_, rfl, RG.congr ⟨g, c, rfl, hgc, hcm, hG⟩ (HM.out _), hBB⟩
end Go.Proofs.YtjhpheepimbbdaaGreatDoor
namespace Go.Proofs.YtjhpheepimbbdaaGreatDoor
open Go.RowKit Go.Maps

set_option maxRecDepth 10000 in
set_option maxHeartbeats 1000000 in
theorem refErase_any {w : World} {v : Value} {M : DM} (k : RefAt w v M) (hN : Nrm M) (a : Int) :
    Calls Tryz.prog 21 #[v, .int .i64 a] w fun e w' => ∃ v', e = .returned (.tuple #[v', .int .i64 (eraseE M a)]) ∧ RefAt w' v' (eraseM M a) ∧ Below w.heap.size w w' := by
  obtain ⟨n, su, fr, bd, wr, dn, lf⟩ := M
  obtain ⟨b, cap, rfl, h1, h2, h3⟩ := k
  obtain ⟨n1, n2, l1, l2⟩ := hN
  dsimp only at n1 n2 l1 l2 h1 h3
  have hblt := h3.1
  obtain ⟨W0, hW, hX, hR, hB⟩ := start2 w (.slice (some ⟨b, 0, none⟩) n cap) (.bool dn) (.int .i64 lf) (.int .i64 (wr : Int)) 32
  have HL := Lib.hid (h3.below hB)
  have HB := Lib.hid hB
  have HX := Lib.hid hX
  have HR := Lib.hid hR
  have HNE : Hid (b < w.heap.size) := Lib.hid hblt
  clear h3 hB hblt
  obtain ⟨_, x0, x1, x2, x3, fx0, fx1, fx2, fx3⟩ := hX
  obtain ⟨_, r0, r1, r2, r3, f0, f1, f2, f3⟩ := hR
  have hH := fun W => refHas_any (w := W) (A := some ⟨b, 0, none⟩) (n := n) (cap := cap) (off := dn) (left := lf) (wr := (wr : Int)) a
  by_cases e2 : hasB n a = false
  · rw [e2] at hH
    have q1 : eraseE ⟨n, su, fr, bd, wr, dn, lf⟩ a = 1 := by unfold eraseE; rw [if_neg (by rw [e2]; simp)]
    have q2 : eraseM ⟨n, su, fr, bd, wr, dn, lf⟩ a = ⟨n, su, fr, bd, wr, dn, lf⟩ := by unfold eraseM; rw [if_neg (by rw [e2]; simp)]
    rw [q1, q2]
    clear q1 q2 e2
    go_enter Tryz.func21, Tryz.ntmps21
    go_upto_region 1 with fail
    rw [← hW]
    clear hW
    go_wp2_with (go_at_call 53; refine (hH _).mono ?_; rintro e w1 ⟨rfl, hb1⟩; have HX1 := Lib.hid (HX.out.below hb1); have HR1 := Lib.hid (HR.out.below hb1); have HL1 := Lib.hid (HL.out.below hb1); have HB1 := Lib.hid (HB.out.trans (hb1.mono HB.out.size)); obtain ⟨_, p0, p1, p2, p3, _, g1, g2, g3⟩ := HX1.out; obtain ⟨_, t0, t1, t2, t3, k0, k1, k2, k3⟩ := HR1.out; clear hb1)
    obtain ⟨y0, y1, y2, y3, hG, hBB⟩ := stored HR1.out HB1.out (by omega) HL1.out (by have := HNE.out; omega) (.slice (some ⟨b, 0, none⟩) n cap) (.bool dn) (.int .i64 lf) (.int .i64 (wr : Int))
    refine bodyPost_ret (v := .tuple #[.agg #[.slice (some ⟨b, 0, none⟩) n cap, .bool dn, .int .i64 lf, .int .i64 (wr : Int)], .int .i64 1]) (by simp [results, Tryz.results21, go_sem, y0, y1, y2, y3]) rfl ?_
    exact ⟨_, rfl, ⟨b, cap, rfl, h1, h2, hG⟩, hBB⟩
  have e2' : hasB n a = true := by simpa using e2
  rw [e2'] at hH
  obtain ⟨i, hi, rfl⟩ : ∃ i : Nat, i < n ∧ a = (i : Int) := by
    unfold hasB at e2'
    have h := of_decide_eq_true e2'
    exact ⟨a.toNat, by omega, by omega⟩
  have q1 : eraseE ⟨n, su, fr, bd, wr, dn, lf⟩ (i : Int) = 0 := by unfold eraseE; rw [if_pos e2']
  have q2 : eraseM ⟨n, su, fr, bd, wr, dn, lf⟩ (i : Int) = ⟨n, su, fr, upd bd i true, wr, dn, lf⟩ := by unfold eraseM; rw [if_pos e2']; rfl
  rw [q1, q2]
  have HM : Hid (∀ j, j < n → sM ⟨n, su, fr, upd bd i true, wr, dn, lf⟩ j = upd (sM ⟨n, su, fr, bd, wr, dn, lf⟩) i ⟨⟨(su i).toArray⟩, ⟨((fr i).getD []).toArray⟩, (fr i).isSome, true⟩ j) := Lib.hid (by
    intro j _
    unfold upd sM
    by_cases e : j = i
    · subst e; simp
    · simp [e])
  have HI := Lib.hid hi
  clear q1 q2 e2 e2' hi
  go_enter Tryz.func21, Tryz.ntmps21
  go_upto_region 1 with fail
  rw [← hW]
  clear hW
  go_upto_region 3 with (go_at_call 53; refine (hH _).mono ?_; rintro e w1 ⟨rfl, hb1⟩; have HX1 := Lib.hid (HX.out.below hb1); have HR1 := Lib.hid (HR.out.below hb1); have HL1 := Lib.hid (HL.out.below hb1); have HB1 := Lib.hid (HB.out.trans (hb1.mono HB.out.size)); obtain ⟨_, p0, p1, p2, p3, _, g1, g2, g3⟩ := HX1.out; obtain ⟨_, t0, t1, t2, t3, k0, k1, k2, k3⟩ := HR1.out; clear hb1)
  have hi := HI.out
  obtain ⟨g0, g1, g2, g3⟩ := HL1.out.2.1 i hi
  dsimp only [sM] at g0 g1 g2 g3
  clear x0 x1 x2 x3 fx0 fx1 fx2 fx3 r0 r1 r2 r3 f0 f1 f2 f3 HX HR HL HB
  go_upto_region 5 with fail
  have HX4 := Lib.hid (HX1.out.below (below1 w1 (.cells #[.string ⟨(su i).toArray⟩, .string ⟨((fr i).getD []).toArray⟩, .bool (fr i).isSome, .bool true] 58)))
  have HR4 := Lib.hid (HR1.out.below (below1 w1 (.cells #[.string ⟨(su i).toArray⟩, .string ⟨((fr i).getD []).toArray⟩, .bool (fr i).isSome, .bool true] 58)))
  have HB4 := Lib.hid (HB1.out.trans ((below1 w1 (.cells #[.string ⟨(su i).toArray⟩, .string ⟨((fr i).getD []).toArray⟩, .bool (fr i).isSome, .bool true] 58)).mono HB1.out.size))
  have HK4 : Hid (RG (w1.alloc (.cells #[.string ⟨(su i).toArray⟩, .string ⟨((fr i).getD []).toArray⟩, .bool (fr i).isSome, .bool true] 58)) (.agg #[.slice (some ⟨b, 0, none⟩) n cap, .bool dn, .int .i64 lf, .int .i64 (wr : Int)]) n (sM ⟨n, su, fr, bd, wr, dn, lf⟩) dn lf wr) := Lib.hid ⟨b, cap, rfl, h1, h2, HL1.out.below (below1 _ _)⟩
  have HS4 := Lib.hid (Bx.new w1 (.string ⟨(su i).toArray⟩) (.string ⟨((fr i).getD []).toArray⟩) (.bool (fr i).isSome) (.bool true) 58)
  clear HX1 HR1 HL1 HB1 p0 p1 p2 p3 g0 g1 g2 g3 t0 t1 t2 t3 k0 k1 k2 k3
  generalize w1.alloc (.cells #[.string ⟨(su i).toArray⟩, .string ⟨((fr i).getD []).toArray⟩, .bool (fr i).isSome, .bool true] 58) = w4 at HX4 HR4 HB4 HK4 HS4 ⊢
  generalize w1.heap.size = bs at HS4 ⊢
  obtain ⟨_, p0, p1, p2, p3, _, _, _, _⟩ := HX4.out
  obtain ⟨_, s0, s1, s2, s3, _, _, _, _⟩ := HS4.out
  go_wp2_with (go_at_call 54; refine (refWith_any HK4.out n2 i HI.out ⟨⟨(su i).toArray⟩, ⟨((fr i).getD []).toArray⟩, (fr i).isSome, true⟩).mono ?_; rintro e w5 ⟨v5, rfl, hk5, hb5⟩; obtain ⟨g, c, rfl, hgc, hcm, hgb, hG5⟩ := hk5; have HGB := Lib.hid hgb; clear hgb; have HG5 := Lib.hid hG5; have HR5 := Lib.hid (HR4.out.below hb5); have HB5 := Lib.hid (HB4.out.trans (hb5.mono HB4.out.size)); obtain ⟨_, t0, t1, t2, t3, k0, k1, k2, k3⟩ := HR5.out; clear hb5 hG5)
  have hgne : g ≠ w.heap.size + 1 := fun e => by have h1 := HGB.out; have h2 := HR4.out.lt; omega
  obtain ⟨y0, y1, y2, y3, hG, hBB⟩ := stored HR5.out HB5.out (by omega) HG5.out hgne (.slice (some ⟨g, 0, none⟩) n c) (.bool dn) (.int .i64 lf) (.int .i64 (wr : Int))
  refine bodyPost_ret (v := .tuple #[.agg #[.slice (some ⟨g, 0, none⟩) n c, .bool dn, .int .i64 lf, .int .i64 (wr : Int)], .int .i64 0]) (by simp [results, Tryz.results21, go_sem, y0, y1, y2, y3]) rfl ?_
  exact ⟨_, rfl, RG.congr ⟨g, c, rfl, hgc, hcm, hG⟩ HM.out, hBB⟩
set_option maxRecDepth 10000 in
set_option maxHeartbeats 1000000 in
theorem refFuse_any {w : World} {v : Value} {M : DM} (k : RefAt w v M) (hN : Nrm M) (x : Int) :
    Calls Tryz.prog 27 #[v, .int .i64 x] w fun e w' => ∃ v', e = .returned v' ∧ RefAt w' v' { M with left := if 0 ≤ x then x else -1 } ∧ Below w.heap.size w w' := by
  obtain ⟨n, su, fr, bd, wr, dn, lf⟩ := M
  obtain ⟨b, cap, rfl, h1, h2, h3⟩ := k
  obtain ⟨n1, n2, l1, l2⟩ := hN
  dsimp only at n1 n2 l1 l2 h1 h3
  have hblt := h3.1
  obtain ⟨W0, hW, hX, hR, hB⟩ := start2 w (.slice (some ⟨b, 0, none⟩) n cap) (.bool dn) (.int .i64 lf) (.int .i64 (wr : Int)) 32
  have HL := Lib.hid (h3.below hB)
  have HB := Lib.hid hB
  have HX := Lib.hid hX
  have HR := Lib.hid hR
  have HNE : Hid (b < w.heap.size) := Lib.hid hblt
  clear h3 hB hblt
  obtain ⟨_, x0, x1, x2, x3, fx0, fx1, fx2, fx3⟩ := hX
  obtain ⟨_, r0, r1, r2, r3, f0, f1, f2, f3⟩ := hR
  obtain ⟨L, hL⟩ : ∃ L : Int, L = if 0 ≤ x then x else -1 := ⟨_, rfl⟩
  have hLm : max x (-1) = L := by rw [hL]; split <;> omega
  have e1 : (DM.mk n su fr bd wr dn (if 0 ≤ x then x else -1)) = ⟨n, su, fr, bd, wr, dn, L⟩ := by rw [hL]
  dsimp only
  rw [e1]
  clear e1 hL
  go_enter Tryz.func27, Tryz.ntmps27
  go_upto_region 1 with fail
  rw [← hW]
  clear hW
  go_upto_region 2 with fail
  have HX2 := Lib.hid (HX.out.set2 (.int .i64 L))
  have A2 := ap_put W0 w.heap.size 2 (.int .i64 L)
  have HR2 := Lib.hid (HR.out.ap A2 (fun e => by omega))
  have HL2 := Lib.hid (HL.out.ap A2 (fun e => by have := HNE.out; omega))
  have HB2 := Lib.hid (HB.out.trans (A2.below (B := w.heap.size) HB.out.size (fun k e => by omega)))
  clear A2 x0 x1 x2 x3 fx0 fx1 fx2 fx3 r0 r1 r2 r3 f0 f1 f2 f3 hLm
  generalize W0.setCell ⟨w.heap.size, 2, none⟩ (.int .i64 L) = w2 at HX2 HR2 HL2 HB2 ⊢
  obtain ⟨_, p0, p1, p2, p3, _, _, _, _⟩ := HX2.out
  obtain ⟨_, t0, t1, t2, t3, k0, k1, k2, k3⟩ := HR2.out
  go_wp2_with fail
  obtain ⟨y0, y1, y2, y3, hG, hBB⟩ := stored HR2.out HB2.out (by omega) HL2.out (by have := HNE.out; omega) (.slice (some ⟨b, 0, none⟩) n cap) (.bool dn) (.int .i64 L) (.int .i64 (wr : Int))
  refine bodyPost_ret (v := .agg #[.slice (some ⟨b, 0, none⟩) n cap, .bool dn, .int .i64 L, .int .i64 (wr : Int)]) (by simp [results, Tryz.results27, go_sem, y0, y1, y2, y3]) rfl ?_
  exact ⟨_, rfl, ⟨b, cap, rfl, h1, h2, hG⟩, hBB⟩

set_option maxRecDepth 10000 in
set_option maxHeartbeats 1000000 in
theorem refRead_any {w : World} {v : Value} {M : DM} (k : RefAt w v M) (a : Int) :
    Calls Tryz.prog 52 #[v, .int .i64 a] w fun e w' => e = .returned (.tuple #[.string ⟨(readV M a).toArray⟩, .int .i64 (readE M a)]) ∧ Below w.heap.size w w' := by
  obtain ⟨n, su, fr, bd, wr, dn, lf⟩ := M
  obtain ⟨b, cap, rfl, h1, h2, h3⟩ := k
  dsimp only at h1 h3
  have hblt := h3.1
  have HB := Lib.hid (below1 w (.cells #[.slice (some ⟨b, 0, none⟩) n cap, .bool dn, .int .i64 lf, .int .i64 (wr : Int)] 32))
  have HX := Lib.hid (Bx.new w (.slice (some ⟨b, 0, none⟩) n cap) (.bool dn) (.int .i64 lf) (.int .i64 (wr : Int)) 32)
  have HL := Lib.hid (h3.below HB.out)
  obtain ⟨W0, hW⟩ : ∃ W0 : World, W0 = w.alloc (.cells #[.slice (some ⟨b, 0, none⟩) n cap, .bool dn, .int .i64 lf, .int .i64 (wr : Int)] 32) := ⟨_, rfl⟩
  rw [← hW] at HB HX HL
  clear h3 hblt
  obtain ⟨_, x0, x1, x2, x3, _, _, _, _⟩ := HX.out
  have hH := fun W => refHas_any (w := W) (A := some ⟨b, 0, none⟩) (n := n) (cap := cap) (off := dn) (left := lf) (wr := (wr : Int)) a
  by_cases e1 : dn = true
  · subst e1
    have q1 : readE ⟨n, su, fr, bd, wr, true, lf⟩ a = 12 := rfl
    have q2 : readV ⟨n, su, fr, bd, wr, true, lf⟩ a = [] := by unfold readV; rw [q1, if_neg (by omega)]
    rw [q1, q2, emptyStr]
    go_enter Tryz.func52, Tryz.ntmps52
    go_upto_region 1 with fail
    rw [← hW]
    clear hW
    go_wp2_with fail
    go_ret2
    exact ⟨rfl, HB.out⟩
  have e1' : dn = false := by simpa using e1
  subst e1'
  clear e1
  by_cases e2 : hasB n a = false
  · rw [e2] at hH
    have q1 : readE ⟨n, su, fr, bd, wr, false, lf⟩ a = 1 := by unfold readE; rw [if_neg (by simp), if_pos e2]
    have q2 : readV ⟨n, su, fr, bd, wr, false, lf⟩ a = [] := by unfold readV; rw [q1, if_neg (by omega)]
    rw [q1, q2, emptyStr]
    clear q1 q2 e2
    go_enter Tryz.func52, Tryz.ntmps52
    go_upto_region 1 with fail
    rw [← hW]
    clear hW
    go_wp2_with (go_at_call 53; refine (hH _).mono ?_; rintro e w1 ⟨rfl, hb1⟩; have HX1 := Lib.hid (HX.out.below hb1); have HL1 := Lib.hid (HL.out.below hb1); have HB1 := Lib.hid (HB.out.trans (hb1.mono HB.out.size)); obtain ⟨_, p0, p1, p2, p3, _, _, _, _⟩ := HX1.out; clear hb1)
    go_ret2
    exact ⟨rfl, HB1.out⟩
  have e2' : hasB n a = true := by simpa using e2
  rw [e2'] at hH
  obtain ⟨i, hi, rfl⟩ : ∃ i : Nat, i < n ∧ a = (i : Int) := by
    unfold hasB at e2'
    have h := of_decide_eq_true e2'
    exact ⟨a.toNat, by omega, by omega⟩
  have HI := Lib.hid hi
  have qE : readE ⟨n, su, fr, bd, wr, false, lf⟩ (i : Int) = (match fr i with | some _ => 0 | none => if bd i = true then 9 else 0) := by
    unfold readE; rw [if_neg (by simp), if_neg (by rw [show (DM.mk n su fr bd wr false lf).n = n from rfl, e2']; simp)]; rfl
  have qV : readV ⟨n, su, fr, bd, wr, false, lf⟩ (i : Int) = if readE ⟨n, su, fr, bd, wr, false, lf⟩ (i : Int) = 0 then (match fr i with | some l => l | none => su i) else [] := rfl
  rw [qV, qE]
  obtain ⟨g0, g1, g2, g3⟩ := HL.out.2.1 i hi
  dsimp only [sM] at g0 g1 g2 g3
  clear qE qV e2 e2' g0 g1 g2 g3 hi
  cases hf : fr i with
  | some l =>
    rw [if_pos rfl]
    go_enter Tryz.func52, Tryz.ntmps52
    go_upto_region 1 with fail
    rw [← hW]
    clear hW
    go_upto_region 5 with (go_at_call 53; refine (hH _).mono ?_; rintro e w1 ⟨rfl, hb1⟩; have HX1 := Lib.hid (HX.out.below hb1); have HL1 := Lib.hid (HL.out.below hb1); have HB1 := Lib.hid (HB.out.trans (hb1.mono HB.out.size)); obtain ⟨_, p0, p1, p2, p3, _, _, _, _⟩ := HX1.out; clear hb1)
    have hi := HI.out
    obtain ⟨g0, g1, g2, g3⟩ := HL1.out.2.1 i hi
    dsimp only [sM] at g0 g1 g2 g3
    rw [hf] at g1 g2
    go_wp2_with fail
    go_ret2
    exact ⟨rfl, HB1.out.trans ((below1 _ _).mono HB1.out.size)⟩
  | none =>
    cases hb : bd i with
    | true =>
      simp only [if_true]
      rw [if_neg (by omega), emptyStr]
      -- hb
      go_enter Tryz.func52, Tryz.ntmps52
      go_upto_region 1 with fail
      rw [← hW]
      clear hW
      go_upto_region 5 with (go_at_call 53; refine (hH _).mono ?_; rintro e w1 ⟨rfl, hb1⟩; have HX1 := Lib.hid (HX.out.below hb1); have HL1 := Lib.hid (HL.out.below hb1); have HB1 := Lib.hid (HB.out.trans (hb1.mono HB.out.size)); obtain ⟨_, p0, p1, p2, p3, _, _, _, _⟩ := HX1.out; clear hb1)
      have hi := HI.out
      obtain ⟨g0, g1, g2, g3⟩ := HL1.out.2.1 i hi
      dsimp only [sM] at g0 g1 g2 g3
      rw [hf] at g1 g2
      rw [hb] at g3
      go_wp2_with fail
      go_ret2
      exact ⟨rfl, HB1.out.trans ((below1 _ _).mono HB1.out.size)⟩
    | false =>
      simp only [Bool.false_eq_true, if_false, if_true]
      -- hb
      go_enter Tryz.func52, Tryz.ntmps52
      go_upto_region 1 with fail
      rw [← hW]
      clear hW
      go_upto_region 5 with (go_at_call 53; refine (hH _).mono ?_; rintro e w1 ⟨rfl, hb1⟩; have HX1 := Lib.hid (HX.out.below hb1); have HL1 := Lib.hid (HL.out.below hb1); have HB1 := Lib.hid (HB.out.trans (hb1.mono HB.out.size)); obtain ⟨_, p0, p1, p2, p3, _, _, _, _⟩ := HX1.out; clear hb1)
      have hi := HI.out
      obtain ⟨g0, g1, g2, g3⟩ := HL1.out.2.1 i hi
      dsimp only [sM] at g0 g1 g2 g3
      rw [hf] at g1 g2
      rw [hb] at g3
      go_wp2_with fail
      go_ret2
      exact ⟨rfl, HB1.out.trans ((below1 _ _).mono HB1.out.size)⟩
end Go.Proofs.YtjhpheepimbbdaaGreatDoor
