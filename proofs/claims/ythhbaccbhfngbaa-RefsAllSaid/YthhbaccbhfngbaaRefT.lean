/- References: the program's Fresh. -/
import Derived.Test.YthhbaccbhfngbaaRefS
import Derived.Test.YthhbaccbhfngbaaMc05
namespace Go.Proofs.Ythhbaccbhfngbaa
open Go.RowKit Go.Shelf Go.Maps
attribute [local go_sem] Oper.semAt_some

/-- The fresh numbers, each as often as it is. -/
def frNums (L : List EN) : List Int := (L.filter (fun y => y.kind = 2)).map EN.fr
theorem frNums_y {L : List EN} {y : EN} (h : y.kind = 2) : frNums (L ++ [y]) = frNums L ++ [y.fr] := by
  unfold frNums; rw [List.filter_append, List.filter_cons_of_pos (by simpa using h), List.filter_nil, List.map_append]; rfl
theorem frNums_n {L : List EN} {y : EN} (h : y.kind ≠ 2) : frNums (L ++ [y]) = frNums L := by
  unfold frNums; rw [List.filter_append, List.filter_cons_of_neg (by simpa using h), List.filter_nil, List.append_nil]
theorem frNums_len (L : List EN) : (frNums L).length ≤ L.length := by
  unfold frNums; rw [List.length_map]; exact List.length_filter_le _ _
theorem frU_snoc' (L : List EN) (y : EN) : frU (L ++ [y]) = frS (frU L) y := by unfold frU; rw [List.foldl_append]; rfl
theorem frU_memO : ∀ (L : List EN) (out : List Int) (x : Int), x ∈ L.foldl frS out ↔ x ∈ out ∨ x ∈ frNums L
  | [], out, x => by simp [frNums]
  | y :: L, out, x => by
    rw [List.foldl_cons, frU_memO L]
    have e : frNums (y :: L) = frNums [y] ++ frNums L := by unfold frNums; rw [show y :: L = [y] ++ L from rfl, List.filter_append, List.map_append]
    rw [e, List.mem_append]
    unfold frS
    by_cases hk : y.kind = 2
    · have e2 : frNums [y] = [y.fr] := frNums_y (L := []) hk
      rw [e2, List.mem_singleton]
      split
      · rw [List.mem_append, List.mem_singleton, or_assoc]
      · rename_i h
        have hin : y.fr ∈ out := Classical.byContradiction (fun hn => h ⟨hk, hn⟩)
        constructor
        · rintro (h1 | h1)
          · exact .inl h1
          · exact .inr (.inr h1)
        · rintro (h1 | rfl | h1)
          · exact .inl h1
          · exact .inl hin
          · exact .inr h1
    · have e2 : frNums [y] = [] := frNums_n (L := []) hk
      rw [if_neg (fun h => hk h.1), e2]
      simp
theorem frU_memN (L : List EN) (x : Int) : x ∈ frU L ↔ x ∈ frNums L := by
  unfold frU; rw [frU_memO]; simp
theorem frU_lenN (L : List EN) : (frU L).length ≤ L.length := by have := frU_len L []; simpa [frU] using this
theorem GW.addZ {W W' : World} {B b s n : Nat} {t e : TypeId} {X : List (Nat × Obj)} {xs : List Value} {u : Value} (h : GW W B b t e s n X xs u) (hb : Below W.heap.size W W') {g : Nat} (hg : W.heap.size ≤ g) (o : Obj) : GW W' B b t e s n ((g, o) :: X) xs u :=
  ⟨(hb.block b h.bx.lt).trans h.bx, own_same h.own (fun k hk => hb.block k (h.own.lt _ hk).2), fun p hp q => by
    rcases List.mem_cons.1 hp with rfl | hp
    · have := (h.own.lt _ q).2; dsimp only at this; omega
    · exact h.av p hp q, h.hb⟩
theorem CMap.ready {W : World} {tm : Nat} {l : List Int} {x : Int} (h : CMap W tm l) (hl : l.length ≤ 3600) : ∃ D : DataW Unit, W.ownsMap Try.prog 3 (plainElem Try.prog 3) tm (Maps.size D) D ∧ Maps.size D < maxLen ∧ (∀ z : Int, D.atKey (kI x) (.lit (.int .i64 0)) = .lit (.int .i64 z) → z = (l.count x : Nat)) ∧
    ∀ (W' : World) (n : Nat), W'.ownsMap Try.prog 3 (plainElem Try.prog 3) tm n (D.put (kI x) (.lit (.int .i64 ((l.count x : Nat) + 1)))) → CMap W' tm (l ++ [x]) := by
  obtain ⟨D, ho, hh, hv⟩ := h
  exact ⟨D, ho, by have := CMap.sizeLe ho hh; unfold maxLen; omega, fun z hz => CMap.look hh hv hz, fun W' n h' => CMap.put ho hh hv x h'⟩
theorem blk_kept {W w1 : World} {tmp : Obj} {u : Value} {b7 B : Nat} (hgrow : (W.alloc tmp).grownBy w1 u.ownBlock) (hB : B < W.heap.size) (hn : ∀ g, u.ownBlock = some g → g ≠ B) (h7 : b7 ≠ B) (v : Value) : (w1.setCell ⟨b7, 0, none⟩ v).heap[B]? = W.heap[B]? := by
  have hs := hgrow.size
  rw [World.size_alloc] at hs
  have k1 := (grownBy_setCell' w1 b7 v).block B (by omega) (fun e => by injection e with e; exact h7 e.symm)
  have k2 := hgrow.block B (by rw [World.size_alloc]; omega) (fun e => hn B e.symm rfl)
  exact k1.trans (k2.trans (Below.heap_alloc W _ B hB))
/-- Fresh under way. -/
structure FNT (w5 W : World) (tm b7 : Nat) (X : List (Nat × Obj)) (l K : List Int) : Prop where
  ap : Ap (fun q => q = tm ∨ q = b7) w5 W
  kx : KX w5.heap.size X W
  lt : tm < b7 ∧ b7 < w5.heap.size
  mp : CMap W tm l
  r7 : ∃ u, GW W w5.heap.size b7 29 3 1 K.length X (K.map (Value.int .i64)) u
theorem FNT.own {w5 W W' : World} {tm b7 : Nat} {X : List (Nat × Obj)} {l K : List Int} {row : Option Nat} (h : FNT w5 W tm b7 X l K) (hg : W.grownBy W' row) (hr : ∀ r, row = some r → w5.heap.size ≤ r ∧ ∃ o : Obj, W.heap[r]? = some o ∧ o.isCells = false) : FNT w5 W' tm b7 X l K := by
  obtain ⟨u, hu⟩ := h.r7
  have hl := h.lt
  refine ⟨h.ap.grown hg (fun r e => .inr (hr r e).1), h.kx.own hg hr, h.lt, ?_, ⟨u, hu.kept hg hr⟩⟩
  obtain ⟨D, ho, r⟩ := h.mp
  have hlt := ho.lt
  obtain ⟨es, clock, e1, r1⟩ := ho
  exact ⟨D, ⟨es, clock, (hg.block tm hlt (fun e => by have := (hr tm e.symm).1; omega)).trans e1, r1⟩, r⟩
theorem FNT.add {w5 W W' : World} {tm b7 b : Nat} {X : List (Nat × Obj)} {l K : List Int} {o : Obj} (h : FNT w5 W tm b7 X l K) (hb : Below W.heap.size W W') (hn : W.heap.size ≤ b) (ho : W'.heap[b]? = some o) (hc : o.isCells = true) : FNT w5 W' tm b7 ((b, o) :: X) l K := by
  obtain ⟨u, hu⟩ := h.r7
  refine ⟨h.ap.trans (Ap.of_below hb), ?_, h.lt, h.mp.below hb, ⟨u, hu.addZ hb hn o⟩⟩
  intro p hp
  rcases List.mem_cons.1 hp with rfl | hp
  · exact ⟨hc, Nat.le_trans h.ap.size hn, ho⟩
  · exact ⟨(h.kx p hp).1, (h.kx p hp).2.1, (hb.block _ (h.kx.lt hp)).trans (h.kx p hp).2.2⟩
/-- The map turns. -/
theorem FNT.turn {w5 W W' : World} {tm b7 : Nat} {X : List (Nat × Obj)} {l l' K : List Int} (h : FNT w5 W tm b7 X l K) (hg : W.grownBy W' (some tm)) (hp : CMap W' tm l') : FNT w5 W' tm b7 X l' K ∧ KeepsFrom w5.heap.size W W' := by
  obtain ⟨u, hu⟩ := h.r7
  have hl := h.lt
  refine ⟨⟨h.ap.grown hg (fun r e => .inl (.inl (by injection e with e; exact e.symm))), h.kx.grown hg (fun p hp e => by injection e with e; have := (h.kx p hp).2.1; omega), h.lt, hp, ⟨u, ?_⟩⟩, KeepsFrom.of_grownBy hg (fun j e => by injection e with e; omega)⟩
  refine ⟨hu.bx.kept hg (fun q => by injection q with q; omega), hu.own.kept hg ?_, hu.av, hu.hb⟩
  cases hq : u.ownBlock with
  | none => exact .inl rfl
  | some g => exact .inr fun q => by injection q with q; have := (hu.own.lt _ hq).1; omega
/-- The row grows. -/
theorem FNT.app {w5 W w1 : World} {tm b7 : Nat} {X : List (Nat × Obj)} {l K : List Int} {x : Int} {u u' : Value} {tmp : Obj} (h : FNT w5 W tm b7 X l K) (hu : GW W w5.heap.size b7 29 3 1 K.length X (K.map (Value.int .i64)) u)
    (hown' : w1.ownsRow w5.heap.size 3 1 u' (K.length + 1) (K.map (Value.int .i64) ++ [.int .i64 x])) (hgrow : (W.alloc tmp).grownBy w1 u.ownBlock) (hob : u'.ownBlock = u.ownBlock ∨ u'.ownBlock = some (W.alloc tmp).heap.size) : FNT w5 (w1.setCell ⟨b7, 0, none⟩ u') tm b7 X l (K ++ [x]) ∧ KeepsFrom w5.heap.size W (w1.setCell ⟨b7, 0, none⟩ u') := by
  have hl := h.lt
  have ha := hu.ap (w5 := w5) (Nat.le_refl _) h.ap (.inr rfl) hgrow (u' := u')
  refine ⟨⟨ha, hu.keepX h.kx hgrow, h.lt, ?_, ⟨u', ?_⟩⟩, hu.keep hgrow⟩
  · have hlt := h.mp.lt
    have e1 : (w1.setCell ⟨b7, 0, none⟩ u').heap[tm]? = W.heap[tm]? := by
      have k1 := (grownBy_setCell' w1 b7 u').block tm (by have := hgrow.size; simp at this; omega) (fun e => by injection e with e; omega)
      have k2 := hgrow.block tm (by simp; omega) (fun e => by have := (hu.own.lt _ e.symm).1; omega)
      have k3 := Below.heap_alloc W tmp tm hlt
      exact k1.trans (k2.trans k3)
    obtain ⟨D, ho, r⟩ := h.mp
    obtain ⟨es, clock, q1, r1⟩ := ho
    exact ⟨D, ⟨es, clock, e1.trans q1, r1⟩, r⟩
  · have k := hu.app h.kx hown' hgrow hob
    rw [List.length_append, List.map_append]
    exact k
/-- Where the round ends with an error. -/
structure FNX (w5 W : World) (b4 b5 tm b7 : Nat) : Prop where
  ap : Ap (fun q => q = tm ∨ q = b7 ∨ q = b4 ∨ q = b5) w5 W
  x4 : W.cell? ⟨b4, 0, none⟩ = some (.slice none 0 0)
  x5 : W.cell? ⟨b5, 0, none⟩ = some (.int .i64 2)
  lt : tm < w5.heap.size ∧ b4 < w5.heap.size ∧ b5 < w5.heap.size
theorem FNX.own {w5 W W' : World} {b4 b5 tm b7 : Nat} {row : Option Nat} (h : FNX w5 W b4 b5 tm b7) (hg : W.grownBy W' row) (hr : ∀ r, row = some r → w5.heap.size ≤ r ∧ ∃ o : Obj, W.heap[r]? = some o ∧ o.isCells = false) : FNX w5 W' b4 b5 tm b7 := by
  obtain ⟨l1, l2, l3⟩ := h.lt
  have hs := h.ap.size
  refine ⟨h.ap.grown hg (fun r e => .inr (hr r e).1), ?_, ?_, h.lt⟩
  · rw [← h.x4]; exact World.cell?_of_block (hg.block b4 (by omega) (fun e => by have := (hr b4 e.symm).1; omega))
  · rw [← h.x5]; exact World.cell?_of_block (hg.block b5 (by omega) (fun e => by have := (hr b5 e.symm).1; omega))
/-- What lies where it starts. -/
structure FNW (w w5 : World) (b5 tm b6 b7 be bl : Nat) (e : Int) (v : Value) : Prop where
  lo : Below w.heap.size w w5
  hb : w.heap.size < b5 ∧ b5 < tm ∧ tm < b6 ∧ b6 < b7 ∧ b7 < be ∧ be < bl ∧ bl < w5.heap.size
  x4 : Boxed w5 w.heap.size 29 (.slice none 0 0)
  x5 : Boxed w5 b5 26 (.int .i64 0)
  x6 : Boxed w5 b6 65 (.map (some tm))
  x7 : Boxed w5 b7 29 (.slice none 0 0)
  e' : w5.cell? ⟨be, 0, none⟩ = some (.int .i64 e)
  l' : w5.cell? ⟨bl, 0, none⟩ = some v
  m : CMap w5 tm []
theorem FNW.start (w : World) (e : Int) (v : Value) : FNW w (((((((w.alloc (.cells #[.slice none 0 0] 29)).alloc (.cells #[.int .i64 0] 26)).alloc (.map #[] 0)).alloc (.cells #[.map (some (w.heap.size + 1 + 1))] 65)).alloc (.cells #[.slice none 0 0] 29)).alloc (.cells #[.int .i64 e] 3)).alloc (.cells #[v] 22)) (w.heap.size + 1) (w.heap.size + 1 + 1) (w.heap.size + 1 + 1 + 1) (w.heap.size + 1 + 1 + 1 + 1) (w.heap.size + 1 + 1 + 1 + 1 + 1) (w.heap.size + 1 + 1 + 1 + 1 + 1 + 1) e v := by
  obtain ⟨w1, h1⟩ : ∃ w1, w1 = w.alloc (.cells #[.slice none 0 0] 29) := ⟨_, rfl⟩
  have s1 : w1.heap.size = w.heap.size + 1 := by rw [h1]; simp
  have a1 : Boxed w1 w.heap.size 29 (.slice none 0 0) := by rw [h1]; exact Boxed.new w _ _
  have l1 : Below w.heap.size w w1 := by rw [h1]; exact below_new w _
  rw [← h1, ← s1]
  obtain ⟨w2, h2⟩ : ∃ w2, w2 = w1.alloc (.cells #[.int .i64 0] 26) := ⟨_, rfl⟩
  have s2 : w2.heap.size = w1.heap.size + 1 := by rw [h2]; simp
  have a2 : Boxed w2 w1.heap.size 26 (.int .i64 0) := by rw [h2]; exact Boxed.new w1 _ _
  have l2 : Below w1.heap.size w1 w2 := by rw [h2]; exact below_new w1 _
  rw [← h2, ← s2]
  obtain ⟨w3, h3⟩ : ∃ w3, w3 = w2.alloc (.map #[] 0) := ⟨_, rfl⟩
  have s3 : w3.heap.size = w2.heap.size + 1 := by rw [h3]; simp
  have a3 : CMap w3 w2.heap.size [] := by rw [h3]; exact CMap.nil w2
  have l3 : Below w2.heap.size w2 w3 := by rw [h3]; exact below_new w2 _
  rw [← h3, ← s3]
  obtain ⟨w4, h4⟩ : ∃ w4, w4 = w3.alloc (.cells #[.map (some w2.heap.size)] 65) := ⟨_, rfl⟩
  have s4 : w4.heap.size = w3.heap.size + 1 := by rw [h4]; simp
  have a4 : Boxed w4 w3.heap.size 65 (.map (some w2.heap.size)) := by rw [h4]; exact Boxed.new w3 _ _
  have l4 : Below w3.heap.size w3 w4 := by rw [h4]; exact below_new w3 _
  rw [← h4, ← s4]
  obtain ⟨w5, h5⟩ : ∃ w5, w5 = w4.alloc (.cells #[.slice none 0 0] 29) := ⟨_, rfl⟩
  have s5 : w5.heap.size = w4.heap.size + 1 := by rw [h5]; simp
  have a5 : Boxed w5 w4.heap.size 29 (.slice none 0 0) := by rw [h5]; exact Boxed.new w4 _ _
  have l5 : Below w4.heap.size w4 w5 := by rw [h5]; exact below_new w4 _
  rw [← h5, ← s5]
  obtain ⟨w6, h6⟩ : ∃ w6, w6 = w5.alloc (.cells #[.int .i64 e] 3) := ⟨_, rfl⟩
  have s6 : w6.heap.size = w5.heap.size + 1 := by rw [h6]; simp
  have a6 : Boxed w6 w5.heap.size 3 (.int .i64 e) := by rw [h6]; exact Boxed.new w5 _ _
  have l6 : Below w5.heap.size w5 w6 := by rw [h6]; exact below_new w5 _
  rw [← h6, ← s6]
  obtain ⟨w7, h7⟩ : ∃ w7, w7 = w6.alloc (.cells #[v] 22) := ⟨_, rfl⟩
  have s7 : w7.heap.size = w6.heap.size + 1 := by rw [h7]; simp
  have a7 : Boxed w7 w6.heap.size 22 v := by rw [h7]; exact Boxed.new w6 _ _
  have l7 : Below w6.heap.size w6 w7 := by rw [h7]; exact below_new w6 _
  rw [← h7]
  have m6 : Below w5.heap.size w5 w7 := l6.trans (l7.mono (by omega))
  have m5 : Below w4.heap.size w4 w7 := l5.trans (m6.mono (by omega))
  have m4 : Below w3.heap.size w3 w7 := l4.trans (m5.mono (by omega))
  have m3 : Below w2.heap.size w2 w7 := l3.trans (m4.mono (by omega))
  have m2 : Below w1.heap.size w1 w7 := l2.trans (m3.mono (by omega))
  have m1 : Below w.heap.size w w7 := l1.trans (m2.mono (by omega))
  exact ⟨m1, by omega, (m2.block _ (by omega)).trans a1, (m3.block _ (by omega)).trans a2, (m5.block _ (by omega)).trans a4, (m6.block _ (by omega)).trans a5, (l7.cell (p := ⟨w5.heap.size, 0, none⟩) (by show w5.heap.size < _; omega)).trans a6.cell, a7.cell, a3.below m4⟩
set_option maxRecDepth 100000 in
set_option maxHeartbeats 8000000 in
theorem refFresh_any {w : World} {e : Int} {v : Value} {C : List CH} (hv : ChsS w v C) (hC : FewC C) :
    Calls Try.prog 10 #[.int .i64 e, v] w fun e' w' => ∃ x, e' = .returned (.tuple #[x, .int .i64 (if rfOk e C = true then 0 else 2)]) ∧ IdxS w' x (frU (rfEnts e C)) ∧ Below w.heap.size w w' := by
  obtain ⟨ze, hze⟩ : ∃ z : Int, z = if rfOk e C = true then 0 else 2 := ⟨_, rfl⟩
  rw [← hze]
  have HZE := Lib.hid hze
  clear hze
  refine (callsIn_wide (n := 14)).1 ?_
  have hmm := @run_makeMap Try.prog
  have hf0 : Fence.wide.fn 10 := trivial
  have hf1 : Fence.wide.fn 23 := trivial
  have hE := fun W j => (callsIn_wide (n := j)).2 (entries_any e v W (by obtain ⟨A, c, rfl⟩ := hv.form; exact ⟨_, _, _, rfl⟩))
  obtain ⟨vA, vc, rfl⟩ := hv.form
  have HV := Lib.hid hv
  have HCC := Lib.hid hC
  clear hv hC
  refine callsIn_of_wp_marks Try.func10 rfl hf0 ?_ rfl
  simp only [Try.ntmps10, List.size_toArray, List.length_cons, List.length_nil, Nat.reduceAdd, Nat.reduceSub, Array.replicate_succ, Array.replicate_zero, List.push_toArray, List.append_toArray, List.nil_append, List.cons_append]
  gi_wp2_with (gi_at_call 23; refine (hE _ _).mono ?_; rintro r w5 ⟨rfl, hw5⟩)
  have HCW := Lib.hid (FNW.start w e (.slice vA C.length vc))
  rw [← hw5] at HCW ⊢
  clear hw5 hE
  generalize w.heap.size + 1 + 1 + 1 + 1 + 1 + 1 = bl at HCW ⊢
  generalize w.heap.size + 1 + 1 + 1 + 1 + 1 = be at HCW ⊢
  generalize w.heap.size + 1 + 1 + 1 + 1 = b7 at HCW ⊢
  generalize w.heap.size + 1 + 1 + 1 = b6 at HCW ⊢
  generalize w.heap.size + 1 + 1 = tm at HCW ⊢
  generalize w.heap.size + 1 = b5 at HCW ⊢
  have HTL := ent_tells 13 (by omega) e C HCC.out bl be (.slice vA C.length vc) w5
  refine wpIn_range_oz rfl (by omega) (gf := 35) (lb := #[.pointer (some ⟨bl, 0, none⟩), .pointer (some ⟨be, 0, none⟩)]) (by simp [go_sem]) trivial (enters_of Try.func35 (by kernel_rfl) rfl) (encs := encsE e C) (fun _ => rfl) HTL
    (fun X k W => FNT w5 W tm b7 X (frNums ((toldE e C).take k)) (frU ((toldE e C).take k)) ∧ k ≤ (toldE e C).length) (fun k W => rfOk e C = false ∧ FNX w5 W w.heap.size b5 tm b7)
    (fun X k W W' row hs hg hr => ⟨hs.1.own hg hr, hs.2⟩)
    (fun k W W' row hs hg hr => ⟨hs.1, hs.2.own hg hr⟩)
    (fun X k A' C' b o hs hb hn ho hc hsz => ⟨hs.1.add hb hn ho hc, hs.2⟩)
    (fun X k A' b o hs hm => (hs.1.kx _ hm).2.2)
    (fun X k A' hs => ?rd) ?h0 (fun k => .cells #[.int .u8 (telK e C k).kind, .int .i64 (telK e C k).st, .int .i64 (telK e C k).mb, .int .i64 (telK e C k).fr] 50) ?a1 ?assign ?body ?done ?stop
  case rd =>
    have hlt := HCW.out.hb
    replace hs := hs.1
    have hlow : Below w.heap.size w A' := HCW.out.lo.trans (hs.ap.below HCW.out.lo.size (fun q hq => by omega))
    exact ⟨(hs.ap.cell (by omega) (by omega) 0).trans HCW.out.l', (hs.ap.cell (by omega) (by omega) 0).trans HCW.out.e', HV.out.below hlow⟩
  case h0 =>
    have hlt := HCW.out.hb
    exact ⟨⟨Ap.refl _, KX.nil _ _, by omega, HCW.out.m, _, ⟨HCW.out.x7, World.ownsRow_nil _ _ _ _, fun p hp => (by cases hp), by omega⟩⟩, Nat.zero_le _⟩
  case assign =>
    intro l k B W K hB hK
    unfold encsE EN.v
    gi_wp2
    exact hK
  case body =>
    rintro l X k B W ⟨hI, _⟩ hk hB hob hX
    have HKL1 : Hid (k < (toldE e C).length → k + 1 ≤ (toldE e C).length) := Lib.hid (fun h => h)
    have hlt := HCW.out.hb
    have hsW := hI.ap.size
    have hx6 : W.cell? ⟨b6, 0, none⟩ = some (.map (some tm)) := (hI.ap.cell (by omega) (by omega) 0).trans HCW.out.x6.cell
    rcases rt_count hk with ⟨hkl, herr⟩ | ⟨hkl, hrf, herr⟩
    · rw [herr]
      have HKL := Lib.hid (HKL1.out hkl)
      have hmem : telK e C k ∈ toldE e C := by unfold telK; rw [List.getD, List.getElem?_eq_getElem hkl]; exact List.getElem_mem hkl
      have hok := rt_eok _ hmem
      have hnx : (toldE e C).take (k + 1) = (toldE e C).take k ++ [telK e C k] := getD_snoc EN.zero hkl
      have hpl : ((toldE e C).take k).length ≤ 3600 := by
        have h2 : ((toldE e C).take k).length ≤ (toldE e C).length := by rw [List.length_take]; exact Nat.min_le_right _ _
        have h3 := rt_len (e := e) HCC.out
        omega
      generalize telK e C k = p at hob hok hnx ⊢
      obtain ⟨pk, ps, pm, pf⟩ := p
      dsimp only at hob ⊢
      have hb0 : W.cell? ⟨B, 0, none⟩ = some (.int .u8 pk) := by rw [cell_of_row _ _ _ _ _ (0, 0) hob]; rfl
      have hb3 : W.cell? ⟨B, 3, none⟩ = some (.int .i64 pf) := by rw [cell_of_row _ _ _ _ _ (0, 0) hob]; rfl
      by_cases hk2 : pk = 2
      · subst hk2
        have hwf : -9223372036854775808 ≤ pf ∧ pf ≤ 9223372036854775807 := by unfold EOk at hok; dsimp only at hok; omega
        have HN1 : Hid (frNums ((toldE e C).take (k + 1)) = frNums ((toldE e C).take k) ++ [pf]) := Lib.hid (by rw [hnx]; exact frNums_y rfl)
        have HN2 : Hid (frU ((toldE e C).take (k + 1)) = frS (frU ((toldE e C).take k)) ⟨2, ps, pm, pf⟩) := Lib.hid (by rw [hnx]; exact frU_snoc' _ _)
        have hl1 := frNums_len ((toldE e C).take k)
        have hl2 := frU_lenN ((toldE e C).take k)
        have hmm2 := frU_memN ((toldE e C).take k) pf
        obtain ⟨l1, hl1e⟩ : ∃ l1, l1 = frNums ((toldE e C).take k) := ⟨_, rfl⟩
        obtain ⟨K1, hK1e⟩ : ∃ K1, K1 = frU ((toldE e C).take k) := ⟨_, rfl⟩
        rw [← hl1e] at HN1 hl1 hmm2 hI
        rw [← hK1e] at HN2 hl2 hmm2 hI
        clear hl1e hK1e hnx
        obtain ⟨D, ho, hszD, hlk, hput⟩ := hI.mp.ready (x := pf) (by omega)
        obtain ⟨c, hcc⟩ : ∃ c : Nat, c = l1.count pf := ⟨_, rfl⟩
        have hcl : c ≤ 3600 := by rw [hcc]; exact Nat.le_trans List.count_le_length (by omega)
        have HCC2 := Lib.hid hcc
        rw [← hcc] at hlk hput
        have HLK := Lib.hid hlk
        have HPUT := Lib.hid hput
        have HSZ := Lib.hid hszD
        have HKY := Lib.hid (keyI hwf)
        have HPE : Hid (plainElem (H := Unit) Try.prog 3 (.int .i64 ((c : Int) + 1)) = some (.lit (.int .i64 ((c : Int) + 1)), [])) := Lib.hid (plainElem_int Try.underlying3 (by simp [Lit.wf, IntKind.min, IntKind.max, IntKind.signed, IntKind.bits]; omega))
        have HW34 := Lib.hid (nextR (j := c) (n := 10001) (by omega) (by unfold maxLen; omega))
        have HLEN : Hid (K1.length ≤ 3600 ∧ w5.heap.size ≤ W.heap.size ∧ tm < b7 ∧ b7 < w5.heap.size ∧ l1.length ≤ 3600) := Lib.hid ⟨by omega, hsW, hI.lt.1, hI.lt.2, by omega⟩
        have HBX : Hid (B < W.heap.size ∧ w5.heap.size ≤ B ∧ b6 < b7 ∧ tm < b6 ∧ b7 < w5.heap.size ∧ b7 ≠ B) := Lib.hid ⟨(Array.getElem?_eq_some_iff.1 hob).1, hB, by omega⟩
        have HOB := Lib.hid hob
        have HI := Lib.hid hI
        have HO := Lib.hid ho
        have HZI := Lib.hid (zeroIP W)
        by_cases hc0 : c = 0
        · have hnot : pf ∉ l1 := fun hm => by have := List.count_pos_iff.2 hm; omega
          have HFR : Hid (frS K1 ⟨2, ps, pm, pf⟩ = K1 ++ [pf]) := Lib.hid (by unfold frS; rw [if_pos ⟨rfl, fun h => hnot (hmm2.1 h)⟩])
          obtain ⟨u, hu⟩ := hI.r7
          obtain ⟨ao, c8, rfl, _⟩ := own_form hu.own
          have HU := Lib.hid hu
          have hc7 := hu.bx.cell
          have HNB : Hid (∀ g, (Value.slice ao K1.length c8).ownBlock = some g → g ≠ B) := Lib.hid (fun g hg e => by
            subst e
            rcases hu.own.2 with ⟨h0, _⟩ | ⟨g', cap, cur, h0, _, hgb, _⟩
            · rw [h0] at hg; simp [Value.ownBlock] at hg
            · rw [h0] at hg
              obtain rfl : g' = g := by simpa [Value.ownBlock] using hg
              rw [HOB.out] at hgb
              injection hgb with e1
              injection e1 with _ e2 _
              exact absurd e2 (by decide))
          obtain ⟨i0, hi, hz0, hz1, hz2⟩ := info_parts infoIn
          subst hc0
          clear hI ho hlk hput hszD hcc hcl hmm2 hl1 hl2 hwf hpl hok hmem hlt hsW herr hk hkl hB hnot hu hob hX
          gi_upto_region 11 with (first
            | (gi_at_lookup; refine wpListIn_lookup_own_int _ rfl _ _ 65 rfl 3 3 .i64 intKP Try.underlying65 Try.underlying3 HZI.out tm (Maps.size D) D rfl HO.out _ _ rfl HKY.out ?_; intro z hz _; obtain rfl := HLK.out z hz; clear hz)
            | (gi_at_builtin; refine wpListIn_append_own_at _ rfl _ _ 29 rfl w5.heap.size 3 i0 _ 1 8 Try.underlying29 hi hz0 hz1 hz2 rfl (by decide) _ _ _ rfl (HU.out.own.alloc _) ⟨W.heap.size, 0, none⟩ 1 1 [.int .i64 pf] rfl rfl (one_cell W pf _) (fun u hu => by simp only [List.mem_cons, List.not_mem_nil, or_false] at hu; rcases hu with rfl; rfl) (by have := HLEN.out; unfold maxLen; omega) (by have := HLEN.out; omega) (by have := HLEN.out; simp; omega) ?_; intro v' w1' hown' hgrow _ hob'; obtain ⟨g', cap', rfl⟩ := ownsRow_succ hown'; have HAP := Lib.hid (HI.out.app HU.out hown' hgrow hob'); have hm := HU.out.mid hgrow; have hc1 := hm.cell; have hf1 := hm.frozen; have HBB := Lib.hid (blk_kept hgrow HBX.out.1 HNB.out HBX.out.2.2.2.2.2 (.slice (some ⟨g', 0, none⟩) (K1.length + 1) cap')); clear hown' hgrow hob' hm))
          clear hc1 hf1 hc7 HU HNB hb0 hb3 hx6
          generalize w1'.setCell ⟨b7, 0, none⟩ (.slice (some ⟨g', 0, none⟩) (K1.length + 1) cap') = W2 at HAP HBB ⊢
          have hx6' : W2.cell? ⟨b6, 0, none⟩ = some (.map (some tm)) := (HAP.out.1.ap.cell (by have := HBX.out; omega) (by have := HBX.out; omega) 0).trans HCW.out.x6.cell
          have hb3' : W2.cell? ⟨B, 3, none⟩ = some (.int .i64 pf) := by rw [cell_of_row _ _ _ _ _ (0, 0) (HBB.out.trans HOB.out)]; rfl
          obtain ⟨D2, ho2, hsz2, hlk2, hput2⟩ := HAP.out.1.mp.ready (x := pf) HLEN.out.2.2.2.2
          rw [← HCC2.out] at hlk2 hput2
          have HLK2 := Lib.hid hlk2
          have HPUT2 := Lib.hid hput2
          have HSZ2 := Lib.hid hsz2
          have HO2 := Lib.hid ho2
          have HZI2 := Lib.hid (zeroIP W2)
          obtain ⟨hw3, hw4⟩ := HW34.out
          have HPE2 : Hid (plainElem (H := Unit) Try.prog 3 (.int .i64 1) = some (.lit (.int .i64 1), [])) := Lib.hid (plainElem_int Try.underlying3 (by decide))
          clear hlk2 hput2 hsz2 ho2
          gi_wp2_with (first
            | (gi_at_lookup; refine wpListIn_lookup_own_int _ rfl _ _ 65 rfl 3 3 .i64 intKP Try.underlying65 Try.underlying3 HZI2.out tm (Maps.size D2) D2 rfl HO2.out _ _ rfl HKY.out ?_; intro z hz _; obtain rfl := HLK2.out z hz; clear hz)
            | (gi_at_mapUpdate; refine wpListIn_mapUpdate_own _ rfl _ _ _ 65 rfl 3 3 intKP Try.underlying65 (plainElem Try.prog 3) tm (Maps.size D2) D2 rfl HO2.out HSZ2.out _ _ _ rfl rfl HKY.out _ _ HPE2.out ?_; intro w8 ho8 hg8; have HO8 := Lib.hid ho8; have HG8 := Lib.hid hg8; clear ho8 hg8))
          have HF := HAP.out.1.turn HG8.out (HPUT2.out _ _ HO8.out)
          refine (⟨HAP.out.2.trans HF.2, ?_⟩ : KeepsFrom _ _ _ ∧ _)
          show FNT w5 _ tm b7 X (frNums ((toldE e C).take (k + 1))) (frU ((toldE e C).take (k + 1))) ∧ _
          rw [HN1.out, HN2.out, HFR.out]
          exact ⟨HF.1, HKL.out⟩
        · have hin : pf ∈ l1 := by
            have : 0 < l1.count pf := by omega
            exact List.count_pos_iff.1 this
          have HFR : Hid (frS K1 ⟨2, ps, pm, pf⟩ = K1) := Lib.hid (by unfold frS; rw [if_neg (fun h => h.2 (hmm2.2 hin))])
          have hcz : ((c : Int) == 0) = false := by rw [beq_eq_false_iff_ne]; omega
          obtain ⟨hw3, hw4⟩ := HW34.out
          clear hI ho hlk hput hszD hcc hcl hmm2 hl1 hl2 hwf hpl hok hmem hlt hsW herr hk hkl hB hc0 hin hob hX
          gi_wp2_with (first
            | (gi_at_lookup; refine wpListIn_lookup_own_int _ rfl _ _ 65 rfl 3 3 .i64 intKP Try.underlying65 Try.underlying3 HZI.out tm (Maps.size D) D rfl HO.out _ _ rfl HKY.out ?_; intro z hz _; obtain rfl := HLK.out z hz; clear hz)
            | (gi_at_mapUpdate; refine wpListIn_mapUpdate_own _ rfl _ _ _ 65 rfl 3 3 intKP Try.underlying65 (plainElem Try.prog 3) tm (Maps.size D) D rfl HO.out HSZ.out _ _ _ rfl rfl HKY.out _ _ HPE.out ?_; intro w8 ho8 hg8; have HO8 := Lib.hid ho8; have HG8 := Lib.hid hg8; clear ho8 hg8))
          have HF := HI.out.turn HG8.out (HPUT.out _ _ HO8.out)
          refine (⟨HF.2, ?_⟩ : KeepsFrom _ _ _ ∧ _)
          show FNT w5 _ tm b7 X (frNums ((toldE e C).take (k + 1))) (frU ((toldE e C).take (k + 1))) ∧ _
          rw [HN1.out, HN2.out, HFR.out]
          exact ⟨HF.1, HKL.out⟩
      · have hq : (pk == 2) = false := by simpa using hk2
        have hq2 : (pk != 2) = true := by simpa using hk2
        have HN1 : Hid (frNums ((toldE e C).take (k + 1)) = frNums ((toldE e C).take k)) := Lib.hid (by rw [hnx]; exact frNums_n hk2)
        have HN2 : Hid (frU ((toldE e C).take (k + 1)) = frU ((toldE e C).take k)) := Lib.hid (by rw [hnx, frU_snoc']; unfold frS; rw [if_neg (fun h => hk2 h.1)])
        have HI := Lib.hid hI
        clear hob hX hI hpl hnx hok hmem hlt hsW herr hk hkl hB
        gi_wp2
        refine (⟨KeepsFrom.refl _ _, ?_⟩ : KeepsFrom _ _ _ ∧ _)
        show FNT w5 W tm b7 X (frNums ((toldE e C).take (k + 1))) (frU ((toldE e C).take (k + 1))) ∧ _
        rw [HN1.out, HN2.out]
        exact ⟨HI.out, HKL.out⟩
    · rw [herr]
      have h4 : Boxed W w.heap.size 29 (.slice none 0 0) := (hI.ap.block _ (by omega) (by omega)).trans HCW.out.x4
      have h5 : Boxed W b5 26 (.int .i64 0) := (hI.ap.block _ (by omega) (by omega)).trans HCW.out.x5
      have hc4 := h4.cell
      have hf4 := h4.frozen
      have h5' := h5.other (B' := w.heap.size) (by omega) (.slice none 0 0)
      have hc5 := h5'.cell
      have hf5 := h5'.frozen
      have h4' := (h4.set (.slice none 0 0)).other (B' := b5) (by omega) (.int .i64 2)
      have HFIN : Hid (KeepsFrom w5.heap.size W ((W.setCell ⟨w.heap.size, 0, none⟩ (.slice none 0 0)).setCell ⟨b5, 0, none⟩ (.int .i64 2)) ∧ rfOk e C = false ∧ FNX w5 ((W.setCell ⟨w.heap.size, 0, none⟩ (.slice none 0 0)).setCell ⟨b5, 0, none⟩ (.int .i64 2)) w.heap.size b5 tm b7) :=
        Lib.hid ⟨((KeepsOthers.setCell _ _ _).trans (KeepsOthers.setCell _ _ _)).from _, hrf, ⟨((hI.ap.weak (fun q hq => by rcases hq with h | h; exact .inl h; exact .inr (.inl h))).setCell (p := ⟨w.heap.size, 0, none⟩) (.inl (.inr (.inr (.inl rfl)))) _).setCell (p := ⟨b5, 0, none⟩) (.inl (.inr (.inr (.inr rfl)))) _, h4'.cell, (h5'.set _).cell, by omega⟩⟩
      clear hob hX hI hlt hsW herr hk hkl hB h4 h5 h5' h4' hrf hx6
      gi_wp2
      exact HFIN.out
  case stop =>
    rintro D k W hD hk ⟨hrf, hx⟩ hdf
    obtain ⟨h1, h2, h3⟩ := hx.lt
    have hhb := HCW.out.hb
    have x4 := hx.x4
    have x5 := hx.x5
    have hlow : Below w.heap.size w W := HCW.out.lo.trans (hx.ap.below HCW.out.lo.size (fun q hq => by omega))
    have HDD : Hid (w.heap.size ≤ D) := Lib.hid (Nat.le_trans HCW.out.lo.size hD)
    have HBW := Lib.hid hlow
    have HKD := Lib.hid hdf
    have HRF := Lib.hid hrf
    clear hk hrf hx hdf hlow
    gi_wp2
    have hneD : w.heap.size ≠ D ∧ b5 ≠ D := by omega
    have k4 : (W.putObj D (.deferred none)).cell? ⟨w.heap.size, 0, none⟩ = some (.slice none 0 0) := by rw [← x4]; exact World.cell?_of_block (World.putObj_heap_other hneD.1)
    have k5 : (W.putObj D (.deferred none)).cell? ⟨b5, 0, none⟩ = some (.int .i64 2) := by rw [← x5]; exact World.cell?_of_block (World.putObj_heap_other hneD.2)
    refine ⟨by simp, .inl ⟨_, _, rfl, run_takeDeferred HKD.out, ?_⟩⟩
    refine ⟨.tuple #[.slice none 0 0, .int .i64 2], by simp [results, Try.f10, go_sem, k4, k5], _, by rw [HZE.out, HRF.out]; rfl, ?_, HBW.out.grown (grownBy_putObj' _ D _) HBW.out.size (fun r e => by cases e; exact HDD.out)⟩
    have e0 : rfEnts e C = [] := by unfold rfEnts; rw [HRF.out]; rfl
    rw [e0]
    exact IdxS.none _
  case done =>
    rintro D X W hD ⟨hI, hle⟩ hdf
    have hrf : rfOk e C = true := rt_all (Nat.le_antisymm hle (by unfold numE; omega))
    obtain ⟨e1, e2⟩ := rt_of hrf
    rw [e1, e2, List.take_length] at hI
    have hze : ze = 0 := by rw [HZE.out, hrf]; rfl
    subst hze
    have hhb := HCW.out.hb
    have hsW := hI.ap.size
    have h4 : Boxed W w.heap.size 29 (.slice none 0 0) := (hI.ap.block _ (by omega) (by omega)).trans HCW.out.x4
    have h5 : Boxed W b5 26 (.int .i64 0) := (hI.ap.block _ (by omega) (by omega)).trans HCW.out.x5
    have hlow : Below w.heap.size w W := HCW.out.lo.trans (hI.ap.below HCW.out.lo.size (fun q hq => by omega))
    obtain ⟨K1, hK1⟩ : ∃ K1, K1 = frU (rfEnts e C) := ⟨_, rfl⟩
    have HK1 := Lib.hid hK1
    rw [← hK1] at hI
    obtain ⟨u, hu⟩ := hI.r7
    obtain ⟨ao, c8, rfl, _⟩ := own_form hu.own
    have hc7 := hu.bx.cell
    have hc4 := h4.cell
    have hf4 := h4.frozen
    have h5' := h5.other (B' := w.heap.size) (by omega) (.slice ao K1.length c8)
    have hc5 := h5'.cell
    have hf5 := h5'.frozen
    have hD6 : ((W.setCell ⟨w.heap.size, 0, none⟩ (.slice ao K1.length c8)).setCell ⟨b5, 0, none⟩ (.int .i64 0)).heap[D]? = some (.deferred (some [])) :=
      ((KeepsOthers.setCell _ _ _).trans (KeepsOthers.setCell _ _ _)).same D _ hdf rfl
    have k4 := (h4.set (.slice ao K1.length c8)).other (B' := b5) (by omega) (.int .i64 0)
    have k5 := h5'.set (.int .i64 0)
    have k4' : (((W.setCell ⟨w.heap.size, 0, none⟩ (.slice ao K1.length c8)).setCell ⟨b5, 0, none⟩ (.int .i64 0)).putObj D (.deferred none)).cell? ⟨w.heap.size, 0, none⟩ = some (.slice ao K1.length c8) := by rw [← k4.cell]; exact World.cell?_of_block (World.putObj_heap_other (by show w.heap.size ≠ D; omega))
    have k5' : (((W.setCell ⟨w.heap.size, 0, none⟩ (.slice ao K1.length c8)).setCell ⟨b5, 0, none⟩ (.int .i64 0)).putObj D (.deferred none)).cell? ⟨b5, 0, none⟩ = some (.int .i64 0) := by rw [← k5.cell]; exact World.cell?_of_block (World.putObj_heap_other (by show b5 ≠ D; omega))
    have hapB : Ap (fun q => q = w.heap.size ∨ q = b5 ∨ q = D) W (((W.setCell ⟨w.heap.size, 0, none⟩ (.slice ao K1.length c8)).setCell ⟨b5, 0, none⟩ (.int .i64 0)).putObj D (.deferred none)) :=
      (((Ap.refl W).setCell (p := ⟨w.heap.size, 0, none⟩) (.inl (.inl rfl)) _).setCell (p := ⟨b5, 0, none⟩) (.inl (.inr (.inl rfl))) _).grown (grownBy_putObj' _ D _) (fun k hk => by injection hk with hk; exact .inl (.inr (.inr hk.symm)))
    have HOF := Lib.hid (own_ap2 hu.own hapB (fun g hg => by
      have h1 := (hu.own.lt g hg).1
      have h2 : g ≠ D := fun e => by
        subst e
        have := own_cellsX hu.own hg hdf
        cases this
      omega))
    have HLOW : Hid (Below w.heap.size w (((W.setCell ⟨w.heap.size, 0, none⟩ (.slice ao K1.length c8)).setCell ⟨b5, 0, none⟩ (.int .i64 0)).putObj D (.deferred none))) := Lib.hid (hlow.trans (hapB.below (by omega) (fun k hk => by omega)))
    have HD6 := Lib.hid hD6
    clear hI hle hdf hD hrf hhb hsW h4 h5 hlow hu h5' hD6 k4 k5 hapB e1 e2 hK1
    gi_wp2
    refine ⟨by simp, .inl ⟨_, _, rfl, run_takeDeferred HD6.out, ?_⟩⟩
    refine ⟨.tuple #[.slice ao K1.length c8, .int .i64 0], by simp [results, Try.f10, go_sem, k4', k5'], _, rfl, ?_, HLOW.out⟩
    rw [← HK1.out]
    exact idxS_of HOF.out
end Go.Proofs.Ythhbaccbhfngbaa
