/- References: the program's Count. -/
import Derived.Test.YthhbaccbhfngbaaMc07
import Derived.Test.YthhbaccbhfngbaaRefO
import Derived.Test.YthhbaccbhfngbaaMb16
import Derived.Sort.MapsRangeIn
import Derived.RangeFuncWrites
import Derived.Laws.MakeOwn
namespace Go.Proofs.Ythhbaccbhfngbaa
open Go.RowKit Go.Shelf Go.Maps
attribute [local go_sem] Oper.semAt_some

theorem rt_count {e : Int} {C : List CH} {k : Nat} (h : k < numE e C) : (k < (toldE e C).length ∧ errK e C k = 0) ∨ (k = (toldE e C).length ∧ rfOk e C = false ∧ errK e C k = 2) := by
  unfold numE at h
  unfold errK
  by_cases hk : k < (toldE e C).length
  · exact .inl ⟨hk, if_pos hk⟩
  · cases hr : rfOk e C
    · rw [hr] at h; simp at h; exact .inr ⟨by omega, rfl, if_neg hk⟩
    · rw [hr] at h; simp at h; omega
theorem rt_all {e : Int} {C : List CH} (h : numE e C = (toldE e C).length) : rfOk e C = true := by
  unfold numE at h
  cases hr : rfOk e C
  · rw [hr] at h; simp at h
  · rfl
theorem rt_of {e : Int} {C : List CH} (hr : rfOk e C = true) : toldE e C = rfEnts e C ∧ numE e C = (rfEnts e C).length := by
  have h1 : preE e C = C := by
    unfold preE
    unfold rfOk at hr
    rw [List.all_eq_true] at hr
    induction C with
    | nil => rfl
    | cons c C ih => rw [List.takeWhile_cons, if_pos (hr c (List.mem_cons_self ..)), ih (fun x hx => hr x (List.mem_cons_of_mem _ hx))]
  have h2 : toldE e C = rfEnts e C := by unfold toldE rfEnts; rw [h1, if_pos hr]
  exact ⟨h2, by unfold numE; rw [hr, h2]; rfl⟩
theorem rt_len {e : Int} {C : List CH} (h : FewC C) : (toldE e C).length ≤ 3600 := by
  have h1 := flat_le (e := e) (preE e C) (fun c hc => h.2 c ((List.takeWhile_sublist _).mem hc))
  have h2 : (preE e C).length ≤ C.length := (List.takeWhile_sublist _).length_le
  have := h.1
  unfold toldE
  omega
theorem tw_mem {α : Type} {p : α → Bool} {c : α} : ∀ {C : List α}, c ∈ C.takeWhile p → p c = true
  | [], h => by simp at h
  | x :: C, h => by
    rw [List.takeWhile_cons] at h
    split at h
    · rename_i hx
      rcases List.mem_cons.1 h with rfl | h
      · exact hx
      · exact tw_mem h
    · simp at h
/-- What is counted of right maps is of right places. -/
theorem rt_eok {e : Int} {C : List CH} : ∀ y ∈ toldE e C, EOk y := by
  intro y hy
  unfold toldE at hy
  obtain ⟨c, hc, hy⟩ := List.mem_flatMap.1 hy
  have hok : okB e c = true := tw_mem hc
  obtain ⟨B, T⟩ := c
  unfold enC at hy
  rw [if_pos hok] at hy
  obtain ⟨E, BN, rfl, hBN, hk⟩ := cok_of hok
  dsimp only at hBN hk hy
  subst hBN
  unfold entsC at hy
  obtain ⟨b, _, rfl⟩ := List.mem_map.1 hy
  rw [Int.toNat_natCast]
  exact eok_look hk b
theorem pwf_of {y : EN} (h : EOk y) : PWf (y.st, y.mb) := by
  unfold EOk PlOk at h
  unfold PWf
  dsimp only
  constructor <;> (simp [Lit.wf, IntKind.min, IntKind.max, IntKind.signed, IntKind.bits]; omega)
/-- The count under way. -/
structure CNT (w5 W : World) (tm : Nat) (X : List (Nat × Obj)) (P : List (Int × Int)) : Prop where
  ap : Ap (fun q => q = tm) w5 W
  kx : KX w5.heap.size X W
  lt : tm < w5.heap.size
  mp : PlMap W tm P
theorem CNT.own {w5 W W' : World} {tm : Nat} {X : List (Nat × Obj)} {P : List (Int × Int)} {row : Option Nat} (h : CNT w5 W tm X P) (hg : W.grownBy W' row) (hr : ∀ r, row = some r → w5.heap.size ≤ r ∧ ∃ o : Obj, W.heap[r]? = some o ∧ o.isCells = false) : CNT w5 W' tm X P :=
  ⟨h.ap.grown hg (fun r e => .inr (hr r e).1), h.kx.own hg hr, h.lt, h.mp.same (hg.block tm h.mp.lt (fun e => by have := (hr tm e.symm).1; have := h.lt; omega))⟩
theorem CNT.add {w5 W W' : World} {tm b : Nat} {X : List (Nat × Obj)} {P : List (Int × Int)} {o : Obj} (h : CNT w5 W tm X P) (hb : Below W.heap.size W W') (hn : W.heap.size ≤ b) (ho : W'.heap[b]? = some o) (hc : o.isCells = true) : CNT w5 W' tm ((b, o) :: X) P := by
  refine ⟨h.ap.trans (Ap.of_below hb), ?_, h.lt, h.mp.same (hb.block tm h.mp.lt)⟩
  intro p hp
  rcases List.mem_cons.1 hp with rfl | hp
  · exact ⟨hc, Nat.le_trans h.ap.size hn, ho⟩
  · exact ⟨(h.kx p hp).1, (h.kx p hp).2.1, (hb.block _ (h.kx.lt hp)).trans (h.kx p hp).2.2⟩
/-- The map's block turns, and nothing else. -/
theorem CNT.turn {w5 W W' : World} {tm : Nat} {X : List (Nat × Obj)} {P P' : List (Int × Int)} (h : CNT w5 W tm X P) (hg : W.grownBy W' (some tm)) (hp : PlMap W' tm P') : CNT w5 W' tm X P' ∧ KeepsFrom w5.heap.size W W' :=
  ⟨⟨h.ap.grown hg (fun r e => .inl (by injection e with e; exact e.symm)), h.kx.grown hg (fun p hp e => by injection e with e; have := (h.kx p hp).2.1; have := h.lt; omega), h.lt, hp⟩, KeepsFrom.of_grownBy hg (fun j e => by injection e with e; rw [← e]; exact h.lt)⟩
theorem CNT.drew {w5 W : World} {tm : Nat} {X : List (Nat × Obj)} {P : List (Int × Int)} (h : CNT w5 W tm X P) : CNT w5 W.drew tm X P := ⟨h.ap.drew, h.kx, h.lt, h.mp.same rfl⟩
/-- Where the round ends with an error. -/
structure CNX (w5 W : World) (b4 b5 : Nat) (tm : Nat) : Prop where
  ap : Ap (fun q => q = tm ∨ q = b4 ∨ q = b5) w5 W
  x4 : W.cell? ⟨b4, 0, none⟩ = some (.slice none 0 0)
  x5 : W.cell? ⟨b5, 0, none⟩ = some (.int .i64 2)
  lt : tm < w5.heap.size ∧ b4 < w5.heap.size ∧ b5 < w5.heap.size
theorem CNX.own {w5 W W' : World} {b4 b5 tm : Nat} {row : Option Nat} (h : CNX w5 W b4 b5 tm) (hg : W.grownBy W' row) (hr : ∀ r, row = some r → w5.heap.size ≤ r ∧ ∃ o : Obj, W.heap[r]? = some o ∧ o.isCells = false) : CNX w5 W' b4 b5 tm := by
  obtain ⟨l1, l2, l3⟩ := h.lt
  have hs := h.ap.size
  refine ⟨h.ap.grown hg (fun r e => .inr (hr r e).1), ?_, ?_, h.lt⟩
  · rw [← h.x4]; exact World.cell?_of_block (hg.block b4 (by omega) (fun e => by have := (hr b4 e.symm).1; omega))
  · rw [← h.x5]; exact World.cell?_of_block (hg.block b5 (by omega) (fun e => by have := (hr b5 e.symm).1; omega))
/-- The places that were met. -/
structure MetP (P : List (Int × Int)) (left : Lit → Bool) (O : List RF) : Prop where
  nd : O.Pairwise (fun a b => ¬ (a.s = b.s ∧ a.m = b.m))
  mem : ∀ r : RF, r ∈ O ↔ (r.s, r.m) ∈ P ∧ r.n = (P.count (r.s, r.m) : Nat) ∧ left (pK (r.s, r.m)) = false
theorem MetP.start {P : List (Int × Int)} {left : Lit → Bool} (h : ∀ p ∈ P, left (pK p) = true) : MetP P left [] :=
  ⟨List.Pairwise.nil, fun r => ⟨fun h => (by cases h), fun ⟨h1, _, h3⟩ => (by rw [h _ h1] at h3; cases h3)⟩⟩
theorem samePK {p q : Int × Int} (hp : PWf p) (hq : PWf q) : (pK p).sameKey (pK q) = decide (p = q) := by
  by_cases e : p = q
  · subst e; rw [WideAt.sameKey_self (pK_key hp), decide_eq_true rfl]
  · rw [sameKey_ne (fun h => e (pK_inj hp hq h)), decide_eq_false e]
theorem MetP.add {P : List (Int × Int)} {O : List RF} {left : Lit → Bool} {p : Int × Int} (h : MetP P left O) (hw : ∀ q ∈ P, PWf q) (hl : left (pK p) = true) (hm : p ∈ P) : MetP P (fun z => left z && !z.sameKey (pK p)) (O ++ [⟨p.1, p.2, (P.count p : Nat)⟩]) := by
  have hp := hw p hm
  refine ⟨List.pairwise_append.2 ⟨h.nd, by simp, fun y hy z hz => ?_⟩, fun y => ?_⟩
  · rw [List.mem_singleton] at hz
    subst hz
    rintro ⟨e1, e2⟩
    dsimp only at e1 e2
    have h3 := ((h.mem y).1 hy).2.2
    rw [e1, e2, show ((p.1, p.2) : Int × Int) = p from rfl, hl] at h3; cases h3
  · rw [List.mem_append, List.mem_singleton, h.mem]
    constructor
    · rintro (⟨h1, h2, h3⟩ | rfl)
      · exact ⟨h1, h2, by rw [h3]; rfl⟩
      · exact ⟨hm, rfl, by show (left (pK p) && !(pK p).sameKey (pK p)) = false; rw [WideAt.sameKey_self (pK_key hp)]; simp⟩
    · rintro ⟨h1, h2, h3⟩
      by_cases e : (y.s, y.m) = p
      · right
        obtain ⟨ys, ym, yn⟩ := y
        dsimp only at e h2
        subst e
        rw [h2]
      · left
        rw [samePK (hw _ h1) hp, decide_eq_false e] at h3
        exact ⟨h1, h2, by simpa using h3⟩
theorem MetP.len {P : List (Int × Int)} {left : Lit → Bool} {O : List RF} (h : MetP P left O) : O.length ≤ P.length := by
  have h1 : (O.map (fun r => (r.s, r.m))).length ≤ P.length := by
    refine nodup_lenG ?_ (fun p hp => ?_)
    · rw [List.pairwise_map]
      exact h.nd.imp (fun hn e => hn (by injection e with e1 e2; exact ⟨e1, e2⟩))
    · obtain ⟨r, hr, rfl⟩ := List.mem_map.1 hp
      exact ((h.mem r).1 hr).1
  rwa [List.length_map] at h1
theorem own_not_range {H : Type} {Pg : Program} {k : TypeId} {R : Value → Option (DataW H × List MemPlace)} {w : World} {b r nn base e s n cnt : Nat} {D : DataW H} {left : Lit → Bool} {v : Value} {xs : List Value} (h : w.ownsRow base e s v n xs) (hr : w.ranges Pg k R b r nn D left cnt) : ∀ g, v.ownBlock = some g → g ≠ r := by
  intro g hg e
  subst e
  obtain ⟨es, clock, since, seen, c0, e1, F, e2, e3, e4, _⟩ := hr
  have := own_cellsX h hg e4
  cases this
theorem refS_ap {S : Nat → Prop} {w w' : World} {g n c : Nat} {L : List RF} (h : RefS w (.slice (some ⟨g, 0, none⟩) n c) L) (a : Ap S w w') (hg : ¬ S g) : RefS w' (.slice (some ⟨g, 0, none⟩) n c) L := by
  obtain ⟨A, cap, hv, h1, h2, h3⟩ := h
  refine ⟨A, cap, hv, h1, h2, ?_⟩
  rcases h3 with h3 | ⟨b, off, hA, hlt, hc⟩
  · exact .inl h3
  · injection hv with e _ _
    rw [hA] at e
    injection e with e
    injection e with e1 e2 _
    subst e1 e2
    exact .inr ⟨g, 0, hA, Nat.lt_of_lt_of_le hlt a.size, fun j hj q u hu => (a.cell hlt hg _).trans (hc j hj q u hu)⟩
/-- What lies where the count starts. -/
structure CNW (w w5 : World) (b5 tm b6 be bl : Nat) (e : Int) (v : Value) : Prop where
  lo : Below w.heap.size w w5
  hb : w.heap.size < b5 ∧ b5 < tm ∧ tm < b6 ∧ b6 < be ∧ be < bl ∧ bl < w5.heap.size
  x4 : Boxed w5 w.heap.size 25 (.slice none 0 0)
  x5 : Boxed w5 b5 26 (.int .i64 0)
  x6 : Boxed w5 b6 56 (.map (some tm))
  e' : w5.cell? ⟨be, 0, none⟩ = some (.int .i64 e)
  l' : w5.cell? ⟨bl, 0, none⟩ = some v
  m : PlMap w5 tm []
theorem CNW.start (w : World) (e : Int) (v : Value) : CNW w ((((((w.alloc (.cells #[.slice none 0 0] 25)).alloc (.cells #[.int .i64 0] 26)).alloc (.map #[] 0)).alloc (.cells #[.map (some (w.heap.size + 1 + 1))] 56)).alloc (.cells #[.int .i64 e] 3)).alloc (.cells #[v] 22)) (w.heap.size + 1) (w.heap.size + 1 + 1) (w.heap.size + 1 + 1 + 1) (w.heap.size + 1 + 1 + 1 + 1) (w.heap.size + 1 + 1 + 1 + 1 + 1) e v := by
  obtain ⟨w1, h1⟩ : ∃ w1, w1 = w.alloc (.cells #[.slice none 0 0] 25) := ⟨_, rfl⟩
  have s1 : w1.heap.size = w.heap.size + 1 := by rw [h1]; simp
  have a1 : Boxed w1 w.heap.size 25 (.slice none 0 0) := by rw [h1]; exact Boxed.new w _ _
  have l1 : Below w.heap.size w w1 := by rw [h1]; exact below_new w _
  rw [← h1, ← s1]
  obtain ⟨w2, h2⟩ : ∃ w2, w2 = w1.alloc (.cells #[.int .i64 0] 26) := ⟨_, rfl⟩
  have s2 : w2.heap.size = w1.heap.size + 1 := by rw [h2]; simp
  have a2 : Boxed w2 w1.heap.size 26 (.int .i64 0) := by rw [h2]; exact Boxed.new w1 _ _
  have l2 : Below w1.heap.size w1 w2 := by rw [h2]; exact below_new w1 _
  rw [← h2, ← s2]
  obtain ⟨w3, h3⟩ : ∃ w3, w3 = w2.alloc (.map #[] 0) := ⟨_, rfl⟩
  have s3 : w3.heap.size = w2.heap.size + 1 := by rw [h3]; simp
  have a3 : PlMap w3 w2.heap.size [] := by rw [h3]; exact PlMap.nil w2
  have l3 : Below w2.heap.size w2 w3 := by rw [h3]; exact below_new w2 _
  rw [← h3, ← s3]
  obtain ⟨w4, h4⟩ : ∃ w4, w4 = w3.alloc (.cells #[.map (some w2.heap.size)] 56) := ⟨_, rfl⟩
  have s4 : w4.heap.size = w3.heap.size + 1 := by rw [h4]; simp
  have a4 : Boxed w4 w3.heap.size 56 (.map (some w2.heap.size)) := by rw [h4]; exact Boxed.new w3 _ _
  have l4 : Below w3.heap.size w3 w4 := by rw [h4]; exact below_new w3 _
  rw [← h4, ← s4]
  obtain ⟨w5, h5⟩ : ∃ w5, w5 = w4.alloc (.cells #[.int .i64 e] 3) := ⟨_, rfl⟩
  have s5 : w5.heap.size = w4.heap.size + 1 := by rw [h5]; simp
  have a5 : Boxed w5 w4.heap.size 3 (.int .i64 e) := by rw [h5]; exact Boxed.new w4 _ _
  have l5 : Below w4.heap.size w4 w5 := by rw [h5]; exact below_new w4 _
  rw [← h5, ← s5]
  have l6 : Below w5.heap.size w5 (w5.alloc (.cells #[v] 22)) := below_new w5 _
  have s6 : (w5.alloc (.cells #[v] 22)).heap.size = w5.heap.size + 1 := by simp
  have a6 : Boxed (w5.alloc (.cells #[v] 22)) w5.heap.size 22 v := Boxed.new w5 _ _
  have k2 := l1.trans (l2.mono (by omega))
  have k3 := k2.trans (l3.mono (by omega))
  have k4 := k3.trans (l4.mono (by omega))
  have k5 := k4.trans (l5.mono (by omega))
  have k6 := k5.trans (l6.mono (by omega))
  have m4 : Below w3.heap.size w3 (w5.alloc (.cells #[v] 22)) := (l4.trans (l5.mono (by omega))).trans (l6.mono (by omega))
  have m3 : Below w2.heap.size w2 (w5.alloc (.cells #[v] 22)) := l3.trans (m4.mono (by omega))
  have m2 : Below w1.heap.size w1 (w5.alloc (.cells #[v] 22)) := l2.trans (m3.mono (by omega))
  have m5 : Below w4.heap.size w4 (w5.alloc (.cells #[v] 22)) := l5.trans (l6.mono (by omega))
  exact ⟨k6, by omega, (m2.block _ (by omega)).trans a1, (m3.block _ (by omega)).trans a2, (m5.block _ (by omega)).trans a4, (l6.cell (p := ⟨w4.heap.size, 0, none⟩) (by show w4.heap.size < _; omega)).trans a5.cell, a6.cell, a3.same (m4.block _ (by omega))⟩
set_option maxRecDepth 100000 in
set_option maxHeartbeats 8000000 in
theorem refCount_any {w : World} {e : Int} {v : Value} {C : List CH} (hv : ChsS w v C) (hC : FewC C) :
    Calls Try.prog 8 #[.int .i64 e, v] w fun e' w' => ∃ x, e' = .returned (.tuple #[x, .int .i64 (if rfOk e C = true then 0 else 2)]) ∧ RefS w' x (cntU (rfEnts e C)) ∧ Below w.heap.size w w' := by
  obtain ⟨ze, hze⟩ : ∃ z : Int, z = if rfOk e C = true then 0 else 2 := ⟨_, rfl⟩
  rw [← hze]
  have HZE := Lib.hid hze
  clear hze
  refine (callsIn_wide (n := 14)).1 ?_
  have hmm := @run_makeMap Try.prog
  have hf0 : Fence.wide.fn 8 := trivial
  have hf1 : Fence.wide.fn 23 := trivial
  have hf2 : Fence.wide.fn 24 := trivial
  have hE := fun W j => (callsIn_wide (n := j)).2 (entries_any e v W (by obtain ⟨A, c, rfl⟩ := hv.form; exact ⟨_, _, _, rfl⟩))
  obtain ⟨vA, vc, rfl⟩ := hv.form
  have HV := Lib.hid hv
  have HCC := Lib.hid hC
  clear hv hC
  refine callsIn_of_wp_marks Try.func8 rfl hf0 ?_ rfl
  simp only [Try.ntmps8, List.size_toArray, List.length_cons, List.length_nil, Nat.reduceAdd, Nat.reduceSub, Array.replicate_succ, Array.replicate_zero, List.push_toArray, List.append_toArray, List.nil_append, List.cons_append]
  gi_wp2_with (gi_at_call 23; refine (hE _ _).mono ?_; rintro r w5 ⟨rfl, hw5⟩)
  have HCW := Lib.hid (CNW.start w e (.slice vA C.length vc))
  rw [← hw5] at HCW ⊢
  clear hw5 hE
  generalize w.heap.size + 1 + 1 + 1 + 1 + 1 = bl at HCW ⊢
  generalize w.heap.size + 1 + 1 + 1 + 1 = be at HCW ⊢
  generalize w.heap.size + 1 + 1 + 1 = b6 at HCW ⊢
  generalize w.heap.size + 1 + 1 = tm at HCW ⊢
  generalize w.heap.size + 1 = b5 at HCW ⊢
  have HTL := ent_tells 13 (by omega) e C HCC.out bl be (.slice vA C.length vc) w5
  refine wpIn_range_oz rfl (by omega) (gf := 35) (lb := #[.pointer (some ⟨bl, 0, none⟩), .pointer (some ⟨be, 0, none⟩)]) (by simp [go_sem]) trivial (enters_of Try.func35 (by kernel_rfl) rfl) (encs := encsE e C) (fun _ => rfl) HTL
    (fun X k W => CNT w5 W tm X (plcOf ((toldE e C).take k)) ∧ k ≤ (toldE e C).length) (fun k W => rfOk e C = false ∧ CNX w5 W w.heap.size b5 tm)
    (fun X k W W' row hs hg hr => ⟨hs.1.own hg hr, hs.2⟩)
    (fun k W W' row hs hg hr => ⟨hs.1, hs.2.own hg hr⟩)
    (fun X k A' C' b o hs hb hn ho hc hsz => ⟨hs.1.add hb hn ho hc, hs.2⟩)
    (fun X k A' b o hs hm => (hs.1.kx _ hm).2.2)
    (fun X k A' hs => ?rd) ?h0 (fun k => .cells #[.int .u8 (telK e C k).kind, .int .i64 (telK e C k).st, .int .i64 (telK e C k).mb, .int .i64 (telK e C k).fr] 50) ?a1 ?assign ?body ?done ?stop
  case rd =>
    have hlt := HCW.out.hb
    replace hs := hs.1
    have hlow : Below w.heap.size w A' := HCW.out.lo.trans (hs.ap.below HCW.out.lo.size (fun q hq => by omega))
    exact ⟨(hs.ap.cell (by omega) (by omega) 0).trans HCW.out.l', (hs.ap.cell (by omega) (by omega) 0).trans HCW.out.e', HV.out.below hlow⟩
  case h0 => exact ⟨⟨Ap.refl _, KX.nil _ _, by have := HCW.out.hb; omega, HCW.out.m⟩, Nat.zero_le _⟩
  case assign =>
    intro l k B W K hB hK
    unfold encsE EN.v
    gi_wp2
    exact hK
  case body =>
    rintro l X k B W ⟨hI, _⟩ hk hB hob hX
    have HKL1 : Hid (k < (toldE e C).length → k + 1 ≤ (toldE e C).length) := Lib.hid (fun h => h)
    have hlt := HCW.out.hb
    have hsW := hI.ap.size
    have hx6 : W.cell? ⟨b6, 0, none⟩ = some (.map (some tm)) := (hI.ap.cell (by omega) (by omega) 0).trans HCW.out.x6.cell
    rcases rt_count hk with ⟨hkl, herr⟩ | ⟨hkl, hrf, herr⟩
    · rw [herr]
      have HKL := Lib.hid (HKL1.out hkl)
      have hmem : telK e C k ∈ toldE e C := by unfold telK; rw [List.getD, List.getElem?_eq_getElem hkl]; exact List.getElem_mem hkl
      have hok := rt_eok _ hmem
      have hnx : (toldE e C).take (k + 1) = (toldE e C).take k ++ [telK e C k] := getD_snoc EN.zero hkl
      have hpl : (plcOf ((toldE e C).take k)).length ≤ 100000 := by
        have h1 := plcOf_len ((toldE e C).take k)
        have h2 : ((toldE e C).take k).length ≤ (toldE e C).length := by rw [List.length_take]; exact Nat.min_le_right _ _
        have h3 := rt_len (e := e) HCC.out
        omega
      generalize telK e C k = p at hob hok hnx ⊢
      obtain ⟨pk, ps, pm, pf⟩ := p
      dsimp only at hob ⊢
      have hb0 : W.cell? ⟨B, 0, none⟩ = some (.int .u8 pk) := by rw [cell_of_row _ _ _ _ _ (0, 0) hob]; rfl
      have hb1 : W.cell? ⟨B, 1, none⟩ = some (.int .i64 ps) := by rw [cell_of_row _ _ _ _ _ (0, 0) hob]; rfl
      have hb2 : W.cell? ⟨B, 2, none⟩ = some (.int .i64 pm) := by rw [cell_of_row _ _ _ _ _ (0, 0) hob]; rfl
      by_cases hk1 : pk = 1
      · subst hk1
        have hpw := pwf_of hok
        dsimp only at hpw
        have HNX : Hid (plcOf ((toldE e C).take (k + 1)) = plcOf ((toldE e C).take k) ++ [(ps, pm)]) := Lib.hid (by rw [hnx]; exact plcOf_y rfl)
        obtain ⟨P, hP⟩ : ∃ P, P = plcOf ((toldE e C).take k) := ⟨_, rfl⟩
        rw [← hP] at HNX hpl hI
        obtain ⟨v0, st, W1, W2, hlk, hme, hlk1, hst, hmp, hg1, hg2, hs1, hs2⟩ := hI.drew.mp.entry hpw hpl
        unfold plV at hlk hme hlk1
        dsimp only at hlk hme hlk1
        unfold goInt at hme hst
        have HFIN := Lib.hid (hI.drew.turn hg2 hmp)
        have HKD : Hid (KeepsFrom w5.heap.size W W.drew) := Lib.hid ((KeepsOthers.drew W).from _)
        have hc : P.count (ps, pm) ≤ 100000 := Nat.le_trans List.count_le_length hpl
        have hw1 : IntKind.i64.wrap (((P.count (ps, pm) : Nat) : Int) + 1) = ((P.count (ps, pm) : Nat) : Int) + 1 := by rw [IntKind.wrap_i64]; omega
        generalize ((P.count (ps, pm) : Nat) : Int) = cn at hlk hlk1 hst hw1
        have HW1 := Lib.hid hw1
        clear hob hX hI hmp hg1 hg2 hs1 hs2 hpw hpl hnx hok hmem hlt hsW herr hc hP hk hkl hB
        gi_wp2_with fail
        refine wpIn_region_any (by kernel_rfl) ?_
        refine wpAnyIn_round (by rfl) _ _ _ _ ?_
        change wpAnyIn _ _ _ _ _ _ _ _ _ W.drew
        refine wpAnyIn_take (i := 1) (v := ?_) rfl rfl (by kernel_rfl) (by kernel_rfl) (by kernel_rfl) (fun _ _ _ h => h) ⟨Or.inl ⟨by rfl, ?_⟩, fun _ => rfl⟩ ?_
        rotate_left
        · (intro w; go_simp; first | done | with_reducible rfl)
        simp only [List.getElem_toArray, List.getElem_cons_succ, List.getElem_cons_zero, Act.put, List.setIfInBounds_toArray, List.set_cons_zero, List.set_cons_succ]
        refine wpAnyIn_ready (rs := [0, 2]) (by kernel_rfl) (by simp) ?_
        refine AllReadyIn.cons rfl (fun K hK => ?p1) (AllReadyIn.cons rfl (fun K hK => ?p2) AllReadyIn.nil)
        case' p1 =>
          go_simp
          refine hK _ _ ?_
          clear hK K
          refine wpAnyIn_ready (rs := [2]) (by kernel_rfl) (by simp) ?_
          refine AllReadyIn.cons rfl (fun K hK => ?_) AllReadyIn.nil
          go_simp
          refine hK _ _ ?_
          clear hK K
        case' p2 =>
          go_simp
          refine hK _ _ ?_
          clear hK K
          refine wpAnyIn_ready (rs := [0]) (by kernel_rfl) (by simp) ?_
          refine AllReadyIn.cons rfl (fun K hK => ?_) AllReadyIn.nil
          go_simp
          refine hK _ _ ?_
          clear hK K
        case' p1 =>
          refine wpAnyIn_ready (rs := [3, 5]) (by kernel_rfl) (by simp) ?_
          refine AllReadyIn.cons rfl (fun K hK => ?_) (AllReadyIn.cons rfl (fun K hK => ?_) AllReadyIn.nil)
          · skip
            go_simp
            refine hK _ _ ?_
            clear hK K
            refine wpAnyIn_take (i := 4) (v := ?_) rfl rfl (by kernel_rfl) (by kernel_rfl) (by kernel_rfl) (fun _ _ _ h => h) ⟨Or.inl ⟨by rfl, ?_⟩, fun _ => rfl⟩ ?_
            rotate_left
            · (intro w; go_simp; first | done | with_reducible rfl)
            simp only [List.getElem_toArray, List.getElem_cons_succ, List.getElem_cons_zero, Act.put, List.setIfInBounds_toArray, List.set_cons_zero, List.set_cons_succ]
            refine wpAnyIn_ready (rs := [5]) (by kernel_rfl) (by simp) ?_
            refine AllReadyIn.cons rfl (fun K hK => ?_) AllReadyIn.nil
            go_simp
            refine hK _ _ ?_
            clear hK K
            refine wpAnyIn_take (i := 6) (v := ?_) rfl rfl (by kernel_rfl) (by kernel_rfl) (by kernel_rfl) (fun _ _ _ h => h) ⟨Or.inl ⟨by rfl, ?_⟩, fun _ => rfl⟩ ?_
            rotate_left
            · (intro w; go_simp; first | done | with_reducible rfl)
            simp only [List.getElem_toArray, List.getElem_cons_succ, List.getElem_cons_zero, Act.put, List.setIfInBounds_toArray, List.set_cons_zero, List.set_cons_succ]
            refine wpAnyIn_ready (rs := [7]) (by kernel_rfl) (by simp) ?_
            refine AllReadyIn.cons rfl (fun K hK => ?_) AllReadyIn.nil
            go_simp
            refine hK _ _ ?_
            clear hK K
            refine wpAnyIn_done (by kernel_rfl) ?_ _
            refine (⟨HKD.out.trans HFIN.out.2, ?_⟩ : KeepsFrom _ _ _ ∧ _)
            show CNT w5 _ tm X (plcOf ((toldE e C).take (k + 1))) ∧ _
            rw [HNX.out]
            exact ⟨HFIN.out.1, HKL.out⟩
          · skip
            go_simp
            refine hK _ _ ?_
            clear hK K
            refine wpAnyIn_take (i := 6) (v := ?_) rfl rfl (by kernel_rfl) (by kernel_rfl) (by kernel_rfl) (fun _ _ _ h => h) ⟨Or.inl ⟨by rfl, ?_⟩, fun _ => rfl⟩ ?_
            rotate_left
            · (intro w; go_simp; first | done | with_reducible rfl)
            simp only [List.getElem_toArray, List.getElem_cons_succ, List.getElem_cons_zero, Act.put, List.setIfInBounds_toArray, List.set_cons_zero, List.set_cons_succ]
            refine wpAnyIn_ready (rs := [3]) (by kernel_rfl) (by simp) ?_
            refine AllReadyIn.cons rfl (fun K hK => ?_) AllReadyIn.nil
            go_simp
            refine hK _ _ ?_
            clear hK K
            refine wpAnyIn_take (i := 4) (v := ?_) rfl rfl (by kernel_rfl) (by kernel_rfl) (by kernel_rfl) (fun _ _ _ h => h) ⟨Or.inl ⟨by rfl, ?_⟩, fun _ => rfl⟩ ?_
            rotate_left
            · (intro w; go_simp; first | done | with_reducible rfl)
            simp only [List.getElem_toArray, List.getElem_cons_succ, List.getElem_cons_zero, Act.put, List.setIfInBounds_toArray, List.set_cons_zero, List.set_cons_succ]
            refine wpAnyIn_ready (rs := [7]) (by kernel_rfl) (by simp) ?_
            refine AllReadyIn.cons rfl (fun K hK => ?_) AllReadyIn.nil
            go_simp
            refine hK _ _ ?_
            clear hK K
            refine wpAnyIn_done (by kernel_rfl) ?_ _
            refine (⟨HKD.out.trans HFIN.out.2, ?_⟩ : KeepsFrom _ _ _ ∧ _)
            show CNT w5 _ tm X (plcOf ((toldE e C).take (k + 1))) ∧ _
            rw [HNX.out]
            exact ⟨HFIN.out.1, HKL.out⟩
        case' p2 =>
          refine wpAnyIn_ready (rs := [3, 5]) (by kernel_rfl) (by simp) ?_
          refine AllReadyIn.cons rfl (fun K hK => ?_) (AllReadyIn.cons rfl (fun K hK => ?_) AllReadyIn.nil)
          · skip
            go_simp
            refine hK _ _ ?_
            clear hK K
            refine wpAnyIn_take (i := 4) (v := ?_) rfl rfl (by kernel_rfl) (by kernel_rfl) (by kernel_rfl) (fun _ _ _ h => h) ⟨Or.inl ⟨by rfl, ?_⟩, fun _ => rfl⟩ ?_
            rotate_left
            · (intro w; go_simp; first | done | with_reducible rfl)
            simp only [List.getElem_toArray, List.getElem_cons_succ, List.getElem_cons_zero, Act.put, List.setIfInBounds_toArray, List.set_cons_zero, List.set_cons_succ]
            refine wpAnyIn_ready (rs := [5]) (by kernel_rfl) (by simp) ?_
            refine AllReadyIn.cons rfl (fun K hK => ?_) AllReadyIn.nil
            go_simp
            refine hK _ _ ?_
            clear hK K
            refine wpAnyIn_take (i := 6) (v := ?_) rfl rfl (by kernel_rfl) (by kernel_rfl) (by kernel_rfl) (fun _ _ _ h => h) ⟨Or.inl ⟨by rfl, ?_⟩, fun _ => rfl⟩ ?_
            rotate_left
            · (intro w; go_simp; first | done | with_reducible rfl)
            simp only [List.getElem_toArray, List.getElem_cons_succ, List.getElem_cons_zero, Act.put, List.setIfInBounds_toArray, List.set_cons_zero, List.set_cons_succ]
            refine wpAnyIn_ready (rs := [7]) (by kernel_rfl) (by simp) ?_
            refine AllReadyIn.cons rfl (fun K hK => ?_) AllReadyIn.nil
            go_simp
            refine hK _ _ ?_
            clear hK K
            refine wpAnyIn_done (by kernel_rfl) ?_ _
            refine (⟨HKD.out.trans HFIN.out.2, ?_⟩ : KeepsFrom _ _ _ ∧ _)
            show CNT w5 _ tm X (plcOf ((toldE e C).take (k + 1))) ∧ _
            rw [HNX.out]
            exact ⟨HFIN.out.1, HKL.out⟩
          · skip
            go_simp
            refine hK _ _ ?_
            clear hK K
            refine wpAnyIn_take (i := 6) (v := ?_) rfl rfl (by kernel_rfl) (by kernel_rfl) (by kernel_rfl) (fun _ _ _ h => h) ⟨Or.inl ⟨by rfl, ?_⟩, fun _ => rfl⟩ ?_
            rotate_left
            · (intro w; go_simp; first | done | with_reducible rfl)
            simp only [List.getElem_toArray, List.getElem_cons_succ, List.getElem_cons_zero, Act.put, List.setIfInBounds_toArray, List.set_cons_zero, List.set_cons_succ]
            refine wpAnyIn_ready (rs := [3]) (by kernel_rfl) (by simp) ?_
            refine AllReadyIn.cons rfl (fun K hK => ?_) AllReadyIn.nil
            go_simp
            refine hK _ _ ?_
            clear hK K
            refine wpAnyIn_take (i := 4) (v := ?_) rfl rfl (by kernel_rfl) (by kernel_rfl) (by kernel_rfl) (fun _ _ _ h => h) ⟨Or.inl ⟨by rfl, ?_⟩, fun _ => rfl⟩ ?_
            rotate_left
            · (intro w; go_simp; first | done | with_reducible rfl)
            simp only [List.getElem_toArray, List.getElem_cons_succ, List.getElem_cons_zero, Act.put, List.setIfInBounds_toArray, List.set_cons_zero, List.set_cons_succ]
            refine wpAnyIn_ready (rs := [7]) (by kernel_rfl) (by simp) ?_
            refine AllReadyIn.cons rfl (fun K hK => ?_) AllReadyIn.nil
            go_simp
            refine hK _ _ ?_
            clear hK K
            refine wpAnyIn_done (by kernel_rfl) ?_ _
            refine (⟨HKD.out.trans HFIN.out.2, ?_⟩ : KeepsFrom _ _ _ ∧ _)
            show CNT w5 _ tm X (plcOf ((toldE e C).take (k + 1))) ∧ _
            rw [HNX.out]
            exact ⟨HFIN.out.1, HKL.out⟩
      · have hq : (pk == 1) = false := by simpa using hk1
        have HNX : Hid (plcOf ((toldE e C).take (k + 1)) = plcOf ((toldE e C).take k)) := Lib.hid (by rw [hnx]; exact plcOf_n hk1)
        have HI := Lib.hid hI
        clear hob hX hI hpl hnx hok hmem hlt hsW herr hk hkl hB
        gi_wp2
        refine (⟨KeepsFrom.refl _ _, ?_⟩ : KeepsFrom _ _ _ ∧ _)
        show CNT w5 W tm X (plcOf ((toldE e C).take (k + 1))) ∧ _
        rw [HNX.out]
        exact ⟨HI.out, HKL.out⟩
    · rw [herr]
      have h4 : Boxed W w.heap.size 25 (.slice none 0 0) := (hI.ap.block _ (by omega) (by omega)).trans HCW.out.x4
      have h5 : Boxed W b5 26 (.int .i64 0) := (hI.ap.block _ (by omega) (by omega)).trans HCW.out.x5
      have hc4 := h4.cell
      have hf4 := h4.frozen
      have h5' := h5.other (B' := w.heap.size) (by omega) (.slice none 0 0)
      have hc5 := h5'.cell
      have hf5 := h5'.frozen
      have h4' := (h4.set (.slice none 0 0)).other (B' := b5) (by omega) (.int .i64 2)
      have HFIN : Hid (KeepsFrom w5.heap.size W ((W.setCell ⟨w.heap.size, 0, none⟩ (.slice none 0 0)).setCell ⟨b5, 0, none⟩ (.int .i64 2)) ∧ rfOk e C = false ∧ CNX w5 ((W.setCell ⟨w.heap.size, 0, none⟩ (.slice none 0 0)).setCell ⟨b5, 0, none⟩ (.int .i64 2)) w.heap.size b5 tm) :=
        Lib.hid ⟨((KeepsOthers.setCell _ _ _).trans (KeepsOthers.setCell _ _ _)).from _, hrf, ⟨((hI.ap.weak (fun q hq => .inl hq)).setCell (p := ⟨w.heap.size, 0, none⟩) (.inl (.inr (.inl rfl))) _).setCell (p := ⟨b5, 0, none⟩) (.inl (.inr (.inr rfl))) _, h4'.cell, (h5'.set _).cell, by omega⟩⟩
      clear hob hX hI hlt hsW herr hk hkl hB h4 h5 h5' h4' hrf hx6
      gi_wp2
      exact HFIN.out
  case stop =>
    rintro D k W hD hk ⟨hrf, hx⟩ hdf
    obtain ⟨h1, h2, h3⟩ := hx.lt
    have hhb := HCW.out.hb
    have x4 := hx.x4
    have x5 := hx.x5
    have hlow : Below w.heap.size w W := HCW.out.lo.trans (hx.ap.below HCW.out.lo.size (fun q hq => by omega))
    have HDD : Hid (w.heap.size ≤ D) := Lib.hid (Nat.le_trans HCW.out.lo.size hD)
    have HBW := Lib.hid hlow
    have HKD := Lib.hid hdf
    have HRF := Lib.hid hrf
    clear hk hrf hx hdf hlow
    gi_wp2
    have hneD : w.heap.size ≠ D ∧ b5 ≠ D := by omega
    have k4 : (W.putObj D (.deferred none)).cell? ⟨w.heap.size, 0, none⟩ = some (.slice none 0 0) := by rw [← x4]; exact World.cell?_of_block (World.putObj_heap_other hneD.1)
    have k5 : (W.putObj D (.deferred none)).cell? ⟨b5, 0, none⟩ = some (.int .i64 2) := by rw [← x5]; exact World.cell?_of_block (World.putObj_heap_other hneD.2)
    refine ⟨by simp, .inl ⟨_, _, rfl, run_takeDeferred HKD.out, ?_⟩⟩
    refine ⟨.tuple #[.slice none 0 0, .int .i64 2], by simp [results, Try.f8, go_sem, k4, k5], _, by rw [HZE.out, HRF.out]; rfl, ?_, HBW.out.grown (grownBy_putObj' _ D _) HBW.out.size (fun r e => by cases e; exact HDD.out)⟩
    have e0 : rfEnts e C = [] := by unfold rfEnts; rw [HRF.out]; rfl
    rw [e0]
    exact StS.nil _
  case done =>
    rintro D X W hD ⟨hI, hle⟩ hdf
    have hrf : rfOk e C = true := rt_all (Nat.le_antisymm hle (by unfold numE; omega))
    obtain ⟨e1, e2⟩ := rt_of hrf
    rw [e1, e2, List.take_length] at hI
    have hlen : (rfEnts e C).length ≤ 3600 := rfEnts_len HCC.out
    have hze : ze = 0 := by rw [HZE.out, hrf]; rfl
    subst hze
    obtain ⟨L, hL⟩ : ∃ L, L = rfEnts e C := ⟨_, rfl⟩
    rw [← hL] at hI hlen
    have HL := Lib.hid hL
    have hPl := plcOf_len L
    have hhb := HCW.out.hb
    have hsW := hI.ap.size
    have hx6 : W.cell? ⟨b6, 0, none⟩ = some (.map (some tm)) := (hI.ap.cell (by omega) (by omega) 0).trans HCW.out.x6.cell
    have h4 : Boxed W w.heap.size 25 (.slice none 0 0) := (hI.ap.block _ (by omega) (by omega)).trans HCW.out.x4
    have h5 : Boxed W b5 26 (.int .i64 0) := (hI.ap.block _ (by omega) (by omega)).trans HCW.out.x5
    have hlow : Below w.heap.size w W := HCW.out.lo.trans (hI.ap.below HCW.out.lo.size (fun q hq => by omega))
    have HLOW := Lib.hid hlow
    have H4 := Lib.hid h4
    have H5 := Lib.hid h5
    have HDD : Hid (w.heap.size ≤ D ∧ D < W.heap.size ∧ w5.heap.size ≤ D) := Lib.hid ⟨Nat.le_trans HCW.out.lo.size hD, (Array.getElem?_eq_some_iff.1 hdf).1, hD⟩
    have HKD := Lib.hid hdf
    have HPL : Hid ((plcOf L).length ≤ 3600) := Lib.hid (by omega)
    have HLL := Lib.hid hlen
    obtain ⟨Dm, ho, hh, hv⟩ := hI.mp
    have hsz : Maps.size Dm ≤ 3600 := Nat.le_trans (PlMap.size ho hh) HPL.out
    have HHB : Hid (w.heap.size < b5 ∧ b5 < tm ∧ tm < b6 ∧ b6 < w5.heap.size ∧ w5.heap.size ≤ W.heap.size) := Lib.hid (by omega)
    have hln := ho.len Try.underlying56 3
    obtain ⟨i0, hi, hz0, hz1, hz2⟩ := rfInfo
    obtain ⟨wM, hmk, hownM, hgM⟩ := run_make_own (P := Try.prog) (w := W) W.heap.size 25 52 i0 _ 3 Try.underlying25 hi hz0 hz1 .i64 .i64 (Maps.size Dm) (by rw [hz2]; omega) (by unfold maxLen; omega) (Nat.le_refl _)
    have hbM : Below W.heap.size W wM := ((Ap.refl (S := fun _ => False) W).grown hgM (fun k hk => by cases hk)).below (Nat.le_refl _) (fun k hk => hk.elim)
    have hx6M : wM.cell? ⟨b6, 0, none⟩ = some (.map (some tm)) := (hbM.cell (p := ⟨b6, 0, none⟩) (by show b6 < _; omega)).trans hx6
    have hoM : wM.ownsMap Try.prog 36 (plainElem Try.prog 3) tm (Maps.size Dm) Dm := by
      obtain ⟨es, clock, q1, q2⟩ := ho
      exact ⟨es, clock, (hbM.block tm (by omega)).trans q1, q2⟩
    have HBM := Lib.hid hbM
    have HOM := Lib.hid hoM
    have HOWN0 := Lib.hid hownM
    have HH := Lib.hid hh
    have HV2 := Lib.hid hv
    have HSZ := Lib.hid hsz
    clear hI hle hdf hD hrf hlen hPl hhb hsW h4 h5 hlow hsz hh hv hgM hbM hownM hL e1 e2 ho
    gi_wp2_with (gi_at_range; refine wpListIn_range_own _ rfl _ 56 rfl 36 3 plcK Try.underlying56 (plainElem Try.prog 3) tm (Maps.size Dm) Dm rfl HOM.out ?_; intro wR hrg0 hgR hsR)
    go_frame
    have hbR : Below wM.heap.size wM wR := ((Ap.refl (S := fun _ => False) wM).grown hgR (fun k hk => by cases hk)).below (Nat.le_refl _) (fun k hk => hk.elim)
    have hrl : wM.heap.size < wR.heap.size := hrg0.lt
    obtain ⟨r, hr⟩ : ∃ r, r = wM.heap.size := ⟨_, rfl⟩
    have HRB : Hid (Below W.heap.size W wR ∧ W.heap.size ≤ r ∧ r < wR.heap.size) := Lib.hid ⟨HBM.out.trans (hbR.mono HBM.out.size), by rw [hr]; exact HBM.out.size, by rw [hr]; exact hrl⟩
    have HOWN := Lib.hid (ownS_keep HOWN0.out hbR)
    rw [← hr] at hrg0 ⊢
    have HRG := Lib.hid hrg0
    clear hbR hrl hr hrg0 hgR hsR hx6M hoM hln hmk hx6 HOM HOWN0
    gi_loopw [9] (fun vx wr => ∃ (left : Lit → Bool) (cnt : Nat) (z : Value) (O : List RF), z = vx ∧ MetP (plcOf L) left O ∧ wr.ownsRow W.heap.size 52 3 z O.length (O.flatMap RF.enc) ∧ wr.ranges Try.prog 36 (plainElem Try.prog 3) tm r (Maps.size Dm) Dm left cnt ∧ Below W.heap.size W wr ∧ r < wr.heap.size ∧ ∃ g c, z = .slice (some ⟨g, 0, none⟩) O.length c)
      (fun _ wr => wr.rangeLeft tm r)
    case atStart => exact ⟨_, _, _, [], rfl, MetP.start (fun p hp => (HH.out p (HV2.out p hp).1).2 hp), HOWN.out, HRG.out, HRB.out.1, HRB.out.2.2, _, _, rfl⟩
    case round =>
      obtain ⟨left, cnt, z, O, rfl, hmet, hown, hrg, hb3, hr3, g, zc, rfl⟩ := hrel
      have HB3 := Lib.hid hb3
      have HR3 := Lib.hid hr3
      have HMET := Lib.hid hmet
      have HOWN3 := Lib.hid hown
      have HOL : Hid (O.length ≤ 3600) := Lib.hid (Nat.le_trans hmet.len HPL.out)
      have HRG0 := Lib.hid hrg
      clear hb3 hr3 hmet hown HOWN HRG
      gi_wp2_with (gi_at_next; refine wpListIn_next_ranges _ rfl _ rfl 36 plcK (plainElem Try.prog 3) plV (fun c : Int => .int .i64 c) (fun key kl h => by obtain ⟨p, _, e, _⟩ := keyOf_plc_inv h; exact ⟨p, e⟩) (fun v y h => by obtain ⟨c, e, _⟩ := plainElem_int_inv Try.underlying3 h; exact ⟨c, e⟩) tm r (Maps.size Dm) Dm left cnt rfl hrg ?_ ?_)
      · intro _ hl0
        have hsort := sortRefs_any (base := W.heap.size) HOWN3.out (by have := HOL.out; omega) HB3.out.size
        have hS := fun j => (callsIn_wide (n := j)).2 hsort
        have HMEM : Hid (∀ r : RF, r ∈ O ↔ (r.s, r.m) ∈ plcOf L ∧ r.n = ((plcOf L).count (r.s, r.m) : Nat)) := Lib.hid (fun r => by
          rw [HMET.out.mem]
          exact ⟨fun h => ⟨h.1, h.2.1⟩, fun h => ⟨h.1, h.2, hl0 _⟩⟩)
        clear hl0 hrg hsort
        gi_wp2_with (gi_at_call 24; refine (hS _).mono ?_; rintro r w6 ⟨rfl, L', hp', hs', href, hb6⟩; have hLe := sorted_refs (L := L) (by have := HLL.out; omega) hp' hs' HMET.out.nd HMEM.out; subst hLe; have HREF := Lib.hid href; have HB6 : Hid (Below W.heap.size W w6) := Lib.hid (HB3.out.trans hb6); have h4 : Boxed w6 w.heap.size 25 (.slice none 0 0) := (HB6.out.block _ (by have := HHB.out; omega)).trans H4.out; have h5 : Boxed w6 b5 26 (.int .i64 0) := (HB6.out.block _ (by have := HHB.out; omega)).trans H5.out; have hc4 := h4.cell; have hf4 := h4.frozen; have h5' := h5.other (B' := w.heap.size) (by have := HHB.out; omega) (.slice (some ⟨g, 0, none⟩) O.length zc); have hc5 := h5'.cell; have hf5 := h5'.frozen; clear href hb6 hp' hs')
        have hgW : W.heap.size ≤ g := (World.ownsRow.lt HOWN3.out g rfl).1
        have hD6 : ((w6.setCell ⟨w.heap.size, 0, none⟩ (.slice (some ⟨g, 0, none⟩) O.length zc)).setCell ⟨b5, 0, none⟩ (.int .i64 0)).heap[D]? = some (.deferred (some [])) :=
          ((KeepsOthers.setCell _ _ _).trans (KeepsOthers.setCell _ _ _)).same D _ ((HB6.out.block D HDD.out.2.1).trans HKD.out) rfl
        obtain ⟨d1, d2, d3⟩ := HDD.out
        obtain ⟨q1, q2, q3, q4, q5⟩ := HHB.out
        have k4 := (h4.set (.slice (some ⟨g, 0, none⟩) O.length zc)).other (B' := b5) (by omega) (.int .i64 0)
        have k5 := h5'.set (.int .i64 0)
        have k4' : (((w6.setCell ⟨w.heap.size, 0, none⟩ (.slice (some ⟨g, 0, none⟩) O.length zc)).setCell ⟨b5, 0, none⟩ (.int .i64 0)).putObj D (.deferred none)).cell? ⟨w.heap.size, 0, none⟩ = some (.slice (some ⟨g, 0, none⟩) O.length zc) := by rw [← k4.cell]; exact World.cell?_of_block (World.putObj_heap_other (by show w.heap.size ≠ D; omega))
        have k5' : (((w6.setCell ⟨w.heap.size, 0, none⟩ (.slice (some ⟨g, 0, none⟩) O.length zc)).setCell ⟨b5, 0, none⟩ (.int .i64 0)).putObj D (.deferred none)).cell? ⟨b5, 0, none⟩ = some (.int .i64 0) := by rw [← k5.cell]; exact World.cell?_of_block (World.putObj_heap_other (by show b5 ≠ D; omega))
        have hapF : Ap (fun q => q < W.heap.size) w6 (((w6.setCell ⟨w.heap.size, 0, none⟩ (.slice (some ⟨g, 0, none⟩) O.length zc)).setCell ⟨b5, 0, none⟩ (.int .i64 0)).putObj D (.deferred none)) :=
          (((Ap.refl w6).setCell (p := ⟨w.heap.size, 0, none⟩) (.inl (by show w.heap.size < _; omega)) _).setCell (p := ⟨b5, 0, none⟩) (.inl (by show b5 < _; omega)) _).grown (grownBy_putObj' _ D _) (fun k hk => by injection hk with hk; exact .inl (by omega))
        have hapB : Ap (fun q => q = w.heap.size ∨ q = b5 ∨ q = D) w6 (((w6.setCell ⟨w.heap.size, 0, none⟩ (.slice (some ⟨g, 0, none⟩) O.length zc)).setCell ⟨b5, 0, none⟩ (.int .i64 0)).putObj D (.deferred none)) :=
          (((Ap.refl w6).setCell (p := ⟨w.heap.size, 0, none⟩) (.inl (.inl rfl)) _).setCell (p := ⟨b5, 0, none⟩) (.inl (.inr (.inl rfl))) _).grown (grownBy_putObj' _ D _) (fun k hk => by injection hk with hk; exact .inl (.inr (.inr hk.symm)))
        refine ⟨by simp, .inl ⟨_, _, rfl, run_takeDeferred hD6, ?_⟩⟩
        refine ⟨.tuple #[.slice (some ⟨g, 0, none⟩) O.length zc, .int .i64 0], by simp [results, Try.f8, go_sem, k4', k5'], _, rfl, ?_, ?_⟩
        · rw [← HL.out]
          exact refS_ap HREF.out hapF (by omega)
        · exact (HLOW.out.trans (HB6.out.mono (by omega))).trans (hapB.below (by have := HB6.out.size; omega) (fun k hk => by omega))
      · intro ps pm c kl y1 y2 w4 cnt1 hkey hlk hR hat hrg1 hlt1 hg1 hs1 hen
        obtain ⟨p', hpw, hpe, rfl⟩ := keyOf_plc_inv hkey
        have hpp : p' = (ps, pm) := by
          unfold plV at hpe
          simp only [Value.agg.injEq] at hpe
          have h2 := congrArg Array.toList hpe
          simp only [List.cons.injEq, Value.int.injEq, true_and, and_true] at h2
          exact Prod.ext h2.1.symm h2.2.symm
        subst hpp
        have hin : (ps, pm) ∈ plcOf L := (HH.out _ hpw).1 (has_true_of_atKey (y := y1) hat)
        have hc : c = ((plcOf L).count (ps, pm) : Nat) := by
          have h1 := (HV2.out _ hin).2 (.map [])
          rw [hat] at h1
          obtain ⟨c', e1, e2, _⟩ := plainElem_int_inv Try.underlying3 hR
          injection e1 with _ e1
          simp only [Prod.mk.injEq] at e2
          rw [h1, ← e1] at e2
          have e3 := e2.1
          simp only [DataW.lit.injEq, Lit.int.injEq, true_and] at e3
          exact e3.symm
        subst hc
        have hne := own_not_range HOWN3.out HRG0.out
        have HMET4 := Lib.hid (HMET.out.add (fun q hq => (HV2.out q hq).1) hlk hin)
        dsimp only at HMET4
        have hap : Ap (fun k => k = r) wr w4 := Ap.grown (S := fun k => k = r) (Ap.refl wr) hg1 (fun k hk => by injection hk with hk; exact .inl hk.symm)
        have HB4 : Hid (Below W.heap.size W w4) := Lib.hid (HB3.out.trans (hap.below HB3.out.size (fun k hk => by have := HRB.out; omega)))
        have HOWN4 := Lib.hid (own_ap2 HOWN3.out hap (fun g' hg' => hne g' hg'))
        have HRG4 := Lib.hid hrg1
        have HS4 : Hid (w4.heap.size = wr.heap.size) := Lib.hid hs1
        have HLT4 := Lib.hid hlt1
        generalize (((plcOf L).count (ps, pm) : Nat) : Int) = cn at hR hen HMET4
        unfold plV at hen
        dsimp only at hen
        clear hkey hpe hpw hat hR hlk hrg1 hlt1 hg1 hs1 hin hne hap hrg
        unfold plV
        dsimp only
        obtain ⟨wA, hwA⟩ : ∃ wA, wA = w4.alloc (.cells #[.int .i64 ps, .int .i64 pm] 36) := ⟨_, rfl⟩
        have hbA : Below w4.heap.size w4 wA := by rw [hwA]; exact below_new w4 _
        have hh := heap_alloc_new w4 (.cells #[.int .i64 ps, .int .i64 pm] 36)
        rw [← hwA] at hh
        have x0 : wA.cell? ⟨w4.heap.size, 0, none⟩ = some (.int .i64 ps) := by rw [cell_of_row _ _ _ _ _ (0, 0) hh]; rfl
        have x1 : wA.cell? ⟨w4.heap.size, 1, none⟩ = some (.int .i64 pm) := by rw [cell_of_row _ _ _ _ _ (0, 0) hh]; rfl
        have HBA := Lib.hid hbA
        have HO5 := Lib.hid ((ownS_keep HOWN4.out hbA).alloc (.cells #[.int .i64 ps, .int .i64 pm, .int .i64 cn] 52))
        have HNW := Lib.hid (new_cells wA [.int .i64 ps, .int .i64 pm, .int .i64 cn] 52)
        have hbB := hbA.trans ((below_new wA (.cells #[.int .i64 ps, .int .i64 pm, .int .i64 cn] 52)).mono hbA.size)
        have HB5 : Hid (Below W.heap.size W (wA.alloc (.cells #[.int .i64 ps, .int .i64 pm, .int .i64 cn] 52))) := Lib.hid (HB4.out.trans (hbB.mono HB4.out.size))
        have HRG5 := Lib.hid (rangesR_ap (S := fun _ => False) HRG4.out (Ap.of_below hbB) id id)
        have HR5 : Hid (r < (wA.alloc (.cells #[.int .i64 ps, .int .i64 pm, .int .i64 cn] 52)).heap.size) := Lib.hid (by have := HR3.out; have := HS4.out; have := hbB.size; omega)
        have HWA := Lib.hid hwA
        clear hwA hbA hh hbB
        gi_upto_region 13 with fail
        rw [← HWA.out]
        clear hen
        gi_wp2_with (gi_at_builtin; refine wpListIn_append_own_at _ rfl _ _ 25 rfl W.heap.size 52 i0 _ 3 24 Try.underlying25 hi hz0 hz1 hz2 rfl (by decide) _ _ _ rfl HO5.out ⟨wA.heap.size, 0, none⟩ 1 1 [.int .i64 ps, .int .i64 pm, .int .i64 cn] rfl rfl HNW.out (RF.enc_one ⟨ps, pm, cn⟩) (by have := HOL.out; unfold maxLen; omega) (by have := HOL.out; omega) HB5.out.size ?_; intro v' w7 hown' hgrow _ hob; have HOWN7 := Lib.hid hown'; have HGR7 := Lib.hid hgrow; obtain ⟨g7, c7, rfl⟩ := ownsRow_succ hown'; clear hown' hgrow hob)
        have hap7 : Ap (fun k => W.heap.size ≤ k ∧ k ≠ r) (wA.alloc (.cells #[.int .i64 ps, .int .i64 pm, .int .i64 cn] 52)) w7 := Ap.grown (Ap.refl _) HGR7.out (fun k hk => .inl ⟨by injection hk with hk; rw [← hk]; exact (World.ownsRow.lt HO5.out g rfl).1, by injection hk with hk; rw [← hk]; exact own_not_range HO5.out HRG5.out g rfl⟩)
        have HRG7 := Lib.hid (rangesR_ap HRG5.out hap7 (by have := HHB.out; omega) (by simp))
        have HB7 : Hid (Below W.heap.size W w7 ∧ r < w7.heap.size) := Lib.hid ⟨HB5.out.trans (hap7.below HB5.out.size (fun k hk => hk.1)), by have := HR5.out; have := hap7.size; omega⟩
        clear hap7 x0 x1
        go_roundw
        case rel => exact ⟨_, cnt1, _, O ++ [⟨ps, pm, cn⟩], rfl, HMET4.out, by rw [List.length_append, flat_snoc]; exact HOWN7.out, HRG7.out, HB7.out.1, HB7.out.2, g7, c7, by rw [List.length_append]; rfl⟩
        case measure => rw [HRG7.out.left_eq, HRG0.out.left_eq]; exact HLT4.out
end Go.Proofs.Ythhbaccbhfngbaa
