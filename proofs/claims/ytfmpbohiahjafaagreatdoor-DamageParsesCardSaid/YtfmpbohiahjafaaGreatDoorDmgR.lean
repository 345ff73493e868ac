/- Reports of damage: a report under way in a box, and a line that is added to it. -/
import Derived.Test.YtfmpbohiahjafaaGreatDoorDmgO
import Derived.Maps.AppendAt
import Derived.Deep.RegionLaw
namespace Go.Proofs.YtfmpbohiahjafaaGreatDoor
open Go.RowKit Go.Lib Go.Shelf Go.Sort

theorem own_sameD {W W' : World} {base e s n : Nat} {v : Value} {xs : List Value} (h : W.ownsRow base e s v n xs) (hs : ∀ g, v.ownBlock = some g → W'.heap[g]? = W.heap[g]?) : W'.ownsRow base e s v n xs := by
  refine ⟨h.1, ?_⟩
  rcases h.2 with h0 | ⟨g, cap, cur, hv, hg, hh, r⟩
  · exact .inl h0
  · exact .inr ⟨g, cap, cur, hv, hg, (hs g (by rw [hv]; rfl)).trans hh, r⟩
theorem own_setD {W : World} {base e s n b k : Nat} {v x : Value} {xs : List Value} (h : W.ownsRow base e s v n xs) (hn : v.ownBlock ≠ some b) : (W.setCell ⟨b, k, none⟩ x).ownsRow base e s v n xs :=
  own_sameD h (fun g hg => by
    have hne : b ≠ g := fun e => hn (by rw [e]; exact hg)
    show (W.heap.modify b _)[g]? = _
    rw [Array.getElem?_modify, if_neg hne])
/-- A report in a box, with rows of its own. -/
structure RP (B : Nat) (W : World) (b : Nat) (u v : Value) (Ws : List WD) (Ls : List LO) : Prop where
  bB : B ≤ b
  lt : b < W.heap.size
  c0 : W.cell? ⟨b, 0, none⟩ = some u
  c1 : W.cell? ⟨b, 1, none⟩ = some v
  f0 : W.frozen? ⟨b, 0, none⟩ = false
  f1 : W.frozen? ⟨b, 1, none⟩ = false
  ow : W.ownsRow B 42 5 u Ws.length (Ws.flatMap WD.enc)
  ol : W.ownsRow B 46 3 v Ls.length (Ls.flatMap LO.enc)
  nu : u.ownBlock ≠ some b
  nv : v.ownBlock ≠ some b
  nn : u.ownBlock = none ∨ u.ownBlock ≠ v.ownBlock
theorem RP.new (w : World) (t : TypeId) : RP w.heap.size (w.alloc (.cells #[.slice none 0 0, .slice none 0 0] t)) w.heap.size (.slice none 0 0) (.slice none 0 0) [] [] := by
  have h := cell2 w (.slice none 0 0) (.slice none 0 0) t
  have hf := fun o => frozen_of_row (w.alloc (.cells #[.slice none 0 0, .slice none 0 0] t)) w.heap.size o _ t (heap_alloc_new w _)
  exact ⟨Nat.le_refl _, by simp, h.1, h.2, hf 0, hf 1, World.ownsRow_nil _ _ _ _, World.ownsRow_nil _ _ _ _, (by intro e; cases e), (by intro e; cases e), .inl rfl⟩
theorem RP.below {B : Nat} {W W' : World} {b : Nat} {u v : Value} {Ws : List WD} {Ls : List LO} (h : RP B W b u v Ws Ls) (hb : Below W.heap.size W W') : RP B W' b u v Ws Ls :=
  ⟨h.bB, Nat.lt_of_lt_of_le h.lt hb.size, cell_keep hb h.c0, cell_keep hb h.c1, (hb.frozen (p := ⟨b, 0, none⟩) h.lt).trans h.f0, (hb.frozen (p := ⟨b, 1, none⟩) h.lt).trans h.f1, ownS_keep h.ow hb, ownS_keep h.ol hb, h.nu, h.nv, h.nn⟩
theorem RP.ws {B : Nat} {W : World} {b : Nat} {u v : Value} {Ws : List WD} {Ls : List LO} (h : RP B W b u v Ws Ls) : WdS W u Ws := StS.of_own WD.enc_len h.ow
theorem RP.ls {B : Nat} {W : World} {b : Nat} {u v : Value} {Ws : List WD} {Ls : List LO} (h : RP B W b u v Ws Ls) : LoS W v Ls := StS.of_own LO.enc_len h.ol
theorem kept_cell {W w' : World} {row : Option Nat} {b k : Nat} {x : Value} (hg : W.grownBy w' row) (hlt : b < W.heap.size) (hne : some b ≠ row) (hc : W.cell? ⟨b, k, none⟩ = some x) : w'.cell? ⟨b, k, none⟩ = some x := by
  rw [← hc]
  unfold World.cell?
  rw [hg.block b hlt hne]
theorem kept_fz {W w' : World} {row : Option Nat} {b k : Nat} (hg : W.grownBy w' row) (hlt : b < W.heap.size) (hne : some b ≠ row) (hc : W.frozen? ⟨b, k, none⟩ = false) : w'.frozen? ⟨b, k, none⟩ = false := by
  rw [← hc]
  unfold World.frozen?
  rw [hg.block b hlt hne]
theorem ob_lt {W : World} {base e s n : Nat} {v : Value} {xs : List Value} (h : W.ownsRow base e s v n xs) : v.ownBlock ≠ some W.heap.size := by
  intro hv
  exact Nat.lt_irrefl _ (World.ownsRow.lt h _ hv).2
/-- Behind an append to the wounds, and the store of it. -/
theorem RP.appW {B : Nat} {W w' : World} {b : Nat} {u v u' : Value} {Ws : List WD} {Ls : List LO} {x : WD} (h : RP B W b u v Ws Ls) (ho : w'.ownsRow B 42 5 u' (Ws.length + 1) (Ws.flatMap WD.enc ++ x.enc)) (hg : W.grownBy w' u.ownBlock) (hat : u'.ownBlock = u.ownBlock ∨ u'.ownBlock = some W.heap.size) :
    RP B (w'.setCell ⟨b, 0, none⟩ u') b u' v (Ws ++ [x]) Ls := by
  have hne : some b ≠ u.ownBlock := fun e => h.nu e.symm
  have hub : u'.ownBlock ≠ some b := by
    rcases hat with e | e <;> rw [e]
    · exact h.nu
    · intro e2; injection e2 with e2; have := h.lt; omega
  have hl : w'.ownsRow B 46 3 v Ls.length (Ls.flatMap LO.enc) := World.ownsRow.kept h.ol hg (by
    rcases h.nn with e | e
    · cases hv : v.ownBlock with
      | none => exact .inl rfl
      | some g => right; rw [e]; intro e2; cases e2
    · exact .inr (fun e2 => e e2.symm))
  refine ⟨h.bB, by rw [World.size_setCell]; exact Nat.lt_of_lt_of_le h.lt hg.size, put_same (kept_cell hg h.lt hne h.c0) _, (put_else _ _ _ _ _ (by omega)).trans (kept_cell hg h.lt hne h.c1), by rw [World.frozen?_setCell]; exact kept_fz hg h.lt hne h.f0, by rw [World.frozen?_setCell]; exact kept_fz hg h.lt hne h.f1, ?_, own_setD hl h.nv, hub, h.nv, ?_⟩
  · rw [List.length_append, List.length_singleton, flat_snoc]
    exact own_setD ho hub
  · rcases hat with e | e
    · rw [e]; exact h.nn
    · right; rw [e]; exact fun e2 => ob_lt h.ol e2.symm
theorem RP.appL {B : Nat} {W w' : World} {b : Nat} {u v v' : Value} {Ws : List WD} {Ls : List LO} {x : LO} (h : RP B W b u v Ws Ls) (ho : w'.ownsRow B 46 3 v' (Ls.length + 1) (Ls.flatMap LO.enc ++ x.enc)) (hg : W.grownBy w' v.ownBlock) (hat : v'.ownBlock = v.ownBlock ∨ v'.ownBlock = some W.heap.size) :
    RP B (w'.setCell ⟨b, 1, none⟩ v') b u v' Ws (Ls ++ [x]) := by
  have hne : some b ≠ v.ownBlock := fun e => h.nv e.symm
  have hub : v'.ownBlock ≠ some b := by
    rcases hat with e | e <;> rw [e]
    · exact h.nv
    · intro e2; injection e2 with e2; have := h.lt; omega
  have hl : w'.ownsRow B 42 5 u Ws.length (Ws.flatMap WD.enc) := World.ownsRow.kept h.ow hg (by
    rcases h.nn with e | e
    · exact .inl e
    · exact .inr e)
  refine ⟨h.bB, by rw [World.size_setCell]; exact Nat.lt_of_lt_of_le h.lt hg.size, (put_else _ _ _ _ _ (by omega)).trans (kept_cell hg h.lt hne h.c0), put_same (kept_cell hg h.lt hne h.c1) _, by rw [World.frozen?_setCell]; exact kept_fz hg h.lt hne h.f0, by rw [World.frozen?_setCell]; exact kept_fz hg h.lt hne h.f1, own_setD hl h.nu, ?_, h.nu, hub, ?_⟩
  · rw [List.length_append, List.length_singleton, flat_snoc]
    exact own_setD ho hub
  · rcases hat with e | e
    · rw [e]; exact h.nn
    · right; rw [e]; exact fun e2 => ob_lt h.ow e2
theorem step_append_own_at {P : Program} {ops : Array Oper} {o : Oper} {a : Act} {K : Act → World → Prop} {Q : Exit → Act → World → Prop} {E : Prop} (w : World) (hgd : o.guard = none) (s x : Operand) (t : TypeId)
    (ho : o.op = .call { callee := .builtin .append, args := #[s, x], argTypes := #[t, t] })
    (base : Nat) (e : TypeId) (i : TypeInfo) (z : Value) (size bytes : Nat) (ht : P.underlying t = some (.slice e)) (hi : P.info? e = some i) (hz : i.zero = some z)
    (hsize : i.size = size) (hby : i.bytes = bytes) (hzs : z.cells.size = size) (hsz : 0 < size)
    (v : Value) (n : Nat) (xs : List Value) (hs : a.eval s = v) (hown : w.ownsRow base e size v n xs)
    (ad : Addr) (m c : Nat) (news : List Value) (hx : a.eval x = .slice (some ad) m c) (hl : news.length = m * size) (hnews : ∀ j u, news[j]? = some u → w.cell? (ad.add j) = some u) (h1 : ∀ u ∈ news, u.oneCell' = true)
    (h63 : n + m ≤ maxLen) (hbytes : (n + m) * bytes ≤ 140737488355328) (hbase : base ≤ w.heap.size)
    (h : ∀ v' w', w'.ownsRow base e size v' (n + m) (xs ++ news) → w.grownBy w' v.ownBlock → (v'.ownBlock = v.ownBlock ∨ v'.ownBlock = some w.heap.size) → K (a.put o.dst v') w') :
    if Region.wanted o (yielded ops a.tmps) = true then Oper.wp P o a w K Q else E := by
  have hw : Region.wanted o (yielded ops a.tmps) = true := by simp [Region.wanted, hgd]
  rw [if_pos hw]
  obtain ⟨v', w', hr, h2, h3, h4, h5⟩ := run_append_own_at (P := P) w base t o.type e i z size bytes ht hi hz hsize hby hzs hsz v n xs hown ad m c news hl hnews h1 h63 hbytes hbase
  unfold Oper.wp execOp
  simp only [ho, resolve, invoke, builtin, Sem.run_bind, Sem.run_pure, Result.andThen_ok, List.map_toArray, List.map_cons, List.map_nil, hs, hx, hr]
  exact h _ _ h2 h3 h5
theorem wdInf : ∃ i, Tryz.prog.info? 42 = some i ∧ i.zero = some (.agg #[.int .u8 0, .int .i64 0, .int .i64 0, .int .i64 0, .bool false]) ∧ i.size = 5 ∧ i.bytes = 40 := by
  have e : (Tryz.prog.info? 42).map (fun i => (i.zero, i.size, i.bytes)) = some (some (.agg #[.int .u8 0, .int .i64 0, .int .i64 0, .int .i64 0, .bool false]), 5, 40) := by kernel_rfl
  obtain ⟨i, hi, hz⟩ := Option.map_eq_some_iff.1 e
  simp only [Prod.mk.injEq] at hz
  exact ⟨i, hi, hz.1, hz.2.1, hz.2.2⟩
theorem loInf : ∃ i, Tryz.prog.info? 46 = some i ∧ i.zero = some (.agg #[.int .i64 0, .int .i64 0, .int .i64 0]) ∧ i.size = 3 ∧ i.bytes = 24 := by
  have e : (Tryz.prog.info? 46).map (fun i => (i.zero, i.size, i.bytes)) = some (some (.agg #[.int .i64 0, .int .i64 0, .int .i64 0]), 3, 24) := by kernel_rfl
  obtain ⟨i, hi, hz⟩ := Option.map_eq_some_iff.1 e
  simp only [Prod.mk.injEq] at hz
  exact ⟨i, hi, hz.1, hz.2.1, hz.2.2⟩
theorem toW_yes {l : List UInt8} (hl : l.length ≤ 1000000) {w : World} (hD : DmW w) {x : WD} (h : rW l = some x) : Calls Tryz.prog 59 #[.string ⟨l.toArray⟩] w fun e w' => e = .returned (.tuple #[.agg x.enc.toArray, .bool true]) ∧ Below w.heap.size w w' := by
  refine (toWound_any hl hD).mono ?_
  rintro e w' ⟨⟨y, b, he, h1, h2⟩, hb⟩
  cases b
  · rw [h2 rfl] at h; cases h
  · have := h1 rfl; rw [h] at this; injection this with this; rw [this]; exact ⟨he, hb⟩
theorem toW_no {l : List UInt8} (hl : l.length ≤ 1000000) {w : World} (hD : DmW w) (h : rW l = none) : Calls Tryz.prog 59 #[.string ⟨l.toArray⟩] w fun e w' => ∃ (k id ix pl : Int) (hl : Bool), e = .returned (.tuple #[.agg #[.int .u8 k, .int .i64 id, .int .i64 ix, .int .i64 pl, .bool hl], .bool false]) ∧ Below w.heap.size w w' := by
  refine (toWound_any hl hD).mono ?_
  rintro e w' ⟨⟨y, b, he, h1, h2⟩, hb⟩
  cases b
  · exact ⟨_, _, _, _, _, he, hb⟩
  · rw [h1 rfl] at h; cases h
theorem toL_yes {l : List UInt8} (hl : l.length ≤ 1000000) {w : World} (hD : DmW w) {x : LO} (h : rL l = some x) : Calls Tryz.prog 60 #[.string ⟨l.toArray⟩] w fun e w' => e = .returned (.tuple #[.agg x.enc.toArray, .bool true]) ∧ Below w.heap.size w w' := by
  refine (toLost_any hl hD).mono ?_
  rintro e w' ⟨⟨y, b, he, h1, h2⟩, hb⟩
  cases b
  · rw [h2 rfl] at h; cases h
  · have := h1 rfl; rw [h] at this; injection this with this; rw [this]; exact ⟨he, hb⟩
theorem toL_no {l : List UInt8} (hl : l.length ≤ 1000000) {w : World} (hD : DmW w) (h : rL l = none) : Calls Tryz.prog 60 #[.string ⟨l.toArray⟩] w fun e w' => ∃ c f t : Int, e = .returned (.tuple #[.agg #[.int .i64 c, .int .i64 f, .int .i64 t], .bool false]) ∧ Below w.heap.size w w' := by
  refine (toLost_any hl hD).mono ?_
  rintro e w' ⟨⟨y, b, he, h1, h2⟩, hb⟩
  cases b
  · exact ⟨_, _, _, he, hb⟩
  · rw [h1 rfl] at h; cases h
set_option maxHeartbeats 8000000 in
set_option maxRecDepth 100000 in
/-- A wound's line is added. -/
theorem addW_any {B : Nat} {w : World} {b : Nat} {u v : Value} {Ws : List WD} {Ls : List LO} (h : RP B w b u v Ws Ls) (hB : B ≤ w.heap.size) (hD : DmW w) {l : List UInt8} (hl : l.length ≤ 1000000) (hW : Ws.length ≤ 1000000) {x : WD} (hx : rW l = some x) :
    Calls Tryz.prog 40 #[.pointer (some ⟨b, 0, none⟩), .string ⟨l.toArray⟩] w fun e w' => e = .returned (.bool (decide (Ls = []))) ∧ (∃ u', RP B w' b u' v (Ws ++ [x]) Ls) ∧ Below B w w' := by
  have hT := toW_yes hl hD hx
  obtain ⟨i0, hi0, hz0, hz1, hz2⟩ := wdInf
  have HR := Lib.hid h
  have HBB := Lib.hid hB
  have HWL := Lib.hid hW
  have HXO := Lib.hid (WD.enc_one x)
  obtain ⟨k, id, ix, pl, hl2⟩ := x
  obtain ⟨hl, rfl⟩ : ∃ hl, hl = hl2 := ⟨_, rfl⟩
  unfold WD.enc at hT HXO
  dsimp only at hT HXO
  obtain ⟨A1, c1, hu⟩ := ownS_form h.ow
  obtain ⟨A2, c2, hv, _⟩ := ownS_form h.ol
  obtain ⟨bb, hbb⟩ : ∃ bb, bb = decide (Ls = []) := ⟨_, rfl⟩
  have ke : ((Ls.length : Int) == 0) = bb := by
    rw [hbb]
    cases Ls with
    | nil => rfl
    | cons a r => rw [beq_eq_false_iff_ne.2 (by simp; omega)]; simp
  have ke2 : (Ls.length == 0) = bb := by
    rw [hbb]
    cases Ls with
    | nil => rfl
    | cons a r => simp
  rw [← hbb]
  clear hbb
  clear h hB hW hD hx
  go_enter Tryz.func40, Tryz.ntmps40
  go_upto_region 3 with (go_at_call 59; (with_reducible refine hT.mono ?_); rintro e w2 ⟨rfl, hb2⟩; have HB2 := Lib.hid hb2; clear hb2)
  have HR3 := Lib.hid ((HR.out.below HB2.out).below (below_new w2 (.cells #[.int .u8 k, .int .i64 id, .int .i64 ix, .int .i64 pl, .bool hl] 42)))
  have HB3 : Hid (Below w.heap.size w (w2.alloc (.cells #[.int .u8 k, .int .i64 id, .int .i64 ix, .int .i64 pl, .bool hl] 42))) := Lib.hid (HB2.out.alloc HB2.out.size _)
  obtain ⟨y0, y1, y2, y3, y4⟩ := new5 w2 (.int .u8 k) (.int .i64 id) (.int .i64 ix) (.int .i64 pl) (.bool hl) 42
  generalize w2.alloc (.cells #[.int .u8 k, .int .i64 id, .int .i64 ix, .int .i64 pl, .bool hl] 42) = w3 at HR3 HB3 y0 y1 y2 y3 y4 ⊢
  have HRV : Hid (RP B (w3.alloc (.cells #[.int .u8 k, .int .i64 id, .int .i64 ix, .int .i64 pl, .bool hl] 42)).drew b u v Ws Ls) := Lib.hid ((HR3.out.below (below_new w3 _)).below (Below.refl _ _).drew)
  have HNV : Hid (∀ j q, ([.int .u8 k, .int .i64 id, .int .i64 ix, .int .i64 pl, .bool hl] : List Value)[j]? = some q → (w3.alloc (.cells #[.int .u8 k, .int .i64 id, .int .i64 ix, .int .i64 pl, .bool hl] 42)).drew.cell? ((⟨w3.heap.size, 0, none⟩ : Addr).add j) = some q) := Lib.hid (new_cells w3 _ _)
  have HBV : Hid (Below B w (w3.alloc (.cells #[.int .u8 k, .int .i64 id, .int .i64 ix, .int .i64 pl, .bool hl] 42)).drew) := Lib.hid ((HB3.out.mono HBB.out).alloc (Nat.le_trans HBB.out HB3.out.size) _).drew
  obtain ⟨z0, z1, _⟩ := hu
  subst z0
  subst hv
  have c0 := HR3.out.c0
  have f0 := HR3.out.f0
  have d0 : (w3.alloc (.cells #[.int .u8 k, .int .i64 id, .int .i64 ix, .int .i64 pl, .bool hl] 42)).cell? ⟨b, 0, none⟩ = some _ := HRV.out.c0
  have d1 : (w3.alloc (.cells #[.int .u8 k, .int .i64 id, .int .i64 ix, .int .i64 pl, .bool hl] 42)).frozen? ⟨b, 0, none⟩ = false := HRV.out.f0
  go_region_law (first
    | (refine step_append_own_at _ (by rfl) (.tmp 19) (.tmp 21) 22 (by rfl) B 42 i0 _ 5 40 Tryz.underlying22 hi0 hz0 hz1 hz2 (by rfl) (by decide) (.slice A1 Ws.length c1) Ws.length (Ws.flatMap WD.enc) (by rfl) HRV.out.ow (⟨w3.heap.size, 0, none⟩ : Addr) 1 1 [.int .u8 k, .int .i64 id, .int .i64 ix, .int .i64 pl, .bool hl] (by rfl) (by rfl) HNV.out HXO.out (by have := HWL.out; unfold maxLen; omega) (by have := HWL.out; omega) (Nat.le_trans HBB.out HBV.out.size) ?_
       intro v' w4 ho4 hg4 hat4; obtain ⟨g4, c4, rfl⟩ := ownsRow_succ ho4; have s0 := kept_cell hg4 HRV.out.lt (fun e => HRV.out.nu e.symm) HRV.out.c0; have s1 := kept_fz hg4 HRV.out.lt (fun e => HRV.out.nu e.symm) HRV.out.f0; have s2 := kept_cell hg4 HRV.out.lt (fun e => HRV.out.nu e.symm) HRV.out.c1; have HA := Lib.hid (HRV.out.appW (x := ⟨k, id, ix, pl, hl⟩) ho4 hg4 hat4); have HB4 : Hid (Below B w w4) := Lib.hid (HBV.out.grown hg4 (Nat.le_trans HBB.out HBV.out.size) (fun g hg => (World.ownsRow.lt HRV.out.ow g hg).1)); clear ho4 hg4 hat4))
  all_goals go_wp2
  all_goals go_ret
  all_goals exact ⟨rfl, ⟨_, HA.out⟩, below_set HB4.out HR3.out.bB⟩
set_option maxHeartbeats 8000000 in
set_option maxRecDepth 100000 in
/-- A lost range's line is added. -/
theorem addL_any {B : Nat} {w : World} {b : Nat} {u v : Value} {Ws : List WD} {Ls : List LO} (h : RP B w b u v Ws Ls) (hB : B ≤ w.heap.size) (hD : DmW w) {l : List UInt8} (hl : l.length ≤ 1000000) (hW : Ls.length ≤ 1000000) {x : LO} (hx : rL l = some x) (hn : rW l = none) :
    Calls Tryz.prog 40 #[.pointer (some ⟨b, 0, none⟩), .string ⟨l.toArray⟩] w fun e w' => e = .returned (.bool true) ∧ (∃ v', RP B w' b u v' Ws (Ls ++ [x])) ∧ Below B w w' := by
  have hT := toW_no hl hD hn
  have HLL : Hid (∀ V, Below w.heap.size w V → _) := Lib.hid (fun V hb => toL_yes hl (hD.below hb) hx)
  obtain ⟨i0, hi0, hz0, hz1, hz2⟩ := loInf
  have HR := Lib.hid h
  have HBB := Lib.hid hB
  have HWL := Lib.hid hW
  have HXO := Lib.hid (LO.enc_one x)
  obtain ⟨c, f, t⟩ := x
  unfold LO.enc at HLL HXO
  dsimp only at HXO
  obtain ⟨A1, c1, hu, _⟩ := ownS_form h.ow
  obtain ⟨A2, c2, hv, _⟩ := ownS_form h.ol
  subst hu
  subst hv
  clear h hB hW hD hx hn
  go_enter Tryz.func40, Tryz.ntmps40
  go_upto_region 7 with (first
    | (go_at_call 59; (with_reducible refine hT.mono ?_); rintro e w1 ⟨gk, gi, gx, gp, gh, rfl, hb1⟩; have HB1 := Lib.hid (hb1.alloc hb1.size (.cells #[.int .u8 gk, .int .i64 gi, .int .i64 gx, .int .i64 gp, .bool gh] 42)); have HR1 := Lib.hid ((HR.out.below hb1).below (below_new w1 (.cells #[.int .u8 gk, .int .i64 gi, .int .i64 gx, .int .i64 gp, .bool gh] 42))); have hL := HLL.out _ HB1.out; clear hb1)
    | (go_at_call 60; (with_reducible refine hL.mono ?_); rintro e w2 ⟨rfl, hb2⟩; have HB2 := Lib.hid (HB1.out.trans (hb2.mono HB1.out.size)); have HR2 := Lib.hid (HR1.out.below hb2); clear hb2))
  have HR3 := Lib.hid (HR2.out.below (below_new w2 (.cells #[.int .i64 c, .int .i64 f, .int .i64 t] 46)))
  have HB3 : Hid (Below w.heap.size w (w2.alloc (.cells #[.int .i64 c, .int .i64 f, .int .i64 t] 46))) := Lib.hid (HB2.out.alloc HB2.out.size _)
  obtain ⟨y0, y1, y2⟩ := new3 w2 (.int .i64 c) (.int .i64 f) (.int .i64 t) 46
  generalize w2.alloc (.cells #[.int .i64 c, .int .i64 f, .int .i64 t] 46) = w3 at HR3 HB3 y0 y1 y2 ⊢
  have HRV : Hid (RP B (w3.alloc (.cells #[.int .i64 c, .int .i64 f, .int .i64 t] 46)).drew b _ _ Ws Ls) := Lib.hid ((HR3.out.below (below_new w3 _)).below (Below.refl _ _).drew)
  have HNV : Hid (∀ j q, ([.int .i64 c, .int .i64 f, .int .i64 t] : List Value)[j]? = some q → (w3.alloc (.cells #[.int .i64 c, .int .i64 f, .int .i64 t] 46)).drew.cell? ((⟨w3.heap.size, 0, none⟩ : Addr).add j) = some q) := Lib.hid (new_cells w3 _ _)
  have HBV : Hid (Below B w (w3.alloc (.cells #[.int .i64 c, .int .i64 f, .int .i64 t] 46)).drew) := Lib.hid ((HB3.out.mono HBB.out).alloc (Nat.le_trans HBB.out HB3.out.size) _).drew
  have c1' := HR3.out.c1
  have f1' := HR3.out.f1
  have d0 : (w3.alloc (.cells #[.int .i64 c, .int .i64 f, .int .i64 t] 46)).cell? ⟨b, 1, none⟩ = some _ := HRV.out.c1
  have d1 : (w3.alloc (.cells #[.int .i64 c, .int .i64 f, .int .i64 t] 46)).frozen? ⟨b, 1, none⟩ = false := HRV.out.f1
  go_region_law (first
    | (refine step_append_own_at _ (by rfl) (.tmp 41) (.tmp 43) 23 (by rfl) B 46 i0 _ 3 24 Tryz.underlying23 hi0 hz0 hz1 hz2 (by rfl) (by decide) (.slice A2 Ls.length c2) Ls.length (Ls.flatMap LO.enc) (by rfl) HRV.out.ol (⟨w3.heap.size, 0, none⟩ : Addr) 1 1 [.int .i64 c, .int .i64 f, .int .i64 t] (by rfl) (by rfl) HNV.out HXO.out (by have := HWL.out; unfold maxLen; omega) (by have := HWL.out; omega) (Nat.le_trans HBB.out HBV.out.size) ?_
       intro v' w4 ho4 hg4 hat4; obtain ⟨g4, c4, rfl⟩ := ownsRow_succ ho4; have s0 := kept_cell hg4 HRV.out.lt (fun e => HRV.out.nv e.symm) HRV.out.c1; have s1 := kept_fz hg4 HRV.out.lt (fun e => HRV.out.nv e.symm) HRV.out.f1; have HA := Lib.hid (HRV.out.appL (x := ⟨c, f, t⟩) ho4 hg4 hat4); have HB4 : Hid (Below B w w4) := Lib.hid (HBV.out.grown hg4 (Nat.le_trans HBB.out HBV.out.size) (fun g hg => (World.ownsRow.lt HRV.out.ol g hg).1)); clear ho4 hg4 hat4))
  all_goals go_wp2
  all_goals go_ret
  all_goals exact ⟨rfl, ⟨_, HA.out⟩, below_set HB4.out HR3.out.bB⟩
set_option maxHeartbeats 8000000 in
set_option maxRecDepth 100000 in
/-- No line. -/
theorem addN_any {B : Nat} {w : World} {b : Nat} {u v : Value} {Ws : List WD} {Ls : List LO} (h : RP B w b u v Ws Ls) (hD : DmW w) {l : List UInt8} (hl : l.length ≤ 1000000) (hx : rL l = none) (hn : rW l = none) :
    Calls Tryz.prog 40 #[.pointer (some ⟨b, 0, none⟩), .string ⟨l.toArray⟩] w fun e w' => e = .returned (.bool false) ∧ Below w.heap.size w w' := by
  have hT := toW_no hl hD hn
  have HLL : Hid (∀ V, Below w.heap.size w V → _) := Lib.hid (fun V hb => toL_no hl (hD.below hb) hx)
  have HR := Lib.hid h
  clear h hD hx hn
  go_enter Tryz.func40, Tryz.ntmps40
  go_wp2_with (first
    | (go_at_call 59; (with_reducible refine hT.mono ?_); rintro e w1 ⟨gk, gi, gx, gp, gh, rfl, hb1⟩; have HB1 := Lib.hid (hb1.alloc hb1.size (.cells #[.int .u8 gk, .int .i64 gi, .int .i64 gx, .int .i64 gp, .bool gh] 42)); have HR1 := Lib.hid ((HR.out.below hb1).below (below_new w1 (.cells #[.int .u8 gk, .int .i64 gi, .int .i64 gx, .int .i64 gp, .bool gh] 42))); have hL := HLL.out _ HB1.out; clear hb1)
    | (go_at_call 60; (with_reducible refine hL.mono ?_); rintro e w2 ⟨lc, lf, lt, rfl, hb2⟩; have HB2 := Lib.hid (HB1.out.trans (hb2.mono HB1.out.size)); clear hb2))
  go_ret
  exact ⟨rfl, HB2.out.alloc HB2.out.size _⟩
end Go.Proofs.YtfmpbohiahjafaaGreatDoor
