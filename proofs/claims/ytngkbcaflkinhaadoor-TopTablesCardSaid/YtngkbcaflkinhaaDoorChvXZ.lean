/- Slices that read as numbers, wherever they lie; whether two are one. Charts: All under way: the two rows that grow, their boxes, and the closure's blocks. Charts: All where the map is right: the walk. Charts: All, any. -/
import Derived.Test.YtngkbcaflkinhaaDoorRegAll
import Derived.RegionTactic
import Derived.Laws.NewBlocks
import Derived.Laws.AppendOwn
import Derived.Laws.AppendOwnNone
import Derived.OwnWalk
import Derived.Maps.AppendAt
import Derived.Lib.SliceRun
import Derived.Test.YtngkbcaflkinhaaDoorChvO
import Derived.Test.YtngkbcaflkinhaaDoorChvSU
import Derived.RangeFuncBox
import Derived.Maps.OwnIn
namespace Go.Proofs.YtngkbcaflkinhaaDoor
open Go.RowKit

def idxOf : Value → Nat | .int _ q => q.toNat | _ => 0
/-- A slice that reads as these numbers, wherever it lies. -/
def IdxS (w : World) (v : Value) (L : List Int) : Prop :=
  ∃ A cap, v = .slice A L.length cap ∧ L.length ≤ cap ∧ cap ≤ maxLen ∧ (L = [] ∨ ∃ b off, A = some ⟨b, off, none⟩ ∧ b < w.heap.size ∧ ∀ j, j < L.length → w.cell? ⟨b, off + j, none⟩ = some (.int .i64 (L.getD j 0)))
theorem IdxS.below {B : Nat} {w w' : World} {v : Value} {L : List Int} (k : IdxS w v L) (hb : Below B w w') (hB : w.heap.size ≤ B) : IdxS w' v L := by
  obtain ⟨A, cap, hv, h1, h2, h3⟩ := k
  refine ⟨A, cap, hv, h1, h2, ?_⟩
  rcases h3 with h3 | ⟨b, off, hA, hlt, hc⟩
  · exact .inl h3
  · exact .inr ⟨b, off, hA, Nat.lt_of_lt_of_le hlt hb.size, fun j hj => (hb.cell (p := ⟨b, off + j, none⟩) (by show b < B; omega)).trans (hc j hj)⟩
theorem idxS_of {w : World} {base n : Nat} {v : Value} {L : List Int} {t : TypeId} (h : w.ownsRow base t 1 v n (L.map (Value.int .i64))) : IdxS w v L := by
  obtain ⟨hl, h⟩ := h
  rw [List.length_map, Nat.mul_one] at hl
  subst hl
  rcases h with ⟨rfl, h0⟩ | ⟨g, cap, cur, rfl, hg, hh, hn, hm, hs, ht⟩
  · exact ⟨none, 0, by rw [h0], by omega, by unfold maxLen; omega, .inl (List.eq_nil_of_length_eq_zero h0)⟩
  · refine ⟨_, cap, rfl, hn, hm, .inr ⟨g, 0, rfl, (Array.getElem?_eq_some_iff.1 hh).1, fun j hj => ?_⟩⟩
    rw [Nat.mul_one] at ht
    rw [Nat.zero_add, cell_of_row w g j cur t (0, 0) hh]
    have h1 : (L.map (Value.int .i64))[j]? = some (.int .i64 (L.getD j 0)) := by rw [List.getElem?_map, List.getD, List.getElem?_eq_getElem hj]; rfl
    rw [← ht, List.getElem?_take, if_pos hj] at h1
    rw [← h1]; simp
theorem infoIn : (Tryd.prog.info? 3).map (fun i => (i.zero, i.size, i.bytes)) = some (some (.int .i64 0), 1, 8) := by kernel_rfl
theorem one_cell (W : World) (x : Int) (t : TypeId) : ∀ j u, ([.int .i64 x] : List Value)[j]? = some u → (W.alloc (.cells #[.int .i64 x] t)).cell? ((⟨W.heap.size, 0, none⟩ : Addr).add j) = some u := by
  intro j u hj
  have e : ((⟨W.heap.size, 0, none⟩ : Addr).add j) = ⟨W.heap.size, j, none⟩ := by unfold Addr.add; split <;> simp_all
  rw [e, cell_of_row _ _ _ #[.int .i64 x] t (0, 0) (heap_alloc_new W _)]
  simpa using hj
end Go.Proofs.YtngkbcaflkinhaaDoor
namespace Go.Proofs.YtngkbcaflkinhaaDoor
open Go.RowKit

def BL (E : Nat) (T : List TB) (k : Nat) : List Int := ((fr true (fullQ E T)).take k).map (blkF E T)
def EL (E : Nat) (T : List TB) (k : Nat) : List EN := ((fr true (fullQ E T)).take k).map (entF E T)
section
variable {E : Nat} {T : List TB} {k : Nat}
theorem BL_len (h : k ≤ numF E T) : (BL E T k).length = k := by
  unfold BL; rw [List.length_map, List.length_take]; exact Nat.min_eq_left h
theorem EL_len (h : k ≤ numF E T) : (EL E T k).length = k := by
  unfold EL; rw [List.length_map, List.length_take]; exact Nat.min_eq_left h
theorem fr_snoc (h : k < numF E T) : (fr true (fullQ E T)).take (k + 1) = (fr true (fullQ E T)).take k ++ [posF E T k] := by
  have hlt : k < (fr true (fullQ E T)).length := h
  rw [List.take_succ_eq_append_getElem hlt]
  unfold posF
  rw [List.getD, List.getElem?_eq_getElem hlt]; rfl
theorem BL_succ (h : k < numF E T) : BL E T (k + 1) = BL E T k ++ [blkF E T (posF E T k)] := by
  unfold BL; rw [fr_snoc h, List.map_append]; rfl
theorem EL_succ (h : k < numF E T) : EL E T (k + 1) = EL E T k ++ [entF E T (posF E T k)] := by
  unfold EL; rw [fr_snoc h, List.map_append]; rfl
end
theorem own_cellsX {W : World} {B s n : Nat} {e : TypeId} {u : Value} {xs : List Value} (h : W.ownsRow B e s u n xs) {j : Nat} {o : Obj} (hj : u.ownBlock = some j) (ho : W.heap[j]? = some o) : o.isCells = true := by
  rcases h.2 with ⟨rfl, _⟩ | ⟨g, cap, cur, rfl, _, hgb, _⟩
  · simp [Value.ownBlock] at hj
  · obtain rfl : g = j := by simpa [Value.ownBlock] using hj
    rw [hgb] at ho; cases ho; rfl
theorem own_apart {W : World} {B s n B' s' n' : Nat} {e e' : TypeId} {u u' : Value} {xs xs' : List Value} (h : W.ownsRow B e s u n xs) (h' : W.ownsRow B' e' s' u' n' xs') (ne : e ≠ e') : u.ownBlock = none ∨ u.ownBlock ≠ u'.ownBlock := by
  rcases h.2 with ⟨rfl, _⟩ | ⟨g, cap, cur, rfl, _, hgb, _⟩
  · exact .inl rfl
  · refine .inr fun eq => ?_
    rcases h'.2 with ⟨rfl, _⟩ | ⟨g', cap', cur', rfl, _, hgb', _⟩
    · simp [Value.ownBlock] at eq
    · obtain rfl : g = g' := by simpa [Value.ownBlock] using eq
      rw [hgb] at hgb'
      injection hgb' with e1
      injection e1 with _ e2 _
      exact ne e2
/-- A box that holds a row that grows, away from the closure's blocks. -/
structure GW (W : World) (B b : Nat) (t e : TypeId) (s n : Nat) (X : List (Nat × Obj)) (xs : List Value) (u : Value) : Prop where
  bx : Boxed W b t u
  own : W.ownsRow B e s u n xs
  av : ∀ p ∈ X, u.ownBlock ≠ some p.1
  hb : b < B
section
variable {W w1 W' : World} {B b s n m : Nat} {t e : TypeId} {X : List (Nat × Obj)} {xs ys : List Value} {u u' : Value} {tmp : Obj}
theorem GW.kept {row : Option Nat} (h : GW W B b t e s n X xs u) (hg : W.grownBy W' row) (hr : ∀ r, row = some r → B ≤ r ∧ ∃ o : Obj, W.heap[r]? = some o ∧ o.isCells = false) : GW W' B b t e s n X xs u := by
  refine ⟨h.bx.kept hg (fun q => by have := (hr _ q.symm).1; have := h.hb; omega), h.own.kept hg ?_, h.av, h.hb⟩
  cases hu : u.ownBlock with
  | none => exact .inl rfl
  | some g =>
    refine .inr fun q => ?_
    obtain ⟨_, o, ho, hc⟩ := hr g q.symm
    rw [own_cellsX h.own hu ho] at hc; cases hc
theorem GW.add (h : GW W B b t e s n X xs u) (o : Obj) : GW (W.alloc o) B b t e s n ((W.heap.size, o) :: X) xs u :=
  ⟨h.bx.alloc o, h.own.alloc o, fun p hp q => by
    rcases List.mem_cons.1 hp with rfl | hp
    · have := (h.own.lt _ q).2; simp at this
    · exact h.av p hp q, h.hb⟩
theorem GW.drew (h : GW W B b t e s n X xs u) : GW W.drew B b t e s n X xs u := ⟨h.bx, h.own, h.av, h.hb⟩
/-- Behind an append: the box still holds what it held. -/
theorem GW.mid (h : GW W B b t e s n X xs u) (hgrow : (W.alloc tmp).grownBy w1 u.ownBlock) : Boxed w1 b t u :=
  (h.bx.alloc tmp).kept hgrow (fun q => by have := (h.own.lt _ q.symm).1; have := h.hb; omega)
theorem GW.app (h : GW W B b t e s n X xs u) (hX : KX B X W) (hown' : w1.ownsRow B e s u' m ys) (hgrow : (W.alloc tmp).grownBy w1 u.ownBlock) (hob : u'.ownBlock = u.ownBlock ∨ u'.ownBlock = some (W.alloc tmp).heap.size) : GW (w1.setCell ⟨b, 0, none⟩ u') B b t e s m X ys u' := by
  refine ⟨(h.mid hgrow).set u', hown'.kept (grownBy_setCell' w1 b u') ?_, fun p hp q => ?_, h.hb⟩
  · cases hu : u'.ownBlock with
    | none => exact .inl rfl
    | some g => exact .inr fun q => by injection q with q; have := (hown'.lt _ hu).1; have := h.hb; omega
  · rcases hob with e1 | e1
    · exact h.av p hp (e1.symm.trans q)
    · rw [e1] at q; injection q with q; have := hX.lt hp; simp at q; omega
theorem GW.keep (h : GW W B b t e s n X xs u) (hgrow : (W.alloc tmp).grownBy w1 u.ownBlock) : KeepsFrom B W (w1.setCell ⟨b, 0, none⟩ u') :=
  (((KeepsOthers.alloc W tmp).trans (KeepsOthers.of_grownBy hgrow fun _ _ ej hj => own_cellsX (h.own.alloc tmp) ej hj)).trans (KeepsOthers.setCell _ _ _)).from B
theorem GW.keepX (h : GW W B b t e s n X xs u) (hX : KX B X W) (hgrow : (W.alloc tmp).grownBy w1 u.ownBlock) : KX B X (w1.setCell ⟨b, 0, none⟩ u') := by
  have h1 : KX B X (W.alloc tmp) := hX.grown (World.grownBy_alloc W tmp none) (fun p _ q => by cases q)
  have h2 : KX B X w1 := h1.grown hgrow h.av
  exact h2.grown (grownBy_setCell' w1 b u') (fun p hp q => by injection q with q; have := (hX p hp).2.1; have := h.hb; omega)
theorem GW.other {b2 s2 n2 : Nat} {t2 e2 : TypeId} {xs2 : List Value} {v : Value} (h : GW W B b t e s n X xs u) (h2 : GW W B b2 t2 e2 s2 n2 X xs2 v) (ne : e2 ≠ e) (nb : b2 ≠ b) (hgrow : (W.alloc tmp).grownBy w1 u.ownBlock) : GW (w1.setCell ⟨b, 0, none⟩ u') B b2 t2 e2 s2 n2 X xs2 v := by
  have k1 : GW (W.alloc tmp) B b2 t2 e2 s2 n2 X xs2 v := ⟨h2.bx.alloc tmp, h2.own.alloc tmp, h2.av, h2.hb⟩
  have k2 : GW w1 B b2 t2 e2 s2 n2 X xs2 v := ⟨k1.bx.kept hgrow (fun q => by have := (h.own.lt _ q.symm).1; have := h2.hb; omega), k1.own.kept hgrow (own_apart h2.own h.own ne), k1.av, k1.hb⟩
  refine ⟨k2.bx.kept (grownBy_setCell' w1 b u') (fun q => by injection q with q; exact nb q), k2.own.kept (grownBy_setCell' w1 b u') ?_, k2.av, k2.hb⟩
  cases hu : v.ownBlock with
  | none => exact .inl rfl
  | some g => exact .inr fun q => by injection q with q; have := (k2.own.lt _ hu).1; have := h.hb; omega
theorem GW.ap {S : Nat → Prop} {w5 : World} (h : GW W B b t e s n X xs u) (hB : w5.heap.size ≤ B) (ha : Ap S w5 W) (hS : S b) (hgrow : (W.alloc tmp).grownBy w1 u.ownBlock) : Ap S w5 (w1.setCell ⟨b, 0, none⟩ u') :=
  ((ha.alloc tmp).grown hgrow (fun _ hg => .inr (Nat.le_trans hB (h.own.lt _ hg).1))).setCell (p := ⟨b, 0, none⟩) (.inl hS) u'
end
/-- All under way. -/
structure AI (w5 W : World) (b8 b9 : Nat) (X : List (Nat × Obj)) (K : List Int) (L : List EN) : Prop where
  ap : Ap (fun q => q = b8 ∨ q = b9) w5 W
  ne : b8 < b9
  kx : KX w5.heap.size X W
  r8 : ∃ u, GW W w5.heap.size b8 50 3 1 K.length X (K.map (Value.int .i64)) u
  r9 : ∃ u, GW W w5.heap.size b9 40 38 4 L.length X (eCells L) u
theorem AI.own {w5 W W' : World} {b8 b9 : Nat} {X : List (Nat × Obj)} {K : List Int} {L : List EN} {row : Option Nat} (h : AI w5 W b8 b9 X K L) (hg : W.grownBy W' row) (hr : ∀ r, row = some r → w5.heap.size ≤ r ∧ ∃ o : Obj, W.heap[r]? = some o ∧ o.isCells = false) : AI w5 W' b8 b9 X K L := by
  obtain ⟨u, hu⟩ := h.r8
  obtain ⟨v, hv⟩ := h.r9
  exact ⟨h.ap.grown hg (fun r e => .inr (hr r e).1), h.ne, h.kx.own hg hr, ⟨u, hu.kept hg hr⟩, ⟨v, hv.kept hg hr⟩⟩
theorem AI.add {w5 W : World} {b8 b9 : Nat} {X : List (Nat × Obj)} {K : List Int} {L : List EN} {o : Obj} (h : AI w5 W b8 b9 X K L) (ho : o.isCells = true) : AI w5 (W.alloc o) b8 b9 ((W.heap.size, o) :: X) K L := by
  obtain ⟨u, hu⟩ := h.r8
  obtain ⟨v, hv⟩ := h.r9
  exact ⟨h.ap.alloc o, h.ne, h.kx.add ho h.ap.size, ⟨u, hu.add o⟩, ⟨v, hv.add o⟩⟩
theorem AI.drew {w5 W : World} {b8 b9 : Nat} {X : List (Nat × Obj)} {K : List Int} {L : List EN} (h : AI w5 W b8 b9 X K L) : AI w5 W.drew b8 b9 X K L := by
  obtain ⟨u, hu⟩ := h.r8
  obtain ⟨v, hv⟩ := h.r9
  exact ⟨h.ap.drew, h.ne, h.kx, ⟨u, hu.drew⟩, ⟨v, hv.drew⟩⟩
theorem AI.app8 {w5 W w1 : World} {b8 b9 : Nat} {X : List (Nat × Obj)} {K : List Int} {L : List EN} {x : Int} {u u' : Value} {tmp : Obj} (h : AI w5 W b8 b9 X K L) (hu : GW W w5.heap.size b8 50 3 1 K.length X (K.map (Value.int .i64)) u)
    (hown' : w1.ownsRow w5.heap.size 3 1 u' (K.length + 1) (K.map (Value.int .i64) ++ [.int .i64 x])) (hgrow : (W.alloc tmp).grownBy w1 u.ownBlock) (hob : u'.ownBlock = u.ownBlock ∨ u'.ownBlock = some (W.alloc tmp).heap.size) : AI w5 (w1.setCell ⟨b8, 0, none⟩ u') b8 b9 X (K ++ [x]) L ∧ KeepsFrom w5.heap.size W (w1.setCell ⟨b8, 0, none⟩ u') := by
  obtain ⟨v, hv⟩ := h.r9
  have hne := h.ne
  refine ⟨⟨hu.ap (Nat.le_refl _) h.ap (.inl rfl) hgrow, h.ne, hu.keepX h.kx hgrow, ⟨u', ?_⟩, ⟨v, hu.other hv (by decide) (by omega) hgrow⟩⟩, hu.keep hgrow⟩
  have k := hu.app h.kx hown' hgrow hob
  rw [List.length_append, List.map_append]
  exact k
theorem AI.app9 {w5 W w1 : World} {b8 b9 : Nat} {X : List (Nat × Obj)} {K : List Int} {L : List EN} {x : EN} {u u' : Value} {tmp : Obj} (h : AI w5 W b8 b9 X K L) (hu : GW W w5.heap.size b9 40 38 4 L.length X (eCells L) u)
    (hown' : w1.ownsRow w5.heap.size 38 4 u' (L.length + 1) (eCells L ++ [.int .u8 x.kind, .int .i64 x.st, .int .i64 x.mb, .int .i64 x.fr])) (hgrow : (W.alloc tmp).grownBy w1 u.ownBlock) (hob : u'.ownBlock = u.ownBlock ∨ u'.ownBlock = some (W.alloc tmp).heap.size) : AI w5 (w1.setCell ⟨b9, 0, none⟩ u') b8 b9 X K (L ++ [x]) ∧ KeepsFrom w5.heap.size W (w1.setCell ⟨b9, 0, none⟩ u') := by
  obtain ⟨v, hv⟩ := h.r8
  have hne := h.ne
  refine ⟨⟨hu.ap (Nat.le_refl _) h.ap (.inr rfl) hgrow, h.ne, hu.keepX h.kx hgrow, ⟨v, hu.other hv (by decide) (by omega) hgrow⟩, ⟨u', ?_⟩⟩, hu.keep hgrow⟩
  have k := hu.app h.kx hown' hgrow hob
  rw [List.length_append, eCells_snoc]
  exact k
/-- An append in a region that draws its order. -/
theorem opIn_append_own_at {F : Fence} {nF : Nat} {P : Program} {ops : Array Oper} {o : Oper} {a : Act} {K : Act → World → Prop} {Q : Exit → Act → World → Prop} {E : Prop} (w : World) (hgd : o.guard = none) (s x : Operand) (t : TypeId)
    (ho : o.op = .call { callee := .builtin .append, args := #[s, x], argTypes := #[t, t] })
    (base : Nat) (e : TypeId) (i : TypeInfo) (z : Value) (size bytes : Nat) (ht : P.underlying t = some (.slice e)) (hi : P.info? e = some i) (hz : i.zero = some z)
    (hsize : i.size = size) (hby : i.bytes = bytes) (hzs : z.cells.size = size) (hsz : 0 < size)
    (v : Value) (n : Nat) (xs : List Value) (hs : a.eval s = v) (hown : w.ownsRow base e size v n xs)
    (ad : Addr) (m c : Nat) (news : List Value) (hx : a.eval x = .slice (some ad) m c) (hl : news.length = m * size) (hnews : ∀ j u, news[j]? = some u → w.cell? (ad.add j) = some u) (h1 : ∀ u ∈ news, u.oneCell' = true)
    (h63 : n + m ≤ maxLen) (hbytes : (n + m) * bytes ≤ 140737488355328) (hbase : base ≤ w.heap.size)
    (h : ∀ v' w', w'.ownsRow base e size v' (n + m) (xs ++ news) → w.grownBy w' v.ownBlock → (v'.ownBlock = v.ownBlock ∨ v'.ownBlock = some w.heap.size) → K (a.put o.dst v') w') : if Region.wanted o (yielded ops a.tmps) = true then Oper.wpIn F nF P o a w K Q else E := by
  have hw : Region.wanted o (yielded ops a.tmps) = true := by simp [Region.wanted, hgd]
  rw [if_pos hw]
  obtain ⟨v', w', hr, h2, h3, h4, h5⟩ := run_append_own_at (P := P) w base t o.type e i z size bytes ht hi hz hsize hby hzs hsz v n xs hown ad m c news hl hnews h1 h63 hbytes hbase
  unfold Oper.wpIn
  refine ⟨by simp [Oper.about, ho, resolve, Target.leads, Sem.run_pure], ?_⟩
  rw [Oper.semAt_plain F _ _ (by rw [ho]; intro c hc'; cases hc')]
  simp [execOp, ho, resolve, invoke, builtin, hs, hx, hr, Result.andThen]
  exact h v' w' h2 h3 h5
end Go.Proofs.YtngkbcaflkinhaaDoor
namespace Go.Proofs.YtngkbcaflkinhaaDoor
open Go.RowKit Go.Shelf
attribute [local go_sem] Oper.semAt_some

def fullL (E BN : Nat) (T : List TB) : List Nat := (List.range BN).filter (fun b => fullB (lookM E T b))
def blocksC (E BN : Nat) (T : List TB) : List Int := (fullL E BN T).map (fun b : Nat => (b : Int))
def entsC (E BN : Nat) (T : List TB) : List EN := (fullL E BN T).map (lookM E T)
theorem BL_done {E BN : Nat} {T : List TB} (h : COk E BN T) : BL E T (numF E T) = blocksC E BN T := by
  unfold BL blocksC fullL numF
  rw [List.take_of_length_le (Nat.le_refl _), ← told_list h, List.map_map]
  refine List.map_congr_left fun p hp => ?_
  have hp' : p ∈ frI true (fullQ E T) (fullQ E T).length := hp
  obtain ⟨a, _⟩ := frI_mem.1 hp'
  rw [fullQ_len] at a
  exact blkN_int h a
theorem EL_done {E BN : Nat} {T : List TB} (h : COk E BN T) : EL E T (numF E T) = entsC E BN T := by
  unfold EL entsC fullL numF
  rw [List.take_of_length_le (Nat.le_refl _), told_ents h]
theorem posF_lt {E : Nat} {T : List TB} {k : Nat} (hk : k < numF E T) : posF E T k < T.length * E := by
  have hlt : k < (fr true (fullQ E T)).length := hk
  have hm : posF E T k ∈ fr true (fullQ E T) := by
    unfold posF; rw [List.getD, List.getElem?_eq_getElem hlt]; exact List.getElem_mem _
  obtain ⟨h1, _⟩ := frI_mem.1 hm
  rw [fullQ_len] at h1
  exact h1
/-- Where the tables and the entries of a map that is only read lie. -/
structure LayAt (w : World) (E : Nat) (T : List TB) (A : Option Addr) (cap : Nat) (L : Lay) : Prop where
  hA : L.AT = A ∧ L.cap = cap
  hc : T.length ≤ L.cap ∧ L.cap ≤ maxLen
  hcc : ∀ j, j < T.length → E ≤ L.c j ∧ L.c j ≤ maxLen
  tb : T.length ≠ 0 → L.AT = some ⟨L.gt, L.ot, none⟩ ∧ L.gt < w.heap.size
  ce : ∀ j, j < T.length → w.cell? ⟨L.gt, L.ot + j * 2, none⟩ = some (.int .i64 (T.getD j TB.zero).at') ∧ w.cell? ⟨L.gt, L.ot + j * 2 + 1, none⟩ = some (.slice (some ⟨L.g j, L.o j, none⟩) E (L.c j))
  en : ∀ j, j < T.length → L.g j < w.heap.size ∧ ∀ i, i < E → EntAt w (L.g j) (L.o j + i * 4) ((T.getD j TB.zero).l.getD i EN.zero)
theorem lay_of {E BN : Nat} {T : List TB} {v : Value} {w : World} (hv : TabsS w v T) (hOK : COk E BN T) : ∃ A cap L, v = .slice A T.length cap ∧ LayAt w E T A cap L := by
  obtain ⟨A, cap, rfl, h1, h2, h3⟩ := hv
  rcases h3 with rfl | ⟨b, off, rfl, hb, hc⟩
  · exact ⟨A, cap, ⟨A, cap, 0, 0, fun _ => 0, fun _ => 0, fun _ => 0⟩, rfl, ⟨rfl, rfl⟩, ⟨h1, h2⟩, fun j hj => absurd hj (by simp), fun h => absurd rfl h, fun j hj => absurd hj (by simp), fun j hj => absurd hj (by simp)⟩
  · have hx : ∀ j, ∃ p : Nat × Nat × Nat, j < T.length → (E ≤ p.2.2 ∧ p.2.2 ≤ maxLen) ∧ w.cell? ⟨b, off + j * 2 + 1, none⟩ = some (.slice (some ⟨p.1, p.2.1, none⟩) E p.2.2) ∧ w.cell? ⟨b, off + j * 2, none⟩ = some (.int .i64 (T.getD j TB.zero).at') ∧ p.1 < w.heap.size ∧ ∀ i, i < E → EntAt w p.1 (p.2.1 + i * 4) ((T.getD j TB.zero).l.getD i EN.zero) := fun j => by
      by_cases hj : j < T.length
      · obtain ⟨u, c0, c1, A', cap', rfl, k1, k2, k3⟩ := hc j hj
        have hl := hOK.lens j hj
        have he := hOK.e1
        obtain ⟨g, o, rfl, hg, hcc⟩ := k3.resolve_left (by intro e; rw [e] at hl; simp at hl; omega)
        rw [hl] at c1 k1
        exact ⟨⟨g, o, cap'⟩, fun _ => ⟨⟨k1, k2⟩, c1, c0, hg, fun i hi => hcc i (by rw [hl]; exact hi)⟩⟩
      · exact ⟨⟨0, 0, 0⟩, fun h => absurd h hj⟩
    obtain ⟨f, hf⟩ := Classical.axiomOfChoice hx
    exact ⟨_, cap, ⟨_, cap, b, off, fun j => (f j).1, fun j => (f j).2.1, fun j => (f j).2.2⟩, rfl, ⟨rfl, rfl⟩, ⟨h1, h2⟩, fun j hj => (hf j hj).1, fun _ => ⟨rfl, hb⟩, fun j hj => ⟨(hf j hj).2.2.1, (hf j hj).2.1⟩, fun j hj => (hf j hj).2.2.2⟩
theorem LayAt.tr {w W : World} {E : Nat} {T : List TB} {A : Option Addr} {cap : Nat} {L : Lay} (h : LayAt w E T A cap L) (hb : Below w.heap.size w W) {bc be : Nat} (cb : W.cell? ⟨bc, 1, none⟩ = some (.slice A T.length cap)) (eb : W.cell? ⟨be, 0, none⟩ = some (.int .i64 (E : Int))) (k : Nat) : TR W E T bc be L k := by
  refine ⟨by rw [h.hA.1, h.hA.2]; exact cb, eb, fun hn => (h.tb hn).1, fun j hj => ?_, fun j hj i hi _ => ?_⟩
  · have hg := (h.tb (by omega)).2
    obtain ⟨c0, c1⟩ := h.ce j hj
    exact ⟨(hb.cell (p := ⟨_, _, none⟩) hg).trans c0, (hb.cell (p := ⟨_, _, none⟩) hg).trans c1⟩
  · obtain ⟨hg, he⟩ := h.en j hj
    exact (he i hi).below hb hg
theorem LayAt.at {w W : World} {E : Nat} {T : List TB} {A : Option Addr} {cap : Nat} {L : Lay} (h : LayAt w E T A cap L) (hE : 1 ≤ E) (hb : Below w.heap.size w W) {p : Nat} (hp : p < T.length * E) : L.g (p / E) < w.heap.size ∧ EntAt W (L.g (p / E)) (L.o (p / E) + (p % E) * 4) (entF E T p) := by
  obtain ⟨hg, he⟩ := h.en (p / E) ((Nat.div_lt_iff_lt_mul hE).2 hp)
  exact ⟨hg, (he _ (Nat.mod_lt p hE)).below hb hg⟩
theorem AI.start {w5 : World} {b8 b9 : Nat} (h8 : Boxed w5 b8 50 (.slice none 0 0)) (h9 : Boxed w5 b9 40 (.slice none 0 0)) (hn : b8 < b9) : AI w5 w5 b8 b9 [] [] [] :=
  ⟨Ap.refl _, hn, KX.nil _ _, ⟨_, h8, World.ownsRow_nil _ _ _ _, fun _ h => (by cases h), h8.lt⟩, ⟨_, h9, World.ownsRow_nil _ _ _ _, fun _ h => (by cases h), h9.lt⟩⟩
/-- What is read in a round beside the rows. -/
structure AR (w w5 : World) (b8 b9 bc be : Nat) (BN : Int) (E : Nat) (v : Value) : Prop where
  bl : Below w.heap.size w w5
  hb : w.heap.size ≤ b8 ∧ b8 < b9 ∧ b9 < be ∧ be < w5.heap.size ∧ b9 < bc ∧ bc < w5.heap.size
  cb : w5.cell? ⟨bc, 1, none⟩ = some v
  eb : w5.cell? ⟨be, 0, none⟩ = some (.int .i64 (E : Int))
theorem AR.low {w w5 W : World} {b8 b9 bc be : Nat} {BN : Int} {E : Nat} {v : Value} (h : AR w w5 b8 b9 bc be BN E v) (a : Ap (fun q => q = b8 ∨ q = b9) w5 W) : Below w.heap.size w W ∧ W.cell? ⟨bc, 1, none⟩ = some v ∧ W.cell? ⟨be, 0, none⟩ = some (.int .i64 (E : Int)) := by
  obtain ⟨h1, h2, h3, h4, h5, h6⟩ := h.hb
  exact ⟨h.bl.trans (a.below h.bl.size (fun q e => by omega)), (a.cell h6 (by omega) _).trans h.cb, (a.cell h4 (by omega) _).trans h.eb⟩
theorem AR.start {w w4 : World} {b8 b9 : Nat} {BN : Int} {E : Nat} {v : Value} (h : Below w.heap.size w w4) (h1 : w.heap.size ≤ b8) (h2 : b8 < b9) (h3 : b9 < w4.heap.size) : AR w ((w4.alloc (.cells #[.int .i64 (E : Int)] 3)).alloc (.cells #[.int .i64 BN, v] 27)) b8 b9 (w4.heap.size + 1) w4.heap.size BN E v := by
  have hs := h.size
  have k1 : (w4.alloc (.cells #[.int .i64 (E : Int)] 3)).cell? ⟨w4.heap.size, 0, none⟩ = some (.int .i64 (E : Int)) := (cell_of_row _ _ 0 #[.int .i64 (E : Int)] _ (0, 0) (heap_alloc_new w4 _)).trans rfl
  have k2 := (B2.new (w4.alloc (.cells #[.int .i64 (E : Int)] 3)) (.int .i64 BN) v 27).c1
  rw [World.size_alloc] at k2
  have hb := below1 (w4.alloc (.cells #[.int .i64 (E : Int)] 3)) (.cells #[.int .i64 BN, v] 27)
  have k3 := (hb.cell (p := ⟨w4.heap.size, 0, none⟩) (by show w4.heap.size < _; simp)).trans k1
  exact ⟨(h.alloc hs _).alloc (by simp; omega) _, ⟨h1, h2, h3, by simp; omega, by omega, by simp⟩, k2, k3⟩
set_option maxRecDepth 100000 in
set_option maxHeartbeats 16000000 in
theorem chtAll_yes (E BN : Nat) (T : List TB) (v : Value) (w : World) (hv : TabsS w v T) (hOK : COk E BN T) (hok : okB (E : Int) ⟨(BN : Int), T⟩ = true) :
    Calls Tryd.prog 13 #[.int .i64 (E : Int), .agg #[.int .i64 (BN : Int), v]] w fun e' w' => ∃ a b, e' = .returned (.tuple #[a, b, .int .i64 0]) ∧ IdxS w' a (blocksC E BN T) ∧ EntsS w' b (entsC E BN T) ∧ Below w.heap.size w w' := by
  refine (callsIn_wide (n := 12)).1 ?_
  have hf0 : Fence.wide.fn 13 := trivial
  have hf1 : Fence.wide.fn 6 := trivial
  have hf4 : Fence.wide.fn 26 := trivial
  have hC := fun W h => chtCheck_any (E : Int) (BN : Int) T v W h
  unfold chtE at hC
  rw [hok, if_pos rfl] at hC
  have hC' := fun W h j => (callsIn_wide (n := j)).2 (hC W h)
  have HOK := Lib.hid hOK
  obtain ⟨A, cap, L, hvv, hL⟩ := lay_of hv hOK
  subst hvv
  have HL := Lib.hid hL
  have HB0 := Lib.hid (below1 w (.cells #[.int .i64 (BN : Int), .slice A T.length cap] 27))
  have HX0 := Lib.hid (B2.new w (.int .i64 (BN : Int)) (.slice A T.length cap) 27)
  have HV0 := Lib.hid (hv.below HB0.out)
  clear hv hOK hok hC hL
  refine callsIn_of_wp_marks Tryd.func13 rfl hf0 ?_ rfl
  simp only [Tryd.ntmps13, List.size_toArray, List.length_cons, List.length_nil, Nat.reduceAdd, Nat.reduceSub, Array.replicate_succ, Array.replicate_zero, List.push_toArray, List.append_toArray, List.nil_append, List.cons_append]
  gi_wp2_with (gi_at_call 6; refine (hC' _ HV0.out _).mono ?_; rintro e w1 ⟨rfl, hb1⟩; have HB1 := Lib.hid (HB0.out.trans (hb1.mono (by simp))); have HX1 := Lib.hid (HX0.out.below hb1); have HS1 : Hid (w.heap.size + 1 ≤ w1.heap.size) := Lib.hid (by have := hb1.size; simpa using this); clear hb1; have HX2 := Lib.hid ((HX1.out.below (below1 w1 (.cells #[.slice none 0 0] 50))).below (below1 _ (.cells #[.slice none 0 0] 40))); (obtain ⟨_, y0, y1, _, _⟩ := HX1.out); (obtain ⟨_, x0, x1, _, _⟩ := HX2.out))
  have hs1 := HS1.out
  have H8 := Lib.hid ((Boxed.new w1 50 (.slice none 0 0)).alloc (.cells #[.slice none 0 0] 40))
  have h9 := Boxed.new (w1.alloc (.cells #[.slice none 0 0] 50)) 40 (.slice none 0 0)
  rw [World.size_alloc] at h9
  have H9 := Lib.hid h9
  have HB4 := Lib.hid ((HB1.out.trans ((below1 w1 (.cells #[.slice none 0 0] 50)).mono HB1.out.size)).trans ((below1 _ (.cells #[.slice none 0 0] 40)).mono (by have := HB1.out.size; simp; omega)))
  have HS4 : Hid (((w1.alloc (.cells #[.slice none 0 0] 50)).alloc (.cells #[.slice none 0 0] 40)).heap.size = w1.heap.size + 2) := Lib.hid (by simp)
  clear h9 y0 y1 HX1 HX2 HX0 HV0 HB0 HB1 hs1
  generalize (w1.alloc (.cells #[.slice none 0 0] 50)).alloc (.cells #[.slice none 0 0] 40) = w4 at H8 H9 HB4 HS4 x0 x1 ⊢
  have HN8 : Hid (w.heap.size ≤ w1.heap.size ∧ w1.heap.size < w1.heap.size + 1 ∧ w1.heap.size + 1 < w4.heap.size) := Lib.hid (by have := HS1.out; have := HS4.out; omega)
  clear HS1 HS4
  generalize w1.heap.size + 1 = b9 at H9 HN8 ⊢
  generalize w1.heap.size = b8 at H8 HN8 ⊢
  refine ((callsIn_wide (n := _)).2 (told_any E (BN : Int) (.slice A T.length cap) w4 ⟨_, _, _, rfl⟩)).mono ?_
  rintro e w5 ⟨rfl, hw5⟩
  have H85 := Lib.hid ((H8.out.alloc (.cells #[.int .i64 (E : Int)] 3)).alloc (.cells #[.int .i64 (BN : Int), .slice A T.length cap] 27))
  have H95 := Lib.hid ((H9.out.alloc (.cells #[.int .i64 (E : Int)] 3)).alloc (.cells #[.int .i64 (BN : Int), .slice A T.length cap] 27))
  have HAR := Lib.hid (AR.start (E := E) (BN := (BN : Int)) (v := .slice A T.length cap) HB4.out HN8.out.1 HN8.out.2.1 HN8.out.2.2)
  rw [← hw5] at H85 H95 HAR
  have HW5 := Lib.hid hw5
  clear hw5 x0 x1
  gi_wp2
  have HTL := told_tells 11 (by omega) E BN T (w4.heap.size + 1) w4.heap.size L HOK.out HL.out.hc HL.out.hcc w5
  have HLO := Lib.hid (fun (W : World) (a : Ap (fun q => q = b8 ∨ q = b9) w5 W) => HAR.out.low a)
  refine wpIn_range_ox rfl (by omega) (gf := 48) (lb := #[.pointer (some ⟨w4.heap.size + 1, 0, none⟩), .pointer (some ⟨w4.heap.size, 0, none⟩)]) (by simp [go_sem]) trivial (enters_of Tryd.func48 (by kernel_rfl) rfl) (encs := encsF E T L.g L.o) (fun _ => rfl) HTL
    (fun X k W => AI w5 W b8 b9 X (BL E T k) (EL E T k))
    (fun X k W W' row hs hg hr => hs.own hg hr)
    (fun X k A' o hs ho hsz => hs.add ho)
    (fun X k A' b o hs hm => (hs.kx _ hm).2.2)
    (fun X k A' hs => by obtain ⟨h1, h2, h3⟩ := HLO.out _ hs.ap; exact HL.out.tr h1 h2 h3 k)
    (AI.start H85.out H95.out HN8.out.2.1) ?a1 ?assign ?body ?done
  case assign =>
    intro l k W K hK
    unfold encsF
    gi_wp2
    exact hK
  case body =>
    rintro l X k W hAI hk hsz
    have hg := (HL.out.at HOK.out.e1 (HLO.out _ hAI.ap).1 (posF_lt hk)).1
    have HENT : Hid (∀ W', Ap (fun q => q = b8 ∨ q = b9) w5 W' → EntAt W' (L.g (posF E T k / E)) (L.o (posF E T k / E) + posF E T k % E * 4) (entF E T (posF E T k))) := Lib.hid (fun W' a => (HL.out.at HOK.out.e1 (HLO.out _ a).1 (posF_lt hk)).2)
    have hkl := numF_le E T
    have HLE : Hid (k < 65536 * 8192) := Lib.hid (by have := HOK.out.len; have := HOK.out.e2; have : T.length * E ≤ 65536 * 8192 := Nat.mul_le_mul ‹_› ‹_›; omega)
    have HK1 := Lib.hid (BL_succ hk)
    have HK2 := Lib.hid (EL_succ hk)
    have hl1 := BL_len (E := E) (T := T) (Nat.le_of_lt hk)
    have hl2 := EL_len (E := E) (T := T) (Nat.le_of_lt hk)
    obtain ⟨K, hK⟩ : ∃ K, K = BL E T k := ⟨_, rfl⟩
    obtain ⟨M, hM⟩ : ∃ M, M = EL E T k := ⟨_, rfl⟩
    rw [← hK] at HK1 hl1 hAI
    rw [← hM] at HK2 hl2 hAI
    clear hK hM hkl hsz
    have HGL := Lib.hid (Nat.lt_of_lt_of_le hg (Nat.le_trans HN8.out.1 (Nat.le_refl _)))
    clear hg
    generalize blkF E T (posF E T k) = bb at HK1 ⊢
    generalize L.g (posF E T k / E) = g at HGL HENT ⊢
    generalize L.o (posF E T k / E) + posF E T k % E * 4 = o at HENT ⊢
    generalize entF E T (posF E T k) = en at HK2 HENT
    obtain ⟨u8, hu8⟩ := hAI.r8
    obtain ⟨ao, c8, rfl, _⟩ := own_form hu8.own
    have HU8 := Lib.hid hu8
    have HAI := Lib.hid hAI
    have hc0 := hu8.bx.cell
    have HSW : Hid (w5.heap.size ≤ W.heap.size) := Lib.hid hAI.ap.size
    obtain ⟨i0, hi, hz0, hz1, hz2⟩ := info_parts infoIn
    clear hu8 hAI
    have HL1 := Lib.hid hl1
    have HL2 := Lib.hid hl2
    clear hl1 hl2
    gi_wp2_with (gi_at_builtin; refine wpListIn_append_own_at _ rfl _ _ 50 rfl w5.heap.size 3 i0 _ 1 8 Tryd.underlying50 hi hz0 hz1 hz2 rfl (by decide) _ _ _ rfl (HU8.out.own.alloc _) ⟨W.heap.size, 0, none⟩ 1 1 [.int .i64 bb] rfl rfl (one_cell W bb _) (fun u hu => by simp only [List.mem_cons, List.not_mem_nil, or_false] at hu; rcases hu with rfl; rfl) (by have := HLE.out; have := HL1.out; unfold maxLen; omega) (by have := HLE.out; have := HL1.out; omega) (by have := HSW.out; simp; omega) ?_; intro v' w1' hown' hgrow _ hob; obtain ⟨g', cap', rfl⟩ := ownsRow_succ hown'; have HAP := Lib.hid (HAI.out.app8 HU8.out hown' hgrow hob); have hm := HU8.out.mid hgrow; have hc1 := hm.cell; have hf1 := hm.frozen; clear hown' hgrow hob hm)
    clear hc0 hc1 hf1 HU8 HAI i0 hi hz0 hz1 hz2
    rename_i hiff
    clear hiff
    generalize w1'.setCell ⟨b8, 0, none⟩ (.slice (some ⟨g', 0, none⟩) (K.length + 1) cap') = W2 at HAP ⊢
    have HAD := Lib.hid HAP.out.1.drew
    have HKP : Hid (KeepsFrom w5.heap.size W W2.drew) := Lib.hid (HAP.out.2.trans ((KeepsOthers.drew W2).from _))
    clear HAP
    refine wpIn_region_any (by kernel_rfl) ?_
    refine wpAnyIn_round (by rfl) _ _ _ _ ?_
    change wpAnyIn _ _ _ _ _ _ _ _ _ W2.drew
    generalize W2.drew = Wd at HAD HKP ⊢
    obtain ⟨u9, hu9⟩ := HAD.out.r9
    obtain ⟨ao9, c9, rfl, _⟩ := own_form hu9.own
    have HU9 := Lib.hid hu9
    have d0 := hu9.bx.cell
    have dl := hu9.bx.lt
    obtain ⟨q0, q1, q2, q3⟩ := HENT.out Wd HAD.out.ap
    have HSD : Hid (w5.heap.size ≤ Wd.heap.size) := Lib.hid HAD.out.ap.size
    obtain ⟨i9, hi, hz0, hz1, hz2⟩ := entInfo'
    obtain ⟨kk, st, mb, fr'x⟩ := en
    dsimp only at q0 q1 q2 q3
    have d1 := (hu9.bx.alloc (.cells #[.int .u8 kk, .int .i64 st, .int .i64 mb, .int .i64 fr'x] 38)).cell
    clear hu9
    refine wpAnyIn_take (i := 1) (v := ?_) rfl rfl (by kernel_rfl) (by kernel_rfl) (by kernel_rfl) (fun _ _ _ h => h) ⟨Or.inl ⟨by rfl, ?_⟩, fun _ => rfl⟩ ?_
    rotate_left
    · (intro w; go_simp; first | done | with_reducible rfl)
    simp only [List.getElem_toArray, List.getElem_cons_succ, List.getElem_cons_zero, Act.put, List.setIfInBounds_toArray, List.set_cons_zero, List.set_cons_succ]
    refine wpAnyIn_take (i := 2) (v := ?_) rfl rfl (by kernel_rfl) (by kernel_rfl) (by kernel_rfl) (fun _ _ _ h => h) ⟨Or.inl ⟨by rfl, ?_⟩, fun _ => rfl⟩ ?_
    rotate_left
    · (intro w; go_simp; first | done | with_reducible rfl)
    simp only [List.getElem_toArray, List.getElem_cons_succ, List.getElem_cons_zero, Act.put, List.setIfInBounds_toArray, List.set_cons_zero, List.set_cons_succ]
    refine wpAnyIn_ready (rs := [0, 3]) (by kernel_rfl) (by simp) ?_
    refine AllReadyIn.cons rfl (fun K hK => ?p1) (AllReadyIn.cons rfl (fun K hK => ?p2) AllReadyIn.nil)
    case' p1 =>
      go_simp
      refine hK _ _ ?_
      clear hK K
      refine wpAnyIn_ready (rs := [3]) (by kernel_rfl) (by simp) ?_
      refine AllReadyIn.cons rfl (fun K hK => ?_) AllReadyIn.nil
      go_simp
      refine hK _ _ ?_
      clear hK K
      refine wpAnyIn_ready (rs := [4]) (by kernel_rfl) (by simp) ?_
      refine AllReadyIn.cons rfl (fun K hK => ?_) AllReadyIn.nil
      go_simp
      refine hK _ _ ?_
      clear hK K
    case' p2 =>
      go_simp
      refine hK _ _ ?_
      clear hK K
      refine wpAnyIn_ready (rs := [0, 4]) (by kernel_rfl) (by simp) ?_
      refine AllReadyIn.cons rfl (fun K hK => ?p3) (AllReadyIn.cons rfl (fun K hK => ?p4) AllReadyIn.nil)
    case' p3 =>
      go_simp
      refine hK _ _ ?_
      clear hK K
      refine wpAnyIn_ready (rs := [4]) (by kernel_rfl) (by simp) ?_
      refine AllReadyIn.cons rfl (fun K hK => ?_) AllReadyIn.nil
      go_simp
      refine hK _ _ ?_
      clear hK K
    case' p4 =>
      go_simp
      refine hK _ _ ?_
      clear hK K
      refine wpAnyIn_ready (rs := [0]) (by kernel_rfl) (by simp) ?_
      refine AllReadyIn.cons rfl (fun K hK => ?_) AllReadyIn.nil
      go_simp
      refine hK _ _ ?_
      clear hK K
    all_goals refine wpAnyIn_ready (rs := [5]) (by kernel_rfl) (by simp) ?_
    all_goals refine AllReadyIn.cons rfl (fun K' hK' => ?_) AllReadyIn.nil
    all_goals
      refine opIn_append_own_at _ rfl (.tmp 27) (.tmp 31) 40 rfl w5.heap.size 38 i9 _ 4 32 Tryd.underlying40 hi hz0 hz1 hz2 rfl (by decide) _ _ _ rfl (HU9.out.own.alloc _) ⟨Wd.heap.size, 0, none⟩ 1 1 [.int .u8 kk, .int .i64 st, .int .i64 mb, .int .i64 fr'x] rfl rfl (new_cells4 Wd _ _ _ _ _) (ent_one ⟨kk, st, mb, fr'x⟩) (by have := HLE.out; have := HL2.out; unfold maxLen; omega) (by have := HLE.out; have := HL2.out; omega) (by have := HSD.out; simp; omega) ?_
      intro v2 w2 hown' hgrow hob
      refine hK' _ _ ?_
      clear hK' K'
      obtain ⟨g2, cap2, rfl⟩ := ownsRow_succ hown'
      have HAP := Lib.hid (HAD.out.app9 (x := ⟨kk, st, mb, fr'x⟩) HU9.out hown' hgrow hob)
      have hm := HU9.out.mid hgrow
      have hc1 := hm.cell
      have hf1 := hm.frozen
      clear hown' hgrow hob hm d0 d1 q0 q1 q2 q3
      simp only [List.getElem_toArray, List.getElem_cons_succ, List.getElem_cons_zero, Act.put, List.setIfInBounds_toArray, List.set_cons_zero, List.set_cons_succ]
      refine wpAnyIn_ready (rs := [6]) (by kernel_rfl) (by simp) ?_
      refine AllReadyIn.cons rfl (fun K hK => ?_) AllReadyIn.nil
      go_simp
      refine hK _ _ ?_
      clear hK K
      refine wpAnyIn_done (by kernel_rfl) ?_ _
      refine (⟨HKP.out.trans HAP.out.2, ?_⟩ : KeepsFrom _ _ _ ∧ AI _ _ _ _ _ _ _)
      rw [HK1.out, HK2.out]
      exact HAP.out.1
  case done =>
    rintro D X W hD hAI hK
    have hlo := HLO.out _ hAI.ap
    obtain ⟨u8, hu8⟩ := hAI.r8
    obtain ⟨ao8, c8, rfl, _⟩ := own_form hu8.own
    obtain ⟨u9, hu9⟩ := hAI.r9
    obtain ⟨ao9, c9, rfl, _⟩ := own_form hu9.own
    have e8 := hu8.bx.cell
    have e9 := hu9.bx.cell
    have HU8 := Lib.hid hu8
    have HU9 := Lib.hid hu9
    have HBW := Lib.hid hlo.1
    have HKD := Lib.hid hK
    have HDD : Hid (w.heap.size ≤ D) := Lib.hid (Nat.le_trans HAR.out.bl.size hD)
    have H1 := Lib.hid (BL_done HOK.out)
    have H2 := Lib.hid (EL_done HOK.out)
    clear hAI hlo hu8 hu9 hK hD
    have ne : Nonempty (Wk (fun X => X = W.drew)) := ⟨⟨_, rfl⟩⟩
    have z8 : ∀ p : Wk (fun X => X = W.drew), p.W.cell? ⟨b8, 0, none⟩ = some (.slice ao8 (BL E T (numF E T)).length c8) := fun p => by rw [p.h]; exact e8
    have z9 : ∀ p : Wk (fun X => X = W.drew), p.W.cell? ⟨b9, 0, none⟩ = some (.slice ao9 (EL E T (numF E T)).length c9) := fun p => by rw [p.h]; exact e9
    clear e8 e9
    gi_wp2_with fail
    refine wpIn_region_wk (fun X => X = W.drew) (by kernel_rfl) (by kernel_rfl) rfl ?_
    repeat (refine wpQuiet_step (fun K hK => ?_); go_simp; (refine hK _ ?_; clear hK K))
    refine wpQuiet_nil ?_
    rintro ⟨_, rfl⟩
    clear z8 z9 ne
    gi_wp2
    refine ⟨by simp, .inl ⟨_, _, rfl, run_takeDeferred HKD.out, ?_⟩⟩
    have hbW : Below w.heap.size w (W.drew.putObj D (.deferred none)) := (HBW.out.drew).grown (grownBy_putObj' _ D _) HBW.out.size (fun r e => by cases e; exact HDD.out)
    refine ⟨.tuple #[.slice ao8 (BL E T (numF E T)).length c8, .slice ao9 (EL E T (numF E T)).length c9, .int .i64 0], ?_, _, _, rfl, ?_, ?_, hbW⟩
    · simp [results, Tryd.f13, go_sem]
    · rw [← H1.out]
      exact idxS_of (ownsRow_putObj HU8.out.own.drew _ HKD.out rfl)
    · rw [← H2.out]
      exact EntsS.of_own (ownsRow_putObj HU9.out.own.drew _ HKD.out rfl)
end Go.Proofs.YtngkbcaflkinhaaDoor
namespace Go.Proofs.YtngkbcaflkinhaaDoor
open Go.RowKit

def atC (e : Int) (c : CH) : List Int := if okB e c = true then blocksC e.toNat c.blocks.toNat c.tabs else []
def enC (e : Int) (c : CH) : List EN := if okB e c = true then entsC e.toNat c.blocks.toNat c.tabs else []
def allErr (e : Int) (c : CH) : Int := if okB e c = true then 0 else 2
theorem IdxS.none (w : World) : IdxS w (.slice none 0 0) [] := ⟨Option.none, 0, rfl, Nat.le_refl _, Nat.zero_le _, .inl rfl⟩
theorem EntsS.none (w : World) : EntsS w (.slice none 0 0) [] := ⟨Option.none, 0, rfl, Nat.le_refl _, Nat.zero_le _, .inl rfl⟩
set_option maxRecDepth 100000 in
set_option maxHeartbeats 8000000 in
theorem chtAll_no (e B : Int) (T : List TB) (v : Value) (w : World) (hv : TabsS w v T) (h1 : okB e ⟨B, T⟩ = false) :
    Calls Tryd.prog 13 #[.int .i64 e, .agg #[.int .i64 B, v]] w fun e' w' => ∃ a b, e' = .returned (.tuple #[a, b, .int .i64 2]) ∧ IdxS w' a [] ∧ EntsS w' b [] ∧ Below w.heap.size w w' := by
  have hC := fun W h => chtCheck_any e B T v W h
  unfold chtE at hC
  rw [h1, if_neg (by decide)] at hC
  have HB0 := Lib.hid (below1 w (.cells #[.int .i64 B, v] 27))
  have HX0 := B2.new w (.int .i64 B) v 27
  have HV0 := Lib.hid (hv.below HB0.out)
  obtain ⟨A, cap, rfl⟩ := hv.form
  obtain ⟨_, y0, y1, _, _⟩ := HX0
  clear hv h1
  go_enter Tryd.func13, Tryd.ntmps13
  go_wp2_with (go_at_call 6; (with_reducible refine (hC _ HV0.out).mono ?_); rintro e w1 ⟨rfl, hb1⟩; have HB1 := Lib.hid (HB0.out.trans (hb1.mono (by simp))); clear hb1 y0 y1)
  refine bodyPost_ret (v := .tuple #[.slice none 0 0, .slice none 0 0, .int .i64 2]) (by simp [results, Tryd.results13, go_sem]) rfl ?_
  exact ⟨_, _, rfl, IdxS.none _, EntsS.none _, HB1.out⟩
theorem chtAll_any (e B : Int) (T : List TB) (v : Value) (w : World) (hv : TabsS w v T) :
    Calls Tryd.prog 13 #[.int .i64 e, .agg #[.int .i64 B, v]] w fun e' w' => ∃ a b, e' = .returned (.tuple #[a, b, .int .i64 (allErr e ⟨B, T⟩)]) ∧ IdxS w' a (atC e ⟨B, T⟩) ∧ EntsS w' b (enC e ⟨B, T⟩) ∧ Below w.heap.size w w' := by
  unfold atC enC allErr
  by_cases hok : okB e ⟨B, T⟩ = true
  · rw [if_pos hok, if_pos hok, if_pos hok]
    obtain ⟨E, BN, rfl, hBN, hc⟩ := cok_of hok
    dsimp only at hBN hc
    subst hBN
    dsimp only
    rw [Int.toNat_natCast, Int.toNat_natCast]
    exact chtAll_yes E BN T v w hv hc hok
  · rw [if_neg hok, if_neg hok, if_neg hok]
    exact chtAll_no e B T v w hv (by simpa using hok)
end Go.Proofs.YtngkbcaflkinhaaDoor
