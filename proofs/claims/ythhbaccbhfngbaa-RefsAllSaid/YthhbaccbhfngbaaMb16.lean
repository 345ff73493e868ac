/- Charts: All under way: the two rows that grow, their boxes, and the closure's blocks. A region that draws its order, whose operations read and whose callees leave a relation of ours alone, in a round of a range over a function: walked once. A region that draws its order, in a function that is walked inside a fence, behind no loop: walked once. -/
import Derived.Test.YthhbaccbhfngbaaChvO
import Derived.Test.YthhbaccbhfngbaaMb15
import Derived.RangeFuncBox
import Derived.Maps.OwnIn
import Derived.Test.YthhbaccbhfngbaaMb09
import Derived.Sort.QuietThIn
namespace Go.Proofs.Ythhbaccbhfngbaa
open Go.RowKit

def BL (E : Nat) (T : List TB) (k : Nat) : List Int := ((fr true (fullQ E T)).take k).map (blkF E T)
def EL (E : Nat) (T : List TB) (k : Nat) : List EN := ((fr true (fullQ E T)).take k).map (entF E T)
section
variable {E : Nat} {T : List TB} {k : Nat}
theorem BL_len (h : k ≤ numF E T) : (BL E T k).length = k := by
  unfold BL; rw [List.length_map, List.length_take]; exact Nat.min_eq_left h
theorem EL_len (h : k ≤ numF E T) : (EL E T k).length = k := by
  unfold EL; rw [List.length_map, List.length_take]; exact Nat.min_eq_left h
theorem fr_snoc (h : k < numF E T) : (fr true (fullQ E T)).take (k + 1) = (fr true (fullQ E T)).take k ++ [posF E T k] := by
  have hlt : k < (fr true (fullQ E T)).length := h
  rw [List.take_succ_eq_append_getElem hlt]
  unfold posF
  rw [List.getD, List.getElem?_eq_getElem hlt]; rfl
theorem BL_succ (h : k < numF E T) : BL E T (k + 1) = BL E T k ++ [blkF E T (posF E T k)] := by
  unfold BL; rw [fr_snoc h, List.map_append]; rfl
theorem EL_succ (h : k < numF E T) : EL E T (k + 1) = EL E T k ++ [entF E T (posF E T k)] := by
  unfold EL; rw [fr_snoc h, List.map_append]; rfl
end
theorem own_cellsX {W : World} {B s n : Nat} {e : TypeId} {u : Value} {xs : List Value} (h : W.ownsRow B e s u n xs) {j : Nat} {o : Obj} (hj : u.ownBlock = some j) (ho : W.heap[j]? = some o) : o.isCells = true := by
  rcases h.2 with ⟨rfl, _⟩ | ⟨g, cap, cur, rfl, _, hgb, _⟩
  · simp [Value.ownBlock] at hj
  · obtain rfl : g = j := by simpa [Value.ownBlock] using hj
    rw [hgb] at ho; cases ho; rfl
theorem own_apart {W : World} {B s n B' s' n' : Nat} {e e' : TypeId} {u u' : Value} {xs xs' : List Value} (h : W.ownsRow B e s u n xs) (h' : W.ownsRow B' e' s' u' n' xs') (ne : e ≠ e') : u.ownBlock = none ∨ u.ownBlock ≠ u'.ownBlock := by
  rcases h.2 with ⟨rfl, _⟩ | ⟨g, cap, cur, rfl, _, hgb, _⟩
  · exact .inl rfl
  · refine .inr fun eq => ?_
    rcases h'.2 with ⟨rfl, _⟩ | ⟨g', cap', cur', rfl, _, hgb', _⟩
    · simp [Value.ownBlock] at eq
    · obtain rfl : g = g' := by simpa [Value.ownBlock] using eq
      rw [hgb] at hgb'
      injection hgb' with e1
      injection e1 with _ e2 _
      exact ne e2
/-- A box that holds a row that grows, away from the closure's blocks. -/
structure GW (W : World) (B b : Nat) (t e : TypeId) (s n : Nat) (X : List (Nat × Obj)) (xs : List Value) (u : Value) : Prop where
  bx : Boxed W b t u
  own : W.ownsRow B e s u n xs
  av : ∀ p ∈ X, u.ownBlock ≠ some p.1
  hb : b < B
section
variable {W w1 W' : World} {B b s n m : Nat} {t e : TypeId} {X : List (Nat × Obj)} {xs ys : List Value} {u u' : Value} {tmp : Obj}
theorem GW.kept {row : Option Nat} (h : GW W B b t e s n X xs u) (hg : W.grownBy W' row) (hr : ∀ r, row = some r → B ≤ r ∧ ∃ o : Obj, W.heap[r]? = some o ∧ o.isCells = false) : GW W' B b t e s n X xs u := by
  refine ⟨h.bx.kept hg (fun q => by have := (hr _ q.symm).1; have := h.hb; omega), h.own.kept hg ?_, h.av, h.hb⟩
  cases hu : u.ownBlock with
  | none => exact .inl rfl
  | some g =>
    refine .inr fun q => ?_
    obtain ⟨_, o, ho, hc⟩ := hr g q.symm
    rw [own_cellsX h.own hu ho] at hc; cases hc
theorem GW.add (h : GW W B b t e s n X xs u) (o : Obj) : GW (W.alloc o) B b t e s n ((W.heap.size, o) :: X) xs u :=
  ⟨h.bx.alloc o, h.own.alloc o, fun p hp q => by
    rcases List.mem_cons.1 hp with rfl | hp
    · have := (h.own.lt _ q).2; simp at this
    · exact h.av p hp q, h.hb⟩
theorem GW.drew (h : GW W B b t e s n X xs u) : GW W.drew B b t e s n X xs u := ⟨h.bx, h.own, h.av, h.hb⟩
/-- Behind an append: the box still holds what it held. -/
theorem GW.mid (h : GW W B b t e s n X xs u) (hgrow : (W.alloc tmp).grownBy w1 u.ownBlock) : Boxed w1 b t u :=
  (h.bx.alloc tmp).kept hgrow (fun q => by have := (h.own.lt _ q.symm).1; have := h.hb; omega)
theorem GW.app (h : GW W B b t e s n X xs u) (hX : KX B X W) (hown' : w1.ownsRow B e s u' m ys) (hgrow : (W.alloc tmp).grownBy w1 u.ownBlock) (hob : u'.ownBlock = u.ownBlock ∨ u'.ownBlock = some (W.alloc tmp).heap.size) : GW (w1.setCell ⟨b, 0, none⟩ u') B b t e s m X ys u' := by
  refine ⟨(h.mid hgrow).set u', hown'.kept (grownBy_setCell' w1 b u') ?_, fun p hp q => ?_, h.hb⟩
  · cases hu : u'.ownBlock with
    | none => exact .inl rfl
    | some g => exact .inr fun q => by injection q with q; have := (hown'.lt _ hu).1; have := h.hb; omega
  · rcases hob with e1 | e1
    · exact h.av p hp (e1.symm.trans q)
    · rw [e1] at q; injection q with q; have := hX.lt hp; simp at q; omega
theorem GW.keep (h : GW W B b t e s n X xs u) (hgrow : (W.alloc tmp).grownBy w1 u.ownBlock) : KeepsFrom B W (w1.setCell ⟨b, 0, none⟩ u') :=
  (((KeepsOthers.alloc W tmp).trans (KeepsOthers.of_grownBy hgrow fun _ _ ej hj => own_cellsX (h.own.alloc tmp) ej hj)).trans (KeepsOthers.setCell _ _ _)).from B
theorem GW.keepX (h : GW W B b t e s n X xs u) (hX : KX B X W) (hgrow : (W.alloc tmp).grownBy w1 u.ownBlock) : KX B X (w1.setCell ⟨b, 0, none⟩ u') := by
  have h1 : KX B X (W.alloc tmp) := hX.grown (World.grownBy_alloc W tmp none) (fun p _ q => by cases q)
  have h2 : KX B X w1 := h1.grown hgrow h.av
  exact h2.grown (grownBy_setCell' w1 b u') (fun p hp q => by injection q with q; have := (hX p hp).2.1; have := h.hb; omega)
theorem GW.other {b2 s2 n2 : Nat} {t2 e2 : TypeId} {xs2 : List Value} {v : Value} (h : GW W B b t e s n X xs u) (h2 : GW W B b2 t2 e2 s2 n2 X xs2 v) (ne : e2 ≠ e) (nb : b2 ≠ b) (hgrow : (W.alloc tmp).grownBy w1 u.ownBlock) : GW (w1.setCell ⟨b, 0, none⟩ u') B b2 t2 e2 s2 n2 X xs2 v := by
  have k1 : GW (W.alloc tmp) B b2 t2 e2 s2 n2 X xs2 v := ⟨h2.bx.alloc tmp, h2.own.alloc tmp, h2.av, h2.hb⟩
  have k2 : GW w1 B b2 t2 e2 s2 n2 X xs2 v := ⟨k1.bx.kept hgrow (fun q => by have := (h.own.lt _ q.symm).1; have := h2.hb; omega), k1.own.kept hgrow (own_apart h2.own h.own ne), k1.av, k1.hb⟩
  refine ⟨k2.bx.kept (grownBy_setCell' w1 b u') (fun q => by injection q with q; exact nb q), k2.own.kept (grownBy_setCell' w1 b u') ?_, k2.av, k2.hb⟩
  cases hu : v.ownBlock with
  | none => exact .inl rfl
  | some g => exact .inr fun q => by injection q with q; have := (k2.own.lt _ hu).1; have := h.hb; omega
theorem GW.ap {S : Nat → Prop} {w5 : World} (h : GW W B b t e s n X xs u) (hB : w5.heap.size ≤ B) (ha : Ap S w5 W) (hS : S b) (hgrow : (W.alloc tmp).grownBy w1 u.ownBlock) : Ap S w5 (w1.setCell ⟨b, 0, none⟩ u') :=
  ((ha.alloc tmp).grown hgrow (fun _ hg => .inr (Nat.le_trans hB (h.own.lt _ hg).1))).setCell (p := ⟨b, 0, none⟩) (.inl hS) u'
end
/-- All under way. -/
structure AI (w5 W : World) (b8 b9 : Nat) (X : List (Nat × Obj)) (K : List Int) (L : List EN) : Prop where
  ap : Ap (fun q => q = b8 ∨ q = b9) w5 W
  ne : b8 < b9
  kx : KX w5.heap.size X W
  r8 : ∃ u, GW W w5.heap.size b8 29 3 1 K.length X (K.map (Value.int .i64)) u
  r9 : ∃ u, GW W w5.heap.size b9 45 50 4 L.length X (eCells L) u
theorem AI.own {w5 W W' : World} {b8 b9 : Nat} {X : List (Nat × Obj)} {K : List Int} {L : List EN} {row : Option Nat} (h : AI w5 W b8 b9 X K L) (hg : W.grownBy W' row) (hr : ∀ r, row = some r → w5.heap.size ≤ r ∧ ∃ o : Obj, W.heap[r]? = some o ∧ o.isCells = false) : AI w5 W' b8 b9 X K L := by
  obtain ⟨u, hu⟩ := h.r8
  obtain ⟨v, hv⟩ := h.r9
  exact ⟨h.ap.grown hg (fun r e => .inr (hr r e).1), h.ne, h.kx.own hg hr, ⟨u, hu.kept hg hr⟩, ⟨v, hv.kept hg hr⟩⟩
theorem AI.add {w5 W : World} {b8 b9 : Nat} {X : List (Nat × Obj)} {K : List Int} {L : List EN} {o : Obj} (h : AI w5 W b8 b9 X K L) (ho : o.isCells = true) : AI w5 (W.alloc o) b8 b9 ((W.heap.size, o) :: X) K L := by
  obtain ⟨u, hu⟩ := h.r8
  obtain ⟨v, hv⟩ := h.r9
  exact ⟨h.ap.alloc o, h.ne, h.kx.add ho h.ap.size, ⟨u, hu.add o⟩, ⟨v, hv.add o⟩⟩
theorem AI.drew {w5 W : World} {b8 b9 : Nat} {X : List (Nat × Obj)} {K : List Int} {L : List EN} (h : AI w5 W b8 b9 X K L) : AI w5 W.drew b8 b9 X K L := by
  obtain ⟨u, hu⟩ := h.r8
  obtain ⟨v, hv⟩ := h.r9
  exact ⟨h.ap.drew, h.ne, h.kx, ⟨u, hu.drew⟩, ⟨v, hv.drew⟩⟩
theorem AI.app8 {w5 W w1 : World} {b8 b9 : Nat} {X : List (Nat × Obj)} {K : List Int} {L : List EN} {x : Int} {u u' : Value} {tmp : Obj} (h : AI w5 W b8 b9 X K L) (hu : GW W w5.heap.size b8 29 3 1 K.length X (K.map (Value.int .i64)) u)
    (hown' : w1.ownsRow w5.heap.size 3 1 u' (K.length + 1) (K.map (Value.int .i64) ++ [.int .i64 x])) (hgrow : (W.alloc tmp).grownBy w1 u.ownBlock) (hob : u'.ownBlock = u.ownBlock ∨ u'.ownBlock = some (W.alloc tmp).heap.size) : AI w5 (w1.setCell ⟨b8, 0, none⟩ u') b8 b9 X (K ++ [x]) L ∧ KeepsFrom w5.heap.size W (w1.setCell ⟨b8, 0, none⟩ u') := by
  obtain ⟨v, hv⟩ := h.r9
  have hne := h.ne
  refine ⟨⟨hu.ap (Nat.le_refl _) h.ap (.inl rfl) hgrow, h.ne, hu.keepX h.kx hgrow, ⟨u', ?_⟩, ⟨v, hu.other hv (by decide) (by omega) hgrow⟩⟩, hu.keep hgrow⟩
  have k := hu.app h.kx hown' hgrow hob
  rw [List.length_append, List.map_append]
  exact k
theorem AI.app9 {w5 W w1 : World} {b8 b9 : Nat} {X : List (Nat × Obj)} {K : List Int} {L : List EN} {x : EN} {u u' : Value} {tmp : Obj} (h : AI w5 W b8 b9 X K L) (hu : GW W w5.heap.size b9 45 50 4 L.length X (eCells L) u)
    (hown' : w1.ownsRow w5.heap.size 50 4 u' (L.length + 1) (eCells L ++ [.int .u8 x.kind, .int .i64 x.st, .int .i64 x.mb, .int .i64 x.fr])) (hgrow : (W.alloc tmp).grownBy w1 u.ownBlock) (hob : u'.ownBlock = u.ownBlock ∨ u'.ownBlock = some (W.alloc tmp).heap.size) : AI w5 (w1.setCell ⟨b9, 0, none⟩ u') b8 b9 X K (L ++ [x]) ∧ KeepsFrom w5.heap.size W (w1.setCell ⟨b9, 0, none⟩ u') := by
  obtain ⟨v, hv⟩ := h.r8
  have hne := h.ne
  refine ⟨⟨hu.ap (Nat.le_refl _) h.ap (.inr rfl) hgrow, h.ne, hu.keepX h.kx hgrow, ⟨v, hu.other hv (by decide) (by omega) hgrow⟩, ⟨u', ?_⟩⟩, hu.keep hgrow⟩
  have k := hu.app h.kx hown' hgrow hob
  rw [List.length_append, eCells_snoc]
  exact k
/-- An append in a region that draws its order. -/
theorem opIn_append_own_at {F : Fence} {nF : Nat} {P : Program} {ops : Array Oper} {o : Oper} {a : Act} {K : Act → World → Prop} {Q : Exit → Act → World → Prop} {E : Prop} (w : World) (hgd : o.guard = none) (s x : Operand) (t : TypeId)
    (ho : o.op = .call { callee := .builtin .append, args := #[s, x], argTypes := #[t, t] })
    (base : Nat) (e : TypeId) (i : TypeInfo) (z : Value) (size bytes : Nat) (ht : P.underlying t = some (.slice e)) (hi : P.info? e = some i) (hz : i.zero = some z)
    (hsize : i.size = size) (hby : i.bytes = bytes) (hzs : z.cells.size = size) (hsz : 0 < size)
    (v : Value) (n : Nat) (xs : List Value) (hs : a.eval s = v) (hown : w.ownsRow base e size v n xs)
    (ad : Addr) (m c : Nat) (news : List Value) (hx : a.eval x = .slice (some ad) m c) (hl : news.length = m * size) (hnews : ∀ j u, news[j]? = some u → w.cell? (ad.add j) = some u) (h1 : ∀ u ∈ news, u.oneCell' = true)
    (h63 : n + m ≤ maxLen) (hbytes : (n + m) * bytes ≤ 140737488355328) (hbase : base ≤ w.heap.size)
    (h : ∀ v' w', w'.ownsRow base e size v' (n + m) (xs ++ news) → w.grownBy w' v.ownBlock → (v'.ownBlock = v.ownBlock ∨ v'.ownBlock = some w.heap.size) → K (a.put o.dst v') w') : if Region.wanted o (yielded ops a.tmps) = true then Oper.wpIn F nF P o a w K Q else E := by
  have hw : Region.wanted o (yielded ops a.tmps) = true := by simp [Region.wanted, hgd]
  rw [if_pos hw]
  obtain ⟨v', w', hr, h2, h3, h4, h5⟩ := run_append_own_at (P := P) w base t o.type e i z size bytes ht hi hz hsize hby hzs hsz v n xs hown ad m c news hl hnews h1 h63 hbytes hbase
  unfold Oper.wpIn
  refine ⟨by simp [Oper.about, ho, resolve, Target.leads, Sem.run_pure], ?_⟩
  rw [Oper.semAt_plain F _ _ (by rw [ho]; intro c hc'; cases hc')]
  simp [execOp, ho, resolve, invoke, builtin, hs, hx, hr, Result.andThen]
  exact h v' w' h2 h3 h5
end Go.Proofs.Ythhbaccbhfngbaa
namespace Go.Proofs.Ythhbaccbhfngbaa
open Go.RowKit

theorem quietUponIn_wide {n : Nat} {P : Program} {C : World → Prop} {w : World} {v : Value} {r : Result Next} (h : Oper.quietUpon P C w v r) : Oper.quietUponIn Fence.wide n P C w v r := by
  cases r with
  | ok x w' =>
    cases x with
    | enter f args => exact ⟨h.1, fun hd => by simp [Fence.wide] at hd, callsIn_wide.2 h.2⟩
    | _ => exact h
  | halt x w' => exact h
theorem quietIn_wide {n : Nat} {P : Program} {C : World → Prop} {o : Oper} {a : Act} {K K' : Act → Prop} (hK : ∀ a, K a → K' a) (h : o.quiet P a C K) : o.quietIn Fence.wide n P a C K' :=
  let ⟨v, h1, h2⟩ := h
  ⟨v, fun w hw => quietUponIn_wide (h1 w hw), hK _ h2⟩
theorem wpQuietIn_wide {n : Nat} {P : Program} {ops : Array Oper} {C : World → Prop} {Q : Act → Prop} : ∀ (l : List Oper) (a : Act), wpQuiet P ops C Q l a → wpQuietIn Fence.wide n P ops C Q l a
  | [], _, h => h
  | o :: rest, a, h => by
    refine ⟨fun _ _ _ _ => trivial, ?_⟩
    unfold wpQuiet at h
    split
    · rename_i hw; rw [if_pos hw] at h; exact quietIn_wide (fun a => wpQuietIn_wide rest a) h
    · rename_i hw; rw [if_neg hw] at h; exact wpQuietIn_wide rest _ h
theorem wpIn_region_wk_round {P : Program} {id n l : Nat} {Q : Exit → Act → World → Prop} {a : Act} {w : World} {os : List Oper} (C : World → Prop) (hd : os.toArray.toList.all noDefer = true) (hm : P.follows .mixedOrders = true) (hB : Region.lexB .any os.toArray = true) (h0 : C w.drew)
    (h : wpQuiet P os.toArray (fun w' => ∃ p : Wk C, w' = p.W) (fun a' => ∀ p : Wk C, Q .normal a' p.W) os a) : (Code.region id os.toArray true).wpIn (Fence.wide.inRound l) n P Q a w := by
  simp only [Region.lexB, Bool.and_eq_true] at hB
  refine wpIn_region_any hm (wpAnyIn_round (F := Fence.wide) hd _ _ _ _ ?_)
  refine wpAnyIn_of_quiet (C := fun w' => ∃ p : Wk C, w' = p.W) (Q := fun a' => ∀ p : Wk C, Q .normal a' p.W) rfl (fun a' w' hw' hq => by obtain ⟨p, rfl⟩ := hw'; exact hq p) _ _ _ _ ⟨⟨_, h0⟩, rfl⟩ ?_
  have := wpAnyQIn_lex (F := Fence.wide) (n := n) (C := fun w' => ∃ p : Wk C, w' = p.W) (md := .any) hB.1 os.toArray.toList 0 (Array.replicate os.toArray.size false) a (by simp) (by simpa using hB.2) (wpQuietIn_wide _ _ (by simpa using h))
  simpa using this
end Go.Proofs.Ythhbaccbhfngbaa
namespace Go.Proofs.Ythhbaccbhfngbaa
open Go.RowKit

theorem wpIn_region_wk {P : Program} {id n : Nat} {Q : Exit → Act → World → Prop} {a : Act} {w : World} {os : List Oper} (C : World → Prop) (hm : P.follows .mixedOrders = true) (hB : Region.lexB .any os.toArray = true) (h0 : C w.drew)
    (h : wpQuiet P os.toArray (fun w' => ∃ p : Wk C, w' = p.W) (fun a' => ∀ p : Wk C, Q .normal a' p.W) os a) : (Code.region id os.toArray true).wpIn Fence.wide n P Q a w := by
  simp only [Region.lexB, Bool.and_eq_true] at hB
  refine wpIn_region_any hm ?_
  refine wpAnyIn_of_quiet (C := fun w' => ∃ p : Wk C, w' = p.W) (Q := fun a' => ∀ p : Wk C, Q .normal a' p.W) rfl (fun a' w' hw' hq => by obtain ⟨p, rfl⟩ := hw'; exact hq p) _ _ _ _ ⟨⟨_, h0⟩, rfl⟩ ?_
  have := wpAnyQIn_lex (F := Fence.wide) (n := n) (C := fun w' => ∃ p : Wk C, w' = p.W) (md := .any) hB.1 os.toArray.toList 0 (Array.replicate os.toArray.size false) a (by simp) (by simpa using hB.2) (wpQuietIn_wide _ _ (by simpa using h))
  simpa using this
end Go.Proofs.Ythhbaccbhfngbaa
