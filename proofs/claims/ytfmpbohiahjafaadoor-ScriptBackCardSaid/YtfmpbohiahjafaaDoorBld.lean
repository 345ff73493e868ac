/- strings.Builder: copyCheck, fresh and used, and WriteString. -/
import Derived.Test.YtfmpbohiahjafaaDoorOwnB
import Derived.Test.YtfmpbohiahjafaaDoorShelfB
import Derived.Lib.AppendStr
import Derived.Lib.Builder
import Derived.OwnWalk
import Derived.Laws.Externs
import Derived.RangeFuncNested
namespace Go.Proofs.YtfmpbohiahjafaaDoor
open Go.RowKit Go.Shelf
attribute [local go_sem] Oper.semAt_some

/-- A builder in block b, of the call's own, that holds these bytes; it was written, or not. -/
def IsBld (B b : Nat) (l : List UInt8) (w : World) : Prop := Lib.IsBuilder 64 5 B b (U8s l) w
/-- One that was written. -/
def BldAt (B b : Nat) (l : List UInt8) (w : World) : Prop := Lib.BuilderAt 64 5 B b (.pointer (some ⟨b, 0, none⟩)) (U8s l) w
theorem bldFresh (w : World) (B : Nat) (hB : B ≤ w.heap.size) : IsBld B w.heap.size [] (w.alloc (.cells #[.pointer none, .slice none 0 0] 64)) :=
  .inl ⟨hB, .slice none 0 0, heap_alloc_new w _, World.ownsRow_nil _ _ _ _, fun e => by cases e⟩
set_option maxRecDepth 100000 in
theorem bldCheck_used {B b : Nat} {l : List UInt8} {w : World} (h : BldAt B b l w) :
    Calls Tryd.prog 47 #[.pointer (some ⟨b, 0, none⟩)] w fun e w' => e = .returned (.tuple #[]) ∧ w' = w := by
  obtain ⟨hB, v, hbk, _⟩ := h
  have c0 : w.cell? ⟨b, 0, none⟩ = some (.pointer (some ⟨b, 0, none⟩)) := by rw [Lib.cell_of_heap hbk]; rfl
  obtain ⟨j, hj, _⟩ := Option.map_eq_some_iff.1 Tryd.Builder_Extra_169.sizeBuilder
  have hcmp := Lib.run_neq_ptr_same (P := Tryd.prog) w (⟨b, 0, none⟩ : Addr) Tryd.underlying61 (show Tryd.prog.info? 64 = some j from hj)
  clear hj hbk
  go_enter Tryd.func47, Tryd.ntmps47
  go_wp2
  go_end0
  exact ⟨rfl, rfl⟩
set_option maxRecDepth 100000 in
set_option maxHeartbeats 1000000 in
theorem bldCheck_fresh {B b : Nat} {l : List UInt8} {w : World} (h : Lib.BuilderAt 64 5 B b (.pointer none) (U8s l) w) :
    Calls Tryd.prog 47 #[.pointer (some ⟨b, 0, none⟩)] w fun e w' => e = .returned (.tuple #[]) ∧ w' = w.setCell ⟨b, 0, none⟩ (.pointer (some ⟨b, 0, none⟩)) := by
  have h0 := h.cell0
  have hsh := h.shape
  have hfz := h.frozen0
  obtain ⟨j, hj, hjs⟩ := Option.map_eq_some_iff.1 Tryd.Builder_Extra_169.sizeBuilder
  have hj' : Tryd.prog.info? 64 = some j := hj
  have htu := fun W : World => fun hs : W.shape? b = some (64, 2) => Lib.run_to_unsafe (P := Tryd.prog) (src := 61) (dst := 104) W ⟨b, 0, none⟩ Tryd.underlying61 Tryd.underlying104 hj' (by rw [hjs]; decide) hs (Nat.zero_lt_succ 1)
  have htf := fun W : World => fun hs : W.shape? b = some (64, 2) => Lib.run_from_unsafe (P := Tryd.prog) (src := 104) (dst := 61) W ⟨b, 0, none⟩ Tryd.underlying104 Tryd.underlying61 hj' hs Tryd.Builder_Extra_169.liesBuilder
  have hcmp := fun W : World => Lib.run_neq_ptr_same (P := Tryd.prog) W (⟨b, 0, none⟩ : Addr) Tryd.underlying61 hj'
  have htu1 := htu w hsh
  have htf1 := htf w hsh
  clear h htu htf
  go_enter Tryd.func47, Tryd.ntmps47
  go_wp2
  rw [run_callFunc_extern Tryd.func60 (by kernel_rfl) (by kernel_rfl) (by kernel_rfl) (e := Extern.AbiNoEscape.same) (by kernel_rfl)]
  rw [Lib.run_noEscape]
  simp only [Result.andThen]
  rw [Oper.upon_value]
  go_wp2
  go_end0
  exact ⟨rfl, rfl⟩
theorem IsBld.below {B b : Nat} {l : List UInt8} {w w' : World} (h : IsBld B b l w) (hb : Below w.heap.size w w') : IsBld B b l w' := by
  have h1 : ∀ p, Lib.BuilderAt 64 5 B b p (U8s l) w → Lib.BuilderAt 64 5 B b p (U8s l) w' := by
    rintro p ⟨hB, v, hbk, hown, hne⟩
    exact ⟨hB, v, (hb.block b (Array.getElem?_eq_some_iff.1 hbk).1).trans hbk, own_keep hown hb, hne⟩
  exact h.imp (h1 _) (h1 _)
theorem others_put (W : World) (b i : Nat) (v : Value) (e : TypeId) : Lib.OthersKept e (some b) W (W.setCell ⟨b, i, none⟩ v) := by
  intro k o hk hne _
  rw [Below.heap_setCell _ _ _ _ (by rintro rfl; exact hne rfl)]; exact hk
theorem others_grown {W W' : World} {base e n : Nat} {v : Value} {xs : List Value} (ho : W.ownsRow base e 1 v n xs) (hg : W.grownBy W' v.ownBlock) (b : Option Nat) : Lib.OthersKept e b W W' := by
  intro k o hk _ hne
  refine (hg.block k (Array.getElem?_eq_some_iff.1 hk).1 (fun e' => ?_)).trans hk
  rcases ho.2 with ⟨rfl, _⟩ | ⟨g, cap, cur, rfl, _, hh, _⟩
  · cases e'
  · have e2 : some k = some g := e'
    injection e2 with e2
    subst e2
    rw [hh] at hk
    injection hk with hk
    exact hne _ _ hk.symm
/-- Whether it was written or not: behind it it was. -/
theorem bldCheck_any {B b : Nat} {l : List UInt8} {w : World} (h : IsBld B b l w) :
    Calls Tryd.prog 47 #[.pointer (some ⟨b, 0, none⟩)] w fun e w' => e = .returned (.tuple #[]) ∧ BldAt B b l w' ∧ Below B w w' ∧ KeepsOthers w w' ∧ Lib.OthersKept 5 (some b) w w' := by
  rcases h with h | h
  · refine (bldCheck_fresh h).mono ?_
    rintro e w' ⟨rfl, rfl⟩
    exact ⟨rfl, h.used _, (Below.refl B w).setCell (p := ⟨b, 0, none⟩) h.1 _, KeepsOthers.setCell _ _ _, others_put _ _ _ _ _⟩
  · refine (bldCheck_used h).mono ?_
    rintro e w' ⟨rfl, rfl⟩
    exact ⟨rfl, h, Below.refl B _, KeepsOthers.refl _, Lib.OthersKept.refl _ _ _⟩
theorem bldInfo : ∃ i, Tryd.prog.info? 5 = some i ∧ i.zero = some (.int .u8 0) ∧ i.size = 1 ∧ i.bytes = 1 := by
  have h := infoU8
  cases hq : Tryd.prog.info? 5 with
  | none => rw [hq] at h; cases h
  | some i => rw [hq] at h; simp only [Option.map_some, Option.some.injEq, Prod.mk.injEq] at h; exact ⟨i, rfl, h.1, h.2.1, h.2.2⟩
theorem bld_sl {w : World} {base e n : Nat} {v : Value} {xs : List Value} (ho : w.ownsRow base e 1 v n xs) : ∃ ao cp, v = .slice ao n cp := by
  rcases ho.2 with ⟨rfl, h⟩ | ⟨g, cap, cur, rfl, _⟩
  · subst h; exact ⟨_, _, rfl⟩
  · exact ⟨_, _, rfl⟩
theorem bld_keeps {W W' : World} {base e n : Nat} {v : Value} {xs : List Value} (ho : W.ownsRow base e 1 v n xs) (hg : W.grownBy W' v.ownBlock) : KeepsOthers W W' := by
  refine ⟨hg.size, fun k o hk hc => (hg.block k (Array.getElem?_eq_some_iff.1 hk).1 (fun e' => ?_)).trans hk⟩
  rcases ho.2 with ⟨rfl, _⟩ | ⟨g, cap, cur, rfl, _, hh, _⟩
  · cases e'
  · have : k = g := by have e2 : some k = some g := e'; injection e2
    subst this
    rw [hh] at hk; cases hk; cases hc
set_option maxRecDepth 100000 in
set_option maxHeartbeats 1000000 in
theorem bldWriteString_any {B b : Nat} {l : List UInt8} {w : World} (h : IsBld B b l w) (hBw : B ≤ w.heap.size) (s : ByteArray) (hlen : l.length + s.size ≤ 140737488355328) :
    Calls Tryd.prog 27 #[.pointer (some ⟨b, 0, none⟩), .string s] w fun e w' => e = .returned (.tuple #[.int .i64 (s.size : Int), .nilIface]) ∧ BldAt B b (l ++ s.data.toList) w' ∧ Below B w w' ∧ KeepsOthers w w' ∧ Lib.OthersKept 5 (some b) w w' := by
  have hC := bldCheck_any h
  obtain ⟨i0, hi, hz0, hz1, hz2⟩ := bldInfo
  have HLL : Hid ((U8s l).length = l.length) := Lib.hid (u8s_len l)
  have HSS : Hid (s.data.toList.length = s.size) := Lib.hid (by simp)
  clear h
  go_enter Tryd.func27, Tryd.ntmps27
  go_wp2_with (go_at_call 47; refine hC.mono ?_)
  rintro e w1 ⟨rfl, h1, hb1, hk1, ho1⟩
  obtain ⟨hB, v, hbk, hown, hne⟩ := h1
  rw [HLL.out] at hown
  obtain ⟨ao, cp, rfl⟩ := bld_sl hown
  have c0 : w1.cell? ⟨b, 0, none⟩ = some (.pointer (some ⟨b, 0, none⟩)) := by rw [Lib.cell_of_heap hbk]; rfl
  have c1 : w1.cell? ⟨b, 1, none⟩ = some (.slice ao l.length cp) := by rw [Lib.cell_of_heap hbk]; rfl
  have HBK := Lib.hid hbk
  have HNE := Lib.hid hne
  have HO := Lib.hid hown
  have HB1 := Lib.hid hb1
  have HK1 := Lib.hid hk1
  have HO1 := Lib.hid ho1
  have hbl : b < w1.heap.size := (Array.getElem?_eq_some_iff.1 hbk).1
  clear hbk hne hown hb1 hk1 ho1
  go_wp2_with (at_builtin; (with_reducible refine Lib.wpList_append_own_string _ ?g0 (.tmp 12) (.tmp 13) 62 9 ?g1 B 5 i0 Tryd.underlying62 Tryd.underlying9 hi hz0 hz1 hz2 (.slice ao l.length cp) l.length (U8s l) ?g2 HO.out s ?g3 ?c3 ?c4 ?c5 ?_); (case g0 => rfl); (case g1 => rfl); (case g2 => rfl); (case g3 => rfl); (case c3 => unfold maxLen; omega); (case c4 => omega); (case c5 => have := HB1.out.size; omega))
  intro v' w2 hown' hgrow _
  have hb2 : w2.heap[b]? = some (.cells #[.pointer (some ⟨b, 0, none⟩), .slice ao l.length cp] 64 (0, 0)) := by
    rw [hgrow.block b hbl (fun e => HNE.out e.symm)]; exact HBK.out
  have d0 : w2.cell? ⟨b, 0, none⟩ = some (.pointer (some ⟨b, 0, none⟩)) := by rw [Lib.cell_of_heap hb2]; rfl
  have d1 : w2.cell? ⟨b, 1, none⟩ = some (.slice ao l.length cp) := by rw [Lib.cell_of_heap hb2]; rfl
  have f1 : w2.frozen? ⟨b, 1, none⟩ = false := Lib.frozen_of_heap hb2 1
  obtain ⟨ao2, cp2, rfl⟩ := bld_sl hown'
  have HO2 := Lib.hid hown'
  have HG := Lib.hid hgrow
  have HB2 := Lib.hid hb2
  clear hown' hgrow hb2
  go_wp2
  go_ret2
  refine ⟨rfl, ?_, ((HB1.out.grown HG.out (by have := HB1.out.size; omega) (fun k hk => (HO.out.lt k hk).1)).setCell (p := ⟨b, 1, none⟩) hB _), (HK1.out.trans (bld_keeps HO.out HG.out)).trans (KeepsOthers.setCell _ _ _), (HO1.out.trans (others_grown HO.out HG.out _)).trans (others_put _ _ _ _ _)⟩
  refine Lib.BuilderAt.put hB HB2.out ?_ (by decide)
  have e1 : U8s (l ++ s.data.toList) = U8s l ++ Lib.strCells s := by unfold U8s Lib.strCells; exact List.map_append
  rw [e1, List.length_append, HLL.out, Lib.strCells_length]
  exact HO2.out
theorem bldString_any {B b : Nat} {l : List UInt8} {w : World} (h : IsBld B b l w) (hBw : B ≤ w.heap.size) :
    Calls Tryd.prog 28 #[.pointer (some ⟨b, 0, none⟩)] w fun e w' => e = .returned (.string ⟨l.toArray⟩) ∧ Below B w w' ∧ Lib.OthersKept 5 (some b) w w' := by
  refine (Any.Builder_String_any_k Tryd.lays169 Tryd.Builder_Extra_169 B b l w (Lib.IsBuilderF.of h) hBw).mono ?_
  rintro e w' ⟨he, _, hb, ho⟩
  exact ⟨he, hb, ho⟩
theorem bldGrow_any {B n : Nat} {w : World} (b : Nat) (hB : B ≤ b) (hbk : w.heap[b]? = some (.cells #[.pointer none, .slice none 0 0] 64 (0, 0))) (hBw : B ≤ w.heap.size) (hn : n ≤ 281474976710656) :
    Calls Tryd.prog 37 #[.pointer (some ⟨b, 0, none⟩), .int .i64 n] w fun e w' => e = .returned (.tuple #[]) ∧ BldAt B b [] w' ∧ Below B w w' :=
  Any.Builder_Grow_fresh Tryd.lays165 Tryd.Builder_Extra_165 B b n w hB hbk hBw hn
end Go.Proofs.YtfmpbohiahjafaaDoor
