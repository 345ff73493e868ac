/- Fields: slices of numbers. Fields: the contracts of All, the program's and the document's. strings.Builder: copyCheck, fresh and used, and WriteString. Fields: the contracts of Join, the program's and the document's. -/
import Derived.Test.YtngkbcaflkinhaaDoorFldAE
import Derived.Laws.MakeOwn
import Derived.Test.YtngkbcaflkinhaaDoorByteAll
import Derived.Test.YtngkbcaflkinhaaDoorShelfB
import Derived.Lib.AppendStr
import Derived.Lib.Builder
import Derived.OwnWalk
import Derived.Laws.Externs
import Derived.RangeFuncNested
namespace Go.Proofs.YtngkbcaflkinhaaDoor
open Go.RowKit

def i64s (ks : List Int) : List Value := ks.map (Value.int .i64)
def u64s (ns : List Nat) : List Value := ns.map fun n : Nat => Value.int .u64 (n : Int)
theorem i64s_len (ks : List Int) : (i64s ks).length = ks.length := by simp [i64s]
theorem u64s_len (ns : List Nat) : (u64s ns).length = ns.length := by simp [u64s]
theorem i64s_at {ks : List Int} {j : Nat} (h : j < ks.length) : (i64s ks)[j]? = some (.int .i64 (ks.getD j 0)) := by
  unfold i64s; rw [List.getElem?_map, List.getElem?_eq_getElem h, List.getD, List.getElem?_eq_getElem h]; rfl
theorem u64s_at {ns : List Nat} {j : Nat} (h : j < ns.length) : (u64s ns)[j]? = some (.int .u64 ((ns.getD j 0 : Nat) : Int)) := by
  unfold u64s; rw [List.getElem?_map, List.getElem?_eq_getElem h, List.getD, List.getElem?_eq_getElem h]; rfl
theorem u64s_one (ns : List Nat) : ∀ u ∈ u64s ns, u.oneCell' = true := by
  intro u hu
  obtain ⟨b, _, rfl⟩ := List.mem_map.1 hu
  rfl
/-- A slice that reads as these values, a cell each. -/
def NumV (w : World) (v : Value) (xs : List Value) : Prop :=
  ∃ A cap, v = .slice A xs.length cap ∧ xs.length ≤ cap ∧ cap ≤ maxLen ∧ (xs = [] ∨ ∃ b off, A = some ⟨b, off, none⟩ ∧ b < w.heap.size ∧ ∀ j, j < xs.length → w.cell? ⟨b, off + j, none⟩ = xs[j]?)
theorem NumV.below {B : Nat} {w w' : World} {v : Value} {xs : List Value} (k : NumV w v xs) (hb : Below B w w') (hB : w.heap.size ≤ B) : NumV w' v xs := by
  obtain ⟨A, cap, hv, h1, h2, h3⟩ := k
  refine ⟨A, cap, hv, h1, h2, ?_⟩
  rcases h3 with h3 | ⟨b, off, hA, hlt, hc⟩
  · exact .inl h3
  · exact .inr ⟨b, off, hA, Nat.lt_of_lt_of_le hlt hb.size, fun j hj => (hb.cell (p := ⟨b, off + j, none⟩) (by show b < B; omega)).trans (hc j hj)⟩
/-- What a call owns reads as that. -/
theorem NumV.of_own {w : World} {base e : Nat} {v : Value} {xs : List Value} (h : w.ownsRow base e 1 v xs.length xs) : NumV w v xs := by
  rcases h.2 with ⟨rfl, h0⟩ | ⟨g, cap, cur, rfl, hb, hh, hn, hm, hs, ht⟩
  · obtain rfl : xs = [] := List.eq_nil_of_length_eq_zero h0
    exact ⟨none, 0, rfl, Nat.le_refl _, Nat.zero_le _, .inl rfl⟩
  · refine ⟨_, cap, rfl, hn, hm, .inr ⟨g, 0, rfl, (Array.getElem?_eq_some_iff.1 hh).1, fun j hj => ?_⟩⟩
    rw [Nat.zero_add, cell_of_row w g j cur e (0, 0) hh]
    rw [Nat.mul_one] at ht
    have h1 : (cur.toList.take xs.length)[j]? = xs[j]? := by rw [ht]
    rw [List.getElem?_take, if_pos hj, Array.getElem?_toList] at h1
    exact h1
/-- A slice of the call's own that holds these numbers. -/
def OwnN (w : World) (base : Nat) (v : Value) (ns : List Nat) : Prop := w.ownsRow base 93 1 v ns.length (u64s ns)
theorem OwnN.num {w : World} {base : Nat} {v : Value} {ns : List Nat} (h : OwnN w base v ns) : NumV w v (u64s ns) :=
  NumV.of_own (base := base) (e := 93) (by rw [u64s_len]; exact h)
theorem OwnN.at {w : World} {base : Nat} {v : Value} {ns : List Nat} (h : OwnN w base v ns) (n : Nat) (hn : n = ns.length) : w.ownsRow base 93 1 v n (u64s ns) := by subst hn; exact h
theorem infoU64 : (Tryd.prog.info? 93).map (fun i => (i.zero, i.size, i.bytes)) = some (some (.int .u64 0), 1, 8) := by kernel_rfl
theorem ownN_made (n : Nat) (h : n ≤ 200) (W : World) : OwnN (W.alloc (.cells (madeCells #[.int .u64 0] n) 93)) W.heap.size (.slice (some ⟨W.heap.size, 0, none⟩) 0 n) [] :=
  ⟨rfl, .inr ⟨W.heap.size, n, madeCells #[.int .u64 0] n, rfl, Nat.le_refl _, heap_alloc_new W _, Nat.zero_le _, (by unfold maxLen; omega), by simp [madeCells], by simp [u64s]⟩⟩
end Go.Proofs.YtngkbcaflkinhaaDoor
namespace Go.Proofs.YtngkbcaflkinhaaDoor
open Go.RowKit

theorem extract_listF (s : ByteArray) (a : Nat) : (s.extract a s.size).data.toList = s.data.toList.drop a := by
  rw [ByteArray.data_extract, Array.toList_extract]
  have : s.size = s.data.toList.length := rfl
  rw [List.extract_eq_take_drop]
  exact List.take_of_length_le (by rw [List.length_drop, this]; omega)
theorem OwnN.mk' {w : World} {base n : Nat} {v : Value} {ns : List Nat} {y : Nat} (hn : n = ns.length) (h : w.ownsRow base 93 1 v (n + 1) (u64s ns ++ [.int .u64 (y : Int)])) : OwnN w base v (ns ++ [y]) := by
  unfold OwnN
  subst hn
  rw [List.length_append, show u64s (ns ++ [y]) = u64s ns ++ [.int .u64 (y : Int)] by unfold u64s; rw [List.map_append]; rfl]
  exact h
end Go.Proofs.YtngkbcaflkinhaaDoor
namespace Go.Proofs.YtngkbcaflkinhaaDoor
open Go.RowKit Go.Shelf
attribute [local go_sem] Oper.semAt_some

/-- A builder in block b, of the call's own, that holds these bytes; it was written, or not. -/
def IsBld (B b : Nat) (l : List UInt8) (w : World) : Prop := Lib.IsBuilder 66 5 B b (U8s l) w
/-- One that was written. -/
def BldAt (B b : Nat) (l : List UInt8) (w : World) : Prop := Lib.BuilderAt 66 5 B b (.pointer (some ⟨b, 0, none⟩)) (U8s l) w
theorem bldFresh (w : World) (B : Nat) (hB : B ≤ w.heap.size) : IsBld B w.heap.size [] (w.alloc (.cells #[.pointer none, .slice none 0 0] 66)) :=
  .inl ⟨hB, .slice none 0 0, heap_alloc_new w _, World.ownsRow_nil _ _ _ _, fun e => by cases e⟩
set_option maxRecDepth 100000 in
theorem bldCheck_used {B b : Nat} {l : List UInt8} {w : World} (h : BldAt B b l w) :
    Calls Tryd.prog 45 #[.pointer (some ⟨b, 0, none⟩)] w fun e w' => e = .returned (.tuple #[]) ∧ w' = w := by
  obtain ⟨hB, v, hbk, _⟩ := h
  have c0 : w.cell? ⟨b, 0, none⟩ = some (.pointer (some ⟨b, 0, none⟩)) := by rw [Lib.cell_of_heap hbk]; rfl
  obtain ⟨j, hj, _⟩ := Option.map_eq_some_iff.1 Tryd.Builder_Extra_169.sizeBuilder
  have hcmp := Lib.run_neq_ptr_same (P := Tryd.prog) w (⟨b, 0, none⟩ : Addr) Tryd.underlying63 (show Tryd.prog.info? 66 = some j from hj)
  clear hj hbk
  go_enter Tryd.func45, Tryd.ntmps45
  go_wp2
  go_end0
  exact ⟨rfl, rfl⟩
set_option maxRecDepth 100000 in
set_option maxHeartbeats 1000000 in
theorem bldCheck_fresh {B b : Nat} {l : List UInt8} {w : World} (h : Lib.BuilderAt 66 5 B b (.pointer none) (U8s l) w) :
    Calls Tryd.prog 45 #[.pointer (some ⟨b, 0, none⟩)] w fun e w' => e = .returned (.tuple #[]) ∧ w' = w.setCell ⟨b, 0, none⟩ (.pointer (some ⟨b, 0, none⟩)) := by
  have h0 := h.cell0
  have hsh := h.shape
  have hfz := h.frozen0
  obtain ⟨j, hj, hjs⟩ := Option.map_eq_some_iff.1 Tryd.Builder_Extra_169.sizeBuilder
  have hj' : Tryd.prog.info? 66 = some j := hj
  have htu := fun W : World => fun hs : W.shape? b = some (66, 2) => Lib.run_to_unsafe (P := Tryd.prog) (src := 63) (dst := 105) W ⟨b, 0, none⟩ Tryd.underlying63 Tryd.underlying105 hj' (by rw [hjs]; decide) hs (Nat.zero_lt_succ 1)
  have htf := fun W : World => fun hs : W.shape? b = some (66, 2) => Lib.run_from_unsafe (P := Tryd.prog) (src := 105) (dst := 63) W ⟨b, 0, none⟩ Tryd.underlying105 Tryd.underlying63 hj' hs Tryd.Builder_Extra_169.liesBuilder
  have hcmp := fun W : World => Lib.run_neq_ptr_same (P := Tryd.prog) W (⟨b, 0, none⟩ : Addr) Tryd.underlying63 hj'
  have htu1 := htu w hsh
  have htf1 := htf w hsh
  clear h htu htf
  go_enter Tryd.func45, Tryd.ntmps45
  go_wp2
  rw [run_callFunc_extern Tryd.func55 (by kernel_rfl) (by kernel_rfl) (by kernel_rfl) (e := Extern.AbiNoEscape.same) (by kernel_rfl)]
  rw [Lib.run_noEscape]
  simp only [Result.andThen]
  rw [Oper.upon_value]
  go_wp2
  go_end0
  exact ⟨rfl, rfl⟩
theorem IsBld.below {B b : Nat} {l : List UInt8} {w w' : World} (h : IsBld B b l w) (hb : Below w.heap.size w w') : IsBld B b l w' := by
  have h1 : ∀ p, Lib.BuilderAt 66 5 B b p (U8s l) w → Lib.BuilderAt 66 5 B b p (U8s l) w' := by
    rintro p ⟨hB, v, hbk, hown, hne⟩
    exact ⟨hB, v, (hb.block b (Array.getElem?_eq_some_iff.1 hbk).1).trans hbk, own_keep hown hb, hne⟩
  exact h.imp (h1 _) (h1 _)
theorem others_put (W : World) (b i : Nat) (v : Value) (e : TypeId) : Lib.OthersKept e (some b) W (W.setCell ⟨b, i, none⟩ v) := by
  intro k o hk hne _
  rw [Below.heap_setCell _ _ _ _ (by rintro rfl; exact hne rfl)]; exact hk
theorem others_grown {W W' : World} {base e n : Nat} {v : Value} {xs : List Value} (ho : W.ownsRow base e 1 v n xs) (hg : W.grownBy W' v.ownBlock) (b : Option Nat) : Lib.OthersKept e b W W' := by
  intro k o hk _ hne
  refine (hg.block k (Array.getElem?_eq_some_iff.1 hk).1 (fun e' => ?_)).trans hk
  rcases ho.2 with ⟨rfl, _⟩ | ⟨g, cap, cur, rfl, _, hh, _⟩
  · cases e'
  · have e2 : some k = some g := e'
    injection e2 with e2
    subst e2
    rw [hh] at hk
    injection hk with hk
    exact hne _ _ hk.symm
/-- Whether it was written or not: behind it it was. -/
theorem bldCheck_any {B b : Nat} {l : List UInt8} {w : World} (h : IsBld B b l w) :
    Calls Tryd.prog 45 #[.pointer (some ⟨b, 0, none⟩)] w fun e w' => e = .returned (.tuple #[]) ∧ BldAt B b l w' ∧ Below B w w' ∧ KeepsOthers w w' ∧ Lib.OthersKept 5 (some b) w w' := by
  rcases h with h | h
  · refine (bldCheck_fresh h).mono ?_
    rintro e w' ⟨rfl, rfl⟩
    exact ⟨rfl, h.used _, (Below.refl B w).setCell (p := ⟨b, 0, none⟩) h.1 _, KeepsOthers.setCell _ _ _, others_put _ _ _ _ _⟩
  · refine (bldCheck_used h).mono ?_
    rintro e w' ⟨rfl, rfl⟩
    exact ⟨rfl, h, Below.refl B _, KeepsOthers.refl _, Lib.OthersKept.refl _ _ _⟩
theorem bldInfo : ∃ i, Tryd.prog.info? 5 = some i ∧ i.zero = some (.int .u8 0) ∧ i.size = 1 ∧ i.bytes = 1 := by
  have h := infoU8
  cases hq : Tryd.prog.info? 5 with
  | none => rw [hq] at h; cases h
  | some i => rw [hq] at h; simp only [Option.map_some, Option.some.injEq, Prod.mk.injEq] at h; exact ⟨i, rfl, h.1, h.2.1, h.2.2⟩
theorem bld_sl {w : World} {base e n : Nat} {v : Value} {xs : List Value} (ho : w.ownsRow base e 1 v n xs) : ∃ ao cp, v = .slice ao n cp := by
  rcases ho.2 with ⟨rfl, h⟩ | ⟨g, cap, cur, rfl, _⟩
  · subst h; exact ⟨_, _, rfl⟩
  · exact ⟨_, _, rfl⟩
theorem bld_keeps {W W' : World} {base e n : Nat} {v : Value} {xs : List Value} (ho : W.ownsRow base e 1 v n xs) (hg : W.grownBy W' v.ownBlock) : KeepsOthers W W' := by
  refine ⟨hg.size, fun k o hk hc => (hg.block k (Array.getElem?_eq_some_iff.1 hk).1 (fun e' => ?_)).trans hk⟩
  rcases ho.2 with ⟨rfl, _⟩ | ⟨g, cap, cur, rfl, _, hh, _⟩
  · cases e'
  · have : k = g := by have e2 : some k = some g := e'; injection e2
    subst this
    rw [hh] at hk; cases hk; cases hc
set_option maxRecDepth 100000 in
set_option maxHeartbeats 1000000 in
theorem bldWriteString_any {B b : Nat} {l : List UInt8} {w : World} (h : IsBld B b l w) (hBw : B ≤ w.heap.size) (s : ByteArray) (hlen : l.length + s.size ≤ 140737488355328) :
    Calls Tryd.prog 23 #[.pointer (some ⟨b, 0, none⟩), .string s] w fun e w' => e = .returned (.tuple #[.int .i64 (s.size : Int), .nilIface]) ∧ BldAt B b (l ++ s.data.toList) w' ∧ Below B w w' ∧ KeepsOthers w w' ∧ Lib.OthersKept 5 (some b) w w' := by
  have hC := bldCheck_any h
  obtain ⟨i0, hi, hz0, hz1, hz2⟩ := bldInfo
  have HLL : Hid ((U8s l).length = l.length) := Lib.hid (u8s_len l)
  have HSS : Hid (s.data.toList.length = s.size) := Lib.hid (by simp)
  clear h
  go_enter Tryd.func23, Tryd.ntmps23
  go_wp2_with (go_at_call 45; refine hC.mono ?_)
  rintro e w1 ⟨rfl, h1, hb1, hk1, ho1⟩
  obtain ⟨hB, v, hbk, hown, hne⟩ := h1
  rw [HLL.out] at hown
  obtain ⟨ao, cp, rfl⟩ := bld_sl hown
  have c0 : w1.cell? ⟨b, 0, none⟩ = some (.pointer (some ⟨b, 0, none⟩)) := by rw [Lib.cell_of_heap hbk]; rfl
  have c1 : w1.cell? ⟨b, 1, none⟩ = some (.slice ao l.length cp) := by rw [Lib.cell_of_heap hbk]; rfl
  have HBK := Lib.hid hbk
  have HNE := Lib.hid hne
  have HO := Lib.hid hown
  have HB1 := Lib.hid hb1
  have HK1 := Lib.hid hk1
  have HO1 := Lib.hid ho1
  have hbl : b < w1.heap.size := (Array.getElem?_eq_some_iff.1 hbk).1
  clear hbk hne hown hb1 hk1 ho1
  go_wp2_with (at_builtin; (with_reducible refine Lib.wpList_append_own_string _ ?g0 (.tmp 12) (.tmp 13) 64 9 ?g1 B 5 i0 Tryd.underlying64 Tryd.underlying9 hi hz0 hz1 hz2 (.slice ao l.length cp) l.length (U8s l) ?g2 HO.out s ?g3 ?c3 ?c4 ?c5 ?_); (case g0 => rfl); (case g1 => rfl); (case g2 => rfl); (case g3 => rfl); (case c3 => unfold maxLen; omega); (case c4 => omega); (case c5 => have := HB1.out.size; omega))
  intro v' w2 hown' hgrow _
  have hb2 : w2.heap[b]? = some (.cells #[.pointer (some ⟨b, 0, none⟩), .slice ao l.length cp] 66 (0, 0)) := by
    rw [hgrow.block b hbl (fun e => HNE.out e.symm)]; exact HBK.out
  have d0 : w2.cell? ⟨b, 0, none⟩ = some (.pointer (some ⟨b, 0, none⟩)) := by rw [Lib.cell_of_heap hb2]; rfl
  have d1 : w2.cell? ⟨b, 1, none⟩ = some (.slice ao l.length cp) := by rw [Lib.cell_of_heap hb2]; rfl
  have f1 : w2.frozen? ⟨b, 1, none⟩ = false := Lib.frozen_of_heap hb2 1
  obtain ⟨ao2, cp2, rfl⟩ := bld_sl hown'
  have HO2 := Lib.hid hown'
  have HG := Lib.hid hgrow
  have HB2 := Lib.hid hb2
  clear hown' hgrow hb2
  go_wp2
  go_ret2
  refine ⟨rfl, ?_, ((HB1.out.grown HG.out (by have := HB1.out.size; omega) (fun k hk => (HO.out.lt k hk).1)).setCell (p := ⟨b, 1, none⟩) hB _), (HK1.out.trans (bld_keeps HO.out HG.out)).trans (KeepsOthers.setCell _ _ _), (HO1.out.trans (others_grown HO.out HG.out _)).trans (others_put _ _ _ _ _)⟩
  refine Lib.BuilderAt.put hB HB2.out ?_ (by decide)
  have e1 : U8s (l ++ s.data.toList) = U8s l ++ Lib.strCells s := by unfold U8s Lib.strCells; exact List.map_append
  rw [e1, List.length_append, HLL.out, Lib.strCells_length]
  exact HO2.out
theorem bldString_any {B b : Nat} {l : List UInt8} {w : World} (h : IsBld B b l w) (hBw : B ≤ w.heap.size) :
    Calls Tryd.prog 24 #[.pointer (some ⟨b, 0, none⟩)] w fun e w' => e = .returned (.string ⟨l.toArray⟩) ∧ Below B w w' ∧ Lib.OthersKept 5 (some b) w w' := by
  refine (Any.Builder_String_any_k Tryd.lays169 Tryd.Builder_Extra_169 B b l w (Lib.IsBuilderF.of h) hBw).mono ?_
  rintro e w' ⟨he, _, hb, ho⟩
  exact ⟨he, hb, ho⟩
end Go.Proofs.YtngkbcaflkinhaaDoor
namespace Go.Proofs.YtngkbcaflkinhaaDoor
open Go.RowKit

theorem toList_mk (l : List UInt8) : (⟨l.toArray⟩ : ByteArray).data.toList = l := rfl
theorem size_mk (l : List UInt8) : (⟨l.toArray⟩ : ByteArray).size = l.length := rfl
theorem app_toList (a b : ByteArray) : (a ++ b).data.toList = a.data.toList ++ b.data.toList := by
  rw [ByteArray.data_append]; simp
end Go.Proofs.YtngkbcaflkinhaaDoor
