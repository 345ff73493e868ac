/- Fields: slices of numbers. Fields: the contracts of All, the program's and the document's. strings.Builder: copyCheck, fresh and used, and WriteString. Fields: the contracts of Join, the program's and the document's. -/
import Derived.Test.YtjocdbacdbhemaaFldAE
import Derived.Laws.MakeOwn
import Derived.Test.YtjocdbacdbhemaaByteAll
import Derived.Test.YtjocdbacdbhemaaShelfB
import Derived.Lib.AppendStr
import Derived.Lib.Builder
import Derived.OwnWalk
import Derived.Laws.Externs
import Derived.RangeFuncNested
namespace Go.Proofs.Ytjocdbacdbhemaa
open Go.RowKit

def i64s (ks : List Int) : List Value := ks.map (Value.int .i64)
def u64s (ns : List Nat) : List Value := ns.map fun n : Nat => Value.int .u64 (n : Int)
theorem i64s_len (ks : List Int) : (i64s ks).length = ks.length := by simp [i64s]
theorem u64s_len (ns : List Nat) : (u64s ns).length = ns.length := by simp [u64s]
theorem i64s_at {ks : List Int} {j : Nat} (h : j < ks.length) : (i64s ks)[j]? = some (.int .i64 (ks.getD j 0)) := by
  unfold i64s; rw [List.getElem?_map, List.getElem?_eq_getElem h, List.getD, List.getElem?_eq_getElem h]; rfl
theorem u64s_at {ns : List Nat} {j : Nat} (h : j < ns.length) : (u64s ns)[j]? = some (.int .u64 ((ns.getD j 0 : Nat) : Int)) := by
  unfold u64s; rw [List.getElem?_map, List.getElem?_eq_getElem h, List.getD, List.getElem?_eq_getElem h]; rfl
theorem u64s_one (ns : List Nat) : ∀ u ∈ u64s ns, u.oneCell' = true := by
  intro u hu
  obtain ⟨b, _, rfl⟩ := List.mem_map.1 hu
  rfl
/-- A slice that reads as these values, a cell each. -/
def NumV (w : World) (v : Value) (xs : List Value) : Prop :=
  ∃ A cap, v = .slice A xs.length cap ∧ xs.length ≤ cap ∧ cap ≤ maxLen ∧ (xs = [] ∨ ∃ b off, A = some ⟨b, off, none⟩ ∧ b < w.heap.size ∧ ∀ j, j < xs.length → w.cell? ⟨b, off + j, none⟩ = xs[j]?)
theorem NumV.below {B : Nat} {w w' : World} {v : Value} {xs : List Value} (k : NumV w v xs) (hb : Below B w w') (hB : w.heap.size ≤ B) : NumV w' v xs := by
  obtain ⟨A, cap, hv, h1, h2, h3⟩ := k
  refine ⟨A, cap, hv, h1, h2, ?_⟩
  rcases h3 with h3 | ⟨b, off, hA, hlt, hc⟩
  · exact .inl h3
  · exact .inr ⟨b, off, hA, Nat.lt_of_lt_of_le hlt hb.size, fun j hj => (hb.cell (p := ⟨b, off + j, none⟩) (by show b < B; omega)).trans (hc j hj)⟩
/-- What a call owns reads as that. -/
theorem NumV.of_own {w : World} {base e : Nat} {v : Value} {xs : List Value} (h : w.ownsRow base e 1 v xs.length xs) : NumV w v xs := by
  rcases h.2 with ⟨rfl, h0⟩ | ⟨g, cap, cur, rfl, hb, hh, hn, hm, hs, ht⟩
  · obtain rfl : xs = [] := List.eq_nil_of_length_eq_zero h0
    exact ⟨none, 0, rfl, Nat.le_refl _, Nat.zero_le _, .inl rfl⟩
  · refine ⟨_, cap, rfl, hn, hm, .inr ⟨g, 0, rfl, (Array.getElem?_eq_some_iff.1 hh).1, fun j hj => ?_⟩⟩
    rw [Nat.zero_add, cell_of_row w g j cur e (0, 0) hh]
    rw [Nat.mul_one] at ht
    have h1 : (cur.toList.take xs.length)[j]? = xs[j]? := by rw [ht]
    rw [List.getElem?_take, if_pos hj, Array.getElem?_toList] at h1
    exact h1
/-- A slice of the call's own that holds these numbers. -/
def OwnN (w : World) (base : Nat) (v : Value) (ns : List Nat) : Prop := w.ownsRow base 65 1 v ns.length (u64s ns)
theorem OwnN.num {w : World} {base : Nat} {v : Value} {ns : List Nat} (h : OwnN w base v ns) : NumV w v (u64s ns) :=
  NumV.of_own (base := base) (e := 65) (by rw [u64s_len]; exact h)
theorem OwnN.at {w : World} {base : Nat} {v : Value} {ns : List Nat} (h : OwnN w base v ns) (n : Nat) (hn : n = ns.length) : w.ownsRow base 65 1 v n (u64s ns) := by subst hn; exact h
theorem infoU64 : (Try.prog.info? 65).map (fun i => (i.zero, i.size, i.bytes)) = some (some (.int .u64 0), 1, 8) := by kernel_rfl
theorem makeN (n : Nat) (h : n ≤ 200) (W : World) : (Instr.makeSlice 68 (.int .i64 0) (.int .i64 (n : Int))).run Try.prog W = .ok (.slice (some ⟨W.heap.size, 0, none⟩) 0 n) (W.alloc (.cells (madeCells #[.int .u64 0] n) 65)) := by
  obtain ⟨i, hi, hz, hs, hb⟩ := info_parts infoU64
  have := run_make (P := Try.prog) W 68 65 i (.int .u64 0) Try.underlying68 hi hz .i64 .i64 0 n (by omega) (by omega) (by rw [hb]; omega) (by omega)
  rw [hs, Int.toNat_natCast, Nat.mul_one] at this
  exact this
theorem ownN_made (n : Nat) (h : n ≤ 200) (W : World) : OwnN (W.alloc (.cells (madeCells #[.int .u64 0] n) 65)) W.heap.size (.slice (some ⟨W.heap.size, 0, none⟩) 0 n) [] :=
  ⟨rfl, .inr ⟨W.heap.size, n, madeCells #[.int .u64 0] n, rfl, Nat.le_refl _, heap_alloc_new W _, Nat.zero_le _, (by unfold maxLen; omega), by simp [madeCells], by simp [u64s]⟩⟩
end Go.Proofs.Ytjocdbacdbhemaa
namespace Go.Proofs.Ytjocdbacdbhemaa
open Go.RowKit

theorem extract_listF (s : ByteArray) (a : Nat) : (s.extract a s.size).data.toList = s.data.toList.drop a := by
  rw [ByteArray.data_extract, Array.toList_extract]
  have : s.size = s.data.toList.length := rfl
  rw [List.extract_eq_take_drop]
  exact List.take_of_length_le (by rw [List.length_drop, this]; omega)
theorem OwnN.mk' {w : World} {base n : Nat} {v : Value} {ns : List Nat} {y : Nat} (hn : n = ns.length) (h : w.ownsRow base 65 1 v (n + 1) (u64s ns ++ [.int .u64 (y : Int)])) : OwnN w base v (ns ++ [y]) := by
  unfold OwnN
  subst hn
  rw [List.length_append, show u64s (ns ++ [y]) = u64s ns ++ [.int .u64 (y : Int)] by unfold u64s; rw [List.map_append]; rfl]
  exact h
set_option maxHeartbeats 2000000 in
set_option maxRecDepth 100000 in
theorem refAll_any (s : ByteArray) (ks : List Int) (v : Value) (w : World) (hk : NumV w v (i64s ks)) (hl : ks.length ≤ 200) :
    Calls Try.prog 45 #[.string s, v] w fun e w' => (∃ x, e = .returned (.tuple #[x, .string ⟨(allT s.data.toList ks).toArray⟩, .int .i64 (allE s.data.toList ks)]) ∧ OwnN w' w.heap.size x (allV s.data.toList ks)) ∧ Below w.heap.size w w' := by
  obtain ⟨i0, hi, hz0, hz1, hz2⟩ := info_parts infoU64
  obtain ⟨A, cap, rfl, hc1, hc2, hc3⟩ := hk
  have HC3 := Lib.hid hc3
  have e0 : (i64s ks).length = ks.length := i64s_len ks
  rw [e0] at hc1 ⊢
  have HE0 := Lib.hid e0
  clear hc3 e0
  have HO0 : Hid (OwnN w w.heap.size (.slice none 0 0) []) := Lib.hid (World.ownsRow_nil _ _ _ _)
  have HB0 : Hid (Below w.heap.size w w) := Lib.hid (Below.refl _ _)
  go_enter Try.func45, Try.ntmps45
  go_wp2
  go_loopw [0, 7, 14] (fun ss z ix wr => ∃ (j : Nat) (r : ByteArray) (x : Value), j ≤ ks.length ∧ ix = .int .i64 (j : Int) ∧ ss = .string r ∧ x = z ∧ allE s.data.toList (ks.take j) = 0 ∧ r.data.toList = allR s.data.toList (ks.take j) ∧ OwnN wr w.heap.size x (allL s.data.toList (ks.take j)) ∧ Below w.heap.size w wr) (fun _ _ ix _ => ks.length - (intOf ix).toNat)
  case atStart => exact ⟨0, s, _, Nat.zero_le _, rfl, rfl, rfl, rfl, rfl, HO0.out, HB0.out⟩
  case round =>
    obtain ⟨j, r, x, hj, rfl, rfl, rfl, he, hr, hown, hB⟩ := hrel
    have HB := Lib.hid hB
    have HE := Lib.hid he
    have HR := Lib.hid hr
    have HOWN := Lib.hid hown
    clear hB he hr hown HO0 HB0
    by_cases hlt : j < ks.length
    · obtain ⟨b, off, rfl, hb, hcell⟩ := HC3.out.resolve_left (by intro e; have := HE0.out; rw [e] at this; simp at this; omega)
      have hck : wr.cell? ⟨b, off + j, none⟩ = some (.int .i64 (ks.getD j 0)) := by
        rw [HB.out.cell (p := ⟨b, off + j, none⟩) hb, hcell j (by rw [HE0.out]; exact hlt), i64s_at hlt]
      obtain ⟨k, hkk⟩ : ∃ k, k = ks.getD j 0 := ⟨_, rfl⟩
      rw [← hkk] at hck
      have hG := refGet_any k r
      have HSTEP := Lib.hid (all_step hlt HE.out)
      have HSTOP := Lib.hid (all_stop hlt HE.out)
      rw [← hkk, ← HR.out] at HSTEP HSTOP
      clear hkk hcell hb
      by_cases hg : getE k r.data.toList = 0
      · obtain ⟨hW, hs⟩ := getE_ok.1 hg
        have h8 := isW_le hW
        rw [hg] at hG
        obtain ⟨K, rfl⟩ : ∃ K : Nat, k = (K : Int) := ⟨k.toNat, by omega⟩
        rw [Int.toNat_natCast, size_toList] at hs
        obtain ⟨y, hy⟩ : ∃ y, y = getN (K : Int) r.data.toList := ⟨_, rfl⟩
        rw [← hy] at hG HSTEP
        have HG := Lib.hid hg
        clear hW hg hy HSTOP
        go_wp2_with (first
          | (go_at_call 61; refine (hG _).mono ?_; rintro e w2 ⟨rfl, hb2⟩; have HB2 := Lib.hid (HB.out.trans (hb2.mono HB.out.size)); have HB2r := Lib.hid hb2; clear hb2
             have HO2 : Hid ((w2.alloc (.cells #[.int .u64 (y : Int)] 65)).ownsRow w.heap.size 65 1 x j (u64s (allL s.data.toList (ks.take j)))) := Lib.hid (World.ownsRow.alloc (own_keep (OwnN.at HOWN.out j (by rw [allL_len, List.length_take]; omega)) HB2r.out) _))
          | (at_builtin; (with_reducible refine wpList_append_own_at _ ?g0 (.tmp 27) (.tmp 29) 68 ?g1 w.heap.size 65 i0 (.int .u64 0) 1 8 Try.underlying68 hi hz0 hz1 hz2 ?g2 (by decide) x j (u64s (allL s.data.toList (ks.take j))) ?g3 HO2.out ⟨w2.heap.size, 0, none⟩ 1 1 [.int .u64 (y : Int)] ?g4 ?g5 ?c1 ?c2 ?c3 ?c4 ?c5 ?_); (case g0 => rfl); (case g1 => rfl); (case g2 => rfl); (case g3 => rfl); (case g4 => rfl); (case g5 => rfl); (case c1 => exact cell_one_new _ _ _); (case c2 => simp [Value.oneCell']); (case c3 => unfold maxLen; omega); (case c4 => omega); (case c5 => rw [World.size_alloc]; exact Nat.le_succ_of_le HB2.out.size); (intro v' w3 hown3 hgrow _ _)))
        have hB3 : Below w.heap.size w w3 := (HB2.out.alloc HB2.out.size _).grown hgrow (by rw [World.size_alloc]; exact Nat.le_succ_of_le HB2.out.size) (fun g hg => (World.ownsRow.lt HOWN.out g hg).1)
        obtain ⟨s1, s2, s3⟩ := HSTEP.out
        go_roundw
        case rel =>
          refine ⟨j + 1, r.extract K r.size, v', by omega, by go_num, rfl, rfl, s1.trans HG.out, ?_, ?_, hB3⟩
          · rw [extract_listF, s3, Int.toNat_natCast]
          · rw [s2]
            exact OwnN.mk' (by rw [allL_len, List.length_take]; omega) hown3
        case measure => simp [intOf]; omega
      · obtain ⟨z, hz⟩ : ∃ z, z = getE k r.data.toList := ⟨_, rfl⟩
        have hst := HSTOP.out hg
        rw [← hz] at hst hg hG
        have hE : Hid (allV s.data.toList ks = []) := Lib.hid (if_neg (by rw [hst]; exact hg))
        have hE2 : Hid (allT s.data.toList ks = []) := Lib.hid (if_neg (by rw [hst]; exact hg))
        have hz0 : (z == 0) = false := by simpa using hg
        have HST := Lib.hid hst
        clear hz hst hg HSTOP HSTEP
        go_wp2_with (go_at_call 61; refine (hG _).mono ?_; rintro e w2 ⟨rfl, hb2⟩; have HB2 := Lib.hid (HB.out.trans (hb2.mono HB.out.size)); clear hb2)
        go_ret3
        exact ⟨⟨.slice none 0 0, by rw [hE2.out, HST.out]; rfl, by rw [hE.out]; exact World.ownsRow_nil _ _ _ _⟩, HB2.out⟩
    · obtain rfl : j = ks.length := by omega
      have HT : Hid (ks.take ks.length = ks) := Lib.hid (List.take_of_length_le (Nat.le_refl _))
      rw [HT.out] at HE HR HOWN
      have hV : Hid (allV s.data.toList ks = allL s.data.toList ks) := Lib.hid (if_pos HE.out)
      have hT : Hid (allT s.data.toList ks = allR s.data.toList ks) := Lib.hid (if_pos HE.out)
      clear HT
      go_wp2
      go_ret3
      refine ⟨⟨x, ?_, by rw [hV.out]; exact HOWN.out⟩, HB.out⟩
      rw [hT.out, ← HR.out, HE.out]
      rfl
end Go.Proofs.Ytjocdbacdbhemaa
namespace Go.Proofs.Ytjocdbacdbhemaa
open Go.RowKit Go.Shelf
attribute [local go_sem] Oper.semAt_some

/-- A builder in block b, of the call's own, that holds these bytes; it was written, or not. -/
def IsBld (B b : Nat) (l : List UInt8) (w : World) : Prop := Lib.IsBuilder 77 5 B b (U8s l) w
/-- One that was written. -/
def BldAt (B b : Nat) (l : List UInt8) (w : World) : Prop := Lib.BuilderAt 77 5 B b (.pointer (some ⟨b, 0, none⟩)) (U8s l) w
theorem bldFresh (w : World) (B : Nat) (hB : B ≤ w.heap.size) : IsBld B w.heap.size [] (w.alloc (.cells #[.pointer none, .slice none 0 0] 77)) :=
  .inl ⟨hB, .slice none 0 0, heap_alloc_new w _, World.ownsRow_nil _ _ _ _, fun e => by cases e⟩
set_option maxRecDepth 100000 in
theorem bldCheck_used {B b : Nat} {l : List UInt8} {w : World} (h : BldAt B b l w) :
    Calls Try.prog 62 #[.pointer (some ⟨b, 0, none⟩)] w fun e w' => e = .returned (.tuple #[]) ∧ w' = w := by
  obtain ⟨hB, v, hbk, _⟩ := h
  have c0 : w.cell? ⟨b, 0, none⟩ = some (.pointer (some ⟨b, 0, none⟩)) := by rw [Lib.cell_of_heap hbk]; rfl
  obtain ⟨j, hj, _⟩ := Option.map_eq_some_iff.1 Try.Builder_Extra_169.sizeBuilder
  have hcmp := Lib.run_neq_ptr_same (P := Try.prog) w (⟨b, 0, none⟩ : Addr) Try.underlying74 (show Try.prog.info? 77 = some j from hj)
  clear hj hbk
  go_enter Try.func62, Try.ntmps62
  go_wp2
  go_end0
  exact ⟨rfl, rfl⟩
set_option maxRecDepth 100000 in
set_option maxHeartbeats 1000000 in
theorem bldCheck_fresh {B b : Nat} {l : List UInt8} {w : World} (h : Lib.BuilderAt 77 5 B b (.pointer none) (U8s l) w) :
    Calls Try.prog 62 #[.pointer (some ⟨b, 0, none⟩)] w fun e w' => e = .returned (.tuple #[]) ∧ w' = w.setCell ⟨b, 0, none⟩ (.pointer (some ⟨b, 0, none⟩)) := by
  have h0 := h.cell0
  have hsh := h.shape
  have hfz := h.frozen0
  obtain ⟨j, hj, hjs⟩ := Option.map_eq_some_iff.1 Try.Builder_Extra_169.sizeBuilder
  have hj' : Try.prog.info? 77 = some j := hj
  have htu := fun W : World => fun hs : W.shape? b = some (77, 2) => Lib.run_to_unsafe (P := Try.prog) (src := 74) (dst := 112) W ⟨b, 0, none⟩ Try.underlying74 Try.underlying112 hj' (by rw [hjs]; decide) hs (Nat.zero_lt_succ 1)
  have htf := fun W : World => fun hs : W.shape? b = some (77, 2) => Lib.run_from_unsafe (P := Try.prog) (src := 112) (dst := 74) W ⟨b, 0, none⟩ Try.underlying112 Try.underlying74 hj' hs Try.Builder_Extra_169.liesBuilder
  have hcmp := fun W : World => Lib.run_neq_ptr_same (P := Try.prog) W (⟨b, 0, none⟩ : Addr) Try.underlying74 hj'
  have htu1 := htu w hsh
  have htf1 := htf w hsh
  clear h htu htf
  go_enter Try.func62, Try.ntmps62
  go_wp2
  rw [run_callFunc_extern Try.func77 (by kernel_rfl) (by kernel_rfl) (by kernel_rfl) (e := Extern.AbiNoEscape.same) (by kernel_rfl)]
  rw [Lib.run_noEscape]
  simp only [Result.andThen]
  rw [Oper.upon_value]
  go_wp2
  go_end0
  exact ⟨rfl, rfl⟩
theorem IsBld.below {B b : Nat} {l : List UInt8} {w w' : World} (h : IsBld B b l w) (hb : Below w.heap.size w w') : IsBld B b l w' := by
  have h1 : ∀ p, Lib.BuilderAt 77 5 B b p (U8s l) w → Lib.BuilderAt 77 5 B b p (U8s l) w' := by
    rintro p ⟨hB, v, hbk, hown, hne⟩
    exact ⟨hB, v, (hb.block b (Array.getElem?_eq_some_iff.1 hbk).1).trans hbk, own_keep hown hb, hne⟩
  exact h.imp (h1 _) (h1 _)
theorem others_put (W : World) (b i : Nat) (v : Value) (e : TypeId) : Lib.OthersKept e (some b) W (W.setCell ⟨b, i, none⟩ v) := by
  intro k o hk hne _
  rw [Below.heap_setCell _ _ _ _ (by rintro rfl; exact hne rfl)]; exact hk
theorem others_grown {W W' : World} {base e n : Nat} {v : Value} {xs : List Value} (ho : W.ownsRow base e 1 v n xs) (hg : W.grownBy W' v.ownBlock) (b : Option Nat) : Lib.OthersKept e b W W' := by
  intro k o hk _ hne
  refine (hg.block k (Array.getElem?_eq_some_iff.1 hk).1 (fun e' => ?_)).trans hk
  rcases ho.2 with ⟨rfl, _⟩ | ⟨g, cap, cur, rfl, _, hh, _⟩
  · cases e'
  · have e2 : some k = some g := e'
    injection e2 with e2
    subst e2
    rw [hh] at hk
    injection hk with hk
    exact hne _ _ hk.symm
/-- Whether it was written or not: behind it it was. -/
theorem bldCheck_any {B b : Nat} {l : List UInt8} {w : World} (h : IsBld B b l w) :
    Calls Try.prog 62 #[.pointer (some ⟨b, 0, none⟩)] w fun e w' => e = .returned (.tuple #[]) ∧ BldAt B b l w' ∧ Below B w w' ∧ KeepsOthers w w' ∧ Lib.OthersKept 5 (some b) w w' := by
  rcases h with h | h
  · refine (bldCheck_fresh h).mono ?_
    rintro e w' ⟨rfl, rfl⟩
    exact ⟨rfl, h.used _, (Below.refl B w).setCell (p := ⟨b, 0, none⟩) h.1 _, KeepsOthers.setCell _ _ _, others_put _ _ _ _ _⟩
  · refine (bldCheck_used h).mono ?_
    rintro e w' ⟨rfl, rfl⟩
    exact ⟨rfl, h, Below.refl B _, KeepsOthers.refl _, Lib.OthersKept.refl _ _ _⟩
theorem bldInfo : ∃ i, Try.prog.info? 5 = some i ∧ i.zero = some (.int .u8 0) ∧ i.size = 1 ∧ i.bytes = 1 := by
  have h := infoU8
  cases hq : Try.prog.info? 5 with
  | none => rw [hq] at h; cases h
  | some i => rw [hq] at h; simp only [Option.map_some, Option.some.injEq, Prod.mk.injEq] at h; exact ⟨i, rfl, h.1, h.2.1, h.2.2⟩
theorem bld_sl {w : World} {base e n : Nat} {v : Value} {xs : List Value} (ho : w.ownsRow base e 1 v n xs) : ∃ ao cp, v = .slice ao n cp := by
  rcases ho.2 with ⟨rfl, h⟩ | ⟨g, cap, cur, rfl, _⟩
  · subst h; exact ⟨_, _, rfl⟩
  · exact ⟨_, _, rfl⟩
theorem bld_keeps {W W' : World} {base e n : Nat} {v : Value} {xs : List Value} (ho : W.ownsRow base e 1 v n xs) (hg : W.grownBy W' v.ownBlock) : KeepsOthers W W' := by
  refine ⟨hg.size, fun k o hk hc => (hg.block k (Array.getElem?_eq_some_iff.1 hk).1 (fun e' => ?_)).trans hk⟩
  rcases ho.2 with ⟨rfl, _⟩ | ⟨g, cap, cur, rfl, _, hh, _⟩
  · cases e'
  · have : k = g := by have e2 : some k = some g := e'; injection e2
    subst this
    rw [hh] at hk; cases hk; cases hc
set_option maxRecDepth 100000 in
set_option maxHeartbeats 1000000 in
theorem bldWriteString_any {B b : Nat} {l : List UInt8} {w : World} (h : IsBld B b l w) (hBw : B ≤ w.heap.size) (s : ByteArray) (hlen : l.length + s.size ≤ 140737488355328) :
    Calls Try.prog 46 #[.pointer (some ⟨b, 0, none⟩), .string s] w fun e w' => e = .returned (.tuple #[.int .i64 (s.size : Int), .nilIface]) ∧ BldAt B b (l ++ s.data.toList) w' ∧ Below B w w' ∧ KeepsOthers w w' ∧ Lib.OthersKept 5 (some b) w w' := by
  have hC := bldCheck_any h
  obtain ⟨i0, hi, hz0, hz1, hz2⟩ := bldInfo
  have HLL : Hid ((U8s l).length = l.length) := Lib.hid (u8s_len l)
  have HSS : Hid (s.data.toList.length = s.size) := Lib.hid (by simp)
  clear h
  go_enter Try.func46, Try.ntmps46
  go_wp2_with (go_at_call 62; refine hC.mono ?_)
  rintro e w1 ⟨rfl, h1, hb1, hk1, ho1⟩
  obtain ⟨hB, v, hbk, hown, hne⟩ := h1
  rw [HLL.out] at hown
  obtain ⟨ao, cp, rfl⟩ := bld_sl hown
  have c0 : w1.cell? ⟨b, 0, none⟩ = some (.pointer (some ⟨b, 0, none⟩)) := by rw [Lib.cell_of_heap hbk]; rfl
  have c1 : w1.cell? ⟨b, 1, none⟩ = some (.slice ao l.length cp) := by rw [Lib.cell_of_heap hbk]; rfl
  have HBK := Lib.hid hbk
  have HNE := Lib.hid hne
  have HO := Lib.hid hown
  have HB1 := Lib.hid hb1
  have HK1 := Lib.hid hk1
  have HO1 := Lib.hid ho1
  have hbl : b < w1.heap.size := (Array.getElem?_eq_some_iff.1 hbk).1
  clear hbk hne hown hb1 hk1 ho1
  go_wp2_with (at_builtin; (with_reducible refine Lib.wpList_append_own_string _ ?g0 (.tmp 12) (.tmp 13) 75 9 ?g1 B 5 i0 Try.underlying75 Try.underlying9 hi hz0 hz1 hz2 (.slice ao l.length cp) l.length (U8s l) ?g2 HO.out s ?g3 ?c3 ?c4 ?c5 ?_); (case g0 => rfl); (case g1 => rfl); (case g2 => rfl); (case g3 => rfl); (case c3 => unfold maxLen; omega); (case c4 => omega); (case c5 => have := HB1.out.size; omega))
  intro v' w2 hown' hgrow _
  have hb2 : w2.heap[b]? = some (.cells #[.pointer (some ⟨b, 0, none⟩), .slice ao l.length cp] 77 (0, 0)) := by
    rw [hgrow.block b hbl (fun e => HNE.out e.symm)]; exact HBK.out
  have d0 : w2.cell? ⟨b, 0, none⟩ = some (.pointer (some ⟨b, 0, none⟩)) := by rw [Lib.cell_of_heap hb2]; rfl
  have d1 : w2.cell? ⟨b, 1, none⟩ = some (.slice ao l.length cp) := by rw [Lib.cell_of_heap hb2]; rfl
  have f1 : w2.frozen? ⟨b, 1, none⟩ = false := Lib.frozen_of_heap hb2 1
  obtain ⟨ao2, cp2, rfl⟩ := bld_sl hown'
  have HO2 := Lib.hid hown'
  have HG := Lib.hid hgrow
  have HB2 := Lib.hid hb2
  clear hown' hgrow hb2
  go_wp2
  go_ret2
  refine ⟨rfl, ?_, ((HB1.out.grown HG.out (by have := HB1.out.size; omega) (fun k hk => (HO.out.lt k hk).1)).setCell (p := ⟨b, 1, none⟩) hB _), (HK1.out.trans (bld_keeps HO.out HG.out)).trans (KeepsOthers.setCell _ _ _), (HO1.out.trans (others_grown HO.out HG.out _)).trans (others_put _ _ _ _ _)⟩
  refine Lib.BuilderAt.put hB HB2.out ?_ (by decide)
  have e1 : U8s (l ++ s.data.toList) = U8s l ++ Lib.strCells s := by unfold U8s Lib.strCells; exact List.map_append
  rw [e1, List.length_append, HLL.out, Lib.strCells_length]
  exact HO2.out
theorem bldString_any {B b : Nat} {l : List UInt8} {w : World} (h : IsBld B b l w) (hBw : B ≤ w.heap.size) :
    Calls Try.prog 47 #[.pointer (some ⟨b, 0, none⟩)] w fun e w' => e = .returned (.string ⟨l.toArray⟩) ∧ Below B w w' ∧ Lib.OthersKept 5 (some b) w w' := by
  refine (Any.Builder_String_any_k Try.lays169 Try.Builder_Extra_169 B b l w (Lib.IsBuilderF.of h) hBw).mono ?_
  rintro e w' ⟨he, _, hb, ho⟩
  exact ⟨he, hb, ho⟩
end Go.Proofs.Ytjocdbacdbhemaa
namespace Go.Proofs.Ytjocdbacdbhemaa
open Go.RowKit

theorem toList_mk (l : List UInt8) : (⟨l.toArray⟩ : ByteArray).data.toList = l := rfl
theorem size_mk (l : List UInt8) : (⟨l.toArray⟩ : ByteArray).size = l.length := rfl
theorem app_toList (a b : ByteArray) : (a ++ b).data.toList = a.data.toList ++ b.data.toList := by
  rw [ByteArray.data_append]; simp
set_option maxHeartbeats 2000000 in
theorem refJoin_any (ks : List Int) (ns : List Nat) (v u : Value) (w : World) (hk : NumV w v (i64s ks)) (hu : NumV w u (u64s ns)) (hl : ks.length ≤ 200) (hns : ∀ n ∈ ns, n < 18446744073709551616) :
    Calls Try.prog 42 #[v, u] w fun e w' => e = .returned (.tuple #[.string ⟨(joinS ks ns).toArray⟩, .int .i64 (joinE ks ns)]) ∧ Below w.heap.size w w' := by
  obtain ⟨A, cap, rfl, hc1, hc2, hc3⟩ := hk
  obtain ⟨A2, cap2, rfl, hd1, hd2, hd3⟩ := hu
  have HC3 := Lib.hid hc3
  have HD3 := Lib.hid hd3
  have e0 : (i64s ks).length = ks.length := i64s_len ks
  have e1 : (u64s ns).length = ns.length := u64s_len ns
  rw [e0] at hc1
  rw [e1] at hd1
  rw [e0, e1]
  have HE0 := Lib.hid e0
  have HE1 := Lib.hid e1
  clear hc3 hd3 e0 e1
  by_cases hlen : ks.length = ns.length
  case neg =>
    have d0 : ((ks.length : Int) != (ns.length : Int)) = true := by rw [bne_iff_ne]; omega
    have hE : Hid (joinE ks ns = 2) := Lib.hid (if_neg hlen)
    have hS : Hid (joinS ks ns = []) := Lib.hid (if_neg (by rw [hE.out]; omega))
    clear hlen
    go_enter Try.func42, Try.ntmps42
    go_wp2
    go_ret2
    exact ⟨by rw [hE.out, hS.out]; rfl, Below.refl _ _⟩
  case pos =>
  have d0 : ((ks.length : Int) != (ns.length : Int)) = false := by rw [bne_eq_false_iff_eq]; omega
  have HLEN := Lib.hid hlen
  have HL0 : Hid (([] : List UInt8) = joinL (ks.take 0) (ns.take 0)) := Lib.hid rfl
  have HB0 : Hid (Below w.heap.size w w) := Lib.hid (Below.refl _ _)
  have HNS := Lib.hid hns
  clear hns
  clear hlen
  go_enter Try.func42, Try.ntmps42
  go_wp2
  clear d0
  go_loopw [6, 18] (fun ss ix wr => ∃ (j : Nat) (r : ByteArray), j ≤ ks.length ∧ ix = .int .i64 (j : Int) ∧ ss = .string r ∧ joinP (ks.take j) (ns.take j) = 0 ∧ r.data.toList = joinL (ks.take j) (ns.take j) ∧ Below w.heap.size w wr) (fun _ ix _ => ks.length - (intOf ix).toNat)
  case atStart => exact ⟨0, ByteArray.empty, Nat.zero_le _, rfl, rfl, rfl, HL0.out, HB0.out⟩
  case round =>
    obtain ⟨j, r, hj, rfl, rfl, hp, hbl, hB⟩ := hrel
    have HB := Lib.hid hB
    have HP := Lib.hid hp
    have HBL := Lib.hid hbl
    clear hB hp hbl HB0 HL0
    by_cases hlt : j < ks.length
    · obtain ⟨b, off, rfl, hb, hcell⟩ := HC3.out.resolve_left (by intro e; have := HE0.out; rw [e] at this; simp at this; omega)
      obtain ⟨b2, off2, rfl, hb2, hcell2⟩ := HD3.out.resolve_left (by intro e; have := HE1.out; have := HLEN.out; rw [e] at *; simp at *; omega)
      have hlt2 : j < ns.length := by have := HLEN.out; omega
      have hck : wr.cell? ⟨b, off + j, none⟩ = some (.int .i64 (ks.getD j 0)) := by
        rw [HB.out.cell (p := ⟨b, off + j, none⟩) hb, hcell j (by rw [HE0.out]; exact hlt), i64s_at hlt]
      have hcn : wr.cell? ⟨b2, off2 + j, none⟩ = some (.int .u64 ((ns.getD j 0 : Nat) : Int)) := by
        rw [HB.out.cell (p := ⟨b2, off2 + j, none⟩) hb2, hcell2 j (by rw [HE1.out]; exact hlt2), u64s_at hlt2]
      have hnj : ns.getD j 0 < 18446744073709551616 := by
        rw [List.getD, List.getElem?_eq_getElem hlt2]; exact HNS.out _ (List.getElem_mem hlt2)
      obtain ⟨k, hkk⟩ : ∃ k, k = ks.getD j 0 := ⟨_, rfl⟩
      obtain ⟨n, hnn⟩ : ∃ n, n = ns.getD j 0 := ⟨_, rfl⟩
      rw [← hkk] at hck
      rw [← hnn] at hcn
      have hG := refPut_any k n (by rw [hnn]; exact hnj)
      have HSTEP := Lib.hid (join_step HLEN.out hlt HP.out)
      have HSTOP := Lib.hid (join_stop HLEN.out hlt HP.out)
      have HLL := joinL_len _ _ HP.out
      rw [List.length_take, Nat.min_eq_left (by omega)] at HLL
      rw [← hkk, ← hnn] at HSTEP HSTOP
      clear hkk hnn hcell hcell2 hb hb2
      by_cases hg : putE k n = 0
      · have h8 := isW_le (putE_ok.1 hg).1
        rw [hg, putS_ok hg] at hG
        have HG := Lib.hid hg
        obtain ⟨s, hs⟩ : ∃ s : ByteArray, s = ⟨(leB k.toNat n).toArray⟩ := ⟨_, rfl⟩
        have hss : s.size = k.toNat := by rw [hs, size_mk, leB_len]
        have hsl : s.data.toList = leB k.toNat n := by rw [hs]
        rw [← hs] at hG
        rw [← hsl] at HSTEP
        have HSS := Lib.hid hss
        clear hg hs hsl HSTOP
        have hcat : ¬ 9223372036854775807 < r.size + s.size := by
          have h1 := size_toList r
          rw [HBL.out] at h1
          have := HSS.out
          omega
        go_wp2_with (go_at_call 60; refine (hG _).mono ?_; rintro e w2 ⟨rfl, hb2⟩; have HB2 := Lib.hid (HB.out.trans (hb2.mono HB.out.size)); clear hb2)
        go_roundw
        case rel => exact ⟨j + 1, _, by omega, by go_num, rfl, HSTEP.out.1.trans HG.out, by rw [HSTEP.out.2, app_toList, HBL.out], HB2.out⟩
        case measure => simp [intOf]; omega
      · obtain ⟨z, hz⟩ : ∃ z, z = putE k n := ⟨_, rfl⟩
        have hst := HSTOP.out hg
        rw [← hz] at hst hg hG
        have hS : Hid (joinS ks ns = []) := Lib.hid (if_neg (by rw [hst]; exact hg))
        have hz0 : (z == 0) = false := by simpa using hg
        have HST := Lib.hid hst
        clear hz hst hg HSTOP HSTEP HLL
        go_wp2_with (go_at_call 60; refine (hG _).mono ?_; rintro e w2 ⟨rfl, hb2⟩; have HB2 := Lib.hid (HB.out.trans (hb2.mono HB.out.size)); clear hb2)
        go_ret2
        exact ⟨by rw [hS.out, HST.out]; rfl, HB2.out⟩
    · obtain rfl : j = ks.length := by omega
      have HT : Hid (ks.take ks.length = ks ∧ ns.take ks.length = ns) := Lib.hid ⟨List.take_of_length_le (Nat.le_refl _), List.take_of_length_le (by rw [HLEN.out]; exact Nat.le_refl _)⟩
      rw [HT.out.1, HT.out.2] at HP HBL
      have hE : Hid (joinE ks ns = 0) := Lib.hid ((if_pos HLEN.out).trans HP.out)
      have hS : Hid (joinS ks ns = joinL ks ns) := Lib.hid (if_pos hE.out)
      clear HT
      go_wp2
      go_ret2
      exact ⟨by rw [hS.out, hE.out, ← HBL.out]; rfl, HB.out⟩
end Go.Proofs.Ytjocdbacdbhemaa
