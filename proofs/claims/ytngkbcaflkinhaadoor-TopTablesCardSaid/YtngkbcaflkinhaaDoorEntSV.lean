/- Entries: slices of them: what they read as, and the contracts of Table, the program's and the document's. Entries: rows of them that are made and written; the contracts of ParseTable. Entries: the document's own ParseTable; Same. Entries: Same. -/
import Derived.Test.YtngkbcaflkinhaaDoorEntAC
import Derived.Test.YtngkbcaflkinhaaDoorEntDF
import Derived.Test.YtngkbcaflkinhaaDoorFldFH
import Derived.Laws.MakeOwn
import Derived.Deep.OwnRows
namespace Go.Proofs.YtngkbcaflkinhaaDoor
open Go.RowKit

/-- An entry, as its cells read from place o of block b on. -/
structure EntAt (w : World) (b o : Nat) (x : EN) : Prop where
  c0 : w.cell? ⟨b, o, none⟩ = some (.int .u8 x.kind)
  c1 : w.cell? ⟨b, o + 1, none⟩ = some (.int .i64 x.st)
  c2 : w.cell? ⟨b, o + 2, none⟩ = some (.int .i64 x.mb)
  c3 : w.cell? ⟨b, o + 3, none⟩ = some (.int .i64 x.fr)
theorem EntAt.below {B : Nat} {w w' : World} {b o : Nat} {x : EN} (a : EntAt w b o x) (hb : Below B w w') (hlt : b < B) : EntAt w' b o x := by
  have h (q : Nat) : w'.cell? ⟨b, q, none⟩ = w.cell? ⟨b, q, none⟩ := hb.cell (p := ⟨b, q, none⟩) hlt
  exact ⟨(h _).trans a.c0, (h _).trans a.c1, (h _).trans a.c2, (h _).trans a.c3⟩
/-- A slice that reads as these entries. -/
def EntsS (w : World) (v : Value) (L : List EN) : Prop :=
  ∃ A cap, v = .slice A L.length cap ∧ L.length ≤ cap ∧ cap ≤ maxLen ∧ (L = [] ∨ ∃ b off, A = some ⟨b, off, none⟩ ∧ b < w.heap.size ∧ ∀ j, j < L.length → EntAt w b (off + j * 4) (L.getD j EN.zero))
theorem EntsS.below {B : Nat} {w w' : World} {v : Value} {L : List EN} (k : EntsS w v L) (hb : Below B w w') (hB : w.heap.size ≤ B) : EntsS w' v L := by
  obtain ⟨A, cap, hv, h1, h2, h3⟩ := k
  refine ⟨A, cap, hv, h1, h2, ?_⟩
  rcases h3 with h3 | ⟨b, off, hA, hlt, hc⟩
  · exact .inl h3
  · exact .inr ⟨b, off, hA, Nat.lt_of_lt_of_le hlt hb.size, fun j hj => (hc j hj).below hb (by omega)⟩
theorem take_snocE {L : List EN} {k : Nat} (hk : k < L.length) : L.take (k + 1) = L.take k ++ [L.getD k EN.zero] := by
  rw [List.take_succ_eq_append_getElem hk, List.getD, List.getElem?_eq_getElem hk]; rfl
theorem tab_step {L : List EN} {j : Nat} (hj : j < L.length) (h0 : ∀ p ∈ L.take j, EB p) (hp : EB (L.getD j EN.zero)) :
    (∀ p ∈ L.take (j + 1), EB p) ∧ (L.take (j + 1)).flatMap entBL = (L.take j).flatMap entBL ++ leB 8 (entN (L.getD j EN.zero)) := by
  rw [take_snocE hj]
  refine ⟨fun p h => ?_, ?_⟩
  · rcases List.mem_append.1 h with h | h
    · exact h0 p h
    · rw [List.mem_singleton.1 h]; exact hp
  · rw [List.flatMap_append, List.flatMap_singleton]
    congr 1
    exact if_pos hp
theorem tab_stop {L : List EN} {j : Nat} (hl : L.length ≤ 8192) (hj : j < L.length) (hp : ¬ EB (L.getD j EN.zero)) : tabE L = 2 ∧ tabL L = [] := by
  have h1 : tabE L = 2 := by
    unfold tabE; rw [if_pos hl, if_neg]
    intro h
    refine hp (h _ ?_)
    rw [List.getD, List.getElem?_eq_getElem hj]; exact List.getElem_mem _
  exact ⟨h1, if_neg (by rw [h1]; decide)⟩
set_option maxHeartbeats 2000000 in
theorem entTable_any (L : List EN) (v : Value) (w : World) (hv : EntsS w v L) :
    Calls Tryd.prog 9 #[v] w fun e w' => e = .returned (.tuple #[.string ⟨(tabL L).toArray⟩, .int .i64 (tabE L)]) ∧ Below w.heap.size w w' := by
  obtain ⟨A, cap, rfl, hc1, hc2, hc3⟩ := hv
  have HC3 := Lib.hid hc3
  clear hc3
  by_cases hlen : 8192 < L.length
  · have d0 : decide ((8192 : Int) < (L.length : Int)) = true := decide_eq_true (by omega)
    have hE : Hid (tabE L = 7) := Lib.hid (if_neg (by omega))
    have hS : Hid (tabL L = []) := Lib.hid (if_neg (by rw [hE.out]; decide))
    clear hlen
    go_enter Tryd.func9, Tryd.ntmps9
    go_wp2
    go_ret2
    exact ⟨by rw [hE.out, hS.out]; rfl, Below.refl _ _⟩
  have d0 : decide ((8192 : Int) < (L.length : Int)) = false := decide_eq_false (by omega)
  have HL0 := Lib.hid (bldFresh w w.heap.size (Nat.le_refl _))
  have HB0 : Hid (Below w.heap.size w (w.alloc (.cells #[.pointer none, .slice none 0 0] 66))) := Lib.hid ((Below.refl _ _).alloc (Nat.le_refl _) _)
  have HLEN : Hid (L.length ≤ 8192) := Lib.hid (by omega)
  have hln := HLEN.out
  clear hlen
  go_enter Tryd.func9, Tryd.ntmps9
  go_wp2
  clear d0
  generalize w.alloc (.cells #[.pointer none, .slice none 0 0] 66) = w1 at HL0 HB0 ⊢
  go_loopw [14] (fun ix wr => ∃ (j : Nat), j ≤ L.length ∧ ix = .int .i64 (j : Int) ∧ (∀ p ∈ L.take j, EB p) ∧ IsBld w.heap.size w.heap.size ((L.take j).flatMap entBL) wr ∧ Below w.heap.size w wr) (fun ix _ => L.length - (intOf ix).toNat)
  case atStart => exact ⟨0, Nat.zero_le _, rfl, (fun p h => by cases h), HL0.out, HB0.out⟩
  case round =>
    obtain ⟨j, hj, rfl, hp, hbl, hB⟩ := hrel
    have HB := Lib.hid hB
    have HP := Lib.hid hp
    have HBL := Lib.hid hbl
    clear hB hp hbl HB0 HL0
    by_cases hlt : j < L.length
    · obtain ⟨b, off, rfl, hb, hcell⟩ := HC3.out.resolve_left (by intro e; rw [e] at hlt; simp at hlt)
      obtain ⟨q0, q1, q2, q3⟩ := (hcell j hlt).below HB.out hb
      have HFL : Hid (((L.take j).flatMap entBL).length ≤ 65536) := Lib.hid (by rw [flat_len _ HP.out, List.length_take]; have := HLEN.out; omega)
      have hBy := entBytes_any (L.getD j EN.zero)
      have HEB : Hid (EB (L.getD j EN.zero) → entBE (L.getD j EN.zero) = 0 ∧ (∀ p ∈ L.take (j + 1), EB p) ∧ (L.take (j + 1)).flatMap entBL = (L.take j).flatMap entBL ++ entBL (L.getD j EN.zero) ∧ (entBL (L.getD j EN.zero)).length = 8) := Lib.hid (fun h => by
        have hs := tab_step hlt HP.out h
        refine ⟨if_pos h, hs.1, ?_, entBL_len h⟩
        rw [hs.2]; congr 1; exact (if_pos h).symm)
      have HNB : Hid (¬ EB (L.getD j EN.zero) → entBE (L.getD j EN.zero) = 2 ∧ tabE L = 2 ∧ tabL L = []) := Lib.hid (fun h => ⟨if_neg h, tab_stop HLEN.out hlt h⟩)
      clear hcell hb
      generalize L.getD j EN.zero = p at q0 q1 q2 q3 hBy HEB HNB
      by_cases hp : EB p
      · obtain ⟨e1, e2, e3, e4⟩ := HEB.out hp
        rw [e1] at hBy
        have HE2 := Lib.hid e2
        have HE3 := Lib.hid e3
        obtain ⟨s, hs⟩ : ∃ s : ByteArray, s = ⟨(entBL p).toArray⟩ := ⟨_, rfl⟩
        have hss : s.size = 8 := by rw [hs, size_mk]; exact e4
        have hsl : Hid (s.data.toList = entBL p) := Lib.hid (by rw [hs])
        rw [← hs] at hBy
        have HSS := Lib.hid hss
        clear HEB HNB hp hs hss e1 e2 e3 e4
        obtain ⟨k, st, mb, fr⟩ := p
        unfold EN.v at hBy
        dsimp only at hBy q0 q1 q2 q3
        go_wp2_with (first
          | (go_at_call 22; refine (hBy _).mono ?_; rintro e w2 ⟨rfl, hb2⟩
             have HB2 := Lib.hid ((HB.out.alloc HB.out.size (.cells #[.int .u8 k, .int .i64 st, .int .i64 mb, .int .i64 fr] 38)).trans (hb2.mono (by have := HB.out.size; simp; omega)))
             have hbk := (HBL.out.below (below1 wr (.cells #[.int .u8 k, .int .i64 st, .int .i64 mb, .int .i64 fr] 38))).below hb2; clear hb2
             have hWS := bldWriteString_any (B := w.heap.size) (b := w.heap.size) hbk HB2.out.size s (by rw [HSS.out]; have := HFL.out; omega); clear hbk)
          | (go_at_call 23; refine hWS.mono ?_; rintro e w3 ⟨rfl, hb3, hbl3, _, _⟩; have HB3 := Lib.hid (HB2.out.trans hbl3); have HBD := Lib.hid hb3; clear hb3 hbl3))
        go_roundw
        case rel => exact ⟨j + 1, by omega, by go_num, HE2.out, by rw [HE3.out, ← hsl.out]; exact .inr HBD.out, HB3.out⟩
        case measure => simp [intOf]; omega
      · obtain ⟨e1, e2, e3⟩ := HNB.out hp
        rw [e1] at hBy
        have HE2 := Lib.hid e2
        have HE3 := Lib.hid e3
        generalize (⟨(entBL p).toArray⟩ : ByteArray) = X at hBy
        clear HEB HNB hp e1 e2 e3
        obtain ⟨k, st, mb, fr⟩ := p
        unfold EN.v at hBy
        dsimp only at hBy q0 q1 q2 q3
        go_wp2_with (go_at_call 22; refine (hBy _).mono ?_; rintro e w2 ⟨rfl, hb2⟩
                     have HB2 := Lib.hid ((HB.out.alloc HB.out.size (.cells #[.int .u8 k, .int .i64 st, .int .i64 mb, .int .i64 fr] 38)).trans (hb2.mono (by have := HB.out.size; simp; omega))); clear hb2)
        go_ret2
        exact ⟨by rw [HE2.out, HE3.out]; rfl, HB2.out⟩
    · obtain rfl : j = L.length := by omega
      have HT : Hid (L.take L.length = L) := Lib.hid (List.take_of_length_le (Nat.le_refl _))
      rw [HT.out] at HP HBL
      have hE : Hid (tabE L = 0) := Lib.hid (tabE_ok.2 ⟨HLEN.out, HP.out⟩)
      have hS : Hid (tabL L = L.flatMap entBL) := Lib.hid (if_pos hE.out)
      clear HT
      have hStr := bldString_any HBL.out HB.out.size
      go_wp2_with (go_at_call 24; refine hStr.mono ?_; rintro e w2 ⟨rfl, hb2, _⟩)
      go_ret2
      exact ⟨by rw [hS.out, hE.out]; rfl, HB.out.trans hb2⟩
theorem sapp (a : List UInt8) (s : ByteArray) : (⟨a.toArray⟩ : ByteArray) ++ s = ⟨(a ++ s.data.toList).toArray⟩ := by
  apply ByteArray.ext
  rw [ByteArray.data_append]
  apply Array.ext'
  simp
end Go.Proofs.YtngkbcaflkinhaaDoor
namespace Go.Proofs.YtngkbcaflkinhaaDoor
open Go.RowKit

/-- Entries, one behind the other, from the start of a block on, that may be written. -/
def RowE (W : World) (b : Nat) (L : List EN) : Prop := b < W.heap.size ∧ (∀ i, i < L.length → EntAt W b (i * 4) (L.getD i EN.zero)) ∧ ∀ o, o < L.length * 4 → W.frozen? ⟨b, o, none⟩ = false
theorem RowE.ap {S : Nat → Prop} {W W' : World} {b : Nat} {L : List EN} (k : RowE W b L) (a : Ap S W W') (hn : ¬ S b) : RowE W' b L :=
  ⟨Nat.lt_of_lt_of_le k.1 a.size, fun i hi => ⟨(a.cell k.1 hn _).trans (k.2.1 i hi).c0, (a.cell k.1 hn _).trans (k.2.1 i hi).c1, (a.cell k.1 hn _).trans (k.2.1 i hi).c2, (a.cell k.1 hn _).trans (k.2.1 i hi).c3⟩, fun o ho => (a.frozen k.1 hn o).trans (k.2.2 o ho)⟩
theorem RowE.below {W W' : World} {b : Nat} {L : List EN} (k : RowE W b L) (hb : Below W.heap.size W W') : RowE W' b L := k.ap (Ap.of_below (S := fun _ => False) hb) id
/-- Four stores, one entry. -/
def putN (W : World) (b o : Nat) (s : EN) : World := (((W.setCell ⟨b, o, none⟩ (.int .u8 s.kind)).setCell ⟨b, o + 1, none⟩ (.int .i64 s.st)).setCell ⟨b, o + 2, none⟩ (.int .i64 s.mb)).setCell ⟨b, o + 3, none⟩ (.int .i64 s.fr)
theorem ap_putN (W : World) (b o : Nat) (s : EN) : Ap (fun k => k = b) W (putN W b o s) :=
  (((ap_put W b o _).trans (ap_put _ b (o + 1) _)).trans (ap_put _ b (o + 2) _)).trans (ap_put _ b (o + 3) _)
theorem putN_at {W : World} {b o : Nat} {p : EN} (k : EntAt W b o p) (s : EN) : EntAt (putN W b o s) b o s := by
  have f0 : (W.setCell ⟨b, o, none⟩ (.int .u8 s.kind)).cell? ⟨b, o, none⟩ = some (.int .u8 s.kind) := cell_put k.c0 _
  have f1 : ((W.setCell ⟨b, o, none⟩ (.int .u8 s.kind)).setCell ⟨b, o + 1, none⟩ (.int .i64 s.st)).cell? ⟨b, o + 1, none⟩ = some (.int .i64 s.st) := cell_put ((cell_putne _ _ _ _ _ (by omega)).trans k.c1) _
  have f2 : (((W.setCell ⟨b, o, none⟩ (.int .u8 s.kind)).setCell ⟨b, o + 1, none⟩ (.int .i64 s.st)).setCell ⟨b, o + 2, none⟩ (.int .i64 s.mb)).cell? ⟨b, o + 2, none⟩ = some (.int .i64 s.mb) :=
    cell_put (((cell_putne _ _ _ _ _ (by omega)).trans (cell_putne _ _ _ _ _ (by omega))).trans k.c2) _
  have f3 : (putN W b o s).cell? ⟨b, o + 3, none⟩ = some (.int .i64 s.fr) :=
    cell_put ((((cell_putne _ _ _ _ _ (by omega)).trans (cell_putne _ _ _ _ _ (by omega))).trans (cell_putne _ _ _ _ _ (by omega))).trans k.c3) _
  exact ⟨((cell_putne _ _ _ _ _ (by omega)).trans ((cell_putne _ _ _ _ _ (by omega)).trans (cell_putne _ _ _ _ _ (by omega)))).trans f0, ((cell_putne _ _ _ _ _ (by omega)).trans (cell_putne _ _ _ _ _ (by omega))).trans f1, (cell_putne _ _ _ _ _ (by omega)).trans f2, f3⟩
theorem putN_ne (W : World) (b o q : Nat) (s : EN) (hq : q < o ∨ o + 4 ≤ q) : (putN W b o s).cell? ⟨b, q, none⟩ = W.cell? ⟨b, q, none⟩ :=
  ((cell_putne _ _ _ _ _ (by omega)).trans ((cell_putne _ _ _ _ _ (by omega)).trans (cell_putne _ _ _ _ _ (by omega)))).trans (cell_putne _ _ _ _ _ (by omega))
theorem putN_fz (W : World) (b o q : Nat) (s : EN) : (putN W b o s).frozen? ⟨b, q, none⟩ = W.frozen? ⟨b, q, none⟩ := by
  unfold putN
  rw [World.frozen?_setCell, World.frozen?_setCell, World.frozen?_setCell, World.frozen?_setCell]
theorem getD_setE (L : List EN) (i j : Nat) (s : EN) (hi : i < L.length) : (L.set i s).getD j EN.zero = if j = i then s else L.getD j EN.zero := by
  rw [List.getD, List.getElem?_set]
  by_cases h : i = j
  · subst h; rw [if_pos rfl, if_pos rfl, if_pos hi]; rfl
  · rw [if_neg h, if_neg (fun e => h e.symm)]; rfl
theorem RowE.put {W : World} {b : Nat} {L : List EN} (k : RowE W b L) (i : Nat) (hi : i < L.length) (s : EN) : RowE (putN W b (i * 4) s) b (L.set i s) := by
  refine ⟨Nat.lt_of_lt_of_le k.1 (ap_putN W b (i * 4) s).size, fun j hj => ?_, fun o ho => ?_⟩
  · rw [List.length_set] at hj
    rw [getD_setE _ _ _ _ hi]
    by_cases e : j = i
    · subst e
      rw [if_pos rfl]
      exact putN_at (k.2.1 j hi) s
    · rw [if_neg e]
      have s1 := k.2.1 j hj
      have h (q : Nat) (hq : q < i * 4 ∨ i * 4 + 4 ≤ q) : (putN W b (i * 4) s).cell? ⟨b, q, none⟩ = W.cell? ⟨b, q, none⟩ := putN_ne W b _ q s hq
      exact ⟨(h _ (by omega)).trans s1.c0, (h _ (by omega)).trans s1.c1, (h _ (by omega)).trans s1.c2, (h _ (by omega)).trans s1.c3⟩
  · rw [List.length_set] at ho
    rw [putN_fz]
    exact k.2.2 o ho
theorem RowE.ents {W : World} {b : Nat} {L : List EN} (k : RowE W b L) (cap : Nat) (h1 : L.length ≤ cap) (h2 : cap ≤ maxLen) : EntsS W (.slice (some ⟨b, 0, none⟩) L.length cap) L :=
  ⟨_, cap, rfl, h1, h2, .inr ⟨b, 0, rfl, k.1, fun j hj => by rw [Nat.zero_add]; exact k.2.1 j hj⟩⟩
/-! ### a row that is made -/
theorem entInfo : (Tryd.prog.info? 38).map (fun i => (i.zero, i.size, i.bytes)) = some (some (.agg #[.int .u8 0, .int .i64 0, .int .i64 0, .int .i64 0]), 4, 32) := by kernel_rfl
def zeroC : Array Value := #[.int .u8 0, .int .i64 0, .int .i64 0, .int .i64 0]
theorem madeE_at (n k : Nat) (hk : k < n) : (madeCells zeroC n)[k]? = some (zeroC[k % 4]!) := by
  unfold madeCells
  rw [Array.getElem?_map, Array.getElem?_range, if_pos hk]; rfl
theorem makeEnts (n : Nat) (h : n ≤ 8589934592) (W : World) : (Instr.makeSlice 40 (.int .i64 (n : Int)) (.int .i64 (n : Int))).run Tryd.prog W = .ok (.slice (some ⟨W.heap.size, 0, none⟩) n n) (W.alloc (.cells (madeCells zeroC (n * 4)) 38)) := by
  obtain ⟨i, hi, hz⟩ := Option.map_eq_some_iff.1 entInfo
  simp only [Prod.mk.injEq] at hz
  obtain ⟨hz, hs, hb⟩ := hz
  have hr := run_make (P := Tryd.prog) W 40 38 i _ Tryd.underlying40 hi hz .i64 .i64 n n (by omega) (Int.le_refl _) (by rw [hb]; omega) (by omega)
  simp only [Int.toNat_natCast, hs] at hr
  exact hr
theorem RowE.made (W : World) (n : Nat) (t : TypeId) : RowE (W.alloc (.cells (madeCells zeroC (n * 4)) t)) W.heap.size (List.replicate n EN.zero) := by
  refine ⟨by simp, fun i hi => ?_, fun o _ => frozen_of_row _ _ _ _ t (heap_alloc_new W _)⟩
  rw [List.length_replicate] at hi
  have e : (List.replicate n EN.zero).getD i EN.zero = EN.zero := by rw [List.getD, List.getElem?_replicate, if_pos hi]; rfl
  rw [e]
  have h (q : Nat) (hq : q < 4) : (W.alloc (.cells (madeCells zeroC (n * 4)) t)).cell? ⟨W.heap.size, i * 4 + q, none⟩ = some (zeroC[q]!) := by
    rw [cell_of_row _ _ _ _ t (0, 0) (heap_alloc_new W _), madeE_at _ _ (by omega), show (i * 4 + q) % 4 = q by omega]
  exact ⟨h 0 (by omega), h 1 (by omega), h 2 (by omega), h 3 (by omega)⟩
/-! ### ParseTable -/
theorem extract_chunk (s : ByteArray) (j : Nat) : (s.extract (8 * j) (8 * j + 8)).data.toList = chunk s.data.toList j := by
  unfold chunk
  rw [ByteArray.data_extract, Array.toList_extract, List.extract_eq_take_drop]
  congr 1; omega
theorem extract_chunk' (s : ByteArray) (j : Nat) : (s.extract (j * 8) (j * 8 + 8)).data.toList = chunk s.data.toList j := by
  rw [Nat.mul_comm]; exact extract_chunk s j
theorem slice8 (s : ByteArray) (j : Nat) (h : j * 8 + 8 ≤ s.size) (W : World) :
    (Instr.slice 9 (.string s) (some (.int .i64 ((j : Int) * 8))) (some (.int .i64 ((j : Int) * 8 + 8))) none).run Tryd.prog W = .ok (.string (s.extract (j * 8) (j * 8 + 8))) W := by
  have h0 : (0 : Int) ≤ (j : Int) * 8 := by omega
  have h1 : (j : Int) * 8 + 8 ≤ (s.size : Int) := by omega
  have h2 : (0 : Int) ≤ (j : Int) * 8 + 8 := by omega
  have h3 : ((j : Int) * 8 + 8).toNat = j * 8 + 8 := by omega
  have h4 : ((j : Int) * 8).toNat = j * 8 := by omega
  have h5 : (j : Int) * 8 ≤ (j : Int) * 8 + 8 := by omega
  go_simp
theorem slice8' (s : ByteArray) (j : Nat) (h : j * 8 + 8 ≤ s.size) (W : World) :
    (Instr.slice 9 (.string s) (some (.int .i64 ((j : Int) * 8))) (some (.int .i64 (((j : Int) + 1) * 8))) none).run Tryd.prog W = .ok (.string (s.extract (j * 8) (j * 8 + 8))) W := by
  rw [show ((j : Int) + 1) * 8 = (j : Int) * 8 + 8 by omega]
  exact slice8 s j h W
theorem pt_stop {s : List UInt8} {j : Nat} (hj : j < s.length / 8) (h : ¬ EP (chunk s j)) : ptE s = 6 ∧ ptL s = [] := by
  have hn : ¬ ptOk s := fun k => h (k.2.2 j hj)
  exact ⟨if_neg hn, if_neg hn⟩
theorem pt_bad {s : List UInt8} (h : ¬ (s.length % 8 = 0 ∧ s.length / 8 ≤ 8192)) : ptE s = 6 ∧ ptL s = [] := by
  have hn : ¬ ptOk s := fun k => h ⟨k.1, k.2.1⟩
  exact ⟨if_neg hn, if_neg hn⟩
theorem pt_fill (s : List UInt8) (n j : Nat) (h : j < n) : (ptR s j ++ List.replicate (n - j) EN.zero).set j (entP (chunk s j)) = ptR s (j + 1) ++ List.replicate (n - (j + 1)) EN.zero := by
  rw [List.set_append_right _ _ (by rw [ptR_len]; exact Nat.le_refl _), ptR_len, Nat.sub_self, ptR_succ, List.append_assoc]
  congr 1
  rw [show n - j = (n - (j + 1)) + 1 by omega, List.replicate_succ]; rfl
set_option maxRecDepth 100000 in
set_option maxHeartbeats 2000000 in
theorem entParseTable_any (s : ByteArray) (hsz : s.size ≤ maxLen) (w : World) :
    Calls Tryd.prog 10 #[.string s] w fun e w' => (∃ x, e = .returned (.tuple #[x, .int .i64 (ptE s.data.toList)]) ∧ EntsS w' x (ptL s.data.toList)) ∧ Below w.heap.size w w' := by
  obtain ⟨r, hr⟩ : ∃ r : Int, r = ((s.size % 8 : Nat) : Int) := ⟨_, rfl⟩
  obtain ⟨n, hn⟩ : ∃ n : Nat, n = s.size / 8 := ⟨_, rfl⟩
  have hm1 : (s.size : Int) % 8 = r := by omega
  have hm2 : (s.size : Int).tmod 8 = r := by rw [hr]; rfl
  have hq1 : (s.size : Int) / 8 = (n : Int) := by omega
  have hq2 : (s.size : Int).tdiv 8 = (n : Int) := by rw [hn]; rfl
  have HN : Hid (n = s.data.toList.length / 8) := Lib.hid (by rw [size_toList]; exact hn)
  have HR : Hid (r = ((s.data.toList.length % 8 : Nat) : Int)) := Lib.hid (by rw [size_toList]; exact hr)
  by_cases h0 : r = 0
  case neg =>
    obtain ⟨e1, e2⟩ := pt_bad (s := s.data.toList) (fun h => h0 (by rw [HR.out, h.1]; rfl))
    rw [e1, e2]
    have d0 : (r == 0) = false := by rw [beq_eq_false_iff_ne]; exact h0
    have d1 : (r != 0) = true := by rw [bne_iff_ne]; exact h0
    clear hr hn
    go_enter Tryd.func10, Tryd.ntmps10
    go_wp2
    go_ret2
    exact ⟨⟨_, rfl, _, 0, rfl, Nat.le_refl _, Nat.zero_le _, .inl rfl⟩, Below.refl _ _⟩
  case pos =>
  rw [h0] at hm1 hm2
  clear h0
  by_cases hl : 8192 < n
  · obtain ⟨e1, e2⟩ := pt_bad (s := s.data.toList) (fun h => by have := h.2; rw [← HN.out] at this; omega)
    rw [e1, e2]
    have d1 : decide ((8192 : Int) < (n : Int)) = true := decide_eq_true (by omega)
    have d2 : wrap64 (n : Int) = (n : Int) := by unfold maxLen at hsz; unfold wrap64; omega
    clear hr hn hl
    go_enter Tryd.func10, Tryd.ntmps10
    go_wp2
    go_ret2
    exact ⟨⟨_, rfl, _, 0, rfl, Nat.le_refl _, Nat.zero_le _, .inl rfl⟩, Below.refl _ _⟩
  have HMOD : Hid (s.data.toList.length % 8 = 0) := Lib.hid (by rw [size_toList]; omega)
  have HSZ : Hid (s.size = 8 * n) := Lib.hid (by omega)
  have HNL : Hid (n ≤ 8192) := Lib.hid (by omega)
  have hnl := HNL.out
  have hsz8 : (s.size : Int) = 8 * (n : Int) := by omega
  have hmk := makeEnts n (by omega)
  have d1 : decide ((8192 : Int) < (n : Int)) = false := decide_eq_false (by omega)
  have d2 : wrap64 (n : Int) = (n : Int) := by unfold wrap64; omega
  have hq3 : (8 * (n : Int)).tdiv 8 = (n : Int) := by rw [← hsz8]; exact hq2
  have hm3 : (8 * (n : Int)).tmod 8 = 0 := by rw [← hsz8]; exact hm2
  clear hr hn hl hsz
  go_enter Tryd.func10, Tryd.ntmps10
  go_wp2
  have HRW := Lib.hid (RowE.made w n 38)
  have HB0 := Lib.hid (below1 w (.cells (madeCells zeroC (n * 4)) 38))
  generalize w.alloc (.cells (madeCells zeroC (n * 4)) 38) = w1 at HRW HB0 ⊢
  clear hmk hm1 hm2 hm3 hq1 hq2 hq3 hsz8 d1 d2 HR
  go_loopw [24] (fun ix wr => ∃ (j : Nat), j ≤ n ∧ ix = .int .i64 (j : Int) ∧ (∀ i, i < j → EP (chunk s.data.toList i)) ∧ RowE wr w.heap.size (ptR s.data.toList j ++ List.replicate (n - j) EN.zero) ∧ Below w.heap.size w wr) (fun ix _ => n - (intOf ix).toNat)
  case atStart => exact ⟨0, Nat.zero_le _, rfl, (fun i h => absurd h (by omega)), HRW.out, HB0.out⟩
  case round =>
    obtain ⟨j, hj, rfl, hp, hrow, hB⟩ := hrel
    have HB := Lib.hid hB
    have HP := Lib.hid hp
    have HROW := Lib.hid hrow
    clear hB hp hrow HB0 HRW
    by_cases hlt : j < n
    · have hSl := slice8' s j (by have := HSZ.out; omega)
      have hPa := entParse_any (s.extract (j * 8) (j * 8 + 8))
      rw [extract_chunk'] at hPa
      generalize s.extract (j * 8) (j * 8 + 8) = sub at hSl hPa
      have HPOK : Hid (EP (chunk s.data.toList j) → entPE (chunk s.data.toList j) = 0) := Lib.hid (fun h => if_pos h)
      have HNO : Hid (¬ EP (chunk s.data.toList j) → entPE (chunk s.data.toList j) = 6 ∧ ptE s.data.toList = 6 ∧ ptL s.data.toList = []) := Lib.hid (fun h => ⟨if_neg h, pt_stop (by rw [← HN.out]; exact hlt) h⟩)
      by_cases hp : EP (chunk s.data.toList j)
      · rw [HPOK.out hp] at hPa
        have HPJ : Hid (∀ i, i < j + 1 → EP (chunk s.data.toList i)) := Lib.hid (fun i hi => by
          by_cases e : i = j
          · rw [e]; exact hp
          · exact HP.out i (by omega))
        have HFILL := Lib.hid (pt_fill s.data.toList n j hlt)
        have HLEN : Hid ((ptR s.data.toList j ++ List.replicate (n - j) EN.zero).length = n) := Lib.hid (by rw [List.length_append, ptR_len, List.length_replicate]; omega)
        generalize entP (chunk s.data.toList j) = p at hPa HFILL
        obtain ⟨k, st, mb, fr⟩ := p
        unfold EN.v at hPa
        dsimp only at hPa
        clear hp HPOK HNO
        go_wp2_with (go_at_call 25; refine (hPa _).mono ?_; rintro e w2 ⟨rfl, hb2⟩
                     have HB3 := Lib.hid ((HB.out.trans (hb2.mono HB.out.size)).alloc (Nat.le_trans HB.out.size hb2.size) (.cells #[.int .u8 k, .int .i64 st, .int .i64 mb, .int .i64 fr] 38))
                     have HROW3 := Lib.hid ((HROW.out.below hb2).below (below1 w2 (.cells #[.int .u8 k, .int .i64 st, .int .i64 mb, .int .i64 fr] 38)))
                     have hat := HROW3.out.2.1 j (by rw [HLEN.out]; exact hlt)
                     have hfz := HROW3.out.2.2
                     rw [HLEN.out] at hfz
                     have f0 := hfz (j * 4) (by omega); have f1 := hfz (j * 4 + 1) (by omega); have f2 := hfz (j * 4 + 2) (by omega); have f3 := hfz (j * 4 + 3) (by omega)
                     obtain ⟨g0, g1, g2, g3⟩ := hat
                     have HPUT := Lib.hid (HROW3.out.put j (by rw [HLEN.out]; exact hlt) ⟨k, st, mb, fr⟩)
                     rw [HFILL.out] at HPUT
                     unfold putN at HPUT
                     dsimp only at HPUT
                     clear hb2 hfz)
        go_roundw
        case rel => exact ⟨j + 1, by omega, by go_num, HPJ.out, HPUT.out, (((HB3.out.setCell (p := ⟨_, _, none⟩) (Nat.le_refl _) _).setCell (p := ⟨_, _, none⟩) (Nat.le_refl _) _).setCell (p := ⟨_, _, none⟩) (Nat.le_refl _) _).setCell (p := ⟨_, _, none⟩) (Nat.le_refl _) _⟩
        case measure => simp [intOf]; omega
      · obtain ⟨e1, e2, e3⟩ := HNO.out hp
        rw [e1] at hPa
        have HE2 := Lib.hid e2
        have HE3 := Lib.hid e3
        generalize entP (chunk s.data.toList j) = p at hPa
        obtain ⟨k, st, mb, fr⟩ := p
        unfold EN.v at hPa
        dsimp only at hPa
        clear hp HPOK HNO e1 e2 e3
        go_wp2_with (go_at_call 25; refine (hPa _).mono ?_; rintro e w2 ⟨rfl, hb2⟩
                     have HB3 := Lib.hid ((HB.out.trans (hb2.mono HB.out.size)).alloc (Nat.le_trans HB.out.size hb2.size) (.cells #[.int .u8 k, .int .i64 st, .int .i64 mb, .int .i64 fr] 38))
                     clear hb2)
        go_ret2
        rw [HE2.out, HE3.out]
        exact ⟨⟨_, rfl, _, 0, rfl, Nat.le_refl _, Nat.zero_le _, .inl rfl⟩, HB3.out⟩
    · obtain rfl : j = n := by omega
      have HOK : Hid (ptOk s.data.toList) := Lib.hid ⟨HMOD.out, by rw [← HN.out]; exact HNL.out, fun i hi => HP.out i (by rw [HN.out]; exact hi)⟩
      have HL2 : Hid (ptL s.data.toList = ptR s.data.toList j) := Lib.hid (by unfold ptL; rw [if_pos HOK.out, ← HN.out])
      have HE2 : Hid (ptE s.data.toList = 0) := Lib.hid (if_pos HOK.out)
      go_wp2
      go_ret2
      rw [HE2.out, HL2.out]
      have h1 := HROW.out
      rw [Nat.sub_self, List.replicate_zero, List.append_nil] at h1
      have h2 := h1.ents j (by rw [ptR_len]; exact Nat.le_refl _) (by have := HNL.out; unfold maxLen; omega)
      rw [ptR_len] at h2
      exact ⟨⟨_, rfl, h2⟩, HB.out⟩
end Go.Proofs.YtngkbcaflkinhaaDoor
namespace Go.Proofs.YtngkbcaflkinhaaDoor
open Go.RowKit

def eCells (L : List EN) : List Value := L.flatMap EN.cells
theorem eCells_len (L : List EN) : (eCells L).length = L.length * 4 := by
  unfold eCells
  induction L with
  | nil => rfl
  | cons p r ih => rw [List.flatMap_cons, List.length_append, ih, List.length_cons]; show 4 + _ = _; omega
theorem eCells_snoc (L : List EN) (p : EN) : eCells (L ++ [p]) = eCells L ++ [.int .u8 p.kind, .int .i64 p.st, .int .i64 p.mb, .int .i64 p.fr] := by
  unfold eCells; rw [List.flatMap_append, List.flatMap_singleton]; rfl
theorem eCells_at : ∀ (L : List EN) (j : Nat), j < L.length → ∀ q, q < 4 → (eCells L)[j * 4 + q]? = (L.getD j EN.zero).cells[q]?
  | p :: r, 0, _, q, hq => by
    show (p.cells ++ eCells r)[0 * 4 + q]? = _
    rw [Nat.zero_mul, Nat.zero_add, List.getElem?_append_left (by show q < 4; exact hq)]; rfl
  | p :: r, j + 1, h, q, hq => by
    show (p.cells ++ eCells r)[(j + 1) * 4 + q]? = _
    rw [List.getElem?_append_right (by show 4 ≤ _; omega), List.getD_cons_succ, ← eCells_at r j (by simpa using h) q hq]
    congr 1
    show (j + 1) * 4 + q - 4 = _; omega
/-- What a call owns reads as that. -/
theorem EntsS.of_own {w : World} {base : Nat} {v : Value} {L : List EN} (h : w.ownsRow base 38 4 v L.length (eCells L)) : EntsS w v L := by
  rcases h.2 with ⟨rfl, h0⟩ | ⟨g, cap, cur, rfl, hb, hh, hn, hm, hs, ht⟩
  · have : L = [] := by
      have h1 := eCells_len L
      cases L with
      | nil => rfl
      | cons a b => simp at h0
    subst this
    exact ⟨none, 0, rfl, Nat.le_refl _, Nat.zero_le _, .inl rfl⟩
  · refine ⟨_, cap, rfl, hn, hm, .inr ⟨g, 0, rfl, (Array.getElem?_eq_some_iff.1 hh).1, fun j hj => ?_⟩⟩
    have hc : ∀ q, q < 4 → w.cell? ⟨g, 0 + j * 4 + q, none⟩ = (L.getD j EN.zero).cells[q]? := by
      intro q hq
      rw [Nat.zero_add, cell_of_row w g (j * 4 + q) cur _ (0, 0) hh, ← eCells_at L j hj q hq]
      have h1 : (cur.toList.take (L.length * 4))[j * 4 + q]? = (eCells L)[j * 4 + q]? := by rw [ht]
      rw [List.getElem?_take, if_pos (by omega), Array.getElem?_toList] at h1
      exact h1
    exact ⟨hc 0 (by omega), hc 1 (by omega), hc 2 (by omega), hc 3 (by omega)⟩
theorem ent_one (p : EN) : ∀ u ∈ ([.int .u8 p.kind, .int .i64 p.st, .int .i64 p.mb, .int .i64 p.fr] : List Value), u.oneCell' = true := by
  intro u hu
  simp only [List.mem_cons, List.not_mem_nil, or_false] at hu
  rcases hu with rfl | rfl | rfl | rfl <;> rfl
theorem new_cells4 (W : World) (a b c d : Value) (t : TypeId) : ∀ j u, ([a, b, c, d] : List Value)[j]? = some u → (W.alloc (.cells #[a, b, c, d] t)).cell? ((⟨W.heap.size, 0, none⟩ : Addr).add j) = some u := by
  intro j u h
  have hj : j < 4 := by have := (List.getElem?_eq_some_iff.1 h).1; simpa using this
  have e : ((⟨W.heap.size, 0, none⟩ : Addr).add j) = ⟨W.heap.size, j, none⟩ := by unfold Addr.add; split <;> simp_all
  rw [e, cell_of_row _ _ _ _ t (0, 0) (heap_alloc_new W _), ← h]
  simp
theorem entInfo' : ∃ i, Tryd.prog.info? 38 = some i ∧ i.zero = some (.agg #[.int .u8 0, .int .i64 0, .int .i64 0, .int .i64 0]) ∧ i.size = 4 ∧ i.bytes = 32 := by
  obtain ⟨i, hi, hz⟩ := Option.map_eq_some_iff.1 entInfo
  simp only [Prod.mk.injEq] at hz
  exact ⟨i, hi, hz.1, hz.2.1, hz.2.2⟩
theorem own_keepE {w w' : World} {base e s n : Nat} {v : Value} {xs : List Value} (h : w.ownsRow base e s v n xs) (hb : Below w.heap.size w w') : w'.ownsRow base e s v n xs := by
  refine ⟨h.1, ?_⟩
  rcases h.2 with h0 | ⟨g, cap, cur, hv, hg, hh, r⟩
  · exact .inl h0
  · exact .inr ⟨g, cap, cur, hv, hg, (hb.block g (Array.getElem?_eq_some_iff.1 hh).1).trans hh, r⟩
end Go.Proofs.YtngkbcaflkinhaaDoor
namespace Go.Proofs.YtngkbcaflkinhaaDoor
open Go.RowKit

theorem same_all {A B : List EN} (hl : A.length = B.length) (h : ∀ i, i < A.length → A.getD i EN.zero = B.getD i EN.zero) : A = B := by
  apply List.ext_getElem hl
  intro i h1 h2
  have := h i h1
  rw [List.getD, List.getD, List.getElem?_eq_getElem h1, List.getElem?_eq_getElem h2] at this
  exact this
theorem wrap_succ {j n cap : Nat} (h : j < n) (h1 : n ≤ cap) (h2 : cap ≤ maxLen) : wrap64 ((j : Int) + 1) = (j : Int) + 1 := by
  unfold maxLen at h2; unfold wrap64; omega
set_option maxRecDepth 100000 in
set_option maxHeartbeats 2000000 in
theorem rentSame_any (A B : List EN) (va vb : Value) (w : World) (ha : EntsS w va A) (hb : EntsS w vb B) :
    Calls Tryd.prog 11 #[va, vb] w fun e w' => e = .returned (.bool (decide (A = B))) ∧ Below w.heap.size w w' := by
  obtain ⟨PA, capA, rfl, ha1, ha2, ha3⟩ := ha
  obtain ⟨PB, capB, rfl, hb1, hb2, hb3⟩ := hb
  have HA := Lib.hid ha3
  have HBB := Lib.hid hb3
  clear ha3 hb3
  by_cases hl : A.length = B.length
  case neg =>
    have d0 : ((A.length : Int) == (B.length : Int)) = false := by rw [beq_eq_false_iff_ne]; omega
    have d1 : ((A.length : Int) != (B.length : Int)) = true := by rw [bne_iff_ne]; omega
    have HF : Hid (decide (A = B) = false) := Lib.hid (decide_eq_false (fun e => hl (by rw [e])))
    clear hl
    go_enter Tryd.func11, Tryd.ntmps11
    go_wp2
    go_ret
    exact ⟨by rw [HF.out]; rfl, Below.refl _ _⟩
  case pos =>
  have d0 : ((A.length : Int) == (B.length : Int)) = true := by rw [beq_iff_eq]; omega
  have d1 : ((A.length : Int) != (B.length : Int)) = false := by rw [bne_eq_false_iff_eq]; omega
  have HL := Lib.hid hl
  clear hl
  go_enter Tryd.func11, Tryd.ntmps11
  go_wp2
  clear d0 d1
  go_loopw [13] (fun ix wr => ∃ (j : Nat), j ≤ A.length ∧ ix = .int .i64 (j : Int) ∧ (∀ i, i < j → A.getD i EN.zero = B.getD i EN.zero) ∧ Below w.heap.size w wr) (fun ix _ => A.length - (intOf ix).toNat)
  case atStart => exact ⟨0, Nat.zero_le _, rfl, (fun i h => absurd h (by omega)), Below.refl _ _⟩
  case round =>
    obtain ⟨j, hj, rfl, hp, hB⟩ := hrel
    have HB := Lib.hid hB
    have HP := Lib.hid hp
    clear hB hp
    by_cases hlt : j < A.length
    · have hlt2 : j < B.length := by have := HL.out; omega
      obtain ⟨b, off, rfl, hb, hcell⟩ := HA.out.resolve_left (by intro e; rw [e] at hlt; simp at hlt)
      obtain ⟨b2, off2, rfl, hb2, hcell2⟩ := HBB.out.resolve_left (by intro e; rw [e] at hlt2; simp at hlt2)
      obtain ⟨q0, q1, q2, q3⟩ := (hcell j hlt).below HB.out hb
      obtain ⟨r0, r1, r2, r3⟩ := (hcell2 j hlt2).below HB.out hb2
      have hdl : decide ((j : Int) < (B.length : Int)) = true := decide_eq_true (by omega)
      have HEQ : Hid (A.getD j EN.zero = B.getD j EN.zero → ∀ i, i < j + 1 → A.getD i EN.zero = B.getD i EN.zero) := Lib.hid (fun h i hi => by
        by_cases e : i = j
        · rw [e]; exact h
        · exact HP.out i (by omega))
      have HNE0 : Hid (A.getD j EN.zero ≠ B.getD j EN.zero → A ≠ B) := Lib.hid (fun h e => h (by rw [e]))
      clear hcell hcell2 hb hb2
      generalize A.getD j EN.zero = p at q0 q1 q2 q3 HEQ HNE0
      generalize B.getD j EN.zero = q at r0 r1 r2 r3 HEQ HNE0
      obtain ⟨k, st, mb, fr⟩ := p
      obtain ⟨k', st', mb', fr'⟩ := q
      dsimp only at q0 q1 q2 q3 r0 r1 r2 r3
      by_cases hk : k = k'
      · have b0 : (k == k') = true := by rw [beq_iff_eq]; exact hk
        by_cases hs : st = st'
        · have b1 : (st == st') = true := by rw [beq_iff_eq]; exact hs
          by_cases hm : mb = mb'
          · have b2 : (mb == mb') = true := by rw [beq_iff_eq]; exact hm
            by_cases hf : fr = fr'
            · have b3 : (fr == fr') = true := by rw [beq_iff_eq]; exact hf
              have HJ := Lib.hid (HEQ.out (by rw [hk, hs, hm, hf]))
              clear HEQ HNE0 hk hs hm hf
              have hw1 := wrap_succ hlt ha1 ha2
              go_upto_region 6 with fail
              go_quiet (fail)
              go_wp2
              clear hdl b0 b1 b2 b3
              rw [hw1]
              clear hw1
              go_roundw
              case rel => exact ⟨j + 1, by omega, by go_num, HJ.out, below_drewN HB.out _⟩
              case measure => simp [intOf]; omega
            · have hd : (fr == fr') = false := by rw [beq_eq_false_iff_ne]; exact hf
              have HF : Hid (decide (A = B) = false) := Lib.hid (decide_eq_false (HNE0.out (fun e => hf (by injection e))))
              clear hf hm hs hk HEQ HNE0
              go_upto_region 6 with fail
              go_quiet (fail)
              go_wp2
              go_ret
              exact ⟨by rw [HF.out]; rfl, below_drewN HB.out _⟩
          · have hd : (mb == mb') = false := by rw [beq_eq_false_iff_ne]; exact hm
            have HF : Hid (decide (A = B) = false) := Lib.hid (decide_eq_false (HNE0.out (fun e => hm (by injection e))))
            clear hm hs hk HEQ HNE0
            go_upto_region 6 with fail
            go_quiet (fail)
            go_wp2
            go_ret
            exact ⟨by rw [HF.out]; rfl, below_drewN HB.out _⟩
        · have hd : (st == st') = false := by rw [beq_eq_false_iff_ne]; exact hs
          have HF : Hid (decide (A = B) = false) := Lib.hid (decide_eq_false (HNE0.out (fun e => hs (by injection e))))
          clear hs hk HEQ HNE0
          go_upto_region 6 with fail
          go_quiet (fail)
          go_wp2
          go_ret
          exact ⟨by rw [HF.out]; rfl, below_drewN HB.out _⟩
      · have hd : (k == k') = false := by rw [beq_eq_false_iff_ne]; exact hk
        have HF : Hid (decide (A = B) = false) := Lib.hid (decide_eq_false (HNE0.out (fun e => hk (by injection e))))
        clear hk HEQ HNE0
        go_upto_region 6 with fail
        go_quiet (fail)
        go_wp2
        go_ret
        exact ⟨by rw [HF.out]; rfl, below_drewN HB.out _⟩
    · obtain rfl : j = A.length := by omega
      have HF : Hid (decide (A = B) = true) := Lib.hid (decide_eq_true (same_all HL.out HP.out))
      go_wp2
      go_ret
      exact ⟨by rw [HF.out]; rfl, HB.out⟩
end Go.Proofs.YtngkbcaflkinhaaDoor
