/- Entries: slices of them: what they read as, and the contracts of Table, the program's and the document's. -/
import Derived.Test.YtifhbaacljkleaaEntC
import Derived.Test.YtifhbaacljkleaaEntF
import Derived.Test.YtifhbaacljkleaaBld
namespace Go.Proofs.Ytifhbaacljkleaa
open Go.RowKit

/-- An entry, as its cells read from place o of block b on. -/
structure EntAt (w : World) (b o : Nat) (x : EN) : Prop where
  c0 : w.cell? ⟨b, o, none⟩ = some (.int .u8 x.kind)
  c1 : w.cell? ⟨b, o + 1, none⟩ = some (.int .i64 x.st)
  c2 : w.cell? ⟨b, o + 2, none⟩ = some (.int .i64 x.mb)
  c3 : w.cell? ⟨b, o + 3, none⟩ = some (.int .i64 x.fr)
theorem EntAt.below {B : Nat} {w w' : World} {b o : Nat} {x : EN} (a : EntAt w b o x) (hb : Below B w w') (hlt : b < B) : EntAt w' b o x := by
  have h (q : Nat) : w'.cell? ⟨b, q, none⟩ = w.cell? ⟨b, q, none⟩ := hb.cell (p := ⟨b, q, none⟩) hlt
  exact ⟨(h _).trans a.c0, (h _).trans a.c1, (h _).trans a.c2, (h _).trans a.c3⟩
/-- A slice that reads as these entries. -/
def EntsS (w : World) (v : Value) (L : List EN) : Prop :=
  ∃ A cap, v = .slice A L.length cap ∧ L.length ≤ cap ∧ cap ≤ maxLen ∧ (L = [] ∨ ∃ b off, A = some ⟨b, off, none⟩ ∧ b < w.heap.size ∧ ∀ j, j < L.length → EntAt w b (off + j * 4) (L.getD j EN.zero))
theorem EntsS.below {B : Nat} {w w' : World} {v : Value} {L : List EN} (k : EntsS w v L) (hb : Below B w w') (hB : w.heap.size ≤ B) : EntsS w' v L := by
  obtain ⟨A, cap, hv, h1, h2, h3⟩ := k
  refine ⟨A, cap, hv, h1, h2, ?_⟩
  rcases h3 with h3 | ⟨b, off, hA, hlt, hc⟩
  · exact .inl h3
  · exact .inr ⟨b, off, hA, Nat.lt_of_lt_of_le hlt hb.size, fun j hj => (hc j hj).below hb (by omega)⟩
theorem take_snocE {L : List EN} {k : Nat} (hk : k < L.length) : L.take (k + 1) = L.take k ++ [L.getD k EN.zero] := by
  rw [List.take_succ_eq_append_getElem hk, List.getD, List.getElem?_eq_getElem hk]; rfl
theorem tab_step {L : List EN} {j : Nat} (hj : j < L.length) (h0 : ∀ p ∈ L.take j, EB p) (hp : EB (L.getD j EN.zero)) :
    (∀ p ∈ L.take (j + 1), EB p) ∧ (L.take (j + 1)).flatMap entBL = (L.take j).flatMap entBL ++ leB 8 (entN (L.getD j EN.zero)) := by
  rw [take_snocE hj]
  refine ⟨fun p h => ?_, ?_⟩
  · rcases List.mem_append.1 h with h | h
    · exact h0 p h
    · rw [List.mem_singleton.1 h]; exact hp
  · rw [List.flatMap_append, List.flatMap_singleton]
    congr 1
    exact if_pos hp
theorem tab_stop {L : List EN} {j : Nat} (hl : L.length ≤ 8192) (hj : j < L.length) (hp : ¬ EB (L.getD j EN.zero)) : tabE L = 2 ∧ tabL L = [] := by
  have h1 : tabE L = 2 := by
    unfold tabE; rw [if_pos hl, if_neg]
    intro h
    refine hp (h _ ?_)
    rw [List.getD, List.getElem?_eq_getElem hj]; exact List.getElem_mem _
  exact ⟨h1, if_neg (by rw [h1]; decide)⟩
set_option maxHeartbeats 2000000 in
theorem entTable_any (L : List EN) (v : Value) (w : World) (hv : EntsS w v L) :
    Calls Try.prog 17 #[v] w fun e w' => e = .returned (.tuple #[.string ⟨(tabL L).toArray⟩, .int .i64 (tabE L)]) ∧ Below w.heap.size w w' := by
  obtain ⟨A, cap, rfl, hc1, hc2, hc3⟩ := hv
  have HC3 := Lib.hid hc3
  clear hc3
  by_cases hlen : 8192 < L.length
  · have d0 : decide ((8192 : Int) < (L.length : Int)) = true := decide_eq_true (by omega)
    have hE : Hid (tabE L = 7) := Lib.hid (if_neg (by omega))
    have hS : Hid (tabL L = []) := Lib.hid (if_neg (by rw [hE.out]; decide))
    clear hlen
    go_enter Try.func17, Try.ntmps17
    go_wp2
    go_ret2
    exact ⟨by rw [hE.out, hS.out]; rfl, Below.refl _ _⟩
  have d0 : decide ((8192 : Int) < (L.length : Int)) = false := decide_eq_false (by omega)
  have HL0 := Lib.hid (bldFresh w w.heap.size (Nat.le_refl _))
  have HB0 : Hid (Below w.heap.size w (w.alloc (.cells #[.pointer none, .slice none 0 0] 77))) := Lib.hid ((Below.refl _ _).alloc (Nat.le_refl _) _)
  have HLEN : Hid (L.length ≤ 8192) := Lib.hid (by omega)
  have hln := HLEN.out
  clear hlen
  go_enter Try.func17, Try.ntmps17
  go_wp2
  clear d0
  generalize w.alloc (.cells #[.pointer none, .slice none 0 0] 77) = w1 at HL0 HB0 ⊢
  go_loopw [14] (fun ix wr => ∃ (j : Nat), j ≤ L.length ∧ ix = .int .i64 (j : Int) ∧ (∀ p ∈ L.take j, EB p) ∧ IsBld w.heap.size w.heap.size ((L.take j).flatMap entBL) wr ∧ Below w.heap.size w wr) (fun ix _ => L.length - (intOf ix).toNat)
  case atStart => exact ⟨0, Nat.zero_le _, rfl, (fun p h => by cases h), HL0.out, HB0.out⟩
  case round =>
    obtain ⟨j, hj, rfl, hp, hbl, hB⟩ := hrel
    have HB := Lib.hid hB
    have HP := Lib.hid hp
    have HBL := Lib.hid hbl
    clear hB hp hbl HB0 HL0
    by_cases hlt : j < L.length
    · obtain ⟨b, off, rfl, hb, hcell⟩ := HC3.out.resolve_left (by intro e; rw [e] at hlt; simp at hlt)
      obtain ⟨q0, q1, q2, q3⟩ := (hcell j hlt).below HB.out hb
      have HFL : Hid (((L.take j).flatMap entBL).length ≤ 65536) := Lib.hid (by rw [flat_len _ HP.out, List.length_take]; have := HLEN.out; omega)
      have hBy := entBytes_any (L.getD j EN.zero)
      have HEB : Hid (EB (L.getD j EN.zero) → entBE (L.getD j EN.zero) = 0 ∧ (∀ p ∈ L.take (j + 1), EB p) ∧ (L.take (j + 1)).flatMap entBL = (L.take j).flatMap entBL ++ entBL (L.getD j EN.zero) ∧ (entBL (L.getD j EN.zero)).length = 8) := Lib.hid (fun h => by
        have hs := tab_step hlt HP.out h
        refine ⟨if_pos h, hs.1, ?_, entBL_len h⟩
        rw [hs.2]; congr 1; exact (if_pos h).symm)
      have HNB : Hid (¬ EB (L.getD j EN.zero) → entBE (L.getD j EN.zero) = 2 ∧ tabE L = 2 ∧ tabL L = []) := Lib.hid (fun h => ⟨if_neg h, tab_stop HLEN.out hlt h⟩)
      clear hcell hb
      generalize L.getD j EN.zero = p at q0 q1 q2 q3 hBy HEB HNB
      by_cases hp : EB p
      · obtain ⟨e1, e2, e3, e4⟩ := HEB.out hp
        rw [e1] at hBy
        have HE2 := Lib.hid e2
        have HE3 := Lib.hid e3
        obtain ⟨s, hs⟩ : ∃ s : ByteArray, s = ⟨(entBL p).toArray⟩ := ⟨_, rfl⟩
        have hss : s.size = 8 := by rw [hs, size_mk]; exact e4
        have hsl : Hid (s.data.toList = entBL p) := Lib.hid (by rw [hs])
        rw [← hs] at hBy
        have HSS := Lib.hid hss
        clear HEB HNB hp hs hss e1 e2 e3 e4
        obtain ⟨k, st, mb, fr⟩ := p
        unfold EN.v at hBy
        dsimp only at hBy q0 q1 q2 q3
        go_wp2_with (first
          | (go_at_call 8; refine (hBy _).mono ?_; rintro e w2 ⟨rfl, hb2⟩
             have HB2 := Lib.hid ((HB.out.alloc HB.out.size (.cells #[.int .u8 k, .int .i64 st, .int .i64 mb, .int .i64 fr] 26)).trans (hb2.mono (by have := HB.out.size; simp; omega)))
             have hbk := (HBL.out.below (below1 wr (.cells #[.int .u8 k, .int .i64 st, .int .i64 mb, .int .i64 fr] 26))).below hb2; clear hb2
             have hWS := bldWriteString_any (B := w.heap.size) (b := w.heap.size) hbk HB2.out.size s (by rw [HSS.out]; have := HFL.out; omega); clear hbk)
          | (go_at_call 46; refine hWS.mono ?_; rintro e w3 ⟨rfl, hb3, hbl3, _, _⟩; have HB3 := Lib.hid (HB2.out.trans hbl3); have HBD := Lib.hid hb3; clear hb3 hbl3))
        go_roundw
        case rel => exact ⟨j + 1, by omega, by go_num, HE2.out, by rw [HE3.out, ← hsl.out]; exact .inr HBD.out, HB3.out⟩
        case measure => simp [intOf]; omega
      · obtain ⟨e1, e2, e3⟩ := HNB.out hp
        rw [e1] at hBy
        have HE2 := Lib.hid e2
        have HE3 := Lib.hid e3
        generalize (⟨(entBL p).toArray⟩ : ByteArray) = X at hBy
        clear HEB HNB hp e1 e2 e3
        obtain ⟨k, st, mb, fr⟩ := p
        unfold EN.v at hBy
        dsimp only at hBy q0 q1 q2 q3
        go_wp2_with (go_at_call 8; refine (hBy _).mono ?_; rintro e w2 ⟨rfl, hb2⟩
                     have HB2 := Lib.hid ((HB.out.alloc HB.out.size (.cells #[.int .u8 k, .int .i64 st, .int .i64 mb, .int .i64 fr] 26)).trans (hb2.mono (by have := HB.out.size; simp; omega))); clear hb2)
        go_ret2
        exact ⟨by rw [HE2.out, HE3.out]; rfl, HB2.out⟩
    · obtain rfl : j = L.length := by omega
      have HT : Hid (L.take L.length = L) := Lib.hid (List.take_of_length_le (Nat.le_refl _))
      rw [HT.out] at HP HBL
      have hE : Hid (tabE L = 0) := Lib.hid (tabE_ok.2 ⟨HLEN.out, HP.out⟩)
      have hS : Hid (tabL L = L.flatMap entBL) := Lib.hid (if_pos hE.out)
      clear HT
      have hStr := bldString_any HBL.out HB.out.size
      go_wp2_with (go_at_call 47; refine hStr.mono ?_; rintro e w2 ⟨rfl, hb2, _⟩)
      go_ret2
      exact ⟨by rw [hS.out, hE.out]; rfl, HB.out.trans hb2⟩
theorem sapp (a : List UInt8) (s : ByteArray) : (⟨a.toArray⟩ : ByteArray) ++ s = ⟨(a ++ s.data.toList).toArray⟩ := by
  apply ByteArray.ext
  rw [ByteArray.data_append]
  apply Array.ext'
  simp
set_option maxHeartbeats 2000000 in
theorem rentTable_any (L : List EN) (v : Value) (w : World) (hv : EntsS w v L) :
    Calls Try.prog 18 #[v] w fun e w' => e = .returned (.tuple #[.string ⟨(tabL L).toArray⟩, .int .i64 (tabE L)]) ∧ Below w.heap.size w w' := by
  obtain ⟨A, cap, rfl, hc1, hc2, hc3⟩ := hv
  have HC3 := Lib.hid hc3
  clear hc3
  by_cases hlen : 8192 < L.length
  · have d0 : decide ((8192 : Int) < (L.length : Int)) = true := decide_eq_true (by omega)
    have hE : Hid (tabE L = 7) := Lib.hid (if_neg (by omega))
    have hS : Hid (tabL L = []) := Lib.hid (if_neg (by rw [hE.out]; decide))
    clear hlen
    go_enter Try.func18, Try.ntmps18
    go_wp2
    go_ret2
    exact ⟨by rw [hE.out, hS.out]; rfl, Below.refl _ _⟩
  have d0 : decide ((8192 : Int) < (L.length : Int)) = false := decide_eq_false (by omega)
  have HLEN : Hid (L.length ≤ 8192) := Lib.hid (by omega)
  have hln := HLEN.out
  clear hlen
  go_enter Try.func18, Try.ntmps18
  go_wp2
  clear d0
  go_loopw [4, 14] (fun sx ix wr => ∃ (j : Nat) (X : ByteArray), j ≤ L.length ∧ ix = .int .i64 (j : Int) ∧ sx = .string X ∧ (∀ p ∈ L.take j, EB p) ∧ X = ⟨((L.take j).flatMap entBL).toArray⟩ ∧ Below w.heap.size w wr) (fun _ ix _ => L.length - (intOf ix).toNat)
  case atStart => exact ⟨0, ⟨#[]⟩, Nat.zero_le _, rfl, rfl, (fun p h => by cases h), rfl, Below.refl _ _⟩
  case round =>
    obtain ⟨j, X, hj, rfl, rfl, hp, hX, hB⟩ := hrel
    have HB := Lib.hid hB
    have HP := Lib.hid hp
    have HX := Lib.hid hX
    clear hB hp hX
    by_cases hlt : j < L.length
    · obtain ⟨b, off, rfl, hb, hcell⟩ := HC3.out.resolve_left (by intro e; rw [e] at hlt; simp at hlt)
      obtain ⟨q0, q1, q2, q3⟩ := (hcell j hlt).below HB.out hb
      have HFL : Hid (X.size ≤ 65536) := Lib.hid (by rw [HX.out, size_mk, flat_len _ HP.out, List.length_take]; have := HLEN.out; omega)
      have hBy := rentBytes_any (L.getD j EN.zero)
      have HEB : Hid (EB (L.getD j EN.zero) → entBE (L.getD j EN.zero) = 0 ∧ (∀ p ∈ L.take (j + 1), EB p) ∧ (L.take (j + 1)).flatMap entBL = (L.take j).flatMap entBL ++ entBL (L.getD j EN.zero) ∧ (entBL (L.getD j EN.zero)).length = 8) := Lib.hid (fun h => by
        have hs := tab_step hlt HP.out h
        refine ⟨if_pos h, hs.1, ?_, entBL_len h⟩
        rw [hs.2]; congr 1; exact (if_pos h).symm)
      have HNB : Hid (¬ EB (L.getD j EN.zero) → entBE (L.getD j EN.zero) = 2 ∧ tabE L = 2 ∧ tabL L = []) := Lib.hid (fun h => ⟨if_neg h, tab_stop HLEN.out hlt h⟩)
      clear hcell hb
      generalize L.getD j EN.zero = p at q0 q1 q2 q3 hBy HEB HNB
      by_cases hp : EB p
      · obtain ⟨e1, e2, e3, e4⟩ := HEB.out hp
        rw [e1] at hBy
        have HE2 := Lib.hid e2
        obtain ⟨s, hs⟩ : ∃ s : ByteArray, s = ⟨(entBL p).toArray⟩ := ⟨_, rfl⟩
        have hss : s.size = 8 := by rw [hs, size_mk]; exact e4
        have hXs := HFL.out
        have HE3 : Hid (X ++ s = ⟨((L.take (j + 1)).flatMap entBL).toArray⟩) := Lib.hid (by rw [e3, HX.out, sapp, hs])
        rw [← hs] at hBy
        clear HEB HNB hp hs e1 e2 e3 e4
        obtain ⟨k, st, mb, fr⟩ := p
        unfold EN.v at hBy
        dsimp only at hBy q0 q1 q2 q3
        go_wp2_with (go_at_call 9; refine (hBy _).mono ?_; rintro e w2 ⟨rfl, hb2⟩
                     have HB2 := Lib.hid ((HB.out.alloc HB.out.size (.cells #[.int .u8 k, .int .i64 st, .int .i64 mb, .int .i64 fr] 26)).trans (hb2.mono (by have := HB.out.size; simp; omega))); clear hb2)
        go_roundw
        case rel => exact ⟨j + 1, X ++ s, by omega, by go_num, rfl, HE2.out, HE3.out, HB2.out⟩
        case measure => simp [intOf]; omega
      · obtain ⟨e1, e2, e3⟩ := HNB.out hp
        rw [e1] at hBy
        have HE2 := Lib.hid e2
        have HE3 := Lib.hid e3
        generalize (⟨(entBL p).toArray⟩ : ByteArray) = Y at hBy
        clear HEB HNB hp e1 e2 e3
        obtain ⟨k, st, mb, fr⟩ := p
        unfold EN.v at hBy
        dsimp only at hBy q0 q1 q2 q3
        go_wp2_with (go_at_call 9; refine (hBy _).mono ?_; rintro e w2 ⟨rfl, hb2⟩
                     have HB2 := Lib.hid ((HB.out.alloc HB.out.size (.cells #[.int .u8 k, .int .i64 st, .int .i64 mb, .int .i64 fr] 26)).trans (hb2.mono (by have := HB.out.size; simp; omega))); clear hb2)
        go_ret2
        exact ⟨by rw [HE2.out, HE3.out]; rfl, HB2.out⟩
    · obtain rfl : j = L.length := by omega
      have HT : Hid (L.take L.length = L) := Lib.hid (List.take_of_length_le (Nat.le_refl _))
      rw [HT.out] at HP HX
      have hE : Hid (tabE L = 0) := Lib.hid (tabE_ok.2 ⟨HLEN.out, HP.out⟩)
      have hS : Hid (tabL L = L.flatMap entBL) := Lib.hid (if_pos hE.out)
      clear HT
      go_wp2
      go_ret2
      exact ⟨by rw [hS.out, hE.out, HX.out]; rfl, HB.out⟩
end Go.Proofs.Ytifhbaacljkleaa
