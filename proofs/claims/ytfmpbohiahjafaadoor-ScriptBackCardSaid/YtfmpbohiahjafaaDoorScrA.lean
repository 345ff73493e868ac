/- Scripts: what the package variables hold, and the Go library's answers that the program asks for. -/
import Derived.Test.YtfmpbohiahjafaaDoorScrN
import Derived.Test.YtfmpbohiahjafaaDoorStrIn
import Derived.Test.YtfmpbohiahjafaaDoorBld
import Derived.Test.YtfmpbohiahjafaaDoorShelfX
import Derived.Lib.AppendIntMem
import Derived.Deep.Cut
import Derived.Deep.MidRow
namespace Go.Proofs.YtfmpbohiahjafaaDoor
open Go.RowKit Go.Lib Go.Shelf Go.Sort

abbrev Bs (l : List UInt8) : Value := .string ⟨l.toArray⟩
theorem bsz (l : List UInt8) : (⟨l.toArray⟩ : ByteArray).size = l.length := by show l.toArray.size = _; simp
theorem sapp (a b : List UInt8) : (⟨a.toArray⟩ : ByteArray) ++ (⟨b.toArray⟩ : ByteArray) = ⟨(a ++ b).toArray⟩ := by
  apply ByteArray.ext
  rw [ByteArray.data_append]
  simp
theorem cell_keep {w w' : World} (hb : Below w.heap.size w w') {g i : Nat} {v : Value} (h : w.cell? ⟨g, i, none⟩ = some v) : w'.cell? ⟨g, i, none⟩ = some v :=
  (hb.cell (p := ⟨g, i, none⟩) (World.block_lt_of_cell? _ _ h)).trans h
theorem below_set {B : Nat} {w W : World} {b k : Nat} {v : Value} (h : Below B w W) (hB : B ≤ b) : Below B w (W.setCell ⟨b, k, none⟩ v) :=
  h.setCell (p := ⟨b, k, none⟩) hB v
theorem new5 (w : World) (a b c d e : Value) (t : TypeId) : (w.alloc (.cells #[a, b, c, d, e] t)).cell? ⟨w.heap.size, 0, none⟩ = some a ∧ (w.alloc (.cells #[a, b, c, d, e] t)).cell? ⟨w.heap.size, 1, none⟩ = some b ∧ (w.alloc (.cells #[a, b, c, d, e] t)).cell? ⟨w.heap.size, 2, none⟩ = some c ∧ (w.alloc (.cells #[a, b, c, d, e] t)).cell? ⟨w.heap.size, 3, none⟩ = some d ∧ (w.alloc (.cells #[a, b, c, d, e] t)).cell? ⟨w.heap.size, 4, none⟩ = some e := by
  have g := heap_alloc_new w (.cells #[a, b, c, d, e] t)
  refine ⟨?_, ?_, ?_, ?_, ?_⟩ <;> (rw [cell_of_row _ _ _ _ _ (0, 0) g]; rfl)
theorem new4 (w : World) (a b c d : Value) (t : TypeId) : (w.alloc (.cells #[a, b, c, d] t)).cell? ⟨w.heap.size, 0, none⟩ = some a ∧ (w.alloc (.cells #[a, b, c, d] t)).cell? ⟨w.heap.size, 1, none⟩ = some b ∧ (w.alloc (.cells #[a, b, c, d] t)).cell? ⟨w.heap.size, 2, none⟩ = some c ∧ (w.alloc (.cells #[a, b, c, d] t)).cell? ⟨w.heap.size, 3, none⟩ = some d := by
  have g := heap_alloc_new w (.cells #[a, b, c, d] t)
  refine ⟨?_, ?_, ?_, ?_⟩ <;> (rw [cell_of_row _ _ _ _ _ (0, 0) g]; rfl)
theorem new3 (w : World) (a b c : Value) (t : TypeId) : (w.alloc (.cells #[a, b, c] t)).cell? ⟨w.heap.size, 0, none⟩ = some a ∧ (w.alloc (.cells #[a, b, c] t)).cell? ⟨w.heap.size, 1, none⟩ = some b ∧ (w.alloc (.cells #[a, b, c] t)).cell? ⟨w.heap.size, 2, none⟩ = some c := by
  have g := heap_alloc_new w (.cells #[a, b, c] t)
  refine ⟨?_, ?_, ?_⟩ <;> (rw [cell_of_row _ _ _ _ _ (0, 0) g]; rfl)
theorem cell2 (w : World) (a b : Value) (t : TypeId) : (w.alloc (.cells #[a, b] t)).cell? ⟨w.heap.size, 0, none⟩ = some a ∧ (w.alloc (.cells #[a, b] t)).cell? ⟨w.heap.size, 1, none⟩ = some b := by
  have g := heap_alloc_new w (.cells #[a, b] t)
  refine ⟨?_, ?_⟩ <;> (rw [cell_of_row _ _ _ _ _ (0, 0) g]; rfl)
theorem cell1 (w : World) (a : Value) (t : TypeId) : (w.alloc (.cells #[a] t)).cell? ⟨w.heap.size, 0, none⟩ = some a := by
  have g := heap_alloc_new w (.cells #[a] t)
  rw [cell_of_row _ _ _ _ _ (0, 0) g]; rfl
/-! ### the package variables -/
/-- The three places of a kind's shape. -/
def kTw (k i : Nat) : Int := (kTl k).getD i 0
/-- The cells of the table of shapes. -/
def shC : List Value := (List.range 19).flatMap fun k => [Bs (kWd k), .int .i64 (kTw k 0), .int .i64 (kTw k 1), .int .i64 (kTw k 2)]
structure ScW (w : World) : Prop where
  tab : Lib.TabIs Tryd.prog w "internal/strconv.uint64pow10" .u64 Lib.pow10Tab
  ml : ∃ m, w.cell? ⟨1, 0, none⟩ = some (.int .i64 m)
  syn : ∃ ev, w.cell? ⟨5, 0, none⟩ = some ev ∧ (ev = .nilIface ∨ ∃ te pe, ev = .iface te pe)
  rng : ∃ ev, w.cell? ⟨6, 0, none⟩ = some ev ∧ (ev = .nilIface ∨ ∃ te pe, ev = .iface te pe)
  sh : w.rangeAt 0 0 shC
theorem ScW.below {w w' : World} (h : ScW w) (hb : Below w.heap.size w w') : ScW w' := by
  obtain ⟨h0, ⟨m, h1⟩, ⟨e1, h2, k2⟩, ⟨e2, h3, k3⟩, h4⟩ := h
  exact ⟨tabBelow_of_tabIs h0 _ hb, ⟨m, cell_keep hb h1⟩, ⟨e1, cell_keep hb h2, k2⟩, ⟨e2, cell_keep hb h3, k3⟩, fun j v hj => cell_keep hb (h4 j v hj)⟩
theorem shC_at : ∀ k, k < 19 → shC[k * 4]? = some (Bs (kWd k)) ∧ shC[k * 4 + 1]? = some (.int .i64 (kTw k 0)) ∧ shC[k * 4 + 1 + 1]? = some (.int .i64 (kTw k 1)) ∧ shC[k * 4 + 1 + 2]? = some (.int .i64 (kTw k 2)) := by
  intro k hk
  match k, hk with
  | 0, _ => exact ⟨rfl, rfl, rfl, rfl⟩
  | 1, _ => exact ⟨rfl, rfl, rfl, rfl⟩
  | 2, _ => exact ⟨rfl, rfl, rfl, rfl⟩
  | 3, _ => exact ⟨rfl, rfl, rfl, rfl⟩
  | 4, _ => exact ⟨rfl, rfl, rfl, rfl⟩
  | 5, _ => exact ⟨rfl, rfl, rfl, rfl⟩
  | 6, _ => exact ⟨rfl, rfl, rfl, rfl⟩
  | 7, _ => exact ⟨rfl, rfl, rfl, rfl⟩
  | 8, _ => exact ⟨rfl, rfl, rfl, rfl⟩
  | 9, _ => exact ⟨rfl, rfl, rfl, rfl⟩
  | 10, _ => exact ⟨rfl, rfl, rfl, rfl⟩
  | 11, _ => exact ⟨rfl, rfl, rfl, rfl⟩
  | 12, _ => exact ⟨rfl, rfl, rfl, rfl⟩
  | 13, _ => exact ⟨rfl, rfl, rfl, rfl⟩
  | 14, _ => exact ⟨rfl, rfl, rfl, rfl⟩
  | 15, _ => exact ⟨rfl, rfl, rfl, rfl⟩
  | 16, _ => exact ⟨rfl, rfl, rfl, rfl⟩
  | 17, _ => exact ⟨rfl, rfl, rfl, rfl⟩
  | 18, _ => exact ⟨rfl, rfl, rfl, rfl⟩
  | n + 19, h => omega
theorem ScW.shape {w : World} (h : ScW w) {k : Nat} (hk : k < 19) : w.cell? ⟨0, k * 4, none⟩ = some (Bs (kWd k)) ∧ w.cell? ⟨0, k * 4 + 1, none⟩ = some (.int .i64 (kTw k 0)) ∧ w.cell? ⟨0, k * 4 + 1 + 1, none⟩ = some (.int .i64 (kTw k 1)) ∧ w.cell? ⟨0, k * 4 + 1 + 2, none⟩ = some (.int .i64 (kTw k 2)) := by
  obtain ⟨h0, h1, h2, h3⟩ := shC_at k hk
  have f := fun j v hj => h.sh j v hj
  simp only [Nat.zero_add] at f
  exact ⟨f _ _ h0, f _ _ h1, f _ _ h2, f _ _ h3⟩
/-! ### numbers -/
def I6 (n : Int) : Prop := -9223372036854775808 ≤ n ∧ n ≤ 9223372036854775807
theorem grow_below {w : World} {q : Nat} {os : Array Obj} : Below w.heap.size w (grow (w.drewN q) os) :=
  ⟨rfl, rfl, rfl, by show w.heap.size ≤ (w.heap ++ os).size; simp, fun i hi => by show (w.heap ++ os)[i]? = _; rw [Array.getElem?_append_left hi]⟩
theorem itoaI_any {n : Int} (h : I6 n) {w : World} (hD : ScW w) : Calls Tryd.prog 35 #[.int .i64 n] w fun e w' => e = .returned (Bs (itoa n)) ∧ Below w.heap.size w w' := by
  have hI := Any.strconv_Itoa Tryd.lays171 n h.1 h.2 w hD.tab
  change Calls Tryd.prog 35 _ _ _ at hI
  refine hI.mono ?_
  intro e w' hh
  obtain ⟨he, k, os, hw⟩ := hh
  rw [hw]
  exact ⟨he, grow_below⟩
theorem fmtI_any {n : Int} (h : I6 n) {w : World} (hD : ScW w) : Calls Tryd.prog 34 #[.int .i64 n, .int .i64 10] w fun e w' => e = .returned (Bs (itoa n)) ∧ Below w.heap.size w w' := by
  have hI := Any.strconv_FormatInt_10 Tryd.lays173 n h.1 h.2 w hD.tab
  change Calls Tryd.prog 34 _ _ _ at hI
  refine hI.mono ?_
  intro e w' hh
  obtain ⟨he, k, os, hw⟩ := hh
  rw [hw]
  exact ⟨he, grow_below⟩
theorem bytesW_below (w : World) (e : TypeId) (s : ByteArray) : Below w.heap.size w (Lib.bytesWorld w e s) := Lib.bytesWorld_below _ _ _
theorem atoiOk_any {l : List UInt8} (hl : l.length ≤ 100000000) {v : Int} (h : Lib.atoiAll l = .ok v) (w : World) : Calls Tryd.prog 58 #[.string ⟨l.toArray⟩] w fun e w' => e = .returned (.tuple #[.int .i64 v, .nilIface]) ∧ Below w.heap.size w w' := by
  have hsz := bsz l
  have hA := Any.strconv_Atoi_ok Tryd.lays172 ⟨l.toArray⟩ (by omega) v h w
  change Calls Tryd.prog 58 _ _ _ at hA
  refine hA.mono ?_
  intro e w' hh
  obtain ⟨he, hw⟩ := hh
  refine ⟨he, ?_⟩
  rcases hw with rfl | ⟨t, rfl⟩
  · exact Below.refl _ _
  · exact bytesW_below _ _ _
theorem atoiNo_any {l : List UInt8} (hl : l.length ≤ 100000000) (h : ∀ u, Lib.atoiAll l ≠ .ok u) {w : World} (hD : ScW w) : Calls Tryd.prog 58 #[.string ⟨l.toArray⟩] w fun e w' => ∃ v t p, e = .returned (.tuple #[.int .i64 v, .iface t (.pointer p)]) ∧ Below w.heap.size w w' := by
  have hsz := bsz l
  rcases hr : Lib.atoiAll l with v | _ | _
  · exact absurd hr (h v)
  · obtain ⟨ev, hv, hev⟩ := hD.syn
    have hA := Any.strconv_Atoi_syntax Tryd.lays172 ⟨l.toArray⟩ (by omega) hr ev w hv hev
    change Calls Tryd.prog 58 _ _ _ at hA
    refine hA.mono ?_
    intro e w' hh
    obtain ⟨N, he, _, _, hb⟩ := hh
    exact ⟨0, _, _, he, hb⟩
  · obtain ⟨ev, hv, hev⟩ := hD.rng
    have hA := Any.strconv_Atoi_range Tryd.lays172 ⟨l.toArray⟩ (by omega) hr ev w hv hev
    change Calls Tryd.prog 58 _ _ _ at hA
    refine hA.mono ?_
    intro e w' hh
    obtain ⟨N, he, _, _, hb⟩ := hh
    exact ⟨_, _, _, he, hb⟩
theorem atoi_in {l : List UInt8} {v : Int} (h : Lib.atoiAll l = .ok v) : I6 v := by
  unfold I6
  unfold Lib.atoiAll at h
  split at h
  · cases h
  · dsimp only at h
    split at h
    · cases h
    · cases h
    · rename_i u hu
      have := Lib.parseMag_lt hu
      split at h
      · cases h
      · split at h
        · cases h
        · injection h with h
          split at h <;> omega
/-! ### pieces -/
theorem cut_hit {one rest : List UInt8} (h : (10 : UInt8) ∉ one) : Lib.cut (one ++ 10 :: rest) [10] = (one, rest, true) := by
  have h1 : Lib.index (one ++ 10 :: rest) [10] = (one.length : Int) := by
    rw [index_one]
    cases hr : indexByte (one ++ 10 :: rest) 10 with
    | ofNat o =>
      obtain ⟨e1, e2⟩ := indexByte_some (o := o) hr
      congr 1
      rcases Nat.lt_trichotomy o one.length with hlt | heq | hgt
      · rw [List.getElem?_append_left hlt] at e1
        exact absurd (List.mem_of_getElem? e1) h
      · exact heq
      · exact absurd (by rw [List.getElem?_append_right (Nat.le_refl _), Nat.sub_self]; rfl) (e2 one.length hgt)
    | negSucc o =>
      have hg := indexByte_ge (one ++ 10 :: rest) 10
      have : indexByte (one ++ 10 :: rest) 10 = -1 := by rw [hr] at hg ⊢; omega
      exact absurd (by simp) (not_mem_of this)
  unfold Lib.cut
  rw [h1, if_pos (by omega)]
  simp
theorem cut_miss {s : List UInt8} (h : (10 : UInt8) ∉ s) : Lib.cut s [10] = (s, [], false) := by
  have h1 : ¬ 0 ≤ Lib.index s [10] := by
    rw [index_one]
    intro hge
    obtain ⟨o, ho⟩ : ∃ o : Nat, indexByte s 10 = o := ⟨(indexByte s 10).toNat, by omega⟩
    exact h (List.mem_of_getElem? (indexByte_some ho).1)
  unfold Lib.cut
  rw [if_neg h1]
theorem cutS_any {s : List UInt8} (hl : s.length ≤ 200000000) {w : World} (hD : ScW w) : Calls Tryd.prog 30 #[.string ⟨s.toArray⟩, .string ⟨#[10]⟩] w fun e w' => e = .returned (.tuple #[Bs (Lib.cut s [10]).1, Bs (Lib.cut s [10]).2.1, .bool (Lib.cut s [10]).2.2]) ∧ Below w.heap.size w w' := by
  obtain ⟨m, hm⟩ := hD.ml
  have hsz := bsz s
  have hC := Any.strings_Cut Tryd.lays145 ⟨s.toArray⟩ ⟨#[10]⟩ m w (by omega) hm
  change Calls Tryd.prog 30 _ _ _ at hC
  refine hC.mono ?_
  rintro e w' ⟨he, n, rfl⟩
  exact ⟨he, below_drewN (Below.refl _ _) n⟩
theorem split_10 {s : List UInt8} (h : (10 : UInt8) ∈ s) : ∃ one rest, s = one ++ 10 :: rest ∧ (10 : UInt8) ∉ one := by
  induction s with
  | nil => cases h
  | cons b r ih =>
    by_cases hb : b = 10
    · exact ⟨[], r, by rw [hb]; rfl, by simp⟩
    · obtain ⟨one, rest, h1, h2⟩ := ih (by rcases List.mem_cons.1 h with h | h; exact absurd h.symm hb; exact h)
      refine ⟨b :: one, rest, by rw [h1]; rfl, fun hm => ?_⟩
      rcases List.mem_cons.1 hm with hm | hm
      · exact hb hm.symm
      · exact h2 hm
/-- Parted so often at most: the words, or one word too many behind the same first one. -/
theorem splitK_few (c : UInt8) : ∀ (k : Nat) (l : List UInt8), ((spl c l).length ≤ k + 1 → splitK [c] 0 k l = spl c l) ∧ (k + 1 < (spl c l).length → (splitK [c] 0 k l).length = k + 1) := by
  intro k
  induction k with
  | zero =>
    intro l
    refine ⟨fun h => ?_, fun _ => rfl⟩
    by_cases hi : index l [c] = -1
    · rw [splitK, spl_none (not_mem_of (by rw [← index_one]; exact hi))]
    · exfalso
      have hge := indexByte_ge l c
      rw [← index_one] at hge
      obtain ⟨i, hi⟩ : ∃ i : Nat, index l [c] = i := ⟨(index l [c]).toNat, by omega⟩
      obtain ⟨h1, h2⟩ := at_of (by rw [← index_one]; exact hi)
      rw [h1, spl_app _ h2] at h
      have := spl_ne c (l.drop (i + 1))
      cases hs : spl c (l.drop (i + 1)) with
      | nil => exact this hs
      | cons a r => rw [hs] at h; simp at h
  | succ k ih =>
    intro l
    by_cases hi : index l [c] = -1
    · have e := spl_none (not_mem_of (by rw [← index_one]; exact hi))
      have e2 : splitK [c] 0 (k + 1) l = [l] := by rw [splitK, if_pos (by rw [hi]; rfl)]
      rw [e2, e]
      exact ⟨fun _ => rfl, fun h => by simp at h⟩
    · have hge := indexByte_ge l c
      rw [← index_one] at hge
      obtain ⟨i, hi⟩ : ∃ i : Nat, index l [c] = i := ⟨(index l [c]).toNat, by omega⟩
      obtain ⟨h1, h2⟩ := at_of (by rw [← index_one]; exact hi)
      have e : splitK [c] 0 (k + 1) l = l.take i :: splitK [c] 0 k (l.drop (i + 1)) := by
        rw [splitK, if_neg (by rw [hi]; simp), hi]
        show l.take (i + 0) :: splitK [c] 0 _ (l.drop (i + 1)) = _
        rw [Nat.add_zero]
      have e2 : spl c l = l.take i :: spl c (l.drop (i + 1)) := by
        conv => lhs; rw [h1]
        exact spl_app _ h2
      rw [e, e2, List.length_cons, List.length_cons]
      obtain ⟨i1, i2⟩ := ih (l.drop (i + 1))
      exact ⟨fun h => by rw [i1 (by omega)], fun h => by rw [i2 (by omega)]⟩
theorem splitK_head (c : UInt8) (k : Nat) (l : List UInt8) : (splitK [c] 0 (k + 1) l).head? = (spl c l).head? := by
  by_cases hi : index l [c] = -1
  · rw [splitK, if_pos (by rw [hi]; rfl), spl_none (not_mem_of (by rw [← index_one]; exact hi))]
  · have hge := indexByte_ge l c
    rw [← index_one] at hge
    obtain ⟨i, hi⟩ : ∃ i : Nat, index l [c] = i := ⟨(index l [c]).toNat, by omega⟩
    obtain ⟨h1, h2⟩ := at_of (by rw [← index_one]; exact hi)
    have e2 : spl c l = l.take i :: spl c (l.drop (i + 1)) := by
      conv => lhs; rw [h1]
      exact spl_app _ h2
    rw [splitK, if_neg (by rw [hi]; simp), hi, e2]
    rfl
/-- Words that lie in a block, behind it what there may be. -/
def WsAt (W : World) (b : Nat) (L : List (List UInt8)) : Prop := b < W.heap.size ∧ ∀ j, j < L.length → W.cell? ⟨b, j, none⟩ = some (Bs (L.getD j []))
theorem WsAt.below {W W' : World} {b : Nat} {L : List (List UInt8)} (h : WsAt W b L) (hb : Below W.heap.size W W') : WsAt W' b L :=
  ⟨Nat.lt_of_lt_of_le h.1 hb.size, fun j hj => cell_keep hb (h.2 j hj)⟩
theorem strInfB : (Tryd.prog.info? 9).map (fun i => (i.zero, i.size, i.bytes)) = some (some (.string ByteArray.empty), 1, 16) := by kernel_rfl
/-- strings.SplitN at a blank, so many at most. -/
theorem splitN_any {l : List UInt8} (hl : l.length ≤ 200000000) {n : Nat} (hn : 2 ≤ n) (hn2 : n ≤ 1000) {w : World} (hD : ScW w) :
    Calls Tryd.prog 21 #[.string ⟨l.toArray⟩, .string ⟨#[32]⟩, .int .i64 (n : Int)] w fun e w' => ∃ (b c : Nat) (L : List (List UInt8)), e = .returned (.slice (some ⟨b, 0, none⟩) L.length c) ∧ WsAt w' b L ∧ L.length ≤ c ∧ c ≤ maxLen ∧ ((spl 32 l).length ≤ n → L = spl 32 l) ∧ (n < (spl 32 l).length → L.length = n) ∧ L.length ≤ n ∧ (∃ x R, L = x :: R ∧ (spl 32 l).head? = some x) ∧ Below w.heap.size w w' := by
  obtain ⟨m, hm⟩ := hD.ml
  have hsz := bsz l
  have hS := Any.strings_SplitN Tryd.lays147 strInfB ⟨l.toArray⟩ ⟨#[32]⟩ n m w (by omega) hm (by decide) (by omega) (by omega)
  change Calls Tryd.prog 21 _ _ _ at hS
  refine hS.mono ?_
  rintro e w' ⟨rfl, rfl⟩
  rw [hsz]
  obtain ⟨xs, hxs⟩ : ∃ xs, xs = Lib.splitB ⟨#[32]⟩ 0 (min n (l.length + 1) - 1) ⟨l.toArray⟩ := ⟨_, rfl⟩
  rw [← hxs]
  obtain ⟨L, hL⟩ : ∃ L, L = xs.map (·.data.toList) := ⟨_, rfl⟩
  have hLs : L = splitK [32] 0 (min n (l.length + 1) - 1) l := by rw [hL, hxs]; exact Lib.splitB_data _ _ _ _
  have hxl : xs.length = L.length := by rw [hL, List.length_map]
  have hsl := spl_len_le 32 l
  obtain ⟨f1, f2⟩ := splitK_few 32 (min n (l.length + 1) - 1) l
  rw [← hLs] at f1 f2
  have hne : 1 ≤ (spl 32 l).length := by
    cases hs : spl 32 l with
    | nil => exact absurd hs (spl_ne _ _)
    | cons a r => simp
  have g1 : (spl 32 l).length ≤ n → L = spl 32 l := fun h => f1 (by omega)
  have g2 : n < (spl 32 l).length → L.length = n := fun h => by rw [f2 (by omega)]; omega
  have g3 : L.length ≤ min n (l.length + 1) := by
    by_cases h : (spl 32 l).length ≤ n
    · rw [g1 h]; omega
    · rw [g2 (by omega)]; omega
  have g4 : L.head? = (spl 32 l).head? := by
    by_cases h : (spl 32 l).length ≤ n
    · rw [g1 h]
    · rw [hLs, show min n (l.length + 1) - 1 = (n - 2) + 1 by omega]; exact splitK_head 32 _ l
  refine ⟨w.heap.size, min n (l.length + 1), L, by rw [hxl], ⟨by simp, fun j hj => ?_⟩, g3, by unfold maxLen; omega, g1, g2, by omega, ?_, below_new w _⟩
  · have hj2 : j < xs.length := by omega
    rw [cell_of_row _ _ _ _ _ (0, 0) (heap_alloc_new w _)]
    have hx : (xs.map Value.string)[j]? = some (.string xs[j]) := by rw [List.getElem?_map, List.getElem?_eq_getElem hj2]; rfl
    have : (Lib.cellsOf xs (min n (l.length + 1)))[j]? = some (.string xs[j]) := by
      unfold Lib.cellsOf
      simp only [List.getElem?_toArray]
      rw [List.getElem?_append_left (by simpa using hj2)]
      exact hx
    rw [this]
    have e : L.getD j [] = xs[j].data.toList := by rw [hL, List.getD, List.getElem?_map, List.getElem?_eq_getElem hj2]; rfl
    rw [e]
  · cases hs : spl 32 l with
    | nil => exact absurd hs (spl_ne _ _)
    | cons a r =>
      rw [hs] at g4
      cases L with
      | nil => cases g4
      | cons x R => exact ⟨x, R, rfl, by rw [← g4]; rfl⟩
theorem jn_join (L : List (List UInt8)) : Lib.join L [32] = jn 32 L := rfl
/-- strings.Join with a blank. -/
theorem join_any {L : List (List UInt8)} {w : World} {b n c : Nat} (hn : n = L.length) (hN : L.length ≤ 1000) (hc : L.length ≤ c) (hl : (jn 32 L).length ≤ 100000000000) (hW : WsAt w b L) :
    Calls Tryd.prog 18 #[.slice (some ⟨b, 0, none⟩) n c, .string ⟨#[32]⟩] w fun e w' => e = .returned (Bs (jn 32 L)) ∧ Below w.heap.size w w' := by
  subst hn
  obtain ⟨xs, hxs⟩ : ∃ xs : List ByteArray, xs = L.map fun l => ⟨l.toArray⟩ := ⟨_, rfl⟩
  have hx1 : xs.length = L.length := by rw [hxs, List.length_map]
  have hx2 : xs.map (·.data.toList) = L := by rw [hxs, List.map_map]; exact List.map_id _
  have hJ := Any.strings_Join Tryd.lays156 Tryd.Builder_Extra_156 b 0 c xs ⟨#[32]⟩ w (fun j x hx => by
    rw [hxs, List.getElem?_map] at hx
    obtain ⟨l, hl, rfl⟩ := Option.map_eq_some_iff.1 hx
    have hlt := (List.getElem?_eq_some_iff.1 hl).1
    have := hW.2 j hlt
    rw [List.getD, hl] at this
    rw [Nat.zero_add]; exact this) hW.1 (by omega) (by omega) (by rw [hx2]; show (Lib.join L [32]).length ≤ _; rw [jn_join]; omega)
  rw [hx1, hx2] at hJ
  exact hJ
/-- strings.IndexByte over the digits. -/
theorem dgX_any (c : UInt8) (w : World) : Calls Tryd.prog 57 #[.string ⟨#[48, 49, 50, 51, 52, 53, 54, 55, 56, 57, 97, 98, 99, 100, 101, 102]⟩, .int .u8 (c.toNat : Int)] w fun e w' => e = .returned (.int .i64 (dgX c)) ∧ w' = w := by
  have h := Any.strings_IndexByte Tryd.lays137 ⟨#[48, 49, 50, 51, 52, 53, 54, 55, 56, 57, 97, 98, 99, 100, 101, 102]⟩ (c.toNat : Int) w
  change Calls Tryd.prog 57 _ _ _ at h
  rw [Int.toNat_natCast, show c.toNat.toUInt8 = c from UInt8.ofNat_toNat] at h
  exact h
end Go.Proofs.YtfmpbohiahjafaaDoor
