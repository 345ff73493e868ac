/- Entries: rows of them that are made and written; the contracts of ParseTable. Entries: the document's own ParseTable; Same. Entries: Same. Charts: the plain model: tables, maps, what is right. Charts: closures and searches over entries: isFull, wrong, IndexFunc, ContainsFunc. -/
import Derived.Test.YthhbaccbhfngbaaMb03
import Derived.Laws.MakeOwn
import Derived.Deep.OwnRows
import Derived.Test.YthhbaccbhfngbaaMb01
namespace Go.Proofs.Ythhbaccbhfngbaa
open Go.RowKit

/-- Entries, one behind the other, from the start of a block on, that may be written. -/
def RowE (W : World) (b : Nat) (L : List EN) : Prop := b < W.heap.size ∧ (∀ i, i < L.length → EntAt W b (i * 4) (L.getD i EN.zero)) ∧ ∀ o, o < L.length * 4 → W.frozen? ⟨b, o, none⟩ = false
theorem RowE.ap {S : Nat → Prop} {W W' : World} {b : Nat} {L : List EN} (k : RowE W b L) (a : Ap S W W') (hn : ¬ S b) : RowE W' b L :=
  ⟨Nat.lt_of_lt_of_le k.1 a.size, fun i hi => ⟨(a.cell k.1 hn _).trans (k.2.1 i hi).c0, (a.cell k.1 hn _).trans (k.2.1 i hi).c1, (a.cell k.1 hn _).trans (k.2.1 i hi).c2, (a.cell k.1 hn _).trans (k.2.1 i hi).c3⟩, fun o ho => (a.frozen k.1 hn o).trans (k.2.2 o ho)⟩
theorem RowE.below {W W' : World} {b : Nat} {L : List EN} (k : RowE W b L) (hb : Below W.heap.size W W') : RowE W' b L := k.ap (Ap.of_below (S := fun _ => False) hb) id
/-- Four stores, one entry. -/
def putN (W : World) (b o : Nat) (s : EN) : World := (((W.setCell ⟨b, o, none⟩ (.int .u8 s.kind)).setCell ⟨b, o + 1, none⟩ (.int .i64 s.st)).setCell ⟨b, o + 2, none⟩ (.int .i64 s.mb)).setCell ⟨b, o + 3, none⟩ (.int .i64 s.fr)
theorem ap_putN (W : World) (b o : Nat) (s : EN) : Ap (fun k => k = b) W (putN W b o s) :=
  (((ap_put W b o _).trans (ap_put _ b (o + 1) _)).trans (ap_put _ b (o + 2) _)).trans (ap_put _ b (o + 3) _)
theorem putN_at {W : World} {b o : Nat} {p : EN} (k : EntAt W b o p) (s : EN) : EntAt (putN W b o s) b o s := by
  have f0 : (W.setCell ⟨b, o, none⟩ (.int .u8 s.kind)).cell? ⟨b, o, none⟩ = some (.int .u8 s.kind) := cell_put k.c0 _
  have f1 : ((W.setCell ⟨b, o, none⟩ (.int .u8 s.kind)).setCell ⟨b, o + 1, none⟩ (.int .i64 s.st)).cell? ⟨b, o + 1, none⟩ = some (.int .i64 s.st) := cell_put ((cell_putne _ _ _ _ _ (by omega)).trans k.c1) _
  have f2 : (((W.setCell ⟨b, o, none⟩ (.int .u8 s.kind)).setCell ⟨b, o + 1, none⟩ (.int .i64 s.st)).setCell ⟨b, o + 2, none⟩ (.int .i64 s.mb)).cell? ⟨b, o + 2, none⟩ = some (.int .i64 s.mb) :=
    cell_put (((cell_putne _ _ _ _ _ (by omega)).trans (cell_putne _ _ _ _ _ (by omega))).trans k.c2) _
  have f3 : (putN W b o s).cell? ⟨b, o + 3, none⟩ = some (.int .i64 s.fr) :=
    cell_put ((((cell_putne _ _ _ _ _ (by omega)).trans (cell_putne _ _ _ _ _ (by omega))).trans (cell_putne _ _ _ _ _ (by omega))).trans k.c3) _
  exact ⟨((cell_putne _ _ _ _ _ (by omega)).trans ((cell_putne _ _ _ _ _ (by omega)).trans (cell_putne _ _ _ _ _ (by omega)))).trans f0, ((cell_putne _ _ _ _ _ (by omega)).trans (cell_putne _ _ _ _ _ (by omega))).trans f1, (cell_putne _ _ _ _ _ (by omega)).trans f2, f3⟩
theorem putN_ne (W : World) (b o q : Nat) (s : EN) (hq : q < o ∨ o + 4 ≤ q) : (putN W b o s).cell? ⟨b, q, none⟩ = W.cell? ⟨b, q, none⟩ :=
  ((cell_putne _ _ _ _ _ (by omega)).trans ((cell_putne _ _ _ _ _ (by omega)).trans (cell_putne _ _ _ _ _ (by omega)))).trans (cell_putne _ _ _ _ _ (by omega))
theorem putN_fz (W : World) (b o q : Nat) (s : EN) : (putN W b o s).frozen? ⟨b, q, none⟩ = W.frozen? ⟨b, q, none⟩ := by
  unfold putN
  rw [World.frozen?_setCell, World.frozen?_setCell, World.frozen?_setCell, World.frozen?_setCell]
theorem getD_setE (L : List EN) (i j : Nat) (s : EN) (hi : i < L.length) : (L.set i s).getD j EN.zero = if j = i then s else L.getD j EN.zero := by
  rw [List.getD, List.getElem?_set]
  by_cases h : i = j
  · subst h; rw [if_pos rfl, if_pos rfl, if_pos hi]; rfl
  · rw [if_neg h, if_neg (fun e => h e.symm)]; rfl
theorem RowE.put {W : World} {b : Nat} {L : List EN} (k : RowE W b L) (i : Nat) (hi : i < L.length) (s : EN) : RowE (putN W b (i * 4) s) b (L.set i s) := by
  refine ⟨Nat.lt_of_lt_of_le k.1 (ap_putN W b (i * 4) s).size, fun j hj => ?_, fun o ho => ?_⟩
  · rw [List.length_set] at hj
    rw [getD_setE _ _ _ _ hi]
    by_cases e : j = i
    · subst e
      rw [if_pos rfl]
      exact putN_at (k.2.1 j hi) s
    · rw [if_neg e]
      have s1 := k.2.1 j hj
      have h (q : Nat) (hq : q < i * 4 ∨ i * 4 + 4 ≤ q) : (putN W b (i * 4) s).cell? ⟨b, q, none⟩ = W.cell? ⟨b, q, none⟩ := putN_ne W b _ q s hq
      exact ⟨(h _ (by omega)).trans s1.c0, (h _ (by omega)).trans s1.c1, (h _ (by omega)).trans s1.c2, (h _ (by omega)).trans s1.c3⟩
  · rw [List.length_set] at ho
    rw [putN_fz]
    exact k.2.2 o ho
theorem RowE.ents {W : World} {b : Nat} {L : List EN} (k : RowE W b L) (cap : Nat) (h1 : L.length ≤ cap) (h2 : cap ≤ maxLen) : EntsS W (.slice (some ⟨b, 0, none⟩) L.length cap) L :=
  ⟨_, cap, rfl, h1, h2, .inr ⟨b, 0, rfl, k.1, fun j hj => by rw [Nat.zero_add]; exact k.2.1 j hj⟩⟩
/-! ### a row that is made -/
theorem entInfo : (Try.prog.info? 50).map (fun i => (i.zero, i.size, i.bytes)) = some (some (.agg #[.int .u8 0, .int .i64 0, .int .i64 0, .int .i64 0]), 4, 32) := by kernel_rfl
def zeroC : Array Value := #[.int .u8 0, .int .i64 0, .int .i64 0, .int .i64 0]
theorem madeE_at (n k : Nat) (hk : k < n) : (madeCells zeroC n)[k]? = some (zeroC[k % 4]!) := by
  unfold madeCells
  rw [Array.getElem?_map, Array.getElem?_range, if_pos hk]; rfl
theorem makeEnts (n : Nat) (h : n ≤ 8589934592) (W : World) : (Instr.makeSlice 45 (.int .i64 (n : Int)) (.int .i64 (n : Int))).run Try.prog W = .ok (.slice (some ⟨W.heap.size, 0, none⟩) n n) (W.alloc (.cells (madeCells zeroC (n * 4)) 50)) := by
  obtain ⟨i, hi, hz⟩ := Option.map_eq_some_iff.1 entInfo
  simp only [Prod.mk.injEq] at hz
  obtain ⟨hz, hs, hb⟩ := hz
  have hr := run_make (P := Try.prog) W 45 50 i _ Try.underlying45 hi hz .i64 .i64 n n (by omega) (Int.le_refl _) (by rw [hb]; omega) (by omega)
  simp only [Int.toNat_natCast, hs] at hr
  exact hr
theorem RowE.made (W : World) (n : Nat) (t : TypeId) : RowE (W.alloc (.cells (madeCells zeroC (n * 4)) t)) W.heap.size (List.replicate n EN.zero) := by
  refine ⟨by simp, fun i hi => ?_, fun o _ => frozen_of_row _ _ _ _ t (heap_alloc_new W _)⟩
  rw [List.length_replicate] at hi
  have e : (List.replicate n EN.zero).getD i EN.zero = EN.zero := by rw [List.getD, List.getElem?_replicate, if_pos hi]; rfl
  rw [e]
  have h (q : Nat) (hq : q < 4) : (W.alloc (.cells (madeCells zeroC (n * 4)) t)).cell? ⟨W.heap.size, i * 4 + q, none⟩ = some (zeroC[q]!) := by
    rw [cell_of_row _ _ _ _ t (0, 0) (heap_alloc_new W _), madeE_at _ _ (by omega), show (i * 4 + q) % 4 = q by omega]
  exact ⟨h 0 (by omega), h 1 (by omega), h 2 (by omega), h 3 (by omega)⟩
/-! ### ParseTable -/
theorem extract_chunk (s : ByteArray) (j : Nat) : (s.extract (8 * j) (8 * j + 8)).data.toList = chunk s.data.toList j := by
  unfold chunk
  rw [ByteArray.data_extract, Array.toList_extract, List.extract_eq_take_drop]
  congr 1; omega
theorem extract_chunk' (s : ByteArray) (j : Nat) : (s.extract (j * 8) (j * 8 + 8)).data.toList = chunk s.data.toList j := by
  rw [Nat.mul_comm]; exact extract_chunk s j
theorem slice8 (s : ByteArray) (j : Nat) (h : j * 8 + 8 ≤ s.size) (W : World) :
    (Instr.slice 9 (.string s) (some (.int .i64 ((j : Int) * 8))) (some (.int .i64 ((j : Int) * 8 + 8))) none).run Try.prog W = .ok (.string (s.extract (j * 8) (j * 8 + 8))) W := by
  have h0 : (0 : Int) ≤ (j : Int) * 8 := by omega
  have h1 : (j : Int) * 8 + 8 ≤ (s.size : Int) := by omega
  have h2 : (0 : Int) ≤ (j : Int) * 8 + 8 := by omega
  have h3 : ((j : Int) * 8 + 8).toNat = j * 8 + 8 := by omega
  have h4 : ((j : Int) * 8).toNat = j * 8 := by omega
  have h5 : (j : Int) * 8 ≤ (j : Int) * 8 + 8 := by omega
  go_simp
theorem slice8' (s : ByteArray) (j : Nat) (h : j * 8 + 8 ≤ s.size) (W : World) :
    (Instr.slice 9 (.string s) (some (.int .i64 ((j : Int) * 8))) (some (.int .i64 (((j : Int) + 1) * 8))) none).run Try.prog W = .ok (.string (s.extract (j * 8) (j * 8 + 8))) W := by
  rw [show ((j : Int) + 1) * 8 = (j : Int) * 8 + 8 by omega]
  exact slice8 s j h W
theorem pt_stop {s : List UInt8} {j : Nat} (hj : j < s.length / 8) (h : ¬ EP (chunk s j)) : ptE s = 6 ∧ ptL s = [] := by
  have hn : ¬ ptOk s := fun k => h (k.2.2 j hj)
  exact ⟨if_neg hn, if_neg hn⟩
theorem pt_bad {s : List UInt8} (h : ¬ (s.length % 8 = 0 ∧ s.length / 8 ≤ 8192)) : ptE s = 6 ∧ ptL s = [] := by
  have hn : ¬ ptOk s := fun k => h ⟨k.1, k.2.1⟩
  exact ⟨if_neg hn, if_neg hn⟩
theorem pt_fill (s : List UInt8) (n j : Nat) (h : j < n) : (ptR s j ++ List.replicate (n - j) EN.zero).set j (entP (chunk s j)) = ptR s (j + 1) ++ List.replicate (n - (j + 1)) EN.zero := by
  rw [List.set_append_right _ _ (by rw [ptR_len]; exact Nat.le_refl _), ptR_len, Nat.sub_self, ptR_succ, List.append_assoc]
  congr 1
  rw [show n - j = (n - (j + 1)) + 1 by omega, List.replicate_succ]; rfl
end Go.Proofs.Ythhbaccbhfngbaa
namespace Go.Proofs.Ythhbaccbhfngbaa
open Go.RowKit

def eCells (L : List EN) : List Value := L.flatMap EN.cells
theorem eCells_len (L : List EN) : (eCells L).length = L.length * 4 := by
  unfold eCells
  induction L with
  | nil => rfl
  | cons p r ih => rw [List.flatMap_cons, List.length_append, ih, List.length_cons]; show 4 + _ = _; omega
theorem eCells_snoc (L : List EN) (p : EN) : eCells (L ++ [p]) = eCells L ++ [.int .u8 p.kind, .int .i64 p.st, .int .i64 p.mb, .int .i64 p.fr] := by
  unfold eCells; rw [List.flatMap_append, List.flatMap_singleton]; rfl
theorem eCells_at : ∀ (L : List EN) (j : Nat), j < L.length → ∀ q, q < 4 → (eCells L)[j * 4 + q]? = (L.getD j EN.zero).cells[q]?
  | p :: r, 0, _, q, hq => by
    show (p.cells ++ eCells r)[0 * 4 + q]? = _
    rw [Nat.zero_mul, Nat.zero_add, List.getElem?_append_left (by show q < 4; exact hq)]; rfl
  | p :: r, j + 1, h, q, hq => by
    show (p.cells ++ eCells r)[(j + 1) * 4 + q]? = _
    rw [List.getElem?_append_right (by show 4 ≤ _; omega), List.getD_cons_succ, ← eCells_at r j (by simpa using h) q hq]
    congr 1
    show (j + 1) * 4 + q - 4 = _; omega
/-- What a call owns reads as that. -/
theorem EntsS.of_own {w : World} {base : Nat} {v : Value} {L : List EN} (h : w.ownsRow base 50 4 v L.length (eCells L)) : EntsS w v L := by
  rcases h.2 with ⟨rfl, h0⟩ | ⟨g, cap, cur, rfl, hb, hh, hn, hm, hs, ht⟩
  · have : L = [] := by
      have h1 := eCells_len L
      cases L with
      | nil => rfl
      | cons a b => simp at h0
    subst this
    exact ⟨none, 0, rfl, Nat.le_refl _, Nat.zero_le _, .inl rfl⟩
  · refine ⟨_, cap, rfl, hn, hm, .inr ⟨g, 0, rfl, (Array.getElem?_eq_some_iff.1 hh).1, fun j hj => ?_⟩⟩
    have hc : ∀ q, q < 4 → w.cell? ⟨g, 0 + j * 4 + q, none⟩ = (L.getD j EN.zero).cells[q]? := by
      intro q hq
      rw [Nat.zero_add, cell_of_row w g (j * 4 + q) cur _ (0, 0) hh, ← eCells_at L j hj q hq]
      have h1 : (cur.toList.take (L.length * 4))[j * 4 + q]? = (eCells L)[j * 4 + q]? := by rw [ht]
      rw [List.getElem?_take, if_pos (by omega), Array.getElem?_toList] at h1
      exact h1
    exact ⟨hc 0 (by omega), hc 1 (by omega), hc 2 (by omega), hc 3 (by omega)⟩
theorem ent_one (p : EN) : ∀ u ∈ ([.int .u8 p.kind, .int .i64 p.st, .int .i64 p.mb, .int .i64 p.fr] : List Value), u.oneCell' = true := by
  intro u hu
  simp only [List.mem_cons, List.not_mem_nil, or_false] at hu
  rcases hu with rfl | rfl | rfl | rfl <;> rfl
theorem new_cells4 (W : World) (a b c d : Value) (t : TypeId) : ∀ j u, ([a, b, c, d] : List Value)[j]? = some u → (W.alloc (.cells #[a, b, c, d] t)).cell? ((⟨W.heap.size, 0, none⟩ : Addr).add j) = some u := by
  intro j u h
  have hj : j < 4 := by have := (List.getElem?_eq_some_iff.1 h).1; simpa using this
  have e : ((⟨W.heap.size, 0, none⟩ : Addr).add j) = ⟨W.heap.size, j, none⟩ := by unfold Addr.add; split <;> simp_all
  rw [e, cell_of_row _ _ _ _ t (0, 0) (heap_alloc_new W _), ← h]
  simp
theorem entInfo' : ∃ i, Try.prog.info? 50 = some i ∧ i.zero = some (.agg #[.int .u8 0, .int .i64 0, .int .i64 0, .int .i64 0]) ∧ i.size = 4 ∧ i.bytes = 32 := by
  obtain ⟨i, hi, hz⟩ := Option.map_eq_some_iff.1 entInfo
  simp only [Prod.mk.injEq] at hz
  exact ⟨i, hi, hz.1, hz.2.1, hz.2.2⟩
theorem own_keepE {w w' : World} {base e s n : Nat} {v : Value} {xs : List Value} (h : w.ownsRow base e s v n xs) (hb : Below w.heap.size w w') : w'.ownsRow base e s v n xs := by
  refine ⟨h.1, ?_⟩
  rcases h.2 with h0 | ⟨g, cap, cur, hv, hg, hh, r⟩
  · exact .inl h0
  · exact .inr ⟨g, cap, cur, hv, hg, (hb.block g (Array.getElem?_eq_some_iff.1 hh).1).trans hh, r⟩
end Go.Proofs.Ythhbaccbhfngbaa
namespace Go.Proofs.Ythhbaccbhfngbaa
open Go.RowKit

theorem same_all {A B : List EN} (hl : A.length = B.length) (h : ∀ i, i < A.length → A.getD i EN.zero = B.getD i EN.zero) : A = B := by
  apply List.ext_getElem hl
  intro i h1 h2
  have := h i h1
  rw [List.getD, List.getD, List.getElem?_eq_getElem h1, List.getElem?_eq_getElem h2] at this
  exact this
theorem wrap_succ {j n cap : Nat} (h : j < n) (h1 : n ≤ cap) (h2 : cap ≤ maxLen) : wrap64 ((j : Int) + 1) = (j : Int) + 1 := by
  unfold maxLen at h2; unfold wrap64; omega
end Go.Proofs.Ythhbaccbhfngbaa
namespace Go.Proofs.Ythhbaccbhfngbaa
open Go.RowKit

def fullB (p : EN) : Bool := p.kind != 0
def wrongB (p : EN) : Bool := !decide (EOk p)
/-- A table. -/
structure TB where
  at' : Int
  l : List EN
def TB.zero : TB := ⟨0, []⟩
/-- A map. -/
structure CH where
  blocks : Int
  tabs : List TB
def CH.zero : CH := ⟨0, []⟩
/-- A table of e entries, of which those from n on are of no blocks. -/
def tblB (e : Int) (l : List EN) (n : Int) : Bool := decide ((l.length : Int) = e) && !l.any wrongB && (l.take (min n e).toNat).any fullB && !(l.drop (min n e).toNat).any fullB
def parts (e B : Int) : Int := (B + e - 1) / e
def tabsB (e B : Int) : Int → List TB → Bool
  | _, [] => true
  | least, t :: r => decide (least ≤ t.at') && decide (t.at' < parts e B) && tblB e t.l (B - t.at' * e) && tabsB e B (t.at' + 1) r
def mayB (b : Int) : Bool := decide (0 ≤ b) && decide (b ≤ 65536)
def okB (e : Int) (c : CH) : Bool := decide (1 ≤ e) && decide (e ≤ 8192) && mayB c.blocks && tabsB e c.blocks 0 c.tabs
def chtE (e : Int) (c : CH) : Int := if okB e c = true then 0 else 2
/-- Behind the first j tables: the least place of the next one. -/
def leastAt (T : List TB) : Nat → Int
  | 0 => 0
  | j + 1 => (T.getD j TB.zero).at' + 1
def oneB (e B least : Int) (t : TB) : Bool := decide (least ≤ t.at') && decide (t.at' < parts e B) && tblB e t.l (B - t.at' * e)
theorem tabsB_drop (e B : Int) (T : List TB) : ∀ j, j < T.length → tabsB e B (leastAt T j) (T.drop j) = (oneB e B (leastAt T j) (T.getD j TB.zero) && tabsB e B (leastAt T (j + 1)) (T.drop (j + 1))) := by
  intro j hj
  rw [List.drop_eq_getElem_cons hj]
  have e1 : T.getD j TB.zero = T[j] := by rw [List.getD, List.getElem?_eq_getElem hj]; rfl
  show _ = (oneB e B (leastAt T j) (T.getD j TB.zero) && tabsB e B ((T.getD j TB.zero).at' + 1) (T.drop (j + 1)))
  rw [e1, tabsB]; rfl
end Go.Proofs.Ythhbaccbhfngbaa
namespace Go.Proofs.Ythhbaccbhfngbaa
open Go.RowKit

set_option maxHeartbeats 1000000 in
theorem chtFull_any (p : EN) (w : World) : Calls Try.prog 46 #[p.v] w fun e w' => e = .returned (.bool (fullB p)) ∧ Below w.heap.size w w' := by
  obtain ⟨k, st, mb, fr⟩ := p
  unfold EN.v fullB
  dsimp only
  have HB := Lib.hid (below1 w (.cells #[.int .u8 k, .int .i64 st, .int .i64 mb, .int .i64 fr] 50))
  generalize hb : (k != 0) = bb
  by_cases h : k = 0
  · subst h
    obtain rfl : bb = false := by rw [← hb]; rfl
    go_enter Try.func46, Try.ntmps46
    go_wp2
    go_ret
    exact ⟨rfl, HB.out⟩
  · have d0 : (k == 0) = false := by rw [beq_eq_false_iff_ne]; exact h
    have d1 : (k != 0) = true := by rw [bne, d0]; rfl
    obtain rfl : bb = true := hb.symm.trans d1
    clear hb
    go_enter Try.func46, Try.ntmps46
    go_wp2
    go_ret
    exact ⟨rfl, HB.out⟩
theorem chtWrong_any (p : EN) (w : World) : Calls Try.prog 69 #[p.v] w fun e w' => e = .returned (.bool (wrongB p)) ∧ Below w.heap.size w w' := by
  have hC := entCheck_any p
  have hE : Hid (wrongB p = true → entE p = 2) := Lib.hid (fun h => if_neg (by unfold wrongB at h; simpa using h))
  have hE2 : Hid (wrongB p = false → entE p = 0) := Lib.hid (fun h => if_pos (by unfold wrongB at h; simpa using h))
  generalize wrongB p = bb at hE hE2
  generalize entE p = e at hC hE hE2
  obtain ⟨k, st, mb, fr⟩ := p
  unfold EN.v at hC ⊢
  dsimp only at hC ⊢
  have HB := Lib.hid (below1 w (.cells #[.int .u8 k, .int .i64 st, .int .i64 mb, .int .i64 fr] 50))
  cases bb
  · obtain rfl := hE2.out rfl
    go_enter Try.func69, Try.ntmps69
    go_wp2_with (go_at_call 70; refine (hC _).mono ?_; rintro e w2 ⟨rfl, hb⟩; have HB2 := Lib.hid (HB.out.trans (hb.mono HB.out.size)); clear hb)
    go_ret
    exact ⟨rfl, HB2.out⟩
  · obtain rfl := hE.out rfl
    go_enter Try.func69, Try.ntmps69
    go_wp2_with (go_at_call 70; refine (hC _).mono ?_; rintro e w2 ⟨rfl, hb⟩; have HB2 := Lib.hid (HB.out.trans (hb.mono HB.out.size)); clear hb)
    go_ret
    exact ⟨rfl, HB2.out⟩
/-- The first place, or -1. -/
def idxI {α : Type} (p : α → Bool) : List α → Nat → Int
  | [], _ => -1
  | x :: r, i => if p x then (i : Int) else idxI p r (i + 1)
theorem idxI_none {α : Type} (p : α → Bool) : ∀ (l : List α) (i : Nat), (∀ x ∈ l, p x = false) → idxI p l i = -1
  | [], _, _ => rfl
  | x :: r, i, h => by rw [idxI, if_neg (by rw [h x (List.mem_cons_self ..)]; decide), idxI_none p r (i + 1) (fun y hy => h y (List.mem_cons_of_mem _ hy))]
theorem idxI_at {α : Type} (p : α → Bool) (d : α) : ∀ (l : List α) (i j : Nat), j < l.length → (∀ k, k < j → p (l.getD k d) = false) → p (l.getD j d) = true → idxI p l i = ((i + j : Nat) : Int)
  | x :: r, i, 0, _, _, h => by rw [idxI, if_pos (show p x = true from h)]; rfl
  | x :: r, i, j + 1, hj, hn, h => by
    have h0 : p x = false := hn 0 (by omega)
    rw [idxI, if_neg (by rw [h0]; decide), idxI_at p d r (i + 1) j (by simpa using hj) (fun k hk => hn (k + 1) (by omega)) h]
    congr 1; omega
theorem all_false {α : Type} (p : α → Bool) (d : α) (l : List α) (h : ∀ k, k < l.length → p (l.getD k d) = false) : ∀ x ∈ l, p x = false := by
  intro x hx
  obtain ⟨k, hk, rfl⟩ := List.mem_iff_getElem.1 hx
  have := h k hk
  rw [List.getD, List.getElem?_eq_getElem hk] at this
  exact this
theorem idxI_ge {α : Type} (p : α → Bool) : ∀ (l : List α) (i : Nat), decide (0 ≤ idxI p l i) = l.any p
  | [], _ => rfl
  | x :: r, i => by
    rw [idxI, List.any_cons]
    by_cases h : p x = true
    · rw [if_pos h, h]; simp
    · rw [if_neg h, idxI_ge p r (i + 1)]
      have : p x = false := by simpa using h
      rw [this]; rfl
set_option maxHeartbeats 2000000 in
theorem idxFull_any (L : List EN) (v : Value) (w : World) (hv : EntsS w v L) :
    Calls Try.prog 83 #[v, .func (.func 46) #[] #[]] w fun e w' => e = .returned (.int .i64 (idxI fullB L 0)) ∧ Below w.heap.size w w' := by
  have hP := chtFull_any
  obtain ⟨A, cap, rfl, hc1, hc2, hc3⟩ := hv
  have HC3 := Lib.hid hc3
  clear hc3
  go_enter Try.func83, Try.ntmps83
  go_wp2
  go_loopw [8] (fun ix wr => ∃ (j : Nat), j ≤ L.length ∧ ix = .int .i64 (j : Int) ∧ (∀ k, k < j → fullB (L.getD k EN.zero) = false) ∧ Below w.heap.size w wr) (fun ix _ => L.length - (intOf ix).toNat)
  case atStart => exact ⟨0, Nat.zero_le _, rfl, (fun i h => absurd h (by omega)), Below.refl _ _⟩
  case round =>
    obtain ⟨j, hj, rfl, hp, hB⟩ := hrel
    have HB := Lib.hid hB
    have HP := Lib.hid hp
    clear hB hp
    by_cases hlt : j < L.length
    · obtain ⟨b, off, rfl, hb, hcell⟩ := HC3.out.resolve_left (by intro e; rw [e] at hlt; simp at hlt)
      obtain ⟨q0, q1, q2, q3⟩ := (hcell j hlt).below HB.out hb
      have hw1 := wrap_succ hlt hc1 hc2
      have hPj := hP (L.getD j EN.zero)
      have HNX : Hid (fullB (L.getD j EN.zero) = false → ∀ k, k < j + 1 → fullB (L.getD k EN.zero) = false) := Lib.hid (fun h k hk => by
        by_cases e : k = j
        · rw [e]; exact h
        · exact HP.out k (by omega))
      have HAT : Hid (fullB (L.getD j EN.zero) = true → idxI fullB L 0 = (j : Int)) := Lib.hid (fun h => by
        rw [idxI_at fullB EN.zero L 0 j hlt HP.out h]; congr 1; omega)
      clear hcell hb hP
      generalize hbb : fullB (L.getD j EN.zero) = bb at hPj HNX HAT
      clear hbb
      generalize L.getD j EN.zero = x at q0 q1 q2 q3 hPj
      obtain ⟨k, st, mb, fr⟩ := x
      unfold EN.v at hPj
      dsimp only at hPj q0 q1 q2 q3
      cases bb
      · have HN := Lib.hid (HNX.out rfl)
        clear HNX HAT
        go_wp2_with (go_at_call 46; refine (hPj _).mono ?_; rintro e w2 ⟨rfl, hb2⟩; have HB2 := Lib.hid (HB.out.trans (hb2.mono HB.out.size)); clear hb2)
        rw [hw1]
        clear hw1
        go_roundw
        case rel => exact ⟨j + 1, by omega, by go_num, HN.out, HB2.out⟩
        case measure => simp [intOf]; omega
      · have HA := Lib.hid (HAT.out rfl)
        clear HNX HAT
        go_wp2_with (go_at_call 46; refine (hPj _).mono ?_; rintro e w2 ⟨rfl, hb2⟩; have HB2 := Lib.hid (HB.out.trans (hb2.mono HB.out.size)); clear hb2)
        go_ret
        exact ⟨by rw [HA.out]; rfl, HB2.out⟩
    · obtain rfl : j = L.length := by omega
      have HF : Hid (idxI fullB L 0 = -1) := Lib.hid (idxI_none fullB L 0 (all_false fullB EN.zero L HP.out))
      go_wp2
      go_ret
      exact ⟨by rw [HF.out]; rfl, HB.out⟩
theorem contFull_any (L : List EN) (v : Value) (w : World) (hv : EntsS w v L) :
    Calls Try.prog 71 #[v, .func (.func 46) #[] #[]] w fun e w' => e = .returned (.bool (L.any fullB)) ∧ Below w.heap.size w w' := by
  have hI := idxFull_any L v w hv
  have hG := idxI_ge fullB L 0
  generalize idxI fullB L 0 = z at hI hG
  rw [← hG]
  clear hG hv
  go_enter Try.func71, Try.ntmps71
  go_wp2_with (go_at_call 83; with_reducible refine hI.mono ?_; rintro e w2 ⟨rfl, hb2⟩)
  go_ret
  exact ⟨rfl, hb2⟩
set_option maxHeartbeats 2000000 in
theorem idxWrong_any (L : List EN) (v : Value) (w : World) (hv : EntsS w v L) :
    Calls Try.prog 83 #[v, .func (.func 69) #[] #[]] w fun e w' => e = .returned (.int .i64 (idxI wrongB L 0)) ∧ Below w.heap.size w w' := by
  have hP := chtWrong_any
  obtain ⟨A, cap, rfl, hc1, hc2, hc3⟩ := hv
  have HC3 := Lib.hid hc3
  clear hc3
  go_enter Try.func83, Try.ntmps83
  go_wp2
  go_loopw [8] (fun ix wr => ∃ (j : Nat), j ≤ L.length ∧ ix = .int .i64 (j : Int) ∧ (∀ k, k < j → wrongB (L.getD k EN.zero) = false) ∧ Below w.heap.size w wr) (fun ix _ => L.length - (intOf ix).toNat)
  case atStart => exact ⟨0, Nat.zero_le _, rfl, (fun i h => absurd h (by omega)), Below.refl _ _⟩
  case round =>
    obtain ⟨j, hj, rfl, hp, hB⟩ := hrel
    have HB := Lib.hid hB
    have HP := Lib.hid hp
    clear hB hp
    by_cases hlt : j < L.length
    · obtain ⟨b, off, rfl, hb, hcell⟩ := HC3.out.resolve_left (by intro e; rw [e] at hlt; simp at hlt)
      obtain ⟨q0, q1, q2, q3⟩ := (hcell j hlt).below HB.out hb
      have hw1 := wrap_succ hlt hc1 hc2
      have hPj := hP (L.getD j EN.zero)
      have HNX : Hid (wrongB (L.getD j EN.zero) = false → ∀ k, k < j + 1 → wrongB (L.getD k EN.zero) = false) := Lib.hid (fun h k hk => by
        by_cases e : k = j
        · rw [e]; exact h
        · exact HP.out k (by omega))
      have HAT : Hid (wrongB (L.getD j EN.zero) = true → idxI wrongB L 0 = (j : Int)) := Lib.hid (fun h => by
        rw [idxI_at wrongB EN.zero L 0 j hlt HP.out h]; congr 1; omega)
      clear hcell hb hP
      generalize hbb : wrongB (L.getD j EN.zero) = bb at hPj HNX HAT
      clear hbb
      generalize L.getD j EN.zero = x at q0 q1 q2 q3 hPj
      obtain ⟨k, st, mb, fr⟩ := x
      unfold EN.v at hPj
      dsimp only at hPj q0 q1 q2 q3
      cases bb
      · have HN := Lib.hid (HNX.out rfl)
        clear HNX HAT
        go_wp2_with (go_at_call 69; refine (hPj _).mono ?_; rintro e w2 ⟨rfl, hb2⟩; have HB2 := Lib.hid (HB.out.trans (hb2.mono HB.out.size)); clear hb2)
        rw [hw1]
        clear hw1
        go_roundw
        case rel => exact ⟨j + 1, by omega, by go_num, HN.out, HB2.out⟩
        case measure => simp [intOf]; omega
      · have HA := Lib.hid (HAT.out rfl)
        clear HNX HAT
        go_wp2_with (go_at_call 69; refine (hPj _).mono ?_; rintro e w2 ⟨rfl, hb2⟩; have HB2 := Lib.hid (HB.out.trans (hb2.mono HB.out.size)); clear hb2)
        go_ret
        exact ⟨by rw [HA.out]; rfl, HB2.out⟩
    · obtain rfl : j = L.length := by omega
      have HF : Hid (idxI wrongB L 0 = -1) := Lib.hid (idxI_none wrongB L 0 (all_false wrongB EN.zero L HP.out))
      go_wp2
      go_ret
      exact ⟨by rw [HF.out]; rfl, HB.out⟩
theorem contWrong_any (L : List EN) (v : Value) (w : World) (hv : EntsS w v L) :
    Calls Try.prog 71 #[v, .func (.func 69) #[] #[]] w fun e w' => e = .returned (.bool (L.any wrongB)) ∧ Below w.heap.size w w' := by
  have hI := idxWrong_any L v w hv
  have hG := idxI_ge wrongB L 0
  generalize idxI wrongB L 0 = z at hI hG
  rw [← hG]
  clear hG hv
  go_enter Try.func71, Try.ntmps71
  go_wp2_with (go_at_call 83; with_reducible refine hI.mono ?_; rintro e w2 ⟨rfl, hb2⟩)
  go_ret
  exact ⟨rfl, hb2⟩
end Go.Proofs.Ythhbaccbhfngbaa
