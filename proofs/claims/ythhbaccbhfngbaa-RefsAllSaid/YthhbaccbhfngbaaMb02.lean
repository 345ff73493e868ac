/- Rows of bytes that a call owns. Fields: the contracts of isWidth and Put. Fields: the contracts of Put, the program's and the document's. Fields: the contract of Get. Fields: the contract of the document's own Put. Fields: the contracts of the document's own Get, and of Text. A frame: all that lay there lies as it lay, but for some blocks. A block of four cells, and small words on cells. Entries: the contracts of isPlace, isRight, Check, Disk, number, fromNumber. Entries: the contracts of Check, Disk, number, fromNumber, Bytes. -/
import Derived.Test.YthhbaccbhfngbaaRows8
import Derived.Laws.AppendOwn
import Derived.Laws.AppendOwnNone
import Derived.OwnWalk
import Derived.Maps.AppendAt
import Derived.Test.YthhbaccbhfngbaaMb00
import Derived.Laws.Shifts
import Derived.Test.YthhbaccbhfngbaaMb01
import Derived.Maps.OwnSet
import Derived.Laws.IdiomCopy
import Derived.Deep.MidRow
import Derived.Deep.Cut
namespace Go.Proofs.Ythhbaccbhfngbaa
open Go.RowKit

def U8s (l : List UInt8) : List Value := l.map fun b => .int .u8 (b.toNat : Int)
theorem u8s_len (l : List UInt8) : (U8s l).length = l.length := by simp [U8s]
theorem u8s_one (l : List UInt8) : ∀ u ∈ U8s l, u.oneCell' = true := by
  intro u hu
  obtain ⟨b, _, rfl⟩ := List.mem_map.1 hu
  rfl
theorem u8s_at (l : List UInt8) (j : Nat) (hj : j < l.length) : (U8s l)[j]? = some (.int .u8 ((l.getD j 0).toNat : Int)) := by
  unfold U8s
  rw [List.getElem?_map, List.getElem?_eq_getElem hj, List.getD, List.getElem?_eq_getElem hj]; rfl
/-- A slice of the call's own that holds the bytes l. -/
def OwnB (w : World) (base : Nat) (v : Value) (l : List UInt8) : Prop := w.ownsRow base 5 1 v l.length (U8s l)
theorem OwnB.row {w : World} {base g n cap : Nat} {l : List UInt8} (h : OwnB w base (.slice (some ⟨g, 0, none⟩) n cap) l) : Row8 w g 0 l ∧ n = l.length := by
  rcases h.2 with ⟨e, _⟩ | ⟨g', cap', cur, e, hb, hh, hn, hm, hs, ht⟩
  · cases e
  · injection e with e1 e2 e3
    have hgg : g = g' := by simpa using e1
    subst hgg
    rw [Nat.mul_one] at ht hs
    refine ⟨⟨(Array.getElem?_eq_some_iff.1 hh).1, fun j hj => ⟨?_, ?_⟩⟩, e2⟩
    · rw [Nat.zero_add]
      rw [cell_of_row w g j cur 5 (0, 0) hh]
      have h1 := u8s_at l j hj
      rw [← ht, List.getElem?_take] at h1
      rw [if_pos hj] at h1
      rw [← h1]; simp
    · rw [Nat.zero_add]; exact frozen_of_row w g j cur 5 hh

/-- The string that an owned slice makes. -/
theorem own_string {P : Program} {w : World} {base : Nat} {v : Value} {l : List UInt8} (h : OwnB w base v l) {src dst : TypeId}
    (hs : P.underlying src = some (.slice 5)) (he : P.underlying 5 = some (.int .u8)) (hd : P.underlying dst = some .string) :
    (convert src dst v).run P w = .ok (.string ⟨l.toArray⟩) w := by
  rcases h.2 with ⟨rfl, e⟩ | ⟨g, cap, cur, rfl, hb, hh, hn, hm, hsz, ht⟩
  · have : l = [] := List.eq_nil_of_length_eq_zero e
    subst this
    rw [run_convert_bytes_string w src dst 5 none 0 0 hs he hd]
    simp [Conv.bytesToString, Sem.run_pure]
    rfl
  · exact string_of_row l.length rfl (OwnB.row h).1 src dst 5 hs he hd
theorem own_keep {w w' : World} {base e n : Nat} {v : Value} {xs : List Value} (h : w.ownsRow base e 1 v n xs) (hb : Below w.heap.size w w') : w'.ownsRow base e 1 v n xs := by
  refine ⟨h.1, ?_⟩
  rcases h.2 with hn | ⟨g, cap, cur, hv, hg, hh, r⟩
  · exact .inl hn
  · exact .inr ⟨g, cap, cur, hv, hg, (hb.block g (Array.getElem?_eq_some_iff.1 hh).1).trans hh, r⟩
end Go.Proofs.Ythhbaccbhfngbaa
namespace Go.Proofs.Ythhbaccbhfngbaa
open Go.RowKit

end Go.Proofs.Ythhbaccbhfngbaa
namespace Go.Proofs.Ythhbaccbhfngbaa
open Go.RowKit

/-- What the loop has put at its start: j of the bytes, and noughts. -/
def putL (K n j : Nat) : List UInt8 := leB j n ++ List.replicate (K - j) 0
theorem putL_len {K n j : Nat} (h : j ≤ K) : (putL K n j).length = K := by unfold putL; rw [List.length_append, leB_len, List.length_replicate]; omega
theorem putL_step {K n j : Nat} (h : j < K) : (putL K n j).set j (UInt8.ofNat (n / 256 ^ j)) = putL K n (j + 1) := by
  unfold putL
  rw [List.set_append_right _ _ (by rw [leB_len]; exact Nat.le_refl _), leB_len, Nat.sub_self, leB_snoc, List.append_assoc]
  congr 1
  rw [show K - j = (K - (j + 1)) + 1 by omega, List.replicate_succ]; rfl
theorem u8_shr (n j : Nat) : (n : Int) / 2 ^ (8 * j) % 256 = ((UInt8.ofNat (n / 256 ^ j)).toNat : Int) := by
  rw [UInt8.toNat_ofNat', show (2 : Int) ^ (8 * j) = ((256 ^ j : Nat) : Int) by rw [Int.pow_mul]; simp]; simp
theorem shr_zero (n K : Nat) (h : n < 256 ^ K) : (n : Int) / 2 ^ (8 * K) = 0 := by
  rw [show (2 : Int) ^ (8 * K) = ((256 ^ K : Nat) : Int) by rw [Int.pow_mul]; simp, ← Int.natCast_ediv, Nat.div_eq_of_lt h]; rfl
theorem shr_more (n K : Nat) (h : ¬ n < 256 ^ K) : ((n : Int) / 2 ^ (8 * K) == 0) = false := by
  rw [show (2 : Int) ^ (8 * K) = ((256 ^ K : Nat) : Int) by rw [Int.pow_mul]; simp, ← Int.natCast_ediv, beq_eq_false_iff_ne]
  have : 0 < n / 256 ^ K := Nat.div_pos (by omega) (Nat.pow_pos (by omega))
  omega
theorem mul8 (K : Nat) (h : K ≤ 8) : wrap64 (8 * (K : Int)) = ((8 * K : Nat) : Int) := by
  unfold wrap64; omega
end Go.Proofs.Ythhbaccbhfngbaa
namespace Go.Proofs.Ythhbaccbhfngbaa
open Go.RowKit

theorem or_fits {m j b : Nat} (hm : m < 256 ^ j) (hb : b < 256) (hj : j ≤ 7) :
    bits .or .u64 (m : Int) (IntKind.u64.wrap (IntKind.u64.wrap (b : Int) * 2 ^ (8 * j))) = ((m + 256 ^ j * b : Nat) : Int) := by
  have hp : (2 : Nat) ^ (8 * j) = 256 ^ j := by rw [Nat.pow_mul]
  have hle : 256 ^ j ≤ 256 ^ 7 := Nat.pow_le_pow_right (by omega) hj
  have hbig : 256 ^ j * b + 256 ^ j ≤ 18446744073709551616 := by
    have h1 : 256 ^ j * (b + 1) ≤ 256 ^ 7 * 256 := Nat.mul_le_mul hle (by omega)
    rw [Nat.mul_add, Nat.mul_one] at h1
    exact Nat.le_trans h1 (by decide)
  have e1 : IntKind.u64.wrap (b : Int) = (b : Int) := by rw [IntKind.wrap_u64]; omega
  have e2 : IntKind.u64.wrap ((b : Int) * 2 ^ (8 * j)) = ((256 ^ j * b : Nat) : Int) := by
    rw [show (b : Int) * 2 ^ (8 * j) = ((256 ^ j * b : Nat) : Int) by rw [← hp, Int.natCast_mul, Int.natCast_pow, Int.mul_comm]; rfl, IntKind.wrap_u64]; omega
  rw [e1, e2]
  show IntKind.u64.wrap ((BitVec.ofInt 64 (m : Int) ||| BitVec.ofInt 64 ((256 ^ j * b : Nat) : Int)).toNat : Int) = _
  rw [BitVec.toNat_or, BitVec.ofInt_natCast, BitVec.ofInt_natCast, BitVec.toNat_ofNat, BitVec.toNat_ofNat, Nat.mod_eq_of_lt (by omega), Nat.mod_eq_of_lt (by omega)]
  have e3 : m ||| 256 ^ j * b = m + 256 ^ j * b := by
    have h := Nat.two_pow_add_eq_or_of_lt (i := 8 * j) (b := m) (by rw [hp]; exact hm) b
    rw [hp] at h
    rw [Nat.or_comm, ← h, Nat.add_comm]
  rw [e3, IntKind.wrap_u64]; omega
theorem size_toList (s : ByteArray) : s.data.toList.length = s.size := by simp
end Go.Proofs.Ythhbaccbhfngbaa
namespace Go.Proofs.Ythhbaccbhfngbaa
open Go.RowKit

theorem u8_rem (m : Nat) : (m : Int) % 256 = ((UInt8.ofNat m).toNat : Int) := by
  rw [UInt8.toNat_ofNat']; simp
theorem ownB_len {w : World} {B : Nat} {v : Value} {l : List UInt8} (h : OwnB w B v l) (n : Nat) (hn : n = l.length) : w.ownsRow B 5 1 v n (U8s l) := by subst hn; exact h
end Go.Proofs.Ythhbaccbhfngbaa
namespace Go.Proofs.Ythhbaccbhfngbaa
open Go.RowKit

theorem leN_drop {l : List UInt8} {j : Nat} (h : j < l.length) : leN (l.drop j) = (l[j]).toNat + 256 * leN (l.drop (j + 1)) := by
  rw [List.drop_eq_getElem_cons h, leN]
theorem leN_drop_lt (l : List UInt8) (j : Nat) (h : l.length ≤ 8) : leN (l.drop j) < 18446744073709551616 := by
  have h1 := leN_lt (l.drop j)
  have h2 : 256 ^ (l.drop j).length ≤ 256 ^ 8 := Nat.pow_le_pow_right (by omega) (by rw [List.length_drop]; omega)
  exact Nat.lt_of_lt_of_le h1 (Nat.le_trans h2 (by decide))
theorem row_one (W : World) (b : UInt8) : Row8 (W.alloc (.cells #[.int .u8 (b.toNat : Int)] 5)) W.heap.size 0 [b] := by
  refine ⟨by simp, fun j hj => ?_⟩
  obtain rfl : j = 0 := by simpa using hj
  constructor
  · rw [cell_of_row _ _ _ _ 5 (0, 0) (heap_alloc_new W _)]; rfl
  · exact frozen_of_row _ _ _ _ 5 (heap_alloc_new W _)
theorem text_val (s : ByteArray) (y : UInt8) (h : s.size ≤ 32) (hy : (s.size : Int) = (y.toNat : Int)) : (⟨#[y]⟩ ++ s : ByteArray) = ⟨(textS s.data.toList).toArray⟩ := by
  have e : UInt8.ofNat s.size = y := UInt8.toNat_inj.1 (by rw [UInt8.toNat_ofNat']; have := y.toNat_lt; omega)
  have e2 : textS s.data.toList = y :: s.data.toList := by unfold textS; rw [size_toList, if_pos h, e]
  rw [e2]
  apply ByteArray.ext
  rw [ByteArray.data_append]
  apply Array.ext'
  simp
theorem text_err (s : ByteArray) : textE s.data.toList = if s.size ≤ 32 then 0 else 7 := by unfold textE; rw [size_toList]
theorem text_no (s : ByteArray) (h : ¬ s.size ≤ 32) : textS s.data.toList = [] := by unfold textS; rw [size_toList, if_neg h]
end Go.Proofs.Ythhbaccbhfngbaa
namespace Go.Proofs.Ythhbaccbhfngbaa
open Go.RowKit

/-- w' is w but for the blocks of S, and for new ones. -/
structure Ap (S : Nat → Prop) (w w' : World) : Prop where
  os : w'.os = w.os
  tape : w'.tape = w.tape
  output : w'.output = w.output
  size : w.heap.size ≤ w'.heap.size
  block : ∀ k, k < w.heap.size → ¬ S k → w'.heap[k]? = w.heap[k]?
variable {S : Nat → Prop}
theorem Ap.refl (w : World) : Ap S w w := ⟨rfl, rfl, rfl, Nat.le_refl _, fun _ _ _ => rfl⟩
theorem Ap.trans {a b c : World} (h : Ap S a b) (k : Ap S b c) : Ap S a c :=
  ⟨k.os.trans h.os, k.tape.trans h.tape, k.output.trans h.output, Nat.le_trans h.size k.size, fun i hi hn => (k.block i (Nat.lt_of_lt_of_le hi h.size) hn).trans (h.block i hi hn)⟩
theorem Ap.of_below {w w' : World} (h : Below w.heap.size w w') : Ap S w w' := ⟨h.os, h.tape, h.output, h.size, fun k hk _ => h.block k hk⟩
theorem Ap.below {w w' : World} {B : Nat} (h : Ap S w w') (hB : B ≤ w.heap.size) (hS : ∀ k, S k → B ≤ k) : Below B w w' :=
  ⟨h.os, h.tape, h.output, h.size, fun k hk => h.block k (Nat.lt_of_lt_of_le hk hB) (fun hs => by have := hS k hs; omega)⟩
theorem Ap.weak {T : Nat → Prop} {w w' : World} (h : Ap S w w') (hST : ∀ k, S k → T k) : Ap T w w' := ⟨h.os, h.tape, h.output, h.size, fun k hk hn => h.block k hk (fun hs => hn (hST k hs))⟩
theorem Ap.drew {a w : World} (h : Ap S a w) : Ap S a w.drew := ⟨h.os, h.tape, h.output, h.size, h.block⟩
theorem Ap.drewN {a w : World} (h : Ap S a w) (n : Nat) : Ap S a (w.drewN n) := ⟨h.os, h.tape, h.output, h.size, h.block⟩
theorem Ap.alloc {a w : World} (h : Ap S a w) (o : Obj) : Ap S a (w.alloc o) := h.trans (Ap.of_below ((Below.refl _ _).alloc (Nat.le_refl _) o))
theorem Ap.setCell {a w : World} (h : Ap S a w) {p : Addr} (hp : S p.block ∨ a.heap.size ≤ p.block) (u : Value) : Ap S a (w.setCell p u) :=
  ⟨h.os, h.tape, h.output, by rw [World.size_setCell]; exact h.size, fun k hk hn => by
    rw [Below.heap_setCell _ _ _ _ (by rintro rfl; rcases hp with hp | hp; exact hn hp; omega)]; exact h.block k hk hn⟩
theorem Ap.setCells {a : World} {b : Nat} (hp : S b ∨ a.heap.size ≤ b) : ∀ (vs : List Value) (o : Nat) (w : World), Ap S a w → Ap S a (w.setCells b o vs)
  | [], _, _, h => h
  | v :: r, o, w, h => by rw [World.setCells]; exact Ap.setCells hp r (o + 1) _ (h.setCell (p := ⟨b, o, none⟩) hp v)
theorem Ap.turned {a w w' : World} {b : Nat} (h : Ap S a w) (hp : S b ∨ a.heap.size ≤ b) (ht : w.mapTurned w' b) : Ap S a w' := by
  have hg := ht.grown
  exact ⟨hg.os.trans h.os, hg.tape.trans h.tape, hg.output.trans h.output, Nat.le_trans h.size hg.size, fun k hk hn => (hg.block k (Nat.lt_of_lt_of_le hk h.size) (by intro e; injection e with e; subst e; rcases hp with hp | hp; exact hn hp; omega)).trans (h.block k hk hn)⟩
theorem Ap.grown {a w w' : World} {row : Option Nat} (h : Ap S a w) (hg : w.grownBy w' row) (hr : ∀ k, row = some k → S k ∨ a.heap.size ≤ k) : Ap S a w' :=
  ⟨hg.os.trans h.os, hg.tape.trans h.tape, hg.output.trans h.output, Nat.le_trans h.size hg.size, fun k hk hn => (hg.block k (Nat.lt_of_lt_of_le hk h.size) (by intro e; rcases hr k e.symm with hp | hp; exact hn hp; omega)).trans (h.block k hk hn)⟩
theorem Ap.cell {w w' : World} (h : Ap S w w') {b : Nat} (hb : b < w.heap.size) (hn : ¬ S b) (o : Nat) : w'.cell? ⟨b, o, none⟩ = w.cell? ⟨b, o, none⟩ := by
  simp only [World.cell?, h.block b hb hn]
theorem Ap.frozen {w w' : World} (h : Ap S w w') {b : Nat} (hb : b < w.heap.size) (hn : ¬ S b) (o : Nat) : w'.frozen? ⟨b, o, none⟩ = w.frozen? ⟨b, o, none⟩ := by
  simp only [World.frozen?, h.block b hb hn]
theorem Ap.owns {H : Type} {P : Program} {k : TypeId} {R : Value → Option (DataW H × List MemPlace)} {w w' : World} {b n : Nat} {D : DataW H} (h : Ap S w w') (ho : w.ownsMap P k R b n D) (hn : ¬ S b) : w'.ownsMap P k R b n D := by
  have hlt := ho.lt
  obtain ⟨es, clock, hb, r⟩ := ho
  exact ⟨es, clock, (h.block b hlt hn).trans hb, r⟩
theorem Ap.row {w w' : World} {b off : Nat} {l : List UInt8} (h : Ap S w w') (hr : Row8 w b off l) (hn : ¬ S b) : Row8 w' b off l :=
  ⟨Nat.lt_of_lt_of_le hr.1 h.size, fun j hj => ⟨(h.cell hr.1 hn _).trans (hr.2 j hj).1, (h.frozen hr.1 hn _).trans (hr.2 j hj).2⟩⟩
end Go.Proofs.Ythhbaccbhfngbaa
namespace Go.Proofs.Ythhbaccbhfngbaa
open Go.RowKit

theorem below1 (w : World) (o : Obj) : Below w.heap.size w (w.alloc o) := (Below.refl _ _).alloc (Nat.le_refl _) o
theorem cell_put {w : World} {b i : Nat} {u : Value} (hc : w.cell? ⟨b, i, none⟩ = some u) (v : Value) : (w.setCell ⟨b, i, none⟩ v).cell? ⟨b, i, none⟩ = some v := World.cell?_setCell_same' _ _ _ (by rw [hc]; rfl)
theorem cell_putne (w : World) (b i j : Nat) (v : Value) (hij : i ≠ j) : (w.setCell ⟨b, i, none⟩ v).cell? ⟨b, j, none⟩ = w.cell? ⟨b, j, none⟩ := World.cell?_setCell_other _ _ _ _ (by intro e; injection e with _ e; omega)
theorem ap_put (w : World) (b i : Nat) (v : Value) : Ap (fun k => k = b) w (w.setCell ⟨b, i, none⟩ v) := Ap.setCell (S := fun k => k = b) (Ap.refl w) (p := ⟨b, i, none⟩) (.inl rfl) v
/-- A block of four cells. -/
structure Bx (W : World) (b : Nat) (v0 v1 v2 v3 : Value) : Prop where
  lt : b < W.heap.size
  c0 : W.cell? ⟨b, 0, none⟩ = some v0
  c1 : W.cell? ⟨b, 1, none⟩ = some v1
  c2 : W.cell? ⟨b, 2, none⟩ = some v2
  c3 : W.cell? ⟨b, 3, none⟩ = some v3
  f0 : W.frozen? ⟨b, 0, none⟩ = false
  f1 : W.frozen? ⟨b, 1, none⟩ = false
  f2 : W.frozen? ⟨b, 2, none⟩ = false
  f3 : W.frozen? ⟨b, 3, none⟩ = false
theorem Bx.new (w : World) (v0 v1 v2 v3 : Value) (t : Nat) : Bx (w.alloc (.cells #[v0, v1, v2, v3] t)) w.heap.size v0 v1 v2 v3 :=
  ⟨by simp, by simp [go_sem], by simp [go_sem], by simp [go_sem], by simp [go_sem], frozen_of_row _ _ _ _ t (heap_alloc_new w _), frozen_of_row _ _ _ _ t (heap_alloc_new w _), frozen_of_row _ _ _ _ t (heap_alloc_new w _), frozen_of_row _ _ _ _ t (heap_alloc_new w _)⟩
theorem Bx.ap {S : Nat → Prop} {W W' : World} {b : Nat} {v0 v1 v2 v3 : Value} (k : Bx W b v0 v1 v2 v3) (a : Ap S W W') (hn : ¬ S b) : Bx W' b v0 v1 v2 v3 :=
  ⟨Nat.lt_of_lt_of_le k.lt a.size, (a.cell k.lt hn _).trans k.c0, (a.cell k.lt hn _).trans k.c1, (a.cell k.lt hn _).trans k.c2, (a.cell k.lt hn _).trans k.c3,
    (a.frozen k.lt hn _).trans k.f0, (a.frozen k.lt hn _).trans k.f1, (a.frozen k.lt hn _).trans k.f2, (a.frozen k.lt hn _).trans k.f3⟩
theorem Bx.below {W W' : World} {b : Nat} {v0 v1 v2 v3 : Value} (k : Bx W b v0 v1 v2 v3) (hb : Below W.heap.size W W') : Bx W' b v0 v1 v2 v3 := k.ap (S := fun _ => False) (Ap.of_below hb) id
theorem Bx.drew {W : World} {b : Nat} {v0 v1 v2 v3 : Value} (k : Bx W b v0 v1 v2 v3) : Bx W.drew b v0 v1 v2 v3 := k.below ((Below.refl _ _).drew)
theorem Bx.set0 {W : World} {b : Nat} {v0 v1 v2 v3 : Value} (k : Bx W b v0 v1 v2 v3) (u : Value) : Bx (W.setCell ⟨b, 0, none⟩ u) b u v1 v2 v3 :=
  ⟨by rw [World.size_setCell]; exact k.lt, cell_put k.c0 u, (cell_putne _ _ _ _ _ (by omega)).trans k.c1, (cell_putne _ _ _ _ _ (by omega)).trans k.c2, (cell_putne _ _ _ _ _ (by omega)).trans k.c3,
    (World.frozen?_setCell _ _ _ _).trans k.f0, (World.frozen?_setCell _ _ _ _).trans k.f1, (World.frozen?_setCell _ _ _ _).trans k.f2, (World.frozen?_setCell _ _ _ _).trans k.f3⟩
theorem Bx.set1 {W : World} {b : Nat} {v0 v1 v2 v3 : Value} (k : Bx W b v0 v1 v2 v3) (u : Value) : Bx (W.setCell ⟨b, 1, none⟩ u) b v0 u v2 v3 :=
  ⟨by rw [World.size_setCell]; exact k.lt, (cell_putne _ _ _ _ _ (by omega)).trans k.c0, cell_put k.c1 u, (cell_putne _ _ _ _ _ (by omega)).trans k.c2, (cell_putne _ _ _ _ _ (by omega)).trans k.c3,
    (World.frozen?_setCell _ _ _ _).trans k.f0, (World.frozen?_setCell _ _ _ _).trans k.f1, (World.frozen?_setCell _ _ _ _).trans k.f2, (World.frozen?_setCell _ _ _ _).trans k.f3⟩
theorem Bx.set2 {W : World} {b : Nat} {v0 v1 v2 v3 : Value} (k : Bx W b v0 v1 v2 v3) (u : Value) : Bx (W.setCell ⟨b, 2, none⟩ u) b v0 v1 u v3 :=
  ⟨by rw [World.size_setCell]; exact k.lt, (cell_putne _ _ _ _ _ (by omega)).trans k.c0, (cell_putne _ _ _ _ _ (by omega)).trans k.c1, cell_put k.c2 u, (cell_putne _ _ _ _ _ (by omega)).trans k.c3,
    (World.frozen?_setCell _ _ _ _).trans k.f0, (World.frozen?_setCell _ _ _ _).trans k.f1, (World.frozen?_setCell _ _ _ _).trans k.f2, (World.frozen?_setCell _ _ _ _).trans k.f3⟩
theorem Bx.set3 {W : World} {b : Nat} {v0 v1 v2 v3 : Value} (k : Bx W b v0 v1 v2 v3) (u : Value) : Bx (W.setCell ⟨b, 3, none⟩ u) b v0 v1 v2 u :=
  ⟨by rw [World.size_setCell]; exact k.lt, (cell_putne _ _ _ _ _ (by omega)).trans k.c0, (cell_putne _ _ _ _ _ (by omega)).trans k.c1, (cell_putne _ _ _ _ _ (by omega)).trans k.c2, cell_put k.c3 u,
    (World.frozen?_setCell _ _ _ _).trans k.f0, (World.frozen?_setCell _ _ _ _).trans k.f1, (World.frozen?_setCell _ _ _ _).trans k.f2, (World.frozen?_setCell _ _ _ _).trans k.f3⟩
/-- All four stored. -/
def put4 (W : World) (b : Nat) (u0 u1 u2 u3 : Value) : World := (((W.setCell ⟨b, 0, none⟩ u0).setCell ⟨b, 1, none⟩ u1).setCell ⟨b, 2, none⟩ u2).setCell ⟨b, 3, none⟩ u3
theorem ap_put4 (W : World) (b : Nat) (u0 u1 u2 u3 : Value) : Ap (fun k => k = b) W (put4 W b u0 u1 u2 u3) := (((ap_put W b 0 _).trans (ap_put _ b 1 _)).trans (ap_put _ b 2 _)).trans (ap_put _ b 3 _)
theorem Bx.put {W : World} {b : Nat} {v0 v1 v2 v3 : Value} (k : Bx W b v0 v1 v2 v3) (u0 u1 u2 u3 : Value) : Bx (put4 W b u0 u1 u2 u3) b u0 u1 u2 u3 := (((k.set0 u0).set1 u1).set2 u2).set3 u3
end Go.Proofs.Ythhbaccbhfngbaa
namespace Go.Proofs.Ythhbaccbhfngbaa
open Go.RowKit

/-- Numbers such as the types have. -/
structure EN.In (p : EN) : Prop where
  kind : 0 ≤ p.kind ∧ p.kind < 256
  st : -9223372036854775808 ≤ p.st ∧ p.st < 9223372036854775808
  mb : -9223372036854775808 ≤ p.mb ∧ p.mb < 9223372036854775808
  fr : -9223372036854775808 ≤ p.fr ∧ p.fr < 9223372036854775808
theorem entPlace_any (st mb : Int) (w : World) : Calls Try.prog 86 #[.agg #[.int .i64 st, .int .i64 mb]] w fun e w' => e = .returned (.bool (decide (PlOk st mb))) ∧ Below w.heap.size w w' := by
  by_cases h1 : 0 ≤ st
  · have d1 : decide (0 ≤ st) = true := decide_eq_true h1
    by_cases h2 : st < 2147483648
    · have d2 : decide (st < 2147483648) = true := decide_eq_true h2
      by_cases h3 : 0 ≤ mb
      · have d3 : decide (0 ≤ mb) = true := decide_eq_true h3
        rw [show decide (PlOk st mb) = decide (mb < 255) by unfold PlOk; simp [h1, h2, h3]]
        clear h1 h2 h3
        go_enter Try.func86, Try.ntmps86
        go_wp2
        go_ret
        exact ⟨rfl, (Below.refl _ _).alloc (Nat.le_refl _) _⟩
      · have d3 : decide (0 ≤ mb) = false := decide_eq_false h3
        rw [show decide (PlOk st mb) = false by unfold PlOk; simp [h3]]
        clear h1 h2 h3
        go_enter Try.func86, Try.ntmps86
        go_wp2
        go_ret
        exact ⟨rfl, (Below.refl _ _).alloc (Nat.le_refl _) _⟩
    · have d2 : decide (st < 2147483648) = false := decide_eq_false h2
      rw [show decide (PlOk st mb) = false by unfold PlOk; simp [h2]]
      clear h1 h2
      go_enter Try.func86, Try.ntmps86
      go_wp2
      go_ret
      exact ⟨rfl, (Below.refl _ _).alloc (Nat.le_refl _) _⟩
  · have d1 : decide (0 ≤ st) = false := decide_eq_false h1
    rw [show decide (PlOk st mb) = false by unfold PlOk; simp [h1]]
    clear h1
    go_enter Try.func86, Try.ntmps86
    go_wp2
    go_ret
    exact ⟨rfl, (Below.refl _ _).alloc (Nat.le_refl _) _⟩
theorem eok_0 (st mb fr : Int) (h : ¬ (st = 0 ∧ mb = 0 ∧ fr = 0)) : decide (EOk ⟨0, st, mb, fr⟩) = false := by
  unfold EOk PlOk; simp; omega
theorem eok_1 (st mb fr : Int) : decide (EOk ⟨1, st, mb, fr⟩) = (decide (PlOk st mb) && decide (fr = 0)) := by
  unfold EOk; simp
theorem eok_2 (st mb fr : Int) (h : ¬ ((1 ≤ fr ∧ fr ≤ 1073741824) ∧ st = 0 ∧ mb = 0)) : decide (EOk ⟨2, st, mb, fr⟩) = false := by
  unfold EOk PlOk; simp; omega
theorem eok_3 {k : Int} (st mb fr : Int) (h0 : k ≠ 0) (h1 : k ≠ 1) (h2 : k ≠ 2) : decide (EOk ⟨k, st, mb, fr⟩) = false := by
  unfold EOk PlOk; simp [h0, h1, h2]
/-- A boxed entry. -/
def EBox (W : World) (b : Nat) (p : EN) : Prop := Bx W b (.int .u8 p.kind) (.int .i64 p.st) (.int .i64 p.mb) (.int .i64 p.fr)
theorem EBox.below {W W' : World} {b : Nat} {p : EN} (k : EBox W b p) (hb : Below W.heap.size W W') : EBox W' b p := Bx.below k hb
theorem EBox.new (w : World) (k st mb fr : Int) (t : Nat) : EBox (w.alloc (.cells #[.int .u8 k, .int .i64 st, .int .i64 mb, .int .i64 fr] t)) w.heap.size ⟨k, st, mb, fr⟩ := Bx.new _ _ _ _ _ _
set_option maxHeartbeats 1000000 in
theorem entRight_any (p : EN) (w : World) : Calls Try.prog 82 #[p.v] w fun e w' => e = .returned (.bool (decide (EOk p))) ∧ Below w.heap.size w w' := by
  obtain ⟨k, st, mb, fr⟩ := p
  unfold EN.v
  dsimp only
  by_cases h0 : k = 0
  · subst h0
    by_cases hs : st = 0
    · subst hs
      by_cases hm : mb = 0
      · subst hm
        by_cases hf : fr = 0
        · subst hf
          rw [show decide (EOk ⟨0, 0, 0, 0⟩) = true by decide]
          go_enter Try.func82, Try.ntmps82
          go_wp2
          go_ret
          exact ⟨rfl, below1 _ _⟩
        · rw [eok_0 _ _ _ (fun h => hf h.2.2)]
          have d0 : (fr == 0) = false := by simpa using hf
          clear hf
          go_enter Try.func82, Try.ntmps82
          go_wp2
          go_ret
          exact ⟨rfl, below1 _ _⟩
      · rw [eok_0 _ _ _ (fun h => hm h.2.1)]
        have d0 : (mb == 0) = false := by simpa using hm
        clear hm
        go_enter Try.func82, Try.ntmps82
        go_wp2
        go_ret
        exact ⟨rfl, below1 _ _⟩
    · rw [eok_0 _ _ _ (fun h => hs h.1)]
      have d0 : (st == 0) = false := by simpa using hs
      clear hs
      go_enter Try.func82, Try.ntmps82
      go_wp2
      go_ret
      exact ⟨rfl, below1 _ _⟩
  have d0 : (k == 0) = false := by simpa using h0
  by_cases h1 : k = 1
  · subst h1
    rw [eok_1]
    have hP := entPlace_any st mb
    clear h0 d0
    have HB0 := Lib.hid (below1 w (.cells #[.int .u8 1, .int .i64 st, .int .i64 mb, .int .i64 fr] 50))
    have HX0 := Lib.hid (EBox.new w 1 st mb fr 50)
    generalize decide (PlOk st mb) = bb at hP ⊢
    go_enter Try.func82, Try.ntmps82
    go_upto_region 5 with fail
    generalize w.alloc (.cells #[.int .u8 1, .int .i64 st, .int .i64 mb, .int .i64 fr] 50) = w1 at HB0 HX0 ⊢
    have x1 := HX0.out.c1
    have x2 := HX0.out.c2
    dsimp only at x1 x2
    cases bb
    · go_wp2_with (go_at_call 86; refine (hP _).mono ?_; rintro e w2 ⟨rfl, hb⟩; have HB := Lib.hid (HB0.out.trans (hb.mono HB0.out.size)); clear hb)
      go_ret
      exact ⟨rfl, HB.out⟩
    · go_wp2_with (go_at_call 86; refine (hP _).mono ?_; rintro e w2 ⟨rfl, hb⟩; have HB := Lib.hid (HB0.out.trans (hb.mono HB0.out.size)); have y3 := (HX0.out.below hb).c3; dsimp only at y3; clear hb)
      go_ret
      exact ⟨by rw [show decide (fr = 0) = (fr == 0) by rw [Bool.eq_iff_iff]; simp]; simp, HB.out⟩
  have d1 : (k == 1) = false := by simpa using h1
  by_cases h2 : k = 2
  · subst h2
    by_cases hs : st = 0
    · subst hs
      by_cases hm : mb = 0
      · subst hm
        by_cases hf : 1 ≤ fr
        · have e1 : decide (1 ≤ fr) = true := decide_eq_true hf
          rw [show decide (EOk ⟨2, 0, 0, fr⟩) = decide (fr ≤ 1073741824) by unfold EOk PlOk; simp [hf]]
          clear hf h0 h1 d0 d1
          go_enter Try.func82, Try.ntmps82
          go_wp2
          go_ret
          exact ⟨rfl, below1 _ _⟩
        · rw [eok_2 _ _ _ (fun h => hf h.1.1)]
          have e1 : decide (1 ≤ fr) = false := decide_eq_false hf
          clear hf h0 h1 d0 d1
          go_enter Try.func82, Try.ntmps82
          go_wp2
          go_ret
          exact ⟨rfl, below1 _ _⟩
      · rw [eok_2 _ _ _ (fun h => hm h.2.2)]
        have e0 : (mb == 0) = false := by simpa using hm
        clear hm h0 h1 d0 d1
        go_enter Try.func82, Try.ntmps82
        go_wp2
        go_ret
        exact ⟨rfl, below1 _ _⟩
    · rw [eok_2 _ _ _ (fun h => hs h.2.1)]
      have e0 : (st == 0) = false := by simpa using hs
      clear hs h0 h1 d0 d1
      go_enter Try.func82, Try.ntmps82
      go_wp2
      go_ret
      exact ⟨rfl, below1 _ _⟩
  have d2 : (k == 2) = false := by simpa using h2
  rw [eok_3 _ _ _ h0 h1 h2]
  clear h0 h1 h2
  go_enter Try.func82, Try.ntmps82
  go_wp2
  go_ret
  exact ⟨rfl, below1 _ _⟩
end Go.Proofs.Ythhbaccbhfngbaa
namespace Go.Proofs.Ythhbaccbhfngbaa
open Go.RowKit

theorem or_high {a b : Int} (ha : 0 ≤ a ∧ a < 255) (hb : 0 ≤ b ∧ b < 4294967296) : bits .or .u64 (a * 4294967296) b = ((b.toNat + 4294967296 * a.toNat : Nat) : Int) := by
  obtain ⟨m, rfl⟩ : ∃ m : Nat, a = (m : Int) := ⟨a.toNat, by omega⟩
  obtain ⟨n, rfl⟩ : ∃ n : Nat, b = (n : Int) := ⟨b.toNat, by omega⟩
  rw [show (m : Int) * 4294967296 = ((4294967296 * m : Nat) : Int) by omega, Int.toNat_natCast, Int.toNat_natCast]
  show IntKind.u64.wrap ((BitVec.ofInt 64 ((4294967296 * m : Nat) : Int) ||| BitVec.ofInt 64 (n : Int)).toNat : Int) = _
  rw [BitVec.toNat_or, BitVec.ofInt_natCast, BitVec.ofInt_natCast, BitVec.toNat_ofNat, BitVec.toNat_ofNat, Nat.mod_eq_of_lt (by omega), Nat.mod_eq_of_lt (by omega)]
  have h := Nat.two_pow_add_eq_or_of_lt (i := 32) (b := n) (by show n < 4294967296; omega) m
  rw [show (2 : Nat) ^ 32 = 4294967296 from rfl] at h
  rw [← h, IntKind.wrap_u64]; omega
theorem and_low (n : Nat) (hn : n < 18446744073709551616) : bits .and .u64 (n : Int) 4294967295 = ((n % 4294967296 : Nat) : Int) := by
  show IntKind.u64.wrap ((BitVec.ofInt 64 (n : Int) &&& BitVec.ofInt 64 ((4294967295 : Nat) : Int)).toNat : Int) = _
  rw [BitVec.toNat_and, BitVec.ofInt_natCast, BitVec.ofInt_natCast, BitVec.toNat_ofNat, BitVec.toNat_ofNat, Nat.mod_eq_of_lt (by omega), Nat.mod_eq_of_lt (by omega)]
  rw [show (4294967295 : Nat) = 2 ^ 32 - 1 from rfl, Nat.and_two_pow_sub_one_eq_mod, IntKind.wrap_u64]; omega
theorem entCheck_any (p : EN) (w : World) : Calls Try.prog 70 #[p.v] w fun e w' => e = .returned (.int .i64 (entE p)) ∧ Below w.heap.size w w' := by
  have hR := entRight_any p
  have he : entE p = if decide (EOk p) = true then 0 else 2 := by unfold entE; simp
  rw [he]
  generalize decide (EOk p) = bb at hR ⊢
  clear he
  obtain ⟨k, st, mb, fr⟩ := p
  unfold EN.v at hR ⊢
  dsimp only at hR ⊢
  have HB0 := Lib.hid (below1 w (.cells #[.int .u8 k, .int .i64 st, .int .i64 mb, .int .i64 fr] 50))
  cases bb
  · go_enter Try.func70, Try.ntmps70
    go_wp2_with (go_at_call 82; refine (hR _).mono ?_; rintro e w2 ⟨rfl, hb⟩; have HB := Lib.hid (HB0.out.trans (hb.mono HB0.out.size)); clear hb)
    go_ret
    exact ⟨rfl, HB.out⟩
  · go_enter Try.func70, Try.ntmps70
    go_wp2_with (go_at_call 82; refine (hR _).mono ?_; rintro e w2 ⟨rfl, hb⟩; have HB := Lib.hid (HB0.out.trans (hb.mono HB0.out.size)); clear hb)
    go_ret
    exact ⟨rfl, HB.out⟩
theorem putE8 {n : Nat} (h : n < 18446744073709551616) : putE 8 n = 0 ∧ putS 8 n = leB 8 n := by
  have : putE 8 n = 0 := putE_ok.2 ⟨by decide, by show n < 256 ^ 8; omega⟩
  exact ⟨this, putS_ok this⟩
end Go.Proofs.Ythhbaccbhfngbaa
