/- Slices of bytes as lists. New rows of bytes, and strings made of rows. Rows of bytes that a call owns. -/
import Derived.Test.YtngkbcaflkinhaaDoorKit
import Derived.RegionTactic
import Derived.Laws.NewBlocks
import Derived.Laws.IdiomStrings
import Derived.Deep.OwnRows
import Derived.Laws.AppendOwn
import Derived.Laws.AppendOwnNone
import Derived.OwnWalk
import Derived.Maps.AppendAt
namespace Go.Proofs.YtngkbcaflkinhaaDoor
open Go.RowKit

theorem ofInt_u8b (x : UInt8) : BitVec.ofInt 8 (x.toNat : Int) = x.toBitVec := by
  rw [BitVec.ofInt_natCast]; exact BitVec.eq_of_toNat_eq (by rw [BitVec.toNat_ofNat]; exact Nat.mod_eq_of_lt x.toBitVec.isLt)
theorem wrap_u8b (n : BitVec 8) : IntKind.u8.wrap (n.toNat : Int) = ((UInt8.ofBitVec n).toNat : Int) := by
  rw [IntKind.wrap_u8']; have := n.isLt; show _ = (n.toNat : Int); omega
theorem u8_xorb (a b : UInt8) : bits .xor .u8 (a.toNat : Int) (b.toNat : Int) = ((a ^^^ b).toNat : Int) := by
  show IntKind.u8.wrap ((BitVec.ofInt 8 (a.toNat : Int) ^^^ BitVec.ofInt 8 (b.toNat : Int)).toNat : Int) = _
  rw [ofInt_u8b, ofInt_u8b, wrap_u8b]; rfl

/-- From place off on the bytes l lie in block b, and may be written. -/
def Row8 (w : World) (b off : Nat) (l : List UInt8) : Prop := b < w.heap.size ∧ ∀ j, j < l.length → w.cell? ⟨b, off + j, none⟩ = some (.int .u8 ((l.getD j 0).toNat : Int)) ∧ w.frozen? ⟨b, off + j, none⟩ = false
theorem Row8.drew {w : World} {b off : Nat} {l : List UInt8} (h : Row8 w b off l) : Row8 w.drew b off l := h
theorem Row8.drewN {w : World} {b off : Nat} {l : List UInt8} (h : Row8 w b off l) (n : Nat) : Row8 (w.drewN n) b off l := h
theorem Row8.below {w w' : World} {B b off : Nat} {l : List UInt8} (h : Row8 w b off l) (hb : Below B w w') (hB : b < B) : Row8 w' b off l :=
  ⟨Nat.lt_of_lt_of_le h.1 hb.size, fun j hj => ⟨(hb.cell (p := ⟨b, off + j, none⟩) hB).trans (h.2 j hj).1, (hb.frozen (p := ⟨b, off + j, none⟩) hB).trans (h.2 j hj).2⟩⟩
theorem Row8.alloc {w : World} {b off : Nat} {l : List UInt8} (h : Row8 w b off l) (o : Obj) : Row8 (w.alloc o) b off l :=
  h.below ((Below.refl w.heap.size w).alloc (Nat.le_refl _) o) h.1
theorem Row8.set {w : World} {b off : Nat} {l : List UInt8} (h : Row8 w b off l) (k : Nat) (hk : k < l.length) (x : UInt8) :
    Row8 (w.setCell ⟨b, off + k, none⟩ (.int .u8 (x.toNat : Int))) b off (l.set k x) := by
  refine ⟨by rw [World.size_setCell]; exact h.1, fun j hj => ⟨?_, ?_⟩⟩
  · rw [List.length_set] at hj
    by_cases e : j = k
    · subst e
      rw [World.cell?_setCell_same' _ _ _ (by rw [(h.2 j hj).1]; rfl)]
      simp [List.getD, hj]
    · rw [World.cell?_setCell_other _ _ _ _ (by intro e'; injection e' with _ e2; omega), (h.2 j hj).1]
      simp [List.getD, List.getElem?_set_ne (Ne.symm e)]
  · rw [List.length_set] at hj
    rw [World.frozen?_setCell]; exact (h.2 j hj).2
end Go.Proofs.YtngkbcaflkinhaaDoor
namespace Go.Proofs.YtngkbcaflkinhaaDoor
open Go.RowKit
theorem infoU8 : (Tryd.prog.info? 5).map (fun i => (i.zero, i.size, i.bytes)) = some (some (.int .u8 0), 1, 1) := by kernel_rfl
theorem row_made (w : World) (n : Nat) (t : TypeId) : Row8 (w.alloc (.cells (madeCells #[.int .u8 0] n) t)) w.heap.size 0 (List.replicate n 0) := by
  refine ⟨by rw [World.size_alloc]; exact Nat.lt_succ_self _, fun j hj => ⟨?_, ?_⟩⟩
  · rw [List.length_replicate] at hj
    rw [Nat.zero_add, World.cell?_alloc_at _ _ _ _ rfl]
    have hm : j % 1 = 0 := by omega
    simp [madeCells, hj, List.getD, hm]
  · rw [World.frozen?_alloc_at _ _ _ _ rfl]
theorem string_of_row {w : World} {b cap : Nat} {l : List UInt8} (n : Nat) (hn : n = l.length) (h : Row8 w b 0 l) (src dst e : TypeId) {P : Program} (hs : P.underlying src = some (.slice e)) (he : P.underlying e = some (.int .u8)) (hd : P.underlying dst = some .string) :
    (convert src dst (.slice (some ⟨b, 0, none⟩) n cap)).run P w = .ok (.string ⟨l.toArray⟩) w := by
  subst hn
  refine run_convert_bytes_back w src dst e ⟨b, 0, none⟩ cap l hs he hd (fun j hj => ?_)
  rw [show (⟨b, 0, none⟩ : Addr).add j = ⟨b, j, none⟩ by unfold Addr.add; split <;> simp_all]
  have := (h.2 j hj).1
  rw [Nat.zero_add] at this
  rw [this, List.getD, List.getElem?_eq_getElem hj]; rfl

end Go.Proofs.YtngkbcaflkinhaaDoor
namespace Go.Proofs.YtngkbcaflkinhaaDoor
open Go.RowKit

def U8s (l : List UInt8) : List Value := l.map fun b => .int .u8 (b.toNat : Int)
theorem u8s_len (l : List UInt8) : (U8s l).length = l.length := by simp [U8s]
theorem u8s_one (l : List UInt8) : ∀ u ∈ U8s l, u.oneCell' = true := by
  intro u hu
  obtain ⟨b, _, rfl⟩ := List.mem_map.1 hu
  rfl
theorem u8s_at (l : List UInt8) (j : Nat) (hj : j < l.length) : (U8s l)[j]? = some (.int .u8 ((l.getD j 0).toNat : Int)) := by
  unfold U8s
  rw [List.getElem?_map, List.getElem?_eq_getElem hj, List.getD, List.getElem?_eq_getElem hj]; rfl
/-- A slice of the call's own that holds the bytes l. -/
def OwnB (w : World) (base : Nat) (v : Value) (l : List UInt8) : Prop := w.ownsRow base 5 1 v l.length (U8s l)
theorem OwnB.row {w : World} {base g n cap : Nat} {l : List UInt8} (h : OwnB w base (.slice (some ⟨g, 0, none⟩) n cap) l) : Row8 w g 0 l ∧ n = l.length := by
  rcases h.2 with ⟨e, _⟩ | ⟨g', cap', cur, e, hb, hh, hn, hm, hs, ht⟩
  · cases e
  · injection e with e1 e2 e3
    have hgg : g = g' := by simpa using e1
    subst hgg
    rw [Nat.mul_one] at ht hs
    refine ⟨⟨(Array.getElem?_eq_some_iff.1 hh).1, fun j hj => ⟨?_, ?_⟩⟩, e2⟩
    · rw [Nat.zero_add]
      rw [cell_of_row w g j cur 5 (0, 0) hh]
      have h1 := u8s_at l j hj
      rw [← ht, List.getElem?_take] at h1
      rw [if_pos hj] at h1
      rw [← h1]; simp
    · rw [Nat.zero_add]; exact frozen_of_row w g j cur 5 hh

/-- The string that an owned slice makes. -/
theorem own_string {P : Program} {w : World} {base : Nat} {v : Value} {l : List UInt8} (h : OwnB w base v l) {src dst : TypeId}
    (hs : P.underlying src = some (.slice 5)) (he : P.underlying 5 = some (.int .u8)) (hd : P.underlying dst = some .string) :
    (convert src dst v).run P w = .ok (.string ⟨l.toArray⟩) w := by
  rcases h.2 with ⟨rfl, e⟩ | ⟨g, cap, cur, rfl, hb, hh, hn, hm, hsz, ht⟩
  · have : l = [] := List.eq_nil_of_length_eq_zero e
    subst this
    rw [run_convert_bytes_string w src dst 5 none 0 0 hs he hd]
    simp [Conv.bytesToString, Sem.run_pure]
    rfl
  · exact string_of_row l.length rfl (OwnB.row h).1 src dst 5 hs he hd
theorem own_keep {w w' : World} {base e n : Nat} {v : Value} {xs : List Value} (h : w.ownsRow base e 1 v n xs) (hb : Below w.heap.size w w') : w'.ownsRow base e 1 v n xs := by
  refine ⟨h.1, ?_⟩
  rcases h.2 with hn | ⟨g, cap, cur, hv, hg, hh, r⟩
  · exact .inl hn
  · exact .inr ⟨g, cap, cur, hv, hg, (hb.block g (Array.getElem?_eq_some_iff.1 hh).1).trans hh, r⟩
end Go.Proofs.YtngkbcaflkinhaaDoor
