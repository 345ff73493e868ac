/- Slices of bytes as lists. -/
import Derived.Test.YtfmpbohiahjafaaDoorKit
import Derived.RegionTactic
import Derived.Laws.NewBlocks
namespace Go.Proofs.YtfmpbohiahjafaaDoor
open Go.RowKit

theorem ofInt_u8b (x : UInt8) : BitVec.ofInt 8 (x.toNat : Int) = x.toBitVec := by
  rw [BitVec.ofInt_natCast]; exact BitVec.eq_of_toNat_eq (by rw [BitVec.toNat_ofNat]; exact Nat.mod_eq_of_lt x.toBitVec.isLt)
theorem wrap_u8b (n : BitVec 8) : IntKind.u8.wrap (n.toNat : Int) = ((UInt8.ofBitVec n).toNat : Int) := by
  rw [IntKind.wrap_u8']; have := n.isLt; show _ = (n.toNat : Int); omega
theorem u8_xorb (a b : UInt8) : bits .xor .u8 (a.toNat : Int) (b.toNat : Int) = ((a ^^^ b).toNat : Int) := by
  show IntKind.u8.wrap ((BitVec.ofInt 8 (a.toNat : Int) ^^^ BitVec.ofInt 8 (b.toNat : Int)).toNat : Int) = _
  rw [ofInt_u8b, ofInt_u8b, wrap_u8b]; rfl

/-- From place off on the bytes l lie in block b, and may be written. -/
def Row8 (w : World) (b off : Nat) (l : List UInt8) : Prop := b < w.heap.size ∧ ∀ j, j < l.length → w.cell? ⟨b, off + j, none⟩ = some (.int .u8 ((l.getD j 0).toNat : Int)) ∧ w.frozen? ⟨b, off + j, none⟩ = false
theorem Row8.drew {w : World} {b off : Nat} {l : List UInt8} (h : Row8 w b off l) : Row8 w.drew b off l := h
theorem Row8.drewN {w : World} {b off : Nat} {l : List UInt8} (h : Row8 w b off l) (n : Nat) : Row8 (w.drewN n) b off l := h
theorem Row8.below {w w' : World} {B b off : Nat} {l : List UInt8} (h : Row8 w b off l) (hb : Below B w w') (hB : b < B) : Row8 w' b off l :=
  ⟨Nat.lt_of_lt_of_le h.1 hb.size, fun j hj => ⟨(hb.cell (p := ⟨b, off + j, none⟩) hB).trans (h.2 j hj).1, (hb.frozen (p := ⟨b, off + j, none⟩) hB).trans (h.2 j hj).2⟩⟩
theorem Row8.alloc {w : World} {b off : Nat} {l : List UInt8} (h : Row8 w b off l) (o : Obj) : Row8 (w.alloc o) b off l :=
  h.below ((Below.refl w.heap.size w).alloc (Nat.le_refl _) o) h.1
theorem Row8.set {w : World} {b off : Nat} {l : List UInt8} (h : Row8 w b off l) (k : Nat) (hk : k < l.length) (x : UInt8) :
    Row8 (w.setCell ⟨b, off + k, none⟩ (.int .u8 (x.toNat : Int))) b off (l.set k x) := by
  refine ⟨by rw [World.size_setCell]; exact h.1, fun j hj => ⟨?_, ?_⟩⟩
  · rw [List.length_set] at hj
    by_cases e : j = k
    · subst e
      rw [World.cell?_setCell_same' _ _ _ (by rw [(h.2 j hj).1]; rfl)]
      simp [List.getD, hj]
    · rw [World.cell?_setCell_other _ _ _ _ (by intro e'; injection e' with _ e2; omega), (h.2 j hj).1]
      simp [List.getD, List.getElem?_set_ne (Ne.symm e)]
  · rw [List.length_set] at hj
    rw [World.frozen?_setCell]; exact (h.2 j hj).2
end Go.Proofs.YtfmpbohiahjafaaDoor
