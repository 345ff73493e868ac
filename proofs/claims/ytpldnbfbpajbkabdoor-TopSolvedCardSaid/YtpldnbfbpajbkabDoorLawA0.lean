/- A matrix that is read, at the world as it stands. -/
import Derived.Test.YtpldnbfbpajbkabDoorMatG
namespace Go.Proofs.YtpldnbfbpajbkabDoor
open Go.RowKit
/-- A matrix that is read as L, all of it there. -/
def MatS (w : World) (v : Value) (L : List (List UInt8)) : Prop := MatV w w.heap.size v L
theorem MatS.below {w w' : World} {v : Value} {L : List (List UInt8)} (h : MatS w v L) (hb : Below w.heap.size w w') : MatS w' v L := (MatV.below h hb (Nat.le_refl _)).wider hb.size
theorem below_alloc (w : World) (o : Obj) : Below w.heap.size w (w.alloc o) := (Below.refl _ w).alloc (Nat.le_refl _) o
theorem below3 (w : World) (o p q : Obj) : Below w.heap.size w (((w.alloc o).alloc p).alloc q) := (((Below.refl _ w).alloc (Nat.le_refl _) o).alloc (by simp) p).alloc (by simp; omega) q
end Go.Proofs.YtpldnbfbpajbkabDoor
