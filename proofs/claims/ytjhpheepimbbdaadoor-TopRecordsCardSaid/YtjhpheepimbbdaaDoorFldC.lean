/- Fields: the contract of the document's own Put. -/
import Derived.Test.YtjhpheepimbbdaaDoorFldB
import Derived.Laws.AppendOwn
import Derived.Laws.AppendOwnNone
import Derived.OwnWalk
import Derived.Maps.AppendAt
namespace Go.Proofs.YtjhpheepimbbdaaDoor
open Go.RowKit

theorem u8_rem (m : Nat) : (m : Int) % 256 = ((UInt8.ofNat m).toNat : Int) := by
  rw [UInt8.toNat_ofNat']; simp
theorem ownB_len {w : World} {B : Nat} {v : Value} {l : List UInt8} (h : OwnB w B v l) (n : Nat) (hn : n = l.length) : w.ownsRow B 5 1 v n (U8s l) := by subst hn; exact h
end Go.Proofs.YtjhpheepimbbdaaDoor
