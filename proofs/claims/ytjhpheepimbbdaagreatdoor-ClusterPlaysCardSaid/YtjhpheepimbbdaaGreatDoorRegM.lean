/- A region that is held to more from here on. -/
import Derived.Test.YtjhpheepimbbdaaGreatDoorKit
import Derived.Deep.RegionHeld3
namespace Go.Proofs.YtjhpheepimbbdaaGreatDoor
open Go.RowKit

theorem wpAnyH_more {P : Program} {md : Region.Mode} {ops : Array Oper} {Q : Exit → Act → World → Prop} {S1 S2 : World → Prop} (h : ∀ w, S2 w → S1 w) :
    ∀ (fuel : Nat) (listed : Array Bool) (a : Act) (w : World), wpAnyH P md ops Q S2 fuel listed a w → wpAnyH P md ops Q S1 fuel listed a w
  | 0, _, _, _, h' => h'
  | fuel + 1, _, _, _, h' => ⟨h'.1, fun i hi => wpOp_mono (fun a' w' h1 => ⟨h _ h1.1, wpAnyH_more h fuel _ a' w' h1.2⟩) (h'.2 i hi)⟩
end Go.Proofs.YtjhpheepimbbdaaGreatDoor
