/- A region that draws its order, in a round of a range over a function: its operations are carried out as anywhere. -/
import Derived.Test.YtfpnlaafefdcaaaDoorKit
import Derived.RangeFuncNested
import Derived.RangeFuncCalls
import Derived.RegionIn
import Derived.Stop.RegionWithIn
namespace Go.Proofs.YtfpnlaafefdcaaaDoor
open Go.RowKit

def noDefer (o : Oper) : Bool := match o.op with
  | .defer _ => false
  | _ => true
theorem noDefer_ne {o : Oper} (h : noDefer o = true) : ∀ c, o.op ≠ .defer c := by
  intro c e
  unfold noDefer at h
  rw [e] at h
  cases h
section
variable {F : Fence} {n : Nat} {P : Program} {md : Region.Mode} {ops : Array Oper} {Q : Exit → Act → World → Prop}
theorem uponIn_round {l : Nat} (o : Oper) (a : Act) (K : Act → World → Prop) (r : Result Next) (h : o.uponIn F n P a K Q r) : o.uponIn (F.inRound l) n P a K Q r := by
  cases r with
  | ok x w' => cases x <;> exact h
  | halt x w' => cases x <;> exact h
theorem wpOpIn_round {l : Nat} (hd : ops.toList.all noDefer = true) {i : Nat} {K K' : Act → World → Prop} (hK : ∀ a w, K a w → K' a w) {a : Act} {w : World} (h : wpOpIn F n P ops Q i K a w) : wpOpIn (F.inRound l) n P ops Q i K' a w := by
  have h := wpOpIn_mono hK h
  unfold wpOpIn at h ⊢
  cases hi : ops[i]? with
  | none => rw [hi] at h; exact h
  | some o =>
    rw [hi] at h
    have hn := noDefer_ne (List.all_eq_true.1 hd o (by rw [Array.getElem?_eq_some_iff] at hi; obtain ⟨hl, rfl⟩ := hi; exact Array.getElem_mem_toList hl))
    simp only at h ⊢
    split
    · rename_i hw
      rw [if_pos hw] at h
      unfold Oper.wpIn at h ⊢
      refine ⟨h.1, ?_⟩
      have h2 := h.2
      rw [Fence.inRound_round, Oper.semAt_eq _ _ _ hn]
      rw [Oper.semAt_eq _ _ _ hn] at h2
      exact uponIn_round o a K' _ h2
    · rename_i hw
      rw [if_neg hw] at h
      exact h
theorem wpAnyIn_round {l : Nat} (hd : ops.toList.all noDefer = true) : ∀ (fuel : Nat) (listed : Array Bool) (a : Act) (w : World), wpAnyIn F n P md ops Q fuel listed a w → wpAnyIn (F.inRound l) n P md ops Q fuel listed a w
  | 0, _, _, _, h => h
  | fuel + 1, listed, _, _, h => ⟨h.1, fun i hi => wpOpIn_round hd (fun a w => wpAnyIn_round hd fuel (listed.setIfInBounds i true) a w) (h.2 i hi)⟩
end
end Go.Proofs.YtfpnlaafefdcaaaDoor
