/- A region that draws its order, whose operations read and whose callees leave a relation of ours alone, in a round of a range over a function: walked once. -/
import Derived.Test.YtfpnlaafefdcaaaDoorReg
import Derived.Test.YtfpnlaafefdcaaaDoorRound
import Derived.Sort.QuietThIn
namespace Go.Proofs.YtfpnlaafefdcaaaDoor
open Go.RowKit

theorem quietUponIn_wide {n : Nat} {P : Program} {C : World → Prop} {w : World} {v : Value} {r : Result Next} (h : Oper.quietUpon P C w v r) : Oper.quietUponIn Fence.wide n P C w v r := by
  cases r with
  | ok x w' =>
    cases x with
    | enter f args => exact ⟨h.1, fun hd => by simp [Fence.wide] at hd, callsIn_wide.2 h.2⟩
    | _ => exact h
  | halt x w' => exact h
theorem quietIn_wide {n : Nat} {P : Program} {C : World → Prop} {o : Oper} {a : Act} {K K' : Act → Prop} (hK : ∀ a, K a → K' a) (h : o.quiet P a C K) : o.quietIn Fence.wide n P a C K' :=
  let ⟨v, h1, h2⟩ := h
  ⟨v, fun w hw => quietUponIn_wide (h1 w hw), hK _ h2⟩
theorem wpQuietIn_wide {n : Nat} {P : Program} {ops : Array Oper} {C : World → Prop} {Q : Act → Prop} : ∀ (l : List Oper) (a : Act), wpQuiet P ops C Q l a → wpQuietIn Fence.wide n P ops C Q l a
  | [], _, h => h
  | o :: rest, a, h => by
    refine ⟨fun _ _ _ _ => trivial, ?_⟩
    unfold wpQuiet at h
    split
    · rename_i hw; rw [if_pos hw] at h; exact quietIn_wide (fun a => wpQuietIn_wide rest a) h
    · rename_i hw; rw [if_neg hw] at h; exact wpQuietIn_wide rest _ h
theorem wpIn_region_wk_round {P : Program} {id n l : Nat} {Q : Exit → Act → World → Prop} {a : Act} {w : World} {os : List Oper} (C : World → Prop) (hd : os.toArray.toList.all noDefer = true) (hm : P.follows .mixedOrders = true) (hB : Region.lexB .any os.toArray = true) (h0 : C w.drew)
    (h : wpQuiet P os.toArray (fun w' => ∃ p : Wk C, w' = p.W) (fun a' => ∀ p : Wk C, Q .normal a' p.W) os a) : (Code.region id os.toArray true).wpIn (Fence.wide.inRound l) n P Q a w := by
  simp only [Region.lexB, Bool.and_eq_true] at hB
  refine wpIn_region_any hm (wpAnyIn_round (F := Fence.wide) hd _ _ _ _ ?_)
  refine wpAnyIn_of_quiet (C := fun w' => ∃ p : Wk C, w' = p.W) (Q := fun a' => ∀ p : Wk C, Q .normal a' p.W) rfl (fun a' w' hw' hq => by obtain ⟨p, rfl⟩ := hw'; exact hq p) _ _ _ _ ⟨⟨_, h0⟩, rfl⟩ ?_
  have := wpAnyQIn_lex (F := Fence.wide) (n := n) (C := fun w' => ∃ p : Wk C, w' = p.W) (md := .any) hB.1 os.toArray.toList 0 (Array.replicate os.toArray.size false) a (by simp) (by simpa using hB.2) (wpQuietIn_wide _ _ (by simpa using h))
  simpa using this
end Go.Proofs.YtfpnlaafefdcaaaDoor
