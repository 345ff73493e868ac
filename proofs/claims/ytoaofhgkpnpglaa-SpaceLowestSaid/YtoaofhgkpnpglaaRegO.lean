/- A region that draws its order, in a function that is walked inside a fence, behind no loop: walked once. -/
import Derived.Test.YtoaofhgkpnpglaaRegR
namespace Go.Proofs.Ytoaofhgkpnpglaa
open Go.RowKit

theorem wpIn_region_wk {P : Program} {id n : Nat} {Q : Exit → Act → World → Prop} {a : Act} {w : World} {os : List Oper} (C : World → Prop) (hm : P.follows .mixedOrders = true) (hB : Region.lexB .any os.toArray = true) (h0 : C w.drew)
    (h : wpQuiet P os.toArray (fun w' => ∃ p : Wk C, w' = p.W) (fun a' => ∀ p : Wk C, Q .normal a' p.W) os a) : (Code.region id os.toArray true).wpIn Fence.wide n P Q a w := by
  simp only [Region.lexB, Bool.and_eq_true] at hB
  refine wpIn_region_any hm ?_
  refine wpAnyIn_of_quiet (C := fun w' => ∃ p : Wk C, w' = p.W) (Q := fun a' => ∀ p : Wk C, Q .normal a' p.W) rfl (fun a' w' hw' hq => by obtain ⟨p, rfl⟩ := hw'; exact hq p) _ _ _ _ ⟨⟨_, h0⟩, rfl⟩ ?_
  have := wpAnyQIn_lex (F := Fence.wide) (n := n) (C := fun w' => ∃ p : Wk C, w' = p.W) (md := .any) hB.1 os.toArray.toList 0 (Array.replicate os.toArray.size false) a (by simp) (by simpa using hB.2) (wpQuietIn_wide _ _ (by simpa using h))
  simpa using this
end Go.Proofs.Ytoaofhgkpnpglaa
