/- Charts: Set, any. -/
import Derived.Test.YtngkbcaflkinhaaDoorChvK
namespace Go.Proofs.YtngkbcaflkinhaaDoor
open Go.RowKit

theorem chtSet_any (e B b : Int) (T : List TB) (v : Value) (x : EN) (w : World) (hv : TabsS w v T) :
    Calls Tryd.prog 7 #[.int .i64 e, .agg #[.int .i64 B, v], .int .i64 b, x.v] w fun e' w' => ∃ tv, e' = .returned (.tuple #[.agg #[.int .i64 (setC e ⟨B, T⟩ b x).blocks, tv], .int .i64 (setRE e ⟨B, T⟩ b x)]) ∧ TabsF w.heap.size w' tv (setC e ⟨B, T⟩ b x).tabs ∧ Below w.heap.size w w' := by
  unfold setC setRE setL
  dsimp only
  by_cases hok : okB e ⟨B, T⟩ = true
  · rw [if_pos hok, if_pos hok]
    obtain ⟨E, BN, rfl, hBN, hc⟩ := cok_of hok
    dsimp only at hBN hc
    subst hBN
    by_cases hb : 0 ≤ b ∧ b < (BN : Int)
    · rw [if_pos hb]
      by_cases hx : EOk x
      · rw [if_pos (show setOk ⟨(BN : Int), T⟩ b x from ⟨hb, hx⟩), if_pos hx]
        obtain ⟨b', rfl⟩ : ∃ b' : Nat, b = (b' : Int) := ⟨b.toNat, by omega⟩
        dsimp only
        rw [Int.toNat_natCast, Int.toNat_natCast, Int.toNat_natCast, ← setP_eq hc (by omega) hx]
        exact chtSet_yes E BN b' T v x w hv hc hok (by omega) hx
      · rw [if_neg (show ¬ setOk ⟨(BN : Int), T⟩ b x from fun h => hx h.2), if_neg hx]
        exact chtSet_no1 E BN b T v x w hv hc hok 2 (.inr ⟨hb, hx, rfl⟩)
    · rw [if_neg (show ¬ setOk ⟨(BN : Int), T⟩ b x from fun h => hb h.1), if_neg hb]
      exact chtSet_no1 E BN b T v x w hv hc hok 1 (.inl ⟨hb, rfl⟩)
  · rw [if_neg hok, if_neg hok]
    exact chtSet_no0 e B b T v x w hv (by simpa using hok)
end Go.Proofs.YtngkbcaflkinhaaDoor

