/- Charts: the document's own Swap, any. -/
import Derived.Test.YtjocdbacdbhemaaChuD
namespace Go.Proofs.Ytjocdbacdbhemaa
open Go.RowKit

theorem rchtSwap_any (e B : Int) (T : List TB) (v : Value) (x y : EN) (w : World) (hv : TabsS w v T) :
    Calls Try.prog 32 #[.int .i64 e, .agg #[.int .i64 B, v], x.v, y.v] w fun e' w' => ∃ tv, e' = .returned (.tuple #[.agg #[.int .i64 (swapC e ⟨B, T⟩ x y).blocks, tv], .int .i64 (swapN e ⟨B, T⟩ x y : Int), .int .i64 (swapE e ⟨B, T⟩ y)]) ∧ TabsS w' tv (swapC e ⟨B, T⟩ x y).tabs ∧ Below w.heap.size w w' := by
  unfold swapC swapN swapE
  dsimp only
  by_cases hok : okB e ⟨B, T⟩ = true
  · rw [if_pos hok]
    by_cases hy : EOk y
    · rw [if_pos hy, if_pos ⟨hok, hy⟩, if_pos ⟨hok, hy⟩]
      obtain ⟨E, BN, rfl, hBN, hc⟩ := cok_of hok
      dsimp only at hBN hc
      subst hBN
      exact rchtSwap_yes E BN T v x y w hv hc hok hy
    · rw [if_neg hy, if_neg (fun h => hy h.2), if_neg (fun h => hy h.2)]
      exact rchtSwap_no e B T v x y w hv B T (.inr ⟨hok, rfl, rfl, hy⟩)
  · rw [if_neg hok, if_neg (fun h => hok h.1), if_neg (fun h => hok h.1)]
    exact rchtSwap_no e B T v x y w hv 0 [] (.inl ⟨by simpa using hok, rfl, rfl⟩)
end Go.Proofs.Ytjocdbacdbhemaa
