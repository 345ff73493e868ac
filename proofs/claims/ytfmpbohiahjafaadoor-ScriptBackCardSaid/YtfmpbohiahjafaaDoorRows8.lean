/- New rows of bytes, and strings made of rows. -/
import Derived.Test.YtfmpbohiahjafaaDoorBytes
import Derived.Laws.IdiomStrings
import Derived.Deep.OwnRows
namespace Go.Proofs.YtfmpbohiahjafaaDoor
open Go.RowKit
theorem infoU8 : (Tryd.prog.info? 5).map (fun i => (i.zero, i.size, i.bytes)) = some (some (.int .u8 0), 1, 1) := by kernel_rfl
theorem row_made (w : World) (n : Nat) (t : TypeId) : Row8 (w.alloc (.cells (madeCells #[.int .u8 0] n) t)) w.heap.size 0 (List.replicate n 0) := by
  refine ⟨by rw [World.size_alloc]; exact Nat.lt_succ_self _, fun j hj => ⟨?_, ?_⟩⟩
  · rw [List.length_replicate] at hj
    rw [Nat.zero_add, World.cell?_alloc_at _ _ _ _ rfl]
    have hm : j % 1 = 0 := by omega
    simp [madeCells, hj, List.getD, hm]
  · rw [World.frozen?_alloc_at _ _ _ _ rfl]
theorem string_of_row {w : World} {b cap : Nat} {l : List UInt8} (n : Nat) (hn : n = l.length) (h : Row8 w b 0 l) (src dst e : TypeId) {P : Program} (hs : P.underlying src = some (.slice e)) (he : P.underlying e = some (.int .u8)) (hd : P.underlying dst = some .string) :
    (convert src dst (.slice (some ⟨b, 0, none⟩) n cap)).run P w = .ok (.string ⟨l.toArray⟩) w := by
  subst hn
  refine run_convert_bytes_back w src dst e ⟨b, 0, none⟩ cap l hs he hd (fun j hj => ?_)
  rw [show (⟨b, 0, none⟩ : Addr).add j = ⟨b, j, none⟩ by unfold Addr.add; split <;> simp_all]
  have := (h.2 j hj).1
  rw [Nat.zero_add] at this
  rw [this, List.getD, List.getElem?_eq_getElem hj]; rfl

end Go.Proofs.YtfmpbohiahjafaaDoor
