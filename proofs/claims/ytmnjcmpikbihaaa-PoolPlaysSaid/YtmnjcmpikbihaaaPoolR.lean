/- Pools: Clone. -/
import Derived.Test.YtmnjcmpikbihaaaPoolQ
import Derived.Test.YtmnjcmpikbihaaaPoolL
import Derived.Deep.RegionHeld3
namespace Go.Proofs.Ytmnjcmpikbihaaa
open Go.RowKit Go.Maps Go.Shelf

set_option maxHeartbeats 1000000 in
set_option maxRecDepth 100000 in
theorem poolClone_any {w : World} {b m n : Nat} {L : PL} (d : PoolAt w b m L n) :
    Calls Try.prog 12 #[.pointer (some ⟨b, 0, none⟩)] w fun e w' => ∃ b' m', e = .returned (.pointer (some ⟨b', 0, none⟩)) ∧ PoolAt w' b' m' L n ∧ w.heap.size ≤ b' ∧ w.heap.size ≤ m' ∧ Below w.heap.size w w' := by
  have c0 := d.c0
  have c1 := d.c1
  have HC : Hid (∀ W : World, Below w.heap.size w W → Calls Try.prog 20 #[.map (some m)] W fun e w' => e = .returned (.map (some W.heap.size)) ∧ PMap w' W.heap.size L ∧ Below W.heap.size W w') := Lib.hid (fun W hb => by
    obtain ⟨D, ho, hh, hv⟩ := d.map.below hb
    refine (AnyW.maps_Clone_owns Try.cloneP 3 datElem m _ D W ho).mono fun e w' ⟨h1, h2, _, h4⟩ => ⟨h1, ⟨D, owns_tightP h2, hh, hv⟩, h4⟩)
  have HS : Hid (w.drew.cell? ⟨b, 0, none⟩ = some (.map (some m)) ∧ w.drew.cell? ⟨b, 1, none⟩ = some (.int .i64 (n : Int))) := Lib.hid ⟨c0, c1⟩
  have hc := HC.out w.drew ((Below.refl _ w).drew)
  have hlt := d.lt
  have HD := Lib.hid d
  clear d
  go_enter Try.func12, Try.ntmps12
  go_wp2_with fail
  go_region_held3 (fun w' => w'.cell? ⟨b, 0, none⟩ = some (.map (some m)) ∧ w'.cell? ⟨b, 1, none⟩ = some (.int .i64 (n : Int))) (first | with_reducible exact HS.out | with_reducible exact HS2.out | with_reducible exact HS3.out _) (first | (go_at_call 20; (with_reducible refine hc.mono ?_); rintro e w2 ⟨rfl, hp2, hb2⟩; have HP2 := Lib.hid hp2; have HB2 := Lib.hid hb2; have HS2 : Hid (w2.cell? ⟨b, 0, none⟩ = some (.map (some m)) ∧ w2.cell? ⟨b, 1, none⟩ = some (.int .i64 (n : Int))) := Lib.hid ⟨(hb2.cell (p := ⟨b, 0, none⟩) hlt).trans HS.out.1, (hb2.cell (p := ⟨b, 1, none⟩) hlt).trans HS.out.2⟩; have HS3 : Hid (∀ o : Obj, (w2.alloc o).cell? ⟨b, 0, none⟩ = some (.map (some m)) ∧ (w2.alloc o).cell? ⟨b, 1, none⟩ = some (.int .i64 (n : Int))) := Lib.hid (fun o => ⟨(((below1P w2 o).cell (p := ⟨b, 0, none⟩) (Nat.lt_of_lt_of_le hlt hb2.size))).trans HS2.out.1, (((below1P w2 o).cell (p := ⟨b, 1, none⟩) (Nat.lt_of_lt_of_le hlt hb2.size))).trans HS2.out.2⟩); clear hp2 hb2))
  go_wp2
  go_ret
  have hd := HD.out
  have hmlt := HP2.out.lt
  have hb2 : Below w.heap.size w w2 := ⟨HB2.out.os, HB2.out.tape, HB2.out.output, HB2.out.size, HB2.out.block⟩
  have hn := below1P w2 (.cells #[.map (some w.heap.size), .int .i64 (n : Int)] 50)
  have hh := heap_alloc_new w2 (.cells #[.map (some w.heap.size), .int .i64 (n : Int)] 50)
  refine ⟨w2.heap.size, w.heap.size, rfl, ⟨by simp, by rw [cell_of_row _ _ _ _ _ (0, 0) hh]; rfl, by rw [cell_of_row _ _ _ _ _ (0, 0) hh]; rfl, fun o _ => frozen_of_row _ _ _ _ _ hh, HP2.out.below hn, hd.rise, hd.rng, ?_⟩, hb2.size, Nat.le_refl _, hb2.trans (hn.mono hb2.size)⟩
  have : w.heap.size < w2.heap.size := hmlt
  omega
end Go.Proofs.Ytmnjcmpikbihaaa
