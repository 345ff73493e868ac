/- Pools: Ids. -/
import Derived.Test.YtmnjcmpikbihaaaPoolA
import Derived.Test.YtmnjcmpikbihaaaIdx
namespace Go.Proofs.Ytmnjcmpikbihaaa
open Go.RowKit Go.Maps Go.Sort Go.Shelf

theorem sortsP (m : Nat) : AnyZI.SortsIn Try.prog Try.sortedI_ren Fence.wide m :=
  ⟨fun blk off cap ss W hH hblk hsz => callsIn_wide.2 (AnyM.slices_Sort_int Try.sortI blk off cap ss W hH hblk hsz),
   fun p cap W => callsIn_wide.2 (AnyM.slices_Sort_int_none Try.sortI p cap W)⟩
set_option maxHeartbeats 1000000 in
theorem risingP_any {R : Value → Option (DataW Unit × List MemPlace)} {b nn : Nat} {D0 : DataW Unit} {w : World} (hown : w.ownsMap Try.prog 3 R b nn D0) (hmax : Maps.size D0 ≤ maxLen) (hbytes : Maps.size D0 * 8 ≤ 140737488355328) :
    Calls Try.prog 21 #[.map (some b)] w fun e w' => ∃ (v : Value) (ss : List Int), e = .returned v ∧ ss.Perm (Go.intKeys D0) ∧
      w'.ownsRow w.heap.size 3 1 v ss.length ((ss.mergeSort (fun x y => decide (x ≤ y))).map encZ) ∧ (v = .slice none 0 0 ↔ ss = []) ∧ Below w.heap.size w w' := by
  refine (callsIn_wide (n := 6)).1 ?_
  have hbl := hown.lt
  have hseq : SeqGives Fence.wide 2 Try.prog 28 #[.pointer (some ⟨w.heap.size, 0, none⟩)] encZ (fun ss => ss.Perm (Go.intKeys D0)) (Maps.size D0) (w.alloc (.cells #[.map (some b)] 48)) :=
    AnyZI.keys_gives (ρ := Try.keysP_ren) { Try.keysP with } Fence.wide _ trivial rfl (by omega) w.heap.size b nn D0 _ (by simp) (by simp) (by
      obtain ⟨es, clock, hb, Ft, hs, hD⟩ := hown
      exact ⟨es, clock, (Below.heap_alloc _ _ b hbl).trans hb, Ft, hs, hD⟩)
  have cK : ∀ mb W, CallsIn Fence.wide 5 Try.prog 25 #[.map mb] W fun e w' => e = .returned (.func (.func 28) #[] #[.pointer (some ⟨W.heap.size, 0, none⟩)]) ∧ w' = W.alloc (.cells #[.map mb] 48) := fun mb W => AnyZI.keys_in Try.keysP Fence.wide 5 trivial rfl mb W
  have cS := AnyZI.sorted_in Try.sortedI Fence.wide 5 trivial trivial trivial trivial rfl (by omega) (sortsP _) (enters_of Try.func27 (by kernel_rfl) rfl) 28 #[.pointer (some ⟨w.heap.size, 0, none⟩)] trivial (enters_of Try.func28 (by kernel_rfl) rfl) _ _ hmax hbytes _ hseq
  change CallsIn _ _ Try.prog 24 _ _ _ at cS
  have hfK : Fence.wide.fn 25 := trivial
  have hfS : Fence.wide.fn 24 := trivial
  refine callsIn_of_wp Try.func21 rfl trivial ?_ rfl
  simp only [Try.ntmps21, List.size_toArray, List.length_cons, List.length_nil, Nat.reduceAdd, Nat.reduceSub, Array.replicate_succ, Array.replicate_zero, List.push_toArray, List.append_toArray, List.nil_append, List.cons_append]
  gi_wp2_with (first
    | (gi_at_call 25; refine (cK _ _).mono ?_; rintro e w' ⟨rfl, rfl⟩)
    | (gi_at_call 24; refine cS.mono ?_; rintro e w' ⟨v, ss, rfl, hS, hrow, hnil, hb⟩))
  go_ret
  exact ⟨v, ss, rfl, hS, ownsRow_base_a hrow (by simp), hnil, ((Below.refl _ w).alloc (Nat.le_refl _) _).trans (hb.mono (by simp))⟩
theorem poolIds_any {w : World} {b m n : Nat} {L : PL} (d : PoolAt w b m L n) (hn : n ≤ 1073741824) :
    Calls Try.prog 14 #[.pointer (some ⟨b, 0, none⟩)] w fun e w' => ∃ v, e = .returned v ∧ IdxS w' v (idsP L) ∧ Below w.heap.size w w' := by
  have c0 := d.c0
  obtain ⟨D, ho, hh, _⟩ := d.map
  have hl := d.len
  have hsz := sizeP ho intKP Try.underlying3 d.rise hh
  have h3 : (idsP L).length = L.length := by simp [idsP]
  have hR := risingP_any ho (by unfold maxLen; omega) (by omega)
  have HK : Hid (∀ ss : List Int, ss.Perm (Go.intKeys D) → ss.mergeSort (fun x y => decide (x ≤ y)) = idsP L) := Lib.hid (fun ss hs => keysP_sorted ho intKP Try.underlying3 d.rise hh hs)
  clear d ho hh hsz h3 hl
  go_enter Try.func14, Try.ntmps14
  go_wp2_with (go_at_call 21; refine hR.mono ?_; rintro e w' ⟨v, ss, rfl, hs, hrow, hnil, hb⟩)
  go_ret
  have hk := HK.out ss hs
  rw [hk] at hrow
  exact ⟨v, rfl, idxS_of hrow, hb⟩
end Go.Proofs.Ytmnjcmpikbihaaa
