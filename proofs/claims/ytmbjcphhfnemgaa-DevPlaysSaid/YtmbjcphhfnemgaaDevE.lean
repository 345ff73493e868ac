/- The contracts of a device's Waiting and Bad. -/
import Derived.Test.YtmbjcphhfnemgaaDevD
import Derived.Test.YtmbjcphhfnemgaaShelf
namespace Go.Proofs.Ytmbjcphhfnemgaa
open Go.RowKit Go.Maps Go.Sort Go.Shelf

theorem sortsI (m : Nat) : AnyZI.SortsIn Try.prog Try.sortedI_ren Fence.wide m :=
  ⟨fun blk off cap ss W hH hblk hsz => callsIn_wide.2 (AnyM.slices_Sort_int Try.sortI blk off cap ss W hH hblk hsz),
   fun p cap W => callsIn_wide.2 (AnyM.slices_Sort_int_none Try.sortI p cap W)⟩
/-- A slice of the call's own that holds these numbers. -/
def IntsOf (w : World) (base : Nat) (v : Value) (L : List Int) : Prop := w.ownsRow base 3 1 v L.length (L.map (Value.int .i64)) ∧ (v = .slice none 0 0 ↔ L = [])
set_option maxHeartbeats 1000000 in
theorem risingW_any {R : Value → Option (DataW Unit × List MemPlace)} {b nn : Nat} {D0 : DataW Unit} {w : World} (hown : w.ownsMap Try.prog 3 R b nn D0) (hmax : Maps.size D0 ≤ maxLen) (hbytes : Maps.size D0 * 8 ≤ 140737488355328) :
    Calls Try.prog 56 #[.map (some b)] w fun e w' => ∃ (v : Value) (ss : List Int), e = .returned v ∧ ss.Perm (Go.intKeys D0) ∧
      w'.ownsRow w.heap.size 3 1 v ss.length ((ss.mergeSort (fun x y => decide (x ≤ y))).map encZ) ∧ (v = .slice none 0 0 ↔ ss = []) ∧ Below w.heap.size w w' := by
  refine (callsIn_wide (n := 6)).1 ?_
  have hbl := hown.lt
  have hseq : SeqGives Fence.wide 2 Try.prog 83 #[.pointer (some ⟨w.heap.size, 0, none⟩)] encZ (fun ss => ss.Perm (Go.intKeys D0)) (Maps.size D0) (w.alloc (.cells #[.map (some b)] 69)) :=
    AnyZI.keys_gives (ρ := Try.keysW_ren) { Try.keysW with } Fence.wide _ trivial rfl (by omega) w.heap.size b nn D0 _ (by simp) (by simp) (by
      obtain ⟨es, clock, hb, Ft, hs, hD⟩ := hown
      exact ⟨es, clock, (Below.heap_alloc _ _ b hbl).trans hb, Ft, hs, hD⟩)
  have cK : ∀ mb W, CallsIn Fence.wide 5 Try.prog 76 #[.map mb] W fun e w' => e = .returned (.func (.func 83) #[] #[.pointer (some ⟨W.heap.size, 0, none⟩)]) ∧ w' = W.alloc (.cells #[.map mb] 69) := fun mb W => AnyZI.keys_in Try.keysW Fence.wide 5 trivial rfl mb W
  have cS := AnyZI.sorted_in Try.sortedI Fence.wide 5 trivial trivial trivial trivial rfl (by omega) (sortsI _) (enters_of Try.func82 (by kernel_rfl) rfl) 83 #[.pointer (some ⟨w.heap.size, 0, none⟩)] trivial (enters_of Try.func83 (by kernel_rfl) rfl) _ _ hmax hbytes _ hseq
  change CallsIn _ _ Try.prog 75 _ _ _ at cS
  have hfK : Fence.wide.fn 76 := trivial
  have hfS : Fence.wide.fn 75 := trivial
  refine callsIn_of_wp Try.func56 rfl trivial ?_ rfl
  simp only [Try.ntmps56, List.size_toArray, List.length_cons, List.length_nil, Nat.reduceAdd, Nat.reduceSub, Array.replicate_succ, Array.replicate_zero, List.push_toArray, List.append_toArray, List.nil_append, List.cons_append]
  gi_wp2_with (first
    | (gi_at_call 76; refine (cK _ _).mono ?_; rintro e w' ⟨rfl, rfl⟩)
    | (gi_at_call 75; refine cS.mono ?_; rintro e w' ⟨v, ss, rfl, hS, hrow, hnil, hb⟩))
  go_ret
  exact ⟨v, ss, rfl, hS, ownsRow_base_a hrow (by simp), hnil, ((Below.refl _ w).alloc (Nat.le_refl _) _).trans (hb.mono (by simp))⟩
set_option maxHeartbeats 1000000 in
theorem risingB_any {R : Value → Option (DataW Unit × List MemPlace)} {b nn : Nat} {D0 : DataW Unit} {w : World} (hown : w.ownsMap Try.prog 3 R b nn D0) (hmax : Maps.size D0 ≤ maxLen) (hbytes : Maps.size D0 * 8 ≤ 140737488355328) :
    Calls Try.prog 57 #[.map (some b)] w fun e w' => ∃ (v : Value) (ss : List Int), e = .returned v ∧ ss.Perm (Go.intKeys D0) ∧
      w'.ownsRow w.heap.size 3 1 v ss.length ((ss.mergeSort (fun x y => decide (x ≤ y))).map encZ) ∧ (v = .slice none 0 0 ↔ ss = []) ∧ Below w.heap.size w w' := by
  refine (callsIn_wide (n := 6)).1 ?_
  have hbl := hown.lt
  have hseq : SeqGives Fence.wide 2 Try.prog 84 #[.pointer (some ⟨w.heap.size, 0, none⟩)] encZ (fun ss => ss.Perm (Go.intKeys D0)) (Maps.size D0) (w.alloc (.cells #[.map (some b)] 70)) :=
    AnyZI.keys_gives (ρ := Try.keysB_ren) { Try.keysB with } Fence.wide _ trivial rfl (by omega) w.heap.size b nn D0 _ (by simp) (by simp) (by
      obtain ⟨es, clock, hb, Ft, hs, hD⟩ := hown
      exact ⟨es, clock, (Below.heap_alloc _ _ b hbl).trans hb, Ft, hs, hD⟩)
  have cK : ∀ mb W, CallsIn Fence.wide 5 Try.prog 77 #[.map mb] W fun e w' => e = .returned (.func (.func 84) #[] #[.pointer (some ⟨W.heap.size, 0, none⟩)]) ∧ w' = W.alloc (.cells #[.map mb] 70) := fun mb W => AnyZI.keys_in Try.keysB Fence.wide 5 trivial rfl mb W
  have cS := AnyZI.sorted_in Try.sortedI Fence.wide 5 trivial trivial trivial trivial rfl (by omega) (sortsI _) (enters_of Try.func82 (by kernel_rfl) rfl) 84 #[.pointer (some ⟨w.heap.size, 0, none⟩)] trivial (enters_of Try.func84 (by kernel_rfl) rfl) _ _ hmax hbytes _ hseq
  change CallsIn _ _ Try.prog 75 _ _ _ at cS
  have hfK : Fence.wide.fn 77 := trivial
  have hfS : Fence.wide.fn 75 := trivial
  refine callsIn_of_wp Try.func57 rfl trivial ?_ rfl
  simp only [Try.ntmps57, List.size_toArray, List.length_cons, List.length_nil, Nat.reduceAdd, Nat.reduceSub, Array.replicate_succ, Array.replicate_zero, List.push_toArray, List.append_toArray, List.nil_append, List.cons_append]
  gi_wp2_with (first
    | (gi_at_call 77; refine (cK _ _).mono ?_; rintro e w' ⟨rfl, rfl⟩)
    | (gi_at_call 75; refine cS.mono ?_; rintro e w' ⟨v, ss, rfl, hS, hrow, hnil, hb⟩))
  go_ret
  exact ⟨v, ss, rfl, hS, ownsRow_base_a hrow (by simp), hnil, ((Below.refl _ w).alloc (Nat.le_refl _) _).trans (hb.mono (by simp))⟩
theorem devWaiting_any {w : World} {h : DH} {M : DM} (d : DevAt w h M) :
    Calls Try.prog 15 #[.pointer (some ⟨h.b, 0, none⟩)] w fun e w' => ∃ v, e = .returned v ∧ IntsOf w' w.heap.size v (numsI M.n (fun i => (M.fresh i).isSome)) ∧ Below w.heap.size w w' := by
  have c1 := d.c1
  obtain ⟨D, ho, hh, _, hsz⟩ := d.wait
  have hn2 := d.n2
  have hR := risingW_any ho (by unfold maxLen; omega) (by omega)
  have HK : Hid (∀ ss : List Int, ss.Perm (Go.intKeys D) → ss.mergeSort (fun x y => decide (x ≤ y)) = numsI M.n (fun i => (M.fresh i).isSome)) := Lib.hid (fun ss hs => keys_sorted ho intK Try.underlying3 (p := fun i => (M.fresh i).isSome) hh hs)
  clear d ho hh hsz
  go_enter Try.func15, Try.ntmps15
  go_wp2_with (go_at_call 56; refine hR.mono ?_; rintro e w' ⟨v, ss, rfl, hs, hrow, hnil, hb⟩)
  go_ret
  have hk := HK.out ss hs
  rw [hk] at hrow
  have hl : ss.length = (numsI M.n (fun i => (M.fresh i).isSome)).length := by rw [← hk, List.length_mergeSort]
  rw [hl] at hrow
  refine ⟨v, rfl, ⟨hrow, ?_⟩, hb⟩
  rw [hnil, ← List.length_eq_zero_iff, hl, List.length_eq_zero_iff]
theorem devBad_any {w : World} {h : DH} {M : DM} (d : DevAt w h M) :
    Calls Try.prog 17 #[.pointer (some ⟨h.b, 0, none⟩)] w fun e w' => ∃ v, e = .returned v ∧ IntsOf w' w.heap.size v (numsI M.n M.bad) ∧ Below w.heap.size w w' := by
  have c2 := d.c2
  obtain ⟨D, ho, hh, hsz⟩ := d.badm
  have hn2 := d.n2
  have hR := risingB_any ho (by unfold maxLen; omega) (by omega)
  have HK : Hid (∀ ss : List Int, ss.Perm (Go.intKeys D) → ss.mergeSort (fun x y => decide (x ≤ y)) = numsI M.n M.bad) := Lib.hid (fun ss hs => keys_sorted ho intK Try.underlying3 (p := M.bad) hh hs)
  clear d ho hh hsz
  go_enter Try.func17, Try.ntmps17
  go_wp2_with (go_at_call 57; refine hR.mono ?_; rintro e w' ⟨v, ss, rfl, hs, hrow, hnil, hb⟩)
  go_ret
  have hk := HK.out ss hs
  rw [hk] at hrow
  have hl : ss.length = (numsI M.n M.bad).length := by rw [← hk, List.length_mergeSort]
  rw [hl] at hrow
  refine ⟨v, rfl, ⟨hrow, ?_⟩, hb⟩
  rw [hnil, ← List.length_eq_zero_iff, hl, List.length_eq_zero_iff]
end Go.Proofs.Ytmbjcphhfnemgaa
