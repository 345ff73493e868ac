/- The contracts of gf.halves, gf.Put and gf.Scale. -/
import Derived.Test.YtpldnbfbpajbkabDoorGfE
import Derived.Maps.AppendAt
import Derived.Deep.MidRow
namespace Go.Proofs.YtpldnbfbpajbkabDoor
open Go.RowKit
open Caulk.Gf (dbl mul)

/-- A product as a number that the walk does not open. -/
def mI (c : UInt8) (i : Nat) : Int := ((mul c (UInt8.ofNat i)).toNat : Int)
def rowV (c : UInt8) : Array Value := #[.int .u8 (mI c 0), .int .u8 (mI c 1), .int .u8 (mI c 2), .int .u8 (mI c 3), .int .u8 (mI c 4), .int .u8 (mI c 5), .int .u8 (mI c 6), .int .u8 (mI c 7), .int .u8 (mI c 8), .int .u8 (mI c 9), .int .u8 (mI c 10), .int .u8 (mI c 11), .int .u8 (mI c 12), .int .u8 (mI c 13), .int .u8 (mI c 14), .int .u8 (mI c 15)]
theorem rowV_open (c : UInt8) : rowV c = #[.int .u8 (mI c 0), .int .u8 (mI c 1), .int .u8 (mI c 2), .int .u8 (mI c 3), .int .u8 (mI c 4), .int .u8 (mI c 5), .int .u8 (mI c 6), .int .u8 (mI c 7), .int .u8 (mI c 8), .int .u8 (mI c 9), .int .u8 (mI c 10), .int .u8 (mI c 11), .int .u8 (mI c 12), .int .u8 (mI c 13), .int .u8 (mI c 14), .int .u8 (mI c 15)] := rfl
theorem rowV_at (c : UInt8) (i : Nat) (h : i < 16) : (rowV c)[i]? = some (.int .u8 (mI c i)) := by
  have hh : i = 0 ∨ i = 1 ∨ i = 2 ∨ i = 3 ∨ i = 4 ∨ i = 5 ∨ i = 6 ∨ i = 7 ∨ i = 8 ∨ i = 9 ∨ i = 10 ∨ i = 11 ∨ i = 12 ∨ i = 13 ∨ i = 14 ∨ i = 15 := by omega
  rcases hh with rfl | rfl | rfl | rfl | rfl | rfl | rfl | rfl | rfl | rfl | rfl | rfl | rfl | rfl | rfl | rfl <;> rfl
theorem mulRow_is (c : UInt8) : mulRow c = rowV c := by
  apply Array.ext_getElem?
  intro i
  by_cases h : i < 16
  · rw [mulRow_at c i h, rowV_at c i h]; rfl
  · rw [Array.getElem?_eq_none (by show 16 ≤ i; omega), Array.getElem?_eq_none (by show 16 ≤ i; omega)]
theorem multiples_row (c : UInt8) (w : World) :
    Calls Tryd.prog 34 #[.int .u8 (c.toNat : Int)] w fun e w' => e = .returned (.agg (rowV c)) ∧ Below w.heap.size w w' := by
  rw [← mulRow_is]; exact multiples_any c w

theorem size16 (c : UInt8) : (rowV c).size = 16 := rfl
theorem info16 : (Tryd.prog.info? 58).map (·.size) = some 16 := by kernel_rfl
theorem one16 (c : UInt8) : (rowV c).all (·.oneCell') = true := by simp [rowV, Value.oneCell']
theorem below_setCells {B b : Nat} {a : World} (hB : B ≤ b) : ∀ (vs : List Value) (o : Nat) (w : World), Below B a w → Below B a (w.setCells b o vs)
  | [], _, _, h => h
  | v :: r, o, _, h => below_setCells hB r (o + 1) _ (h.setCell (p := ⟨b, o, none⟩) hB v)
theorem there_new (w : World) (cs : Array Value) (t : TypeId) : (w.alloc (.cells cs t)).there w.heap.size 0 cs.size := fun j hj => by
  rw [Nat.zero_add, World.cell?_alloc_at _ _ _ _ rfl, World.frozen?_alloc_at _ _ _ _ rfl]
  exact ⟨by simp [hj], rfl⟩
theorem there_below {B b o n : Nat} {w w' : World} (h : w.there b o n) (hb : Below B w w') (hB : b < B) : w'.there b o n := fun j hj => by
  rw [hb.cell (p := ⟨b, o + j, none⟩) hB, hb.frozen (p := ⟨b, o + j, none⟩) hB]; exact h j hj
theorem range_below {B b o : Nat} {cs : List Value} {w w' : World} (h : w.rangeAt b o cs) (hb : Below B w w') (hB : b < B) : w'.rangeAt b o cs := fun j v hv => by
  rw [hb.cell (p := ⟨b, o + j, none⟩) hB]; exact h j v hv
theorem load16 (w : World) (b : Nat) (c : UInt8) (h : w.rangeAt b 0 (rowV c).toList) : (loadVar 58 ⟨b, 0, none⟩).run Tryd.prog w = .ok (.agg (rowV c)) w :=
  run_loadVar_mid w b 0 58 (rowV c).toList _ h Tryd.underlying58 rfl (by rw [info16]; rfl)

set_option maxRecDepth 100000 in
set_option maxHeartbeats 400000 in
theorem halves_any (c : UInt8) (w : World) :
    Calls Tryd.prog 25 #[.int .u8 (c.toNat : Int)] w fun e w' => e = .returned (.tuple #[.agg (rowV c), .agg (rowV (mul c 16))]) ∧ Below w.heap.size w w' := by
  go_enter Tryd.func25, Tryd.ntmps25
  go_wp2_with fail
  refine (multiples_row c _).mono ?_
  rintro e w1 ⟨rfl, hb1⟩
  go_wp2_with fail
  refine (gfMul_any c 16 _).mono ?_
  rintro e w2 ⟨rfl, rfl⟩
  go_wp2_with fail
  refine (multiples_row (mul c 16) _).mono ?_
  rintro e w3 ⟨rfl, hb3⟩
  have hA := there_new w #[.int .u8 0, .int .u8 0, .int .u8 0, .int .u8 0, .int .u8 0, .int .u8 0, .int .u8 0, .int .u8 0, .int .u8 0, .int .u8 0, .int .u8 0, .int .u8 0, .int .u8 0, .int .u8 0, .int .u8 0, .int .u8 0] 58
  have hB := there_new (w.alloc (.cells #[.int .u8 0, .int .u8 0, .int .u8 0, .int .u8 0, .int .u8 0, .int .u8 0, .int .u8 0, .int .u8 0, .int .u8 0, .int .u8 0, .int .u8 0, .int .u8 0, .int .u8 0, .int .u8 0, .int .u8 0, .int .u8 0] 58)) #[.int .u8 0, .int .u8 0, .int .u8 0, .int .u8 0, .int .u8 0, .int .u8 0, .int .u8 0, .int .u8 0, .int .u8 0, .int .u8 0, .int .u8 0, .int .u8 0, .int .u8 0, .int .u8 0, .int .u8 0, .int .u8 0] 58
  have hA2 := there_below hA ((Below.refl (w.heap.size + 1) _).alloc (by simp) (.cells #[.int .u8 0, .int .u8 0, .int .u8 0, .int .u8 0, .int .u8 0, .int .u8 0, .int .u8 0, .int .u8 0, .int .u8 0, .int .u8 0, .int .u8 0, .int .u8 0, .int .u8 0, .int .u8 0, .int .u8 0, .int .u8 0] 58)) (by omega)
  have hsz1 : w.heap.size + 2 ≤ w1.heap.size := by have := hb1.size; simp at this; omega
  have hbb : Below (w.heap.size + 2) ((w.alloc (.cells #[.int .u8 0, .int .u8 0, .int .u8 0, .int .u8 0, .int .u8 0, .int .u8 0, .int .u8 0, .int .u8 0, .int .u8 0, .int .u8 0, .int .u8 0, .int .u8 0, .int .u8 0, .int .u8 0, .int .u8 0, .int .u8 0] 58)).alloc (.cells #[.int .u8 0, .int .u8 0, .int .u8 0, .int .u8 0, .int .u8 0, .int .u8 0, .int .u8 0, .int .u8 0, .int .u8 0, .int .u8 0, .int .u8 0, .int .u8 0, .int .u8 0, .int .u8 0, .int .u8 0, .int .u8 0] 58)) w3 :=
    (Below.mono hb1 (by simp)).trans (hb3.mono hsz1)
  have h3A : w3.there w.heap.size 0 16 := there_below hA2 hbb (by omega)
  have h3B : w3.there (w.heap.size + 1) 0 16 := by
    rw [World.size_alloc] at hB
    exact there_below hB hbb (by omega)
  have hbel : Below w.heap.size w w3 := (((Below.refl w.heap.size w).alloc (Nat.le_refl _) _).alloc (by simp) _).trans (hbb.mono (by omega))
  have HA := Lib.hid h3A
  have HB := Lib.hid h3B
  have HBL := Lib.hid hbel
  clear hA hB hA2 hbb h3A h3B hb1 hb3 hbel
  try dsimp only
  rename_i hKK
  refine hKK _ _ ?_
  refine wpList_store_mid rfl 58 (.tmp 2) (.tmp 5) rfl w.heap.size 0 (rowV c) rfl rfl ?s1 ?s2 (one16 c) ?_
  case s1 => exact HA.out
  case s2 => rw [info16]; rfl
  refine wpList_store_mid rfl 58 (.tmp 3) (.tmp 8) rfl (w.heap.size + 1) 0 (rowV (mul c 16)) rfl rfl ?s3 ?s4 (one16 _) ?_
  case s3 => exact World.there_setCells HB.out _ _ _
  case s4 => rw [info16]; rfl
  have hr1 : ((w3.setCells w.heap.size 0 (rowV c).toList).setCells (w.heap.size + 1) 0 (rowV (mul c 16)).toList).rangeAt w.heap.size 0 (rowV c).toList :=
    World.rangeAt_setCells_apart (World.rangeAt_setCells_same _ _ _ _ HA.out) _ _ _ (.inl (by omega))
  have hr2 : ((w3.setCells w.heap.size 0 (rowV c).toList).setCells (w.heap.size + 1) 0 (rowV (mul c 16)).toList).rangeAt (w.heap.size + 1) 0 (rowV (mul c 16)).toList :=
    World.rangeAt_setCells_same _ _ _ _ (World.there_setCells HB.out _ _ _)
  have hbe : Below w.heap.size w ((w3.setCells w.heap.size 0 (rowV c).toList).setCells (w.heap.size + 1) 0 (rowV (mul c 16)).toList) := below_setCells (by omega) _ _ _ (below_setCells (Nat.le_refl _) _ _ _ HBL.out)
  generalize (w3.setCells w.heap.size 0 (rowV c).toList).setCells (w.heap.size + 1) 0 (rowV (mul c 16)).toList = w4 at *
  simp only [Act.put]
  clear HA HB HBL hsz1
  go_wp2_with fail
  refine bodyPost_ret (v := .tuple #[.agg (rowV c), .agg (rowV (mul c 16))]) ?_ rfl ⟨rfl, hbe⟩
  have r0 := hr1 0 _ rfl
  have q0 := hr2 0 _ rfl
  have r1 := hr1 1 _ rfl
  have q1 := hr2 1 _ rfl
  have r2 := hr1 2 _ rfl
  have q2 := hr2 2 _ rfl
  have r3 := hr1 3 _ rfl
  have q3 := hr2 3 _ rfl
  have r4 := hr1 4 _ rfl
  have q4 := hr2 4 _ rfl
  have r5 := hr1 5 _ rfl
  have q5 := hr2 5 _ rfl
  have r6 := hr1 6 _ rfl
  have q6 := hr2 6 _ rfl
  have r7 := hr1 7 _ rfl
  have q7 := hr2 7 _ rfl
  have r8 := hr1 8 _ rfl
  have q8 := hr2 8 _ rfl
  have r9 := hr1 9 _ rfl
  have q9 := hr2 9 _ rfl
  have r10 := hr1 10 _ rfl
  have q10 := hr2 10 _ rfl
  have r11 := hr1 11 _ rfl
  have q11 := hr2 11 _ rfl
  have r12 := hr1 12 _ rfl
  have q12 := hr2 12 _ rfl
  have r13 := hr1 13 _ rfl
  have q13 := hr2 13 _ rfl
  have r14 := hr1 14 _ rfl
  have q14 := hr2 14 _ rfl
  have r15 := hr1 15 _ rfl
  have q15 := hr2 15 _ rfl
  simp only [Nat.zero_add] at r0 q0 r1 q1 r2 q2 r3 q3 r4 q4 r5 q5 r6 q6 r7 q7 r8 q8 r9 q9 r10 q10 r11 q11 r12 q12 r13 q13 r14 q14 r15 q15
  simp [results, Tryd.results25, go_sem, rowV, r0, q0, r1, q1, r2, q2, r3, q3, r4, q4, r5, q5, r6, q6, r7, q7, r8, q8, r9, q9, r10, q10, r11, q11, r12, q12, r13, q13, r14, q14, r15, q15]
end Go.Proofs.YtpldnbfbpajbkabDoor
