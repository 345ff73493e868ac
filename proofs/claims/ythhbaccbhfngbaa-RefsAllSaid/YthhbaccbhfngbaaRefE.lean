/- References: Dead. -/
import Derived.Test.YthhbaccbhfngbaaMc04
import Derived.Test.YthhbaccbhfngbaaMc01
import Derived.Test.YthhbaccbhfngbaaShelf
namespace Go.Proofs.Ythhbaccbhfngbaa
open Go.RowKit Go.Maps Go.Sort Go.Shelf Go.Lib

/-- A number of 64 bits. -/
structure I64 where
  v : Int
  h : -9223372036854775808 ≤ v ∧ v ≤ 9223372036854775807
instance : Inhabited I64 := ⟨⟨0, by omega⟩⟩
def encJ (x : I64) : Value := .int .i64 x.v
theorem encJ_one : OneCell encJ := fun _ => rfl
def toJ (S : List Int) (h : ∀ x ∈ S, -9223372036854775808 ≤ x ∧ x ≤ 9223372036854775807) : List I64 := S.pmap I64.mk h
theorem toJ_map (S : List Int) (h : ∀ x ∈ S, -9223372036854775808 ≤ x ∧ x ≤ 9223372036854775807) : (toJ S h).map I64.v = S := by unfold toJ; rw [List.map_pmap]; simp
theorem toJ_len (S : List Int) (h : ∀ x ∈ S, -9223372036854775808 ≤ x ∧ x ≤ 9223372036854775807) : (toJ S h).length = S.length := by unfold toJ; simp
theorem grownBy_sorted_g {α : Type} [Inhabited α] {enc : α → Value} {w : World} {g n : Nat} {os : Array Obj} (d : Array α) : w.grownBy (grow (putRow enc (Sort.ahead w n) g 0 d) os) (some g) := by
  refine ⟨rfl, rfl, rfl, by simp, fun k hk hne => ?_⟩
  rw [heap_grow_old _ _ (by simpa using hk)]
  have : g ≠ k := fun e => hne (by rw [e])
  simp [putRow, mapBlock, Sort.ahead, Array.getElem?_modify, this]
/-- What the closure of Dead answers. -/
theorem deadFn_any {W : World} {B m : Nat} {l : List Int} (hc : W.cell? ⟨B, 0, none⟩ = some (.map (some m))) (hm : CMap W m l) (x : I64) :
    FnGives Try.prog 29 #[.pointer (some ⟨B, 0, none⟩)] #[encJ x] (.bool (decide (0 < l.count x.v))) W := by
  show Calls Try.prog 29 #[.int .i64 x.v, .pointer (some ⟨B, 0, none⟩)] W _
  obtain ⟨D, ho, hh, hv⟩ := hm
  have HLK : Hid (∀ z : Int, D.atKey (kI x.v) (.lit (.int .i64 0)) = .lit (.int .i64 z) → z = (l.count x.v : Nat)) := Lib.hid (fun z hz => CMap.look hh hv hz)
  have HKY := Lib.hid (keyI x.h)
  have HZI := Lib.hid (zeroI W)
  generalize l.count x.v = c at HLK ⊢
  generalize x.v = y at HLK HKY ⊢
  clear hh hv
  go_enter Try.func29, Try.ntmps29
  go_wp2_with (at_lookup; refine wpList_lookup_own_int _ rfl _ _ 65 rfl 3 3 .i64 intKP Try.underlying65 Try.underlying3 HZI.out m (Maps.size D) D rfl ho _ _ rfl HKY.out ?_; intro z hz _; obtain rfl := HLK.out z hz; clear hz)
  go_ret
  exact ⟨rfl, 0, rfl⟩
set_option maxHeartbeats 1000000 in
set_option maxRecDepth 100000 in
theorem cloneI_any {w : World} {v : Value} {S : List Int} (hv : IdxS w v S) (hS : S.length ≤ 100000) :
    Calls Try.prog 31 #[v] w fun e w' => ∃ v', e = .returned v' ∧ w'.ownsRow w.heap.size 3 1 v' S.length (S.flatMap encI) ∧ Below w.heap.size w w' := by
  obtain ⟨A, cap, rfl, hc1, hc2, hc3⟩ := hv
  obtain ⟨i0, hi, hz0, hz1, hz2⟩ := intInfR
  have q0 : ∀ (w : World) (a : Option Addr) (n c n' c' : Nat), (binOp .eql 29 (.slice a n c) (.slice none n' c')).run Try.prog w = .ok (.bool a.isNone) w := fun w a n c n' c' => Lib.run_eql_slice_nil w _ _ a n c n' c' Try.underlying29
  cases A with
  | none =>
    have h0 : S = [] := by
      rcases hc3 with h | ⟨b, off, h, _⟩
      · exact h
      · cases h
    subst h0
    clear hc3 hS
    go_enter Try.func31, Try.ntmps31
    go_wp2
    go_ret
    exact ⟨_, rfl, World.ownsRow_nil _ _ _ _, Below.refl _ _⟩
  | some ad =>
    have hb := below_new w (.cells #[] 3)
    have hsrc : SrcS encI (w.alloc (.cells #[] 3)) (.slice (some ad) S.length cap) S := .inr ⟨ad, cap, rfl, fun j u hu => by
      rcases hc3 with rfl | ⟨b, off, h, hlt, hc⟩
      · simp at hu
      · injection h with h
        subst h
        have hj : j < S.length := by have := (List.getElem?_eq_some_iff.1 hu).1; rw [flatI, List.length_map] at this; exact this
        rw [flatI_at hj] at hu
        have e : ((⟨b, off, none⟩ : Addr).add j) = ⟨b, off + j, none⟩ := by unfold Addr.add; split <;> simp_all
        rw [e, ← hu]
        exact (hb.cell (p := ⟨b, off + j, none⟩) hlt).trans (hc j hj)⟩
    have hE : (w.alloc (.cells #[] 3)).ownsRow w.heap.size 3 1 (.slice (some ⟨w.heap.size, 0, none⟩) 0 0) ([] : List Int).length (([] : List Int).flatMap encI) := ⟨by simp, .inr ⟨w.heap.size, 0, #[], rfl, Nat.le_refl _, heap_alloc_new w _, Nat.le_refl _, Nat.zero_le _, by simp, by simp⟩⟩
    obtain ⟨v1, w1, hr, ho, hb1, -⟩ := app_src Try.underlying29 hi hz0 hz1 hz2 rfl (by decide) encI_len encI_one hE hsrc (by unfold maxLen; simp; omega) (by simp; omega) (by simp)
    rw [List.nil_append] at ho
    have HR := Lib.hid hr
    have HO := Lib.hid ho
    have HB := Lib.hid (hb.trans hb1)
    obtain ⟨vA, vc, rfl, -, -⟩ := ownS_form ho
    clear hc3 hS hsrc hE hr ho hb1 hb
    go_enter Try.func31, Try.ntmps31
    go_wp2_with (at_builtin; (refine Lib.wpList_append_run _ rfl (.tmp 5) (.tmp 6) 29 29 rfl _ _ rfl rfl _ _ HR.out ?_))
    go_ret
    exact ⟨_, rfl, HO.out, HB.out⟩
/-- DeleteFunc of nil. -/
theorem delNil_any (g : Nat) (lb : Array Value) (w : World) :
    Calls Try.prog 30 #[.slice none 0 0, .func (.func g) #[] lb] w fun e w' => e = .returned (.slice none 0 0) ∧ w' = w := by
  have hI : Calls Try.prog 41 #[.slice none 0 0, .func (.func g) #[] lb] w fun e w' => e = .returned (.int .i64 (-1)) ∧ w' = w := by
    go_enter Try.func41, Try.ntmps41
    go_wp2
    go_loopw [8] (fun ix wr => ix = .int .i64 0 ∧ wr = w) (fun _ _ => 0)
    case atStart => exact ⟨rfl, rfl⟩
    case round =>
      obtain ⟨rfl, rfl⟩ := hrel
      go_wp2
      go_ret
      exact ⟨rfl, rfl⟩
  go_enter Try.func30, Try.ntmps30
  go_wp2_with (go_at_call 41; (with_reducible refine hI.mono ?_); rintro e w' ⟨rfl, rfl⟩)
  go_ret
  exact ⟨rfl, rfl⟩
theorem toJ_filter (L : List RF) : ∀ (S : List Int) (h : ∀ x ∈ S, -9223372036854775808 ≤ x ∧ x ≤ 9223372036854775807), (((toJ S h).filter (fun x => !decide (0 < (strOf L).count x.v))).map I64.v) = deadOf L S
  | [], _ => rfl
  | x :: S, h => by
    have ih := toJ_filter L S (fun y hy => h y (List.mem_cons_of_mem _ hy))
    have e : toJ (x :: S) h = ⟨x, h x (List.mem_cons_self ..)⟩ :: toJ S (fun y hy => h y (List.mem_cons_of_mem _ hy)) := rfl
    rw [e]
    unfold deadOf
    by_cases hc : liveOf x L = 0
    · rw [List.filter_cons_of_pos (by show (!decide (0 < (strOf L).count x)) = true; rw [strOf_count, hc]; rfl), List.filter_cons_of_pos (by simpa using hc), List.map_cons, ih]; rfl
    · rw [List.filter_cons_of_neg (by show ¬ (!decide (0 < (strOf L).count x)) = true; rw [strOf_count]; simp; omega), List.filter_cons_of_neg (by simpa using hc), ih]; rfl
/-- DeleteFunc of what is there. -/
theorem delI_row {w : World} {base g cap B m : Nat} {L : List RF} {S : List Int} (hwf : ∀ x ∈ S, -9223372036854775808 ≤ x ∧ x ≤ 9223372036854775807) (ho : w.ownsRow base 3 1 (.slice (some ⟨g, 0, none⟩) S.length cap) S.length (S.flatMap encI))
    (hB : B < w.heap.size) (hBg : B ≠ g) (hc : w.cell? ⟨B, 0, none⟩ = some (.map (some m))) (hm : CMap w m (strOf L)) (hmg : m ≠ g) (hbase : base ≤ w.heap.size) :
    Calls Try.prog 30 #[.slice (some ⟨g, 0, none⟩) S.length cap, .func (.func 29) #[] #[.pointer (some ⟨B, 0, none⟩)]] w fun e w' => e = .returned (.slice (some ⟨g, 0, none⟩) (deadOf L S).length cap) ∧ IdxS w' (.slice (some ⟨g, 0, none⟩) (deadOf L S).length cap) (deadOf L S) ∧ Below base w w' := by
  have hrow := ho
  rw [flatI] at hrow
  obtain ⟨q1, q2, q3, _, cur, hcur, c1', c2', c3'⟩ := holds_own (L := S) hrow
  obtain ⟨d, hd⟩ : ∃ d : Array I64, d = (toJ S hwf).toArray := ⟨_, rfl⟩
  have hds : d.size = S.length := by rw [hd]; simp [toJ_len]
  have hdj : ∀ j, j < S.length → (d[j]!).v = S.getD j 0 := fun j hj => by
    rw [hd, getElem!_pos _ j (by simp [toJ_len]; exact hj)]
    have h1 : ((toJ S hwf).map I64.v)[j]? = S[j]? := by rw [toJ_map]
    rw [List.getElem?_map, List.getElem?_eq_getElem (by rw [toJ_len]; exact hj), List.getElem?_eq_getElem hj] at h1
    injection h1 with h1
    rw [List.getD, List.getElem?_eq_getElem hj]
    simpa using h1
  have hH : Holds encJ w g 0 d := fun j hj => by
    have hj' : j < S.length := by rw [← hds]; exact hj
    have h := q1 j (by simpa using hj')
    refine ⟨?_, h.2⟩
    rw [h.1]
    unfold encJ
    rw [hdj j hj', List.getD, List.getElem?_eq_getElem hj']
    simp [getElem!_pos, hj']
  have eg : ∀ args w, (callFunc 29 args).run Try.prog w = .ok (.enter 29 args) w := enters_of Try.func29 (by kernel_rfl) rfl
  have hp0 : ∀ (W : World) (x : I64), Ap (fun k => k = g) w W → FnGives Try.prog 29 #[.pointer (some ⟨B, 0, none⟩)] #[encJ x] (.bool (decide (0 < (strOf L).count x.v))) W := fun W x ha =>
    deadFn_any ((ha.cell hB hBg 0).trans hc) (hm.ap ha hmg) x
  have hcon := AnyE.slices_DeleteFunc Try.delI encJ encJ_one (fun x => decide (0 < (strOf L).count x.v)) 29 #[.pointer (some ⟨B, 0, none⟩)] eg ⟨0, by omega⟩ zeroI g 0 cap d w
    (fun W x hb => hp0 W x (Ap.of_below hb)) (fun n os dk x _ => hp0 _ x (Ap.grown (S := fun k => k = g) (Ap.refl w) (grownBy_sorted_g dk) (fun k hk => by injection hk with hk; exact .inl hk.symm))) hH (by rw [hds]; unfold maxLen at c2'; omega) (by rw [hds]; exact c1')
  change Calls _ 30 _ _ _ at hcon
  have hfl : d.toList.filter (fun x => !decide (0 < (strOf L).count x.v)) = (toJ S hwf).filter (fun x => !decide (0 < (strOf L).count x.v)) := by rw [hd]
  have hfm := toJ_filter L S hwf
  rw [hfl, hds] at hcon
  generalize (toJ S hwf).filter (fun x => !decide (0 < (strOf L).count x.v)) = F at hcon hfm
  have hFl : F.length = (deadOf L S).length := by rw [← hfm, List.length_map]
  have hle : (deadOf L S).length ≤ S.length := deadOf_le L S
  rw [hFl] at hcon
  refine hcon.mono ?_
  rintro e w' ⟨rfl, q, rfl⟩
  obtain ⟨Z, hZ⟩ : ∃ Z, Z = (F ++ List.replicate (S.length - (deadOf L S).length) (⟨0, by omega⟩ : I64)).toArray := ⟨_, rfl⟩
  rw [← hZ]
  have hZs : Z.size = d.size := by rw [hZ, hds]; simp [hFl]; omega
  have hH2 : Holds encJ (Sort.ahead w q) g 0 d := fun j hj => hH j hj
  refine ⟨rfl, ⟨_, cap, rfl, Nat.le_trans hle c1', c2', ?_⟩, ?_⟩
  · by_cases h0 : deadOf L S = []
    · exact .inl h0
    · refine .inr ⟨g, 0, rfl, by rw [size_putRow]; exact q2, fun j hj => ?_⟩
      rw [cell?_putRow encJ (Sort.ahead w q) g 0 d Z hH2 hZs j (by rw [hZs, hds]; omega)]
      have hjF : j < F.length := by rw [hFl]; exact hj
      have h1 : (F.map I64.v)[j]? = (deadOf L S)[j]? := by rw [hfm]
      rw [List.getElem?_map, List.getElem?_eq_getElem hjF, List.getElem?_eq_getElem hj] at h1
      injection h1 with h1
      have h2 : Z[j]! = F[j] := by
        rw [hZ, getElem!_pos _ j (by simp; omega)]
        simp [List.getElem_append_left hjF]
      rw [h2, List.getD, List.getElem?_eq_getElem hj]
      unfold encJ
      rw [h1]; rfl
  · have hg : w.grownBy (putRow encJ (Sort.ahead w q) g 0 Z) (some g) := by
      have h := grownBy_sorted_g (w := w) (n := q) (os := #[]) (g := g) (enc := encJ) Z
      rwa [show grow (putRow encJ (Sort.ahead w q) g 0 Z) #[] = putRow encJ (Sort.ahead w q) g 0 Z by unfold grow; simp; rfl] at h
    exact (Below.refl base w).grown hg hbase (fun k hk => by injection hk with hk; rw [← hk]; exact q3)
set_option maxHeartbeats 2000000 in
set_option maxRecDepth 100000 in
theorem refDead_any {w : World} {v u : Value} {L : List RF} {S : List Int} (hv : RefS w v L) (hwf : RfWf L) (hLn : L.length ≤ 10000) (hu : IdxS w u S) (hsw : ∀ x ∈ S, -9223372036854775808 ≤ x ∧ x ≤ 9223372036854775807) (hS : S.length ≤ 100000) :
    Calls Try.prog 18 #[v, u] w fun e w' => ∃ x, e = .returned x ∧ IdxS w' x (deadOf L S) ∧ Below w.heap.size w w' := by
  have hLv := livesMap_any hv hwf hLn
  obtain ⟨A, c1, rfl, -⟩ := hv
  have HU := Lib.hid hu
  obtain ⟨UA, uc, rfl, -⟩ := hu
  clear hLn hwf
  go_enter Try.func18, Try.ntmps18
  go_upto_region 3 with (go_at_call 28; (with_reducible refine hLv.mono ?_); rintro e w1 ⟨rfl, hcm, hb1⟩; have HB1 := Lib.hid hb1; have HCM := Lib.hid hcm; clear hb1 hcm)
  obtain ⟨W2, hW2⟩ : ∃ W2, W2 = w1.alloc (.cells #[.map (some w.heap.size)] 65) := ⟨_, rfl⟩
  rw [← hW2]
  have hbn : Below w1.heap.size w1 W2 := by rw [hW2]; exact below_new w1 _
  have hh := heap_alloc_new w1 (.cells #[.map (some w.heap.size)] 65)
  rw [← hW2] at hh
  have hs2 : W2.heap.size = w1.heap.size + 1 := by rw [hW2]; simp
  have hb2 : Below w.heap.size w W2 := HB1.out.trans (hbn.mono HB1.out.size)
  have hCl := cloneI_any (HU.out.below hb2 (Nat.le_refl _)) hS
  have HDN := Lib.hid (fun W => delNil_any 29 #[.pointer (some ⟨w1.heap.size, 0, none⟩)] W)
  have HDR : Hid (∀ (W : World) (g cap : Nat), Below W2.heap.size W2 W → W.ownsRow W2.heap.size 3 1 (.slice (some ⟨g, 0, none⟩) S.length cap) S.length (S.flatMap encI) → _) := Lib.hid (fun W g cap hb ho =>
    delI_row (L := L) (B := w1.heap.size) (m := w.heap.size) hsw ho (by have := hb.size; omega) (by have := (World.ownsRow.lt ho g rfl).1; omega) ((hb.cell (p := ⟨w1.heap.size, 0, none⟩) (by show w1.heap.size < _; omega)).trans (by rw [cell_of_row _ _ _ _ _ (0, 0) hh]; rfl)) ((HCM.out.below hbn).below hb) (by have := (World.ownsRow.lt ho g rfl).1; have := HCM.out.lt; omega) hb.size)
  have HB2 := Lib.hid hb2
  clear hW2 hbn hh hs2 hb2 hS
  go_wp2_with (go_at_call 31; (with_reducible refine hCl.mono ?_); rintro e w3 ⟨cv, rfl, hco, hb3⟩; have HCO := Lib.hid hco; have HB3 := Lib.hid hb3; clear hco hb3)
  rcases own_src encI_len HCO.out with ⟨hz, hO⟩ | ⟨g, cap, hz, h1, h2, h3, h4, h5⟩
  · subst hz
    subst hO
    go_wp2_with (go_at_call 30; (with_reducible refine (HDN.out _).mono ?_); rintro e w4 ⟨rfl, hw⟩; subst hw)
    go_ret
    exact ⟨_, rfl, ⟨none, 0, rfl, Nat.le_refl _, Nat.zero_le _, .inl rfl⟩, HB2.out.trans (HB3.out.mono HB2.out.size)⟩
  · subst hz
    have hD := HDR.out w3 g cap HB3.out HCO.out
    clear h1 h2 h3 h4 h5
    go_wp2_with (go_at_call 30; (with_reducible refine hD.mono ?_); rintro e w4 ⟨rfl, hi4, hb4⟩; have HI4 := Lib.hid hi4; have HB4 := Lib.hid hb4; clear hi4 hb4)
    go_ret
    exact ⟨_, rfl, HI4.out, (HB2.out.trans (HB3.out.mono HB2.out.size)).trans (HB4.out.mono HB2.out.size)⟩
end Go.Proofs.Ythhbaccbhfngbaa
