/- Reports of damage: Check (the program's and the document's answers), by loops over wounds and lost ranges. -/
import Derived.Test.YtfmpbohiahjafaaGreatDoorDmgA
namespace Go.Proofs.YtfmpbohiahjafaaGreatDoor
open Go.RowKit

/-- The first place, or -1. -/
def idxI {α : Type} (p : α → Bool) : List α → Nat → Int
  | [], _ => -1
  | x :: r, i => if p x then (i : Int) else idxI p r (i + 1)
theorem idxI_none {α : Type} (p : α → Bool) : ∀ (l : List α) (i : Nat), (∀ x ∈ l, p x = false) → idxI p l i = -1
  | [], _, _ => rfl
  | x :: r, i, h => by rw [idxI, if_neg (by rw [h x (List.mem_cons_self ..)]; decide), idxI_none p r (i + 1) (fun y hy => h y (List.mem_cons_of_mem _ hy))]
theorem idxI_at {α : Type} (p : α → Bool) (d : α) : ∀ (l : List α) (i j : Nat), j < l.length → (∀ k, k < j → p (l.getD k d) = false) → p (l.getD j d) = true → idxI p l i = ((i + j : Nat) : Int)
  | x :: r, i, 0, _, _, h => by rw [idxI, if_pos (show p x = true from h)]; rfl
  | x :: r, i, j + 1, hj, hn, h => by
    have h0 : p x = false := hn 0 (by omega)
    rw [idxI, if_neg (by rw [h0]; decide), idxI_at p d r (i + 1) j (by simpa using hj) (fun k hk => hn (k + 1) (by omega)) h]
    congr 1; omega
theorem all_false {α : Type} (p : α → Bool) (d : α) (l : List α) (h : ∀ k, k < l.length → p (l.getD k d) = false) : ∀ x ∈ l, p x = false := by
  intro x hx
  obtain ⟨k, hk, rfl⟩ := List.mem_iff_getElem.1 hx
  have := h k hk
  rw [List.getD, List.getElem?_eq_getElem hk] at this
  exact this
theorem idxI_ge {α : Type} (p : α → Bool) : ∀ (l : List α) (i : Nat), decide (0 ≤ idxI p l i) = l.any p
  | [], _ => rfl
  | x :: r, i => by
    rw [idxI, List.any_cons]
    by_cases h : p x = true
    · rw [if_pos h, h]; simp
    · rw [if_neg h, idxI_ge p r (i + 1)]
      have : p x = false := by simpa using h
      rw [this]; rfl
theorem any_not {α : Type} (p : α → Bool) : ∀ (l : List α), l.any (fun x => !p x) = !l.all p
  | [] => rfl
  | x :: r => by rw [List.any_cons, List.all_cons, any_not p r, Bool.not_and]
/-- All wounds' kinds are none below 0 (a byte is none). -/
def KsOk (W : List WD) : Prop := ∀ x ∈ W, 0 ≤ x.k
theorem KsOk.at' {W : List WD} (h : KsOk W) (j : Nat) : 0 ≤ (W.getD j WD.zero).k := by
  rw [List.getD]
  cases hj : W[j]? with
  | none => exact Int.le_refl _
  | some x => exact h x (List.mem_of_getElem? hj)
theorem nextD {j n : Nat} (h : j < n) (h1 : n ≤ maxLen) : wrap64 ((j : Int) + 1) = (j : Int) + 1 := wrap_nx h (Nat.le_refl _) h1
/-- A struct read of a slice. -/
theorem stAt {α : Type} {k : Nat} {enc : α → List Value} {z : α} {w W : World} {b off j : Nat} {L : List α} (hb : Below w.heap.size w W) (hlt : b < w.heap.size) (hc : ∀ j, j < L.length → ∀ q u, (enc (L.getD j z))[q]? = some u → w.cell? ⟨b, off + j * k + q, none⟩ = some u) (hj : j < L.length) :
    ∀ q u, (enc (L.getD j z))[q]? = some u → W.cell? ⟨b, off + j * k + q, none⟩ = some u :=
  fun q u hu => (hb.cell (p := ⟨b, off + j * k + q, none⟩) hlt).trans (hc j hj q u hu)
set_option maxHeartbeats 1000000 in
theorem notWound_any (x : WD) (h0 : 0 ≤ x.k) (w : World) (hD : DmW w) : Calls Tryz.prog 31 #[.agg x.enc.toArray] w fun e w' => e = .returned (.bool (!wdOk x)) ∧ Below w.heap.size w w' := by
  have hC : ∀ W, Below w.heap.size w W → _ := fun W hb => isWound_any x h0 W (hD.below hb)
  generalize wdOk x = bb at hC ⊢
  obtain ⟨k, id, ix, pl, hl⟩ := x
  unfold WD.enc at hC ⊢
  have HB0 := Lib.hid (below_new w (.cells #[.int .u8 k, .int .i64 id, .int .i64 ix, .int .i64 pl, .bool hl] 42))
  have h5 := new5 w (.int .u8 k) (.int .i64 id) (.int .i64 ix) (.int .i64 pl) (.bool hl) 42
  go_enter Tryz.func31, Tryz.ntmps31
  go_upto_region 1 with fail
  generalize w.alloc (.cells #[.int .u8 k, .int .i64 id, .int .i64 ix, .int .i64 pl, .bool hl] 42) = w1 at h5 HB0 ⊢
  obtain ⟨y0, y1, y2, y3, y4⟩ := h5
  have hC1 := hC w1 HB0.out
  clear hC hD
  go_wp2_with (go_at_call 32; (with_reducible refine hC1.mono ?_); rintro e w2 ⟨rfl, hb2⟩; have HB2 := Lib.hid (HB0.out.trans (hb2.mono HB0.out.size)); clear hb2)
  go_ret
  exact ⟨rfl, HB2.out⟩
set_option maxHeartbeats 2000000 in
theorem idxNotWound_any {L : List WD} {v : Value} {w : World} (hv : WdS w v L) (hK : KsOk L) (hD : DmW w) :
    Calls Tryz.prog 55 #[v, .func (.func 31) #[] #[]] w fun e w' => e = .returned (.int .i64 (idxI (fun x => !wdOk x) L 0)) ∧ Below w.heap.size w w' := by
  have HPJ : Hid (∀ (j : Nat) W, Below w.heap.size w W → _) := Lib.hid (fun j W hb => notWound_any (L.getD j WD.zero) (hK.at' j) W (hD.below hb))
  obtain ⟨A, cap, rfl, hc1, hc2, hc3⟩ := hv
  have HC3 := Lib.hid hc3
  clear hc3 hD hK
  go_enter Tryz.func55, Tryz.ntmps55
  go_wp2
  go_loopw [8] (fun ix wr => ∃ (j : Nat), j ≤ L.length ∧ ix = .int .i64 (j : Int) ∧ (∀ k, k < j → (fun x => !wdOk x) (L.getD k WD.zero) = false) ∧ Below w.heap.size w wr) (fun ix _ => L.length - (intOf ix).toNat)
  case atStart => exact ⟨0, Nat.zero_le _, rfl, (fun i h => absurd h (by omega)), Below.refl _ _⟩
  case round =>
    obtain ⟨j, hj, rfl, hp, hB⟩ := hrel
    have HB := Lib.hid hB
    have HP := Lib.hid hp
    clear hB hp
    by_cases hlt : j < L.length
    · obtain ⟨b, off, rfl, hb, hcell⟩ := HC3.out.resolve_left (by intro e; rw [e] at hlt; simp at hlt)
      have hq := stAt (k := 5) HB.out hb hcell hlt
      have hw1 := wrap_nx hlt hc1 hc2
      have hPj := HPJ.out j wr HB.out
      have HNX : Hid ((!wdOk (L.getD j WD.zero)) = false → ∀ k, k < j + 1 → (fun x => !wdOk x) (L.getD k WD.zero) = false) := Lib.hid (fun h k hk => by
        by_cases e : k = j
        · rw [e]; exact h
        · exact HP.out k (by omega))
      have HAT : Hid ((!wdOk (L.getD j WD.zero)) = true → idxI (fun x => !wdOk x) L 0 = (j : Int)) := Lib.hid (fun h => by
        rw [idxI_at (fun x => !wdOk x) WD.zero L 0 j hlt HP.out h]; congr 1; omega)
      clear hcell hb
      generalize hbb : (!wdOk (L.getD j WD.zero)) = bb at hPj HNX HAT
      clear hbb
      generalize L.getD j WD.zero = x at hq hPj
      obtain ⟨k, id, ix, pl, hl⟩ := x
      unfold WD.enc at hPj
      dsimp only at hPj
      have y0 : wr.cell? ⟨b, off + j * 5, none⟩ = some (.int .u8 k) := hq 0 _ rfl
      have y1 : wr.cell? ⟨b, off + j * 5 + 1, none⟩ = some (.int .i64 id) := hq 1 _ rfl
      have y2 : wr.cell? ⟨b, off + j * 5 + 2, none⟩ = some (.int .i64 ix) := hq 2 _ rfl
      have y3 : wr.cell? ⟨b, off + j * 5 + 3, none⟩ = some (.int .i64 pl) := hq 3 _ rfl
      have y4 : wr.cell? ⟨b, off + j * 5 + 4, none⟩ = some (.bool hl) := hq 4 _ rfl
      clear hq
      cases bb
      · have HN := Lib.hid (HNX.out rfl)
        clear HNX HAT
        go_wp2_with (go_at_call 31; (with_reducible refine hPj.mono ?_); rintro e w2 ⟨rfl, hb2⟩; have HB2 := Lib.hid (HB.out.trans (hb2.mono HB.out.size)); clear hb2)
        rw [hw1]
        clear hw1
        go_roundw
        case rel => exact ⟨j + 1, by omega, by go_num, HN.out, HB2.out⟩
        case measure => simp [intOf]; omega
      · have HA := Lib.hid (HAT.out rfl)
        clear HNX HAT
        go_wp2_with (go_at_call 31; (with_reducible refine hPj.mono ?_); rintro e w2 ⟨rfl, hb2⟩; have HB2 := Lib.hid (HB.out.trans (hb2.mono HB.out.size)); clear hb2)
        go_ret
        exact ⟨by rw [HA.out]; rfl, HB2.out⟩
    · obtain rfl : j = L.length := by omega
      have HF : Hid (idxI (fun x => !wdOk x) L 0 = -1) := Lib.hid (idxI_none _ L 0 (all_false _ WD.zero L HP.out))
      go_wp2
      go_ret
      exact ⟨by rw [HF.out]; rfl, HB.out⟩
theorem contWound_any {L : List WD} {v : Value} {w : World} (hv : WdS w v L) (hK : KsOk L) (hD : DmW w) :
    Calls Tryz.prog 35 #[v, .func (.func 31) #[] #[]] w fun e w' => e = .returned (.bool (!L.all wdOk)) ∧ Below w.heap.size w w' := by
  have hI := idxNotWound_any hv hK hD
  have hG := idxI_ge (fun x => !wdOk x) L 0
  generalize idxI (fun x => !wdOk x) L 0 = z at hI hG
  rw [← any_not, ← hG]
  obtain ⟨A, cap, rfl⟩ := hv.form
  clear hG hv hD hK
  go_enter Tryz.func35, Tryz.ntmps35
  go_wp2_with (go_at_call 55; with_reducible refine hI.mono ?_; rintro e w2 ⟨rfl, hb2⟩)
  go_ret
  exact ⟨rfl, hb2⟩
set_option maxHeartbeats 1000000 in
theorem notLost_any (x : LO) (w : World) : Calls Tryz.prog 33 #[.agg x.enc.toArray] w fun e w' => e = .returned (.bool (!loOk x)) ∧ Below w.heap.size w w' := by
  have hC : ∀ W, Below w.heap.size w W → _ := fun W hb => isLost_any x W 
  generalize loOk x = bb at hC ⊢
  obtain ⟨c, f, t⟩ := x
  unfold LO.enc at hC ⊢
  have HB0 := Lib.hid (below_new w (.cells #[.int .i64 c, .int .i64 f, .int .i64 t] 46))
  have h5 := new3 w (.int .i64 c) (.int .i64 f) (.int .i64 t) 46
  go_enter Tryz.func33, Tryz.ntmps33
  go_upto_region 1 with fail
  generalize w.alloc (.cells #[.int .i64 c, .int .i64 f, .int .i64 t] 46) = w1 at h5 HB0 ⊢
  obtain ⟨y0, y1, y2⟩ := h5
  have hC1 := hC w1 HB0.out
  clear hC
  go_wp2_with (go_at_call 34; (with_reducible refine hC1.mono ?_); rintro e w2 ⟨rfl, hb2⟩; have HB2 := Lib.hid (HB0.out.trans (hb2.mono HB0.out.size)); clear hb2)
  go_ret
  exact ⟨rfl, HB2.out⟩
set_option maxHeartbeats 2000000 in
theorem idxNotLost_any {L : List LO} {v : Value} {w : World} (hv : LoS w v L) :
    Calls Tryz.prog 56 #[v, .func (.func 33) #[] #[]] w fun e w' => e = .returned (.int .i64 (idxI (fun x => !loOk x) L 0)) ∧ Below w.heap.size w w' := by
  have HPJ : Hid (∀ (j : Nat) W, Below w.heap.size w W → _) := Lib.hid (fun j W hb => notLost_any (L.getD j LO.zero) W )
  obtain ⟨A, cap, rfl, hc1, hc2, hc3⟩ := hv
  have HC3 := Lib.hid hc3
  clear hc3
  go_enter Tryz.func56, Tryz.ntmps56
  go_wp2
  go_loopw [8] (fun ix wr => ∃ (j : Nat), j ≤ L.length ∧ ix = .int .i64 (j : Int) ∧ (∀ k, k < j → (fun x => !loOk x) (L.getD k LO.zero) = false) ∧ Below w.heap.size w wr) (fun ix _ => L.length - (intOf ix).toNat)
  case atStart => exact ⟨0, Nat.zero_le _, rfl, (fun i h => absurd h (by omega)), Below.refl _ _⟩
  case round =>
    obtain ⟨j, hj, rfl, hp, hB⟩ := hrel
    have HB := Lib.hid hB
    have HP := Lib.hid hp
    clear hB hp
    by_cases hlt : j < L.length
    · obtain ⟨b, off, rfl, hb, hcell⟩ := HC3.out.resolve_left (by intro e; rw [e] at hlt; simp at hlt)
      have hq := stAt (k := 3) HB.out hb hcell hlt
      have hw1 := wrap_nx hlt hc1 hc2
      have hPj := HPJ.out j wr HB.out
      have HNX : Hid ((!loOk (L.getD j LO.zero)) = false → ∀ k, k < j + 1 → (fun x => !loOk x) (L.getD k LO.zero) = false) := Lib.hid (fun h k hk => by
        by_cases e : k = j
        · rw [e]; exact h
        · exact HP.out k (by omega))
      have HAT : Hid ((!loOk (L.getD j LO.zero)) = true → idxI (fun x => !loOk x) L 0 = (j : Int)) := Lib.hid (fun h => by
        rw [idxI_at (fun x => !loOk x) LO.zero L 0 j hlt HP.out h]; congr 1; omega)
      clear hcell hb
      generalize hbb : (!loOk (L.getD j LO.zero)) = bb at hPj HNX HAT
      clear hbb
      generalize L.getD j LO.zero = x at hq hPj
      obtain ⟨c, f, t⟩ := x
      unfold LO.enc at hPj
      dsimp only at hPj
      have y0 : wr.cell? ⟨b, off + j * 3, none⟩ = some (.int .i64 c) := hq 0 _ rfl
      have y1 : wr.cell? ⟨b, off + j * 3 + 1, none⟩ = some (.int .i64 f) := hq 1 _ rfl
      have y2 : wr.cell? ⟨b, off + j * 3 + 2, none⟩ = some (.int .i64 t) := hq 2 _ rfl
      clear hq
      cases bb
      · have HN := Lib.hid (HNX.out rfl)
        clear HNX HAT
        go_wp2_with (go_at_call 33; (with_reducible refine hPj.mono ?_); rintro e w2 ⟨rfl, hb2⟩; have HB2 := Lib.hid (HB.out.trans (hb2.mono HB.out.size)); clear hb2)
        rw [hw1]
        clear hw1
        go_roundw
        case rel => exact ⟨j + 1, by omega, by go_num, HN.out, HB2.out⟩
        case measure => simp [intOf]; omega
      · have HA := Lib.hid (HAT.out rfl)
        clear HNX HAT
        go_wp2_with (go_at_call 33; (with_reducible refine hPj.mono ?_); rintro e w2 ⟨rfl, hb2⟩; have HB2 := Lib.hid (HB.out.trans (hb2.mono HB.out.size)); clear hb2)
        go_ret
        exact ⟨by rw [HA.out]; rfl, HB2.out⟩
    · obtain rfl : j = L.length := by omega
      have HF : Hid (idxI (fun x => !loOk x) L 0 = -1) := Lib.hid (idxI_none _ L 0 (all_false _ LO.zero L HP.out))
      go_wp2
      go_ret
      exact ⟨by rw [HF.out]; rfl, HB.out⟩
theorem contLost_any {L : List LO} {v : Value} {w : World} (hv : LoS w v L) :
    Calls Tryz.prog 36 #[v, .func (.func 33) #[] #[]] w fun e w' => e = .returned (.bool (!L.all loOk)) ∧ Below w.heap.size w w' := by
  have hI := idxNotLost_any hv
  have hG := idxI_ge (fun x => !loOk x) L 0
  generalize idxI (fun x => !loOk x) L 0 = z at hI hG
  rw [← any_not, ← hG]
  obtain ⟨A, cap, rfl⟩ := hv.form
  clear hG hv
  go_enter Tryz.func36, Tryz.ntmps36
  go_wp2_with (go_at_call 56; with_reducible refine hI.mono ?_; rintro e w2 ⟨rfl, hb2⟩)
  go_ret
  exact ⟨rfl, hb2⟩
theorem cell2 (w : World) (a b : Value) (t : TypeId) : (w.alloc (.cells #[a, b] t)).cell? ⟨w.heap.size, 0, none⟩ = some a ∧ (w.alloc (.cells #[a, b] t)).cell? ⟨w.heap.size, 1, none⟩ = some b := by
  have g := heap_alloc_new w (.cells #[a, b] t)
  refine ⟨?_, ?_⟩ <;> (rw [cell_of_row _ _ _ _ _ (0, 0) g]; rfl)
/-- A box of two that is not written any more. -/
theorem box2 (w : World) (a b : Value) (t : TypeId) : Hid (∀ W, Below (w.heap.size + 1) (w.alloc (.cells #[a, b] t)) W → W.cell? ⟨w.heap.size, 0, none⟩ = some a ∧ W.cell? ⟨w.heap.size, 1, none⟩ = some b) :=
  Lib.hid fun W hb => ⟨(hb.cell (p := ⟨w.heap.size, 0, none⟩) (by show w.heap.size < _; omega)).trans (cell2 w a b t).1, (hb.cell (p := ⟨w.heap.size, 1, none⟩) (by show w.heap.size < _; omega)).trans (cell2 w a b t).2⟩
set_option maxHeartbeats 4000000 in
/-- The program's Check. -/
theorem dmgCheck_any {w : World} {u v : Value} {W : List WD} {L : List LO} (hu : WdS w u W) (hv : LoS w v L) (hK : KsOk W) (hD : DmW w) :
    Calls Tryz.prog 12 #[.agg #[u, v]] w fun e w' => e = .returned (.int .i64 (ckE W L)) ∧ Below w.heap.size w w' := by
  obtain ⟨r, hr⟩ : ∃ r, r = ckE W L := ⟨_, rfl⟩
  rw [← hr]
  unfold ckE ckL at hr
  have HCW : Hid (∀ V, Below w.heap.size w V → _) := Lib.hid (fun V hb => contWound_any (hu.below hb (Nat.le_refl _)) hK (hD.below hb))
  have HCL : Hid (∀ V, Below w.heap.size w V → _) := Lib.hid (fun V hb => contLost_any (hv.below hb (Nat.le_refl _)))
  obtain ⟨A, ca, rfl, ha1, ha2, _⟩ := hu
  obtain ⟨B, cb, rfl, hb1, hb2, _⟩ := hv
  have HM : Hid (W.length ≤ maxLen ∧ L.length ≤ maxLen) := Lib.hid ⟨by omega, by omega⟩
  obtain ⟨n, hn⟩ : ∃ n, n = W.length := ⟨_, rfl⟩
  obtain ⟨m, hm⟩ : ∃ m, m = L.length := ⟨_, rfl⟩
  rw [← hn, ← hm] at HM hr
  have HCW1 := HCW
  have HCL1 := HCL
  rw [← hn] at HCW
  rw [← hm] at HCL
  rw [← hn, ← hm]
  clear HCW1 HCL1 ha1 ha2 hb1 hb2 hD hK
  generalize W.all wdOk = bw at HCW hr
  generalize L.all loOk = bl at HCL hr
  clear hn hm
  have HX := box2 w (.slice A n ca) (.slice B m cb) 25
  have HB0 := Lib.hid (below_new w (.cells #[.slice A n ca, .slice B m cb] 25))
  go_enter Tryz.func12, Tryz.ntmps12
  go_upto_region 1 with fail
  obtain ⟨q, hq⟩ : ∃ q, q = w.heap.size := ⟨_, rfl⟩
  have HQ : Hid (w.heap.size < (w.alloc (.cells #[.slice A n ca, .slice B m cb] 25)).heap.size ∧ w.heap.size + 1 = (w.alloc (.cells #[.slice A n ca, .slice B m cb] 25)).heap.size) := Lib.hid ⟨by simp, by simp⟩
  generalize w.alloc (.cells #[.slice A n ca, .slice B m cb] 25) = w1 at HX HB0 HQ ⊢
  rw [HQ.out.2] at HX
  obtain ⟨y0, y1⟩ := HX.out w1 (Below.refl _ _)
  by_cases h1 : 16384 < n
  · have d1 : decide ((16384 : Int) < (n : Int)) = true := decide_eq_true (by omega)
    obtain rfl : r = 7 := by rw [hr, decide_eq_false (by omega)]; rfl
    clear hr h1
    go_wp2
    go_ret
    exact ⟨rfl, HB0.out⟩
  have d1 : decide ((16384 : Int) < (n : Int)) = false := decide_eq_false (by omega)
  have hw : wrap64 (16384 - (n : Int)) = 16384 - (n : Int) := by unfold wrap64; omega
  have hw2 : IntKind.i64.wrap (16384 - (n : Int)) = 16384 - (n : Int) := by rw [IntKind.wrap_i64]; unfold wrap64 at hw; omega
  by_cases h2 : 16384 - (n : Int) < (m : Int)
  · have d2 : decide ((16384 : Int) - (n : Int) < (m : Int)) = true := decide_eq_true h2
    obtain rfl : r = 7 := by rw [hr, decide_eq_false (by omega)]; rfl
    clear hr h1 h2
    go_wp2
    go_ret
    exact ⟨rfl, HB0.out⟩
  have d2 : decide ((16384 : Int) - (n : Int) < (m : Int)) = false := decide_eq_false h2
  rw [decide_eq_true (by omega : n + m ≤ 16384), if_neg (by simp)] at hr
  clear h1 h2
  have hCW := HCW.out w1 HB0.out
  cases bw
  · obtain rfl : r = 2 := by rw [hr]; rfl
    clear hr
    go_wp2_with (go_at_call 35; (with_reducible refine hCW.mono ?_); rintro e w2 ⟨rfl, hb2⟩; have HB2 := Lib.hid (HB0.out.trans (hb2.mono HB0.out.size)); clear hb2)
    go_ret
    exact ⟨rfl, HB2.out⟩
  · cases bl
    · obtain rfl : r = 2 := by rw [hr]; rfl
      clear hr
      go_wp2_with (first
        | (go_at_call 35; (with_reducible refine hCW.mono ?_); rintro e w2 ⟨rfl, hb2⟩; have HB2 := Lib.hid (HB0.out.trans (hb2.mono HB0.out.size)); have hCL := HCL.out w2 HB2.out; obtain ⟨y2, y3⟩ := HX.out w2 hb2; clear hb2)
        | (go_at_call 36; (with_reducible refine hCL.mono ?_); rintro e w3 ⟨rfl, hb3⟩; have HB3 := Lib.hid (HB2.out.trans (hb3.mono HB2.out.size)); clear hb3))
      go_ret
      exact ⟨rfl, HB3.out⟩
    · obtain rfl : r = 0 := by rw [hr]; rfl
      clear hr
      go_wp2_with (first
        | (go_at_call 35; (with_reducible refine hCW.mono ?_); rintro e w2 ⟨rfl, hb2⟩; have HB2 := Lib.hid (HB0.out.trans (hb2.mono HB0.out.size)); have hCL := HCL.out w2 HB2.out; obtain ⟨y2, y3⟩ := HX.out w2 hb2; clear hb2)
        | (go_at_call 36; (with_reducible refine hCL.mono ?_); rintro e w3 ⟨rfl, hb3⟩; have HB3 := Lib.hid (HB2.out.trans (hb3.mono HB2.out.size)); clear hb3))
      go_ret
      exact ⟨rfl, HB3.out⟩
end Go.Proofs.YtfmpbohiahjafaaGreatDoor
