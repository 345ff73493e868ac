/- Numbers that a closure tells: slices.AppendSeq, Collect, Sorted of them; slices.Values of a slice of numbers. References: Sparse. -/
import Derived.Test.YthhbaccbhfngbaaMb15
import Derived.Test.YthhbaccbhfngbaaMb11
import Derived.Test.YthhbaccbhfngbaaShelf
import Derived.Test.YthhbaccbhfngbaaMc00
import Derived.RangeFuncBox
import Derived.OwnWalkIn
import Derived.Deep.MidRow
import Derived.Test.YthhbaccbhfngbaaMc02
import Derived.Maps.RangeWalk
namespace Go.Proofs.Ythhbaccbhfngbaa
open Go.RowKit Go.Shelf Go.Sort Go.Maps
attribute [local go_sem] Oper.semAt_some

def idxV (L : List Int) (k : Nat) : Int := L.getD k 0
def encsI (L : List Int) (k : Nat) : Array Value := #[.int .i64 (idxV L k)]
def intV (L : List Int) : List Value := L.map (Value.int .i64)
theorem intV_snoc (L : List Int) (x : Int) : intV (L ++ [x]) = intV L ++ [.int .i64 x] := by unfold intV; rw [List.map_append]; rfl
theorem sq_info : ∃ i, Try.prog.info? 3 = some i ∧ i.zero = some (.int .i64 0) ∧ i.size = 1 ∧ i.bytes = 8 := by
  have e : (Try.prog.info? 3).map (fun i => (i.zero, i.size, i.bytes)) = some (some (.int .i64 0), 1, 8) := by kernel_rfl
  obtain ⟨i, hi, hz⟩ := Option.map_eq_some_iff.1 e
  simp only [Prod.mk.injEq] at hz
  exact ⟨i, hi, hz.1, hz.2.1, hz.2.2⟩
theorem sq_one (x : Int) : ∀ u ∈ ([.int .i64 x] : List Value), u.oneCell' = true := by
  intro u hu
  rw [List.mem_singleton] at hu
  rw [hu]; rfl
/-- What a slice of numbers has, sorted. -/
def sortL (L : List Int) : List Int := L.mergeSort (fun x y => decide (x ≤ y))
theorem sortL_len (L : List Int) : (sortL L).length = L.length := List.length_mergeSort ..
theorem holds_own {w : World} {base g n cap : Nat} {L : List Int} (h : w.ownsRow base 3 1 (.slice (some ⟨g, 0, none⟩) n cap) L.length (intV L)) : Holds (Value.int .i64) w g 0 L.toArray ∧ g < w.heap.size ∧ base ≤ g ∧ n = L.length ∧ ∃ cur, w.heap[g]? = some (.cells cur 3 (0, 0)) ∧ n ≤ cap ∧ cap ≤ maxLen ∧ cur.size = cap * 1 := by
  rcases h.2 with ⟨h0, _⟩ | ⟨g', cap', cur, hv, hb, hh, h1, h2, h3, h4⟩
  · cases h0
  · injection hv with e1 e2 e3
    injection e1 with e1
    injection e1 with e1 _ _
    subst e1 e2 e3
    exact ⟨holds_of_block_i hh (by simpa [intV] using h4), (Array.getElem?_eq_some_iff.1 hh).1, hb, rfl, cur, hh, h1, h2, h3⟩
/-- What slices.Values reads. -/
def RDv (B0 : Nat) (v : Value) (L : List Int) (_ : Nat) (A : World) : Prop := A.cell? ⟨B0, 0, none⟩ = some v ∧ IdxS A v L
end Go.Proofs.Ythhbaccbhfngbaa
namespace Go.Proofs.Ythhbaccbhfngbaa
open Go.RowKit Go.Maps Go.Sort Go.Shelf

theorem rangesR_ap {H : Type} {P : Program} {k : TypeId} {R : Value → Option (DataW H × List MemPlace)} {S : Nat → Prop} {w w' : World} {b r n : Nat} {D : DataW H} {left : Lit → Bool} {cnt : Nat} (h : w.ranges P k R b r n D left cnt) (a : Ap S w w') (hb : ¬ S b) (hr : ¬ S r) : w'.ranges P k R b r n D left cnt := by
  have h1 := h.owns.lt
  have h2 := h.lt
  obtain ⟨es, clock, since, seen, c0, e1, F, e2, e3, e4, r⟩ := h
  exact ⟨es, clock, since, seen, c0, (a.block b h1 hb).trans e1, F, e2, e3, (a.block _ h2 hr).trans e4, r⟩
theorem own_ap2 {S : Nat → Prop} {w w' : World} {base e s n : Nat} {v : Value} {xs : List Value} (h : w.ownsRow base e s v n xs) (a : Ap S w w') (hs : ∀ g, v.ownBlock = some g → ¬ S g) : w'.ownsRow base e s v n xs := by
  refine ⟨h.1, ?_⟩
  rcases h.2 with h0 | ⟨g, cap, cur, hv, hg, hh, r⟩
  · exact .inl h0
  · exact .inr ⟨g, cap, cur, hv, hg, (a.block g (Array.getElem?_eq_some_iff.1 hh).1 (hs g (by rw [hv]; rfl))).trans hh, r⟩
/-- The numbers of which few were met. -/
structure Few (l : List Int) (k : Int) (left : Lit → Bool) (O : List Int) : Prop where
  nd : O.Pairwise (fun x y => x ≠ y)
  mem : ∀ x, x ∈ O ↔ x ∈ l ∧ (l.count x : Int) < k ∧ left (kI x) = false
theorem sameKR {i j : Int} : (kI i).sameKey (kI j) = decide (i = j) := by
  unfold kI
  by_cases e : i = j <;> simp [Lit.sameKey, e]
theorem Few.start {l : List Int} {k : Int} {left : Lit → Bool} (h : ∀ x ∈ l, left (kI x) = true) : Few l k left [] :=
  ⟨List.Pairwise.nil, fun x => ⟨fun h => (by cases h), fun ⟨h1, _, h3⟩ => (by rw [h x h1] at h3; cases h3)⟩⟩
theorem Few.skip {l O : List Int} {k x : Int} {left : Lit → Bool} (h : Few l k left O) (hx : ¬ (l.count x : Int) < k) : Few l k (fun z => left z && !z.sameKey (kI x)) O := by
  refine ⟨h.nd, fun y => ?_⟩
  rw [h.mem, sameKR]
  constructor
  · rintro ⟨h1, h2, h3⟩; exact ⟨h1, h2, by rw [h3]; rfl⟩
  · rintro ⟨h1, h2, h3⟩
    refine ⟨h1, h2, ?_⟩
    have hne : y ≠ x := fun e => hx (by rw [← e]; exact h2)
    rw [decide_eq_false hne] at h3
    simpa using h3
theorem Few.add {l O : List Int} {k x : Int} {left : Lit → Bool} (h : Few l k left O) (hl : left (kI x) = true) (hm : x ∈ l) (hx : (l.count x : Int) < k) : Few l k (fun z => left z && !z.sameKey (kI x)) (O ++ [x]) := by
  refine ⟨List.pairwise_append.2 ⟨h.nd, by simp, fun y hy z hz => ?_⟩, fun y => ?_⟩
  · rw [List.mem_singleton] at hz
    have h3 := ((h.mem y).1 hy).2.2
    intro e
    rw [e, hz, hl] at h3; cases h3
  · rw [List.mem_append, List.mem_singleton, h.mem, sameKR]
    constructor
    · rintro (⟨h1, h2, h3⟩ | rfl)
      · exact ⟨h1, h2, by rw [h3]; rfl⟩
      · exact ⟨hm, hx, by rw [decide_eq_true rfl]; simp⟩
    · rintro ⟨h1, h2, h3⟩
      by_cases e : y = x
      · exact .inr e
      · rw [decide_eq_false e] at h3
        exact .inl ⟨h1, h2, by simpa using h3⟩
theorem nodup_len : ∀ {O l : List Int}, O.Pairwise (fun x y => x ≠ y) → (∀ x ∈ O, x ∈ l) → O.length ≤ l.length
  | [], _, _, _ => Nat.zero_le _
  | x :: r, l, hn, hm => by
    obtain ⟨h1, h2⟩ := List.pairwise_cons.1 hn
    have hx := hm x (List.mem_cons_self ..)
    have h3 := nodup_len (O := r) (l := l.erase x) h2 (fun y hy => (List.mem_erase_of_ne (fun e => h1 y hy e.symm)).2 (hm y (List.mem_cons_of_mem _ hy)))
    rw [List.length_erase_of_mem hx] at h3
    have : 0 < l.length := List.length_pos_of_mem hx
    rw [List.length_cons]; omega
theorem Few.done {L : List RF} {O : List Int} {k : Int} {left : Lit → Bool} (h : Few (strOf L) k left O) (hl : ∀ kl, left kl = false) : sortL O = spU L k := by
  refine ris_eq ?_ (spU_ris L k L).1 (fun x => ?_)
  · have h1 : (sortL O).Pairwise (· ≤ ·) := srtL_pw O
    have h2 : (sortL O).Pairwise (fun x y => x ≠ y) := by
      unfold sortL
      exact (List.mergeSort_perm O _).symm.pairwise h.nd (fun h => Ne.symm h)
    exact (h1.and h2).imp (fun ⟨a, b⟩ => by omega)
  · rw [show x ∈ sortL O ↔ x ∈ O from (List.mergeSort_perm O _).mem_iff, h.mem, strOf_count]
    show _ ↔ x ∈ L.foldl (insK L k) []
    rw [(spU_ris L k L).2]
    constructor
    · rintro ⟨h1, h2, _⟩
      exact ⟨List.mem_map.1 h1, h2⟩
    · rintro ⟨h1, h2⟩
      exact ⟨List.mem_map.2 h1, h2, hl _⟩
set_option maxHeartbeats 4000000 in
set_option maxRecDepth 100000 in
theorem refSparse_any {w : World} {v : Value} {L : List RF} (hv : RefS w v L) (hwf : RfWf L) (hLn : L.length ≤ 10000) (k : Int) :
    Calls Try.prog 20 #[v, .int .i64 k] w fun e w' => ∃ x, e = .returned x ∧ IdxS w' x (spU L k) ∧ Below w.heap.size w w' := by
  have hLv := livesMap_any hv hwf hLn
  obtain ⟨A, c1, rfl, -⟩ := hv
  obtain ⟨i0, hi, hz0, hz1, hz2⟩ := intInfR
  obtain ⟨b, hbb⟩ : ∃ b, b = w.heap.size := ⟨_, rfl⟩
  have HBB := Lib.hid hbb
  have HLN := Lib.hid hLn
  clear hbb hLn hwf
  go_enter Try.func20, Try.ntmps20
  go_wp2_with (first
    | (go_at_call 28; (with_reducible refine hLv.mono ?_); rintro e w1 ⟨rfl, hcm, hb1⟩; have HB1 := Lib.hid hb1; obtain ⟨D, ho, hh, hv⟩ := hcm; have HH := Lib.hid hh; have HV := Lib.hid hv; clear hb1 hh hv)
    | (at_range; refine wpList_range_own _ rfl _ 65 rfl 3 3 intKP Try.underlying65 (plainElem Try.prog 3) w.heap.size (Maps.size D) D rfl ho ?_; intro w2 hrg0 hg0 hs0))
  go_frame
  have hb2 : Below w1.heap.size w1 w2 := ((Ap.refl (S := fun _ => False) w1).grown hg0 (fun k hk => by cases hk)).below (Nat.le_refl _) (fun k hk => hk.elim)
  have HB2 := Lib.hid (HB1.out.trans (hb2.mono HB1.out.size))
  have HRG := Lib.hid hrg0
  have hrl : w1.heap.size < w2.heap.size := hrg0.lt
  have HRL := Lib.hid hrl
  have hml : w.heap.size < w1.heap.size := ho.lt
  have HML := Lib.hid hml
  obtain ⟨r, hr⟩ : ∃ r, r = w1.heap.size := ⟨_, rfl⟩
  rw [← hr] at HRG HRL HML ⊢
  clear ho hg0 hs0 hb2 hrg0 hrl hml hr
  go_loopw [5] (fun vx wr => ∃ (left : Lit → Bool) (cnt : Nat) (z : Value) (O : List Int), z = vx ∧ Few (strOf L) k left O ∧ wr.ownsRow w2.heap.size 3 1 z O.length (O.flatMap encI) ∧ wr.ranges Try.prog 3 (plainElem Try.prog 3) w.heap.size r (Maps.size D) D left cnt ∧ Below w.heap.size w wr ∧ w2.heap.size ≤ wr.heap.size)
    (fun _ wr => wr.rangeLeft w.heap.size r)
  case atStart => exact ⟨_, _, _, [], rfl, Few.start (fun x hx => (HH.out x).2 hx), World.ownsRow_nil _ _ _ _, HRG.out, HB2.out, Nat.le_refl _⟩
  case round =>
    obtain ⟨left, cnt, z, O, rfl, hfew, hown, hrg, hb3, hsz3⟩ := hrel
    have HB3 := Lib.hid hb3
    have HS3 := Lib.hid hsz3
    have HFEW := Lib.hid hfew
    have HOWN := Lib.hid hown
    clear hb3 HRG hfew hown hsz3
    obtain ⟨zA, zc, rfl, -, -⟩ := ownS_form HOWN.out
    have HOL0 : Hid (O.length ≤ 10000) := Lib.hid (by
      have h1 := nodup_len HFEW.out.nd (fun y hy => ((HFEW.out.mem y).1 hy).1)
      have h2 : (strOf L).length = L.length := by simp [strOf]
      have := HLN.out
      omega)
    go_wp2_with (at_next; refine wpList_next_ranges_ii _ rfl _ rfl 3 3 .i64 .i64 intKP Try.underlying3 Try.underlying3 w.heap.size r (Maps.size D) D left cnt rfl hrg ?_ ?_)
    · intro _ hl0
      have HD := Lib.hid (HFEW.out.done hl0)
      clear hl0 hrg
      rcases own_src encI_len HOWN.out with ⟨hz, hO⟩ | ⟨g, cap, hz, h1, h2, h3, h4, h5⟩
      · injection hz with e1 e2 e3
        subst e1 hO
        simp only [List.length_nil] at e3 ⊢
        subst e3
        have hS := AnyM.slices_Sort_int_none Try.sortI none 0 wr
        go_wp2_with (go_at_call 32; refine hS.mono ?_; rintro e w3 ⟨rfl, hw⟩; subst hw)
        go_ret
        exact ⟨_, rfl, by rw [← HD.out, show sortL [] = [] by simp [sortL]]; exact idxS_flat HOWN.out, HB3.out⟩
      · injection hz with e1 e2 e3
        subst e1 e3
        have hrow := HOWN.out
        rw [flatI] at hrow
        obtain ⟨q1, q2, q3, _, cur, hcur, c1', c2', c3'⟩ := holds_own (L := O) hrow
        have hS := AnyM.slices_Sort_int Try.sortI g 0 zc O wr q1 q2 (by have := HOL0.out; omega)
        have HQ := Lib.hid (And.intro hcur (And.intro c1' (And.intro c2' c3')))
        have HQ3 := Lib.hid q3
        clear hrow q1 q2 q3 hcur c1' c2' c3' h1 h2 h3 h4 h5
        go_wp2_with (go_at_call 32; refine hS.mono ?_; rintro e w3 ⟨rfl, nn, os, rfl⟩)
        go_ret
        obtain ⟨hcur, c1', c2', c3'⟩ := HQ.out
        have h9 := ownsRow_sorted_i (n := nn) (ss := O) (ts := sortL O) (os := os) (sortL_len O) HQ3.out hcur c1' c2' c3'
        have hb5 := HB3.out.grown (row := some g) (grownBy_sorted_i (n := nn) (os := os) (sortL O).toArray) HB3.out.size (fun j hj => by injection hj with hj; subst hj; have := HQ3.out; have := HB2.out.size; omega)
        exact ⟨_, rfl, by rw [← HD.out]; exact idxS_of h9, hb5⟩
    · intro x c w4 cnt1 hwx hwc hlk hat hrg1 hlt hg1 hs1 hen
      have hhas : has D (kI x) = true := has_true_of_atKey (y := .lit (.int .i64 c)) hat
      have hxl : x ∈ strOf L := (HH.out x).1 hhas
      have hv := HV.out x hxl .nil
      have hat2 := hat .nil
      rw [show D.atKey (kI x) .nil = D.atKey (.int .i64 x) .nil from rfl, hat2] at hv
      injection hv with hv
      injection hv with _ hv
      obtain ⟨q, hq⟩ : ∃ q : Nat, q = (strOf L).count x := ⟨_, rfl⟩
      rw [← hq] at hv
      subst hv
      have hap : Ap (fun k => k = r) wr w4 := Ap.grown (S := fun k => k = r) (Ap.refl wr) hg1 (fun k hk => by injection hk with hk; exact .inl hk.symm)
      have hrr : r < w2.heap.size := HRL.out
      have hb4 : Below w.heap.size w w4 := HB3.out.trans (hap.below HB3.out.size (fun k hk => by have := HML.out; omega))
      have HO4 := Lib.hid (own_ap2 HOWN.out hap (fun g hg => by have := (World.ownsRow.lt HOWN.out g hg).1; omega))
      have HRG4 := Lib.hid hrg1
      have HB4 := Lib.hid hb4
      have HLT := Lib.hid hlt
      have hs4 : w2.heap.size ≤ w4.heap.size := Nat.le_trans HS3.out hap.size
      have HS4 := Lib.hid hs4
      have HSK : Hid (¬ (q : Int) < k → Few (strOf L) k (fun z => left z && !z.sameKey (kI x)) O) := Lib.hid (fun h => HFEW.out.skip (by rw [← hq]; exact h))
      have HAD : Hid ((q : Int) < k → Few (strOf L) k (fun z => left z && !z.sameKey (kI x)) (O ++ [x])) := Lib.hid (fun h => HFEW.out.add hlk hxl (by rw [← hq]; exact h))
      have hOl : O.length ≤ 10000 := by
        have h1 := nodup_len HFEW.out.nd (fun y hy => ((HFEW.out.mem y).1 hy).1)
        have h2 : (strOf L).length = L.length := by simp [strOf]
        have := HLN.out
        omega
      have HOL := Lib.hid hOl
      have HRG0 := Lib.hid hrg
      clear hwx hwc hlk hat hat2 hrg1 hlt hg1 hs1 hhas hxl hq hap hrr hb4 hs4 hOl hrg
      by_cases hk : (q : Int) < k
      · have d1 : decide ((q : Int) < k) = true := decide_eq_true hk
        have HF2 := Lib.hid (HAD.out hk)
        have HSZ : Hid (w2.heap.size ≤ (w4.alloc (.cells #[.int .i64 x] 3)).heap.size) := Lib.hid (by have := HS4.out; simp; omega)
        have HO5 := Lib.hid (HO4.out.alloc (.cells #[.int .i64 x] 3))
        have HNW := Lib.hid (new_cells w4 [.int .i64 x] 3)
        have hb5 := below_new w4 (.cells #[.int .i64 x] 3)
        have HRG5 := Lib.hid (rangesR_ap (S := fun _ => False) HRG4.out (Ap.of_below hb5) id id)
        have HB5 := Lib.hid (HB4.out.trans (hb5.mono HB4.out.size))
        have HCP : Hid (O.length + 1 ≤ maxLen ∧ (O.length + 1) * 8 ≤ 140737488355328) := Lib.hid (by have := HOL.out; unfold maxLen; omega)
        clear hb5
        go_wp2_with (at_builtin; (refine wpList_append_own _ rfl _ _ 29 rfl w2.heap.size 3 i0 _ 1 8 Try.underlying29 hi hz0 hz1 hz2 rfl (by decide) _ _ _ rfl HO5.out ⟨w4.heap.size, 0, none⟩ 1 1 [.int .i64 x] rfl rfl HNW.out (encI_one x) HCP.out.1 HCP.out.2 HSZ.out ?_); intro v' w6 hown6 hgrow _; have hap6 : Ap (fun k => w2.heap.size ≤ k) (w4.alloc (.cells #[.int .i64 x] 3)) w6 := Ap.grown (S := fun k => w2.heap.size ≤ k) (Ap.refl _) hgrow (fun g hg => .inl (World.ownsRow.lt HO5.out g hg).1); have HA6 := Lib.hid hap6; have HO6 := Lib.hid hown6; clear hown6 hgrow hap6)
        have HRG6 := Lib.hid (rangesR_ap HRG5.out HA6.out (by have := HML.out; have := HRL.out; omega) (by have := HRL.out; omega))
        go_roundw
        case rel => exact ⟨_, cnt1, v', O ++ [x], rfl, HF2.out, by rw [List.length_append, flat_snoc]; exact HO6.out, HRG6.out, HB5.out.trans (HA6.out.below HB5.out.size (fun k hk => by have := HML.out; have := HRL.out; omega)), Nat.le_trans HSZ.out HA6.out.size⟩
        case measure => rw [HRG6.out.left_eq, HRG0.out.left_eq]; exact HLT.out
      · have d1 : decide ((q : Int) < k) = false := decide_eq_false hk
        have HF2 := Lib.hid (HSK.out hk)
        go_wp2_with fail
        go_roundw
        case rel => exact ⟨_, cnt1, _, O, rfl, HF2.out, HO4.out, HRG4.out, HB4.out, HS4.out⟩
        case measure => rw [HRG4.out.left_eq, HRG0.out.left_eq]; exact HLT.out
end Go.Proofs.Ythhbaccbhfngbaa
