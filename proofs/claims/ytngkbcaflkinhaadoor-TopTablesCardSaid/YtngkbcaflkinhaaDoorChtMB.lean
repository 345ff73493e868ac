/- Charts: the plain model: tables, maps, what is right. Charts: closures and searches over entries: isFull, wrong, IndexFunc, ContainsFunc. Charts: how maps lie; the contracts of isTable, mayHave. -/
import Derived.Test.YtngkbcaflkinhaaDoorFldEM
import Derived.Test.YtngkbcaflkinhaaDoorEntSV
namespace Go.Proofs.YtngkbcaflkinhaaDoor
open Go.RowKit

def fullB (p : EN) : Bool := p.kind != 0
def wrongB (p : EN) : Bool := !decide (EOk p)
/-- A table. -/
structure TB where
  at' : Int
  l : List EN
def TB.zero : TB := ⟨0, []⟩
/-- A map. -/
structure CH where
  blocks : Int
  tabs : List TB
def CH.zero : CH := ⟨0, []⟩
/-- A table of e entries, of which those from n on are of no blocks. -/
def tblB (e : Int) (l : List EN) (n : Int) : Bool := decide ((l.length : Int) = e) && !l.any wrongB && (l.take (min n e).toNat).any fullB && !(l.drop (min n e).toNat).any fullB
def parts (e B : Int) : Int := (B + e - 1) / e
def tabsB (e B : Int) : Int → List TB → Bool
  | _, [] => true
  | least, t :: r => decide (least ≤ t.at') && decide (t.at' < parts e B) && tblB e t.l (B - t.at' * e) && tabsB e B (t.at' + 1) r
def mayB (b : Int) : Bool := decide (0 ≤ b) && decide (b ≤ 65536)
def okB (e : Int) (c : CH) : Bool := decide (1 ≤ e) && decide (e ≤ 8192) && mayB c.blocks && tabsB e c.blocks 0 c.tabs
def chtE (e : Int) (c : CH) : Int := if okB e c = true then 0 else 2
/-- Behind the first j tables: the least place of the next one. -/
def leastAt (T : List TB) : Nat → Int
  | 0 => 0
  | j + 1 => (T.getD j TB.zero).at' + 1
def oneB (e B least : Int) (t : TB) : Bool := decide (least ≤ t.at') && decide (t.at' < parts e B) && tblB e t.l (B - t.at' * e)
theorem tabsB_drop (e B : Int) (T : List TB) : ∀ j, j < T.length → tabsB e B (leastAt T j) (T.drop j) = (oneB e B (leastAt T j) (T.getD j TB.zero) && tabsB e B (leastAt T (j + 1)) (T.drop (j + 1))) := by
  intro j hj
  rw [List.drop_eq_getElem_cons hj]
  have e1 : T.getD j TB.zero = T[j] := by rw [List.getD, List.getElem?_eq_getElem hj]; rfl
  show _ = (oneB e B (leastAt T j) (T.getD j TB.zero) && tabsB e B ((T.getD j TB.zero).at' + 1) (T.drop (j + 1)))
  rw [e1, tabsB]; rfl
end Go.Proofs.YtngkbcaflkinhaaDoor
namespace Go.Proofs.YtngkbcaflkinhaaDoor
open Go.RowKit

set_option maxHeartbeats 1000000 in
theorem chtFull_any (p : EN) (w : World) : Calls Tryd.prog 32 #[p.v] w fun e w' => e = .returned (.bool (fullB p)) ∧ Below w.heap.size w w' := by
  obtain ⟨k, st, mb, fr⟩ := p
  unfold EN.v fullB
  dsimp only
  have HB := Lib.hid (below1 w (.cells #[.int .u8 k, .int .i64 st, .int .i64 mb, .int .i64 fr] 38))
  generalize hb : (k != 0) = bb
  by_cases h : k = 0
  · subst h
    obtain rfl : bb = false := by rw [← hb]; rfl
    go_enter Tryd.func32, Tryd.ntmps32
    go_wp2
    go_ret
    exact ⟨rfl, HB.out⟩
  · have d0 : (k == 0) = false := by rw [beq_eq_false_iff_ne]; exact h
    have d1 : (k != 0) = true := by rw [bne, d0]; rfl
    obtain rfl : bb = true := hb.symm.trans d1
    clear hb
    go_enter Tryd.func32, Tryd.ntmps32
    go_wp2
    go_ret
    exact ⟨rfl, HB.out⟩
theorem chtWrong_any (p : EN) (w : World) : Calls Tryd.prog 30 #[p.v] w fun e w' => e = .returned (.bool (wrongB p)) ∧ Below w.heap.size w w' := by
  have hC := entCheck_any p
  have hE : Hid (wrongB p = true → entE p = 2) := Lib.hid (fun h => if_neg (by unfold wrongB at h; simpa using h))
  have hE2 : Hid (wrongB p = false → entE p = 0) := Lib.hid (fun h => if_pos (by unfold wrongB at h; simpa using h))
  generalize wrongB p = bb at hE hE2
  generalize entE p = e at hC hE hE2
  obtain ⟨k, st, mb, fr⟩ := p
  unfold EN.v at hC ⊢
  dsimp only at hC ⊢
  have HB := Lib.hid (below1 w (.cells #[.int .u8 k, .int .i64 st, .int .i64 mb, .int .i64 fr] 38))
  cases bb
  · obtain rfl := hE2.out rfl
    go_enter Tryd.func30, Tryd.ntmps30
    go_wp2_with (go_at_call 18; refine (hC _).mono ?_; rintro e w2 ⟨rfl, hb⟩; have HB2 := Lib.hid (HB.out.trans (hb.mono HB.out.size)); clear hb)
    go_ret
    exact ⟨rfl, HB2.out⟩
  · obtain rfl := hE.out rfl
    go_enter Tryd.func30, Tryd.ntmps30
    go_wp2_with (go_at_call 18; refine (hC _).mono ?_; rintro e w2 ⟨rfl, hb⟩; have HB2 := Lib.hid (HB.out.trans (hb.mono HB.out.size)); clear hb)
    go_ret
    exact ⟨rfl, HB2.out⟩
/-- The first place, or -1. -/
def idxI {α : Type} (p : α → Bool) : List α → Nat → Int
  | [], _ => -1
  | x :: r, i => if p x then (i : Int) else idxI p r (i + 1)
theorem idxI_none {α : Type} (p : α → Bool) : ∀ (l : List α) (i : Nat), (∀ x ∈ l, p x = false) → idxI p l i = -1
  | [], _, _ => rfl
  | x :: r, i, h => by rw [idxI, if_neg (by rw [h x (List.mem_cons_self ..)]; decide), idxI_none p r (i + 1) (fun y hy => h y (List.mem_cons_of_mem _ hy))]
theorem idxI_at {α : Type} (p : α → Bool) (d : α) : ∀ (l : List α) (i j : Nat), j < l.length → (∀ k, k < j → p (l.getD k d) = false) → p (l.getD j d) = true → idxI p l i = ((i + j : Nat) : Int)
  | x :: r, i, 0, _, _, h => by rw [idxI, if_pos (show p x = true from h)]; rfl
  | x :: r, i, j + 1, hj, hn, h => by
    have h0 : p x = false := hn 0 (by omega)
    rw [idxI, if_neg (by rw [h0]; decide), idxI_at p d r (i + 1) j (by simpa using hj) (fun k hk => hn (k + 1) (by omega)) h]
    congr 1; omega
theorem all_false {α : Type} (p : α → Bool) (d : α) (l : List α) (h : ∀ k, k < l.length → p (l.getD k d) = false) : ∀ x ∈ l, p x = false := by
  intro x hx
  obtain ⟨k, hk, rfl⟩ := List.mem_iff_getElem.1 hx
  have := h k hk
  rw [List.getD, List.getElem?_eq_getElem hk] at this
  exact this
theorem idxI_ge {α : Type} (p : α → Bool) : ∀ (l : List α) (i : Nat), decide (0 ≤ idxI p l i) = l.any p
  | [], _ => rfl
  | x :: r, i => by
    rw [idxI, List.any_cons]
    by_cases h : p x = true
    · rw [if_pos h, h]; simp
    · rw [if_neg h, idxI_ge p r (i + 1)]
      have : p x = false := by simpa using h
      rw [this]; rfl
set_option maxHeartbeats 2000000 in
theorem idxFull_any (L : List EN) (v : Value) (w : World) (hv : EntsS w v L) :
    Calls Tryd.prog 49 #[v, .func (.func 32) #[] #[]] w fun e w' => e = .returned (.int .i64 (idxI fullB L 0)) ∧ Below w.heap.size w w' := by
  have hP := chtFull_any
  obtain ⟨A, cap, rfl, hc1, hc2, hc3⟩ := hv
  have HC3 := Lib.hid hc3
  clear hc3
  go_enter Tryd.func49, Tryd.ntmps49
  go_wp2
  go_loopw [8] (fun ix wr => ∃ (j : Nat), j ≤ L.length ∧ ix = .int .i64 (j : Int) ∧ (∀ k, k < j → fullB (L.getD k EN.zero) = false) ∧ Below w.heap.size w wr) (fun ix _ => L.length - (intOf ix).toNat)
  case atStart => exact ⟨0, Nat.zero_le _, rfl, (fun i h => absurd h (by omega)), Below.refl _ _⟩
  case round =>
    obtain ⟨j, hj, rfl, hp, hB⟩ := hrel
    have HB := Lib.hid hB
    have HP := Lib.hid hp
    clear hB hp
    by_cases hlt : j < L.length
    · obtain ⟨b, off, rfl, hb, hcell⟩ := HC3.out.resolve_left (by intro e; rw [e] at hlt; simp at hlt)
      obtain ⟨q0, q1, q2, q3⟩ := (hcell j hlt).below HB.out hb
      have hw1 := wrap_succ hlt hc1 hc2
      have hPj := hP (L.getD j EN.zero)
      have HNX : Hid (fullB (L.getD j EN.zero) = false → ∀ k, k < j + 1 → fullB (L.getD k EN.zero) = false) := Lib.hid (fun h k hk => by
        by_cases e : k = j
        · rw [e]; exact h
        · exact HP.out k (by omega))
      have HAT : Hid (fullB (L.getD j EN.zero) = true → idxI fullB L 0 = (j : Int)) := Lib.hid (fun h => by
        rw [idxI_at fullB EN.zero L 0 j hlt HP.out h]; congr 1; omega)
      clear hcell hb hP
      generalize hbb : fullB (L.getD j EN.zero) = bb at hPj HNX HAT
      clear hbb
      generalize L.getD j EN.zero = x at q0 q1 q2 q3 hPj
      obtain ⟨k, st, mb, fr⟩ := x
      unfold EN.v at hPj
      dsimp only at hPj q0 q1 q2 q3
      cases bb
      · have HN := Lib.hid (HNX.out rfl)
        clear HNX HAT
        go_wp2_with (go_at_call 32; refine (hPj _).mono ?_; rintro e w2 ⟨rfl, hb2⟩; have HB2 := Lib.hid (HB.out.trans (hb2.mono HB.out.size)); clear hb2)
        rw [hw1]
        clear hw1
        go_roundw
        case rel => exact ⟨j + 1, by omega, by go_num, HN.out, HB2.out⟩
        case measure => simp [intOf]; omega
      · have HA := Lib.hid (HAT.out rfl)
        clear HNX HAT
        go_wp2_with (go_at_call 32; refine (hPj _).mono ?_; rintro e w2 ⟨rfl, hb2⟩; have HB2 := Lib.hid (HB.out.trans (hb2.mono HB.out.size)); clear hb2)
        go_ret
        exact ⟨by rw [HA.out]; rfl, HB2.out⟩
    · obtain rfl : j = L.length := by omega
      have HF : Hid (idxI fullB L 0 = -1) := Lib.hid (idxI_none fullB L 0 (all_false fullB EN.zero L HP.out))
      go_wp2
      go_ret
      exact ⟨by rw [HF.out]; rfl, HB.out⟩
theorem contFull_any (L : List EN) (v : Value) (w : World) (hv : EntsS w v L) :
    Calls Tryd.prog 31 #[v, .func (.func 32) #[] #[]] w fun e w' => e = .returned (.bool (L.any fullB)) ∧ Below w.heap.size w w' := by
  have hI := idxFull_any L v w hv
  have hG := idxI_ge fullB L 0
  generalize idxI fullB L 0 = z at hI hG
  rw [← hG]
  clear hG hv
  go_enter Tryd.func31, Tryd.ntmps31
  go_wp2_with (go_at_call 49; with_reducible refine hI.mono ?_; rintro e w2 ⟨rfl, hb2⟩)
  go_ret
  exact ⟨rfl, hb2⟩
set_option maxHeartbeats 2000000 in
theorem idxWrong_any (L : List EN) (v : Value) (w : World) (hv : EntsS w v L) :
    Calls Tryd.prog 49 #[v, .func (.func 30) #[] #[]] w fun e w' => e = .returned (.int .i64 (idxI wrongB L 0)) ∧ Below w.heap.size w w' := by
  have hP := chtWrong_any
  obtain ⟨A, cap, rfl, hc1, hc2, hc3⟩ := hv
  have HC3 := Lib.hid hc3
  clear hc3
  go_enter Tryd.func49, Tryd.ntmps49
  go_wp2
  go_loopw [8] (fun ix wr => ∃ (j : Nat), j ≤ L.length ∧ ix = .int .i64 (j : Int) ∧ (∀ k, k < j → wrongB (L.getD k EN.zero) = false) ∧ Below w.heap.size w wr) (fun ix _ => L.length - (intOf ix).toNat)
  case atStart => exact ⟨0, Nat.zero_le _, rfl, (fun i h => absurd h (by omega)), Below.refl _ _⟩
  case round =>
    obtain ⟨j, hj, rfl, hp, hB⟩ := hrel
    have HB := Lib.hid hB
    have HP := Lib.hid hp
    clear hB hp
    by_cases hlt : j < L.length
    · obtain ⟨b, off, rfl, hb, hcell⟩ := HC3.out.resolve_left (by intro e; rw [e] at hlt; simp at hlt)
      obtain ⟨q0, q1, q2, q3⟩ := (hcell j hlt).below HB.out hb
      have hw1 := wrap_succ hlt hc1 hc2
      have hPj := hP (L.getD j EN.zero)
      have HNX : Hid (wrongB (L.getD j EN.zero) = false → ∀ k, k < j + 1 → wrongB (L.getD k EN.zero) = false) := Lib.hid (fun h k hk => by
        by_cases e : k = j
        · rw [e]; exact h
        · exact HP.out k (by omega))
      have HAT : Hid (wrongB (L.getD j EN.zero) = true → idxI wrongB L 0 = (j : Int)) := Lib.hid (fun h => by
        rw [idxI_at wrongB EN.zero L 0 j hlt HP.out h]; congr 1; omega)
      clear hcell hb hP
      generalize hbb : wrongB (L.getD j EN.zero) = bb at hPj HNX HAT
      clear hbb
      generalize L.getD j EN.zero = x at q0 q1 q2 q3 hPj
      obtain ⟨k, st, mb, fr⟩ := x
      unfold EN.v at hPj
      dsimp only at hPj q0 q1 q2 q3
      cases bb
      · have HN := Lib.hid (HNX.out rfl)
        clear HNX HAT
        go_wp2_with (go_at_call 30; refine (hPj _).mono ?_; rintro e w2 ⟨rfl, hb2⟩; have HB2 := Lib.hid (HB.out.trans (hb2.mono HB.out.size)); clear hb2)
        rw [hw1]
        clear hw1
        go_roundw
        case rel => exact ⟨j + 1, by omega, by go_num, HN.out, HB2.out⟩
        case measure => simp [intOf]; omega
      · have HA := Lib.hid (HAT.out rfl)
        clear HNX HAT
        go_wp2_with (go_at_call 30; refine (hPj _).mono ?_; rintro e w2 ⟨rfl, hb2⟩; have HB2 := Lib.hid (HB.out.trans (hb2.mono HB.out.size)); clear hb2)
        go_ret
        exact ⟨by rw [HA.out]; rfl, HB2.out⟩
    · obtain rfl : j = L.length := by omega
      have HF : Hid (idxI wrongB L 0 = -1) := Lib.hid (idxI_none wrongB L 0 (all_false wrongB EN.zero L HP.out))
      go_wp2
      go_ret
      exact ⟨by rw [HF.out]; rfl, HB.out⟩
theorem contWrong_any (L : List EN) (v : Value) (w : World) (hv : EntsS w v L) :
    Calls Tryd.prog 31 #[v, .func (.func 30) #[] #[]] w fun e w' => e = .returned (.bool (L.any wrongB)) ∧ Below w.heap.size w w' := by
  have hI := idxWrong_any L v w hv
  have hG := idxI_ge wrongB L 0
  generalize idxI wrongB L 0 = z at hI hG
  rw [← hG]
  clear hG hv
  go_enter Tryd.func31, Tryd.ntmps31
  go_wp2_with (go_at_call 49; with_reducible refine hI.mono ?_; rintro e w2 ⟨rfl, hb2⟩)
  go_ret
  exact ⟨rfl, hb2⟩
end Go.Proofs.YtngkbcaflkinhaaDoor
namespace Go.Proofs.YtngkbcaflkinhaaDoor
open Go.RowKit

/-- A block of two cells. -/
structure B2 (W : World) (b : Nat) (v0 v1 : Value) : Prop where
  lt : b < W.heap.size
  c0 : W.cell? ⟨b, 0, none⟩ = some v0
  c1 : W.cell? ⟨b, 1, none⟩ = some v1
  f0 : W.frozen? ⟨b, 0, none⟩ = false
  f1 : W.frozen? ⟨b, 1, none⟩ = false
theorem B2.new (w : World) (v0 v1 : Value) (t : Nat) : B2 (w.alloc (.cells #[v0, v1] t)) w.heap.size v0 v1 :=
  ⟨by simp, by simp [go_sem], by simp [go_sem], frozen_of_row _ _ _ _ t (heap_alloc_new w _), frozen_of_row _ _ _ _ t (heap_alloc_new w _)⟩
theorem B2.ap {S : Nat → Prop} {W W' : World} {b : Nat} {v0 v1 : Value} (k : B2 W b v0 v1) (a : Ap S W W') (hn : ¬ S b) : B2 W' b v0 v1 :=
  ⟨Nat.lt_of_lt_of_le k.lt a.size, (a.cell k.lt hn _).trans k.c0, (a.cell k.lt hn _).trans k.c1, (a.frozen k.lt hn _).trans k.f0, (a.frozen k.lt hn _).trans k.f1⟩
theorem B2.below {W W' : World} {b : Nat} {v0 v1 : Value} (k : B2 W b v0 v1) (hb : Below W.heap.size W W') : B2 W' b v0 v1 := k.ap (S := fun _ => False) (Ap.of_below hb) id
/-- A table, as it lies. -/
def TabAt (w : World) (b o : Nat) (t : TB) : Prop := ∃ u, w.cell? ⟨b, o, none⟩ = some (.int .i64 t.at') ∧ w.cell? ⟨b, o + 1, none⟩ = some u ∧ EntsS w u t.l
theorem TabAt.below {w w' : World} {b o : Nat} {t : TB} (k : TabAt w b o t) (hb : Below w.heap.size w w') (hlt : b < w.heap.size) : TabAt w' b o t := by
  obtain ⟨u, h0, h1, h2⟩ := k
  exact ⟨u, (hb.cell (p := ⟨b, o, none⟩) hlt).trans h0, (hb.cell (p := ⟨b, o + 1, none⟩) hlt).trans h1, h2.below hb (Nat.le_refl _)⟩
def TabsS (w : World) (v : Value) (T : List TB) : Prop :=
  ∃ A cap, v = .slice A T.length cap ∧ T.length ≤ cap ∧ cap ≤ maxLen ∧ (T = [] ∨ ∃ b off, A = some ⟨b, off, none⟩ ∧ b < w.heap.size ∧ ∀ j, j < T.length → TabAt w b (off + j * 2) (T.getD j TB.zero))
theorem TabsS.below {w w' : World} {v : Value} {T : List TB} (k : TabsS w v T) (hb : Below w.heap.size w w') : TabsS w' v T := by
  obtain ⟨A, cap, hv, h1, h2, h3⟩ := k
  refine ⟨A, cap, hv, h1, h2, ?_⟩
  rcases h3 with h3 | ⟨b, off, hA, hlt, hc⟩
  · exact .inl h3
  · exact .inr ⟨b, off, hA, Nat.lt_of_lt_of_le hlt hb.size, fun j hj => (hc j hj).below hb hlt⟩
theorem EntsS.take {w : World} {b off : Nat} {len cap : Nat} {L : List EN} (h : EntsS w (.slice (some ⟨b, off, none⟩) len cap) L) (m : Nat) (hm : m ≤ L.length) : EntsS w (.slice (some ⟨b, off, none⟩) m cap) (L.take m) := by
  obtain ⟨A, c, hv, h1, h2, h3⟩ := h
  injection hv with hA hl hc
  subst hc
  have e : (L.take m).length = m := by rw [List.length_take]; omega
  refine ⟨some ⟨b, off, none⟩, cap, by rw [e], by rw [e]; omega, h2, ?_⟩
  rcases h3 with h3 | ⟨b', off', hA', hlt, hcell⟩
  · subst h3; exact .inl (by simp)
  · rw [← hA] at hA'
    injection hA' with hA'
    injection hA' with e1 e2 _
    subst e1 e2
    refine .inr ⟨b, off, rfl, hlt, fun j hj => ?_⟩
    rw [e] at hj
    have : (L.take m).getD j EN.zero = L.getD j EN.zero := by rw [List.getD, List.getElem?_take, if_pos hj]; rfl
    rw [this]
    exact hcell j (by omega)
theorem EntsS.drop {w : World} {b off : Nat} {len cap : Nat} {L : List EN} (h : EntsS w (.slice (some ⟨b, off, none⟩) len cap) L) (m : Nat) (hm : m ≤ L.length) : EntsS w (.slice (some ⟨b, off + m * 4, none⟩) (L.length - m) (cap - m)) (L.drop m) := by
  obtain ⟨A, c, hv, h1, h2, h3⟩ := h
  injection hv with hA hl hc
  subst hc
  have e : (L.drop m).length = L.length - m := by rw [List.length_drop]
  refine ⟨some ⟨b, off + m * 4, none⟩, cap - m, by rw [e], by rw [e]; omega, by omega, ?_⟩
  rcases h3 with h3 | ⟨b', off', hA', hlt, hcell⟩
  · subst h3; exact .inl (by simp)
  · rw [← hA] at hA'
    injection hA' with hA'
    injection hA' with e1 e2 _
    subst e1 e2
    refine .inr ⟨b, off + m * 4, rfl, hlt, fun j hj => ?_⟩
    rw [e] at hj
    have : (L.drop m).getD j EN.zero = L.getD (m + j) EN.zero := by rw [List.getD, List.getElem?_drop]; rfl
    rw [this, show off + m * 4 + j * 4 = off + (m + j) * 4 by omega]
    exact hcell (m + j) (by omega)
theorem chtMay_any (b : Int) (w : World) : Calls Tryd.prog 15 #[.int .i64 b] w fun e w' => e = .returned (.bool (mayB b)) ∧ Below w.heap.size w w' := by
  unfold mayB
  by_cases h1 : 0 ≤ b
  · have d1 : decide (0 ≤ b) = true := decide_eq_true h1
    rw [d1, Bool.true_and]
    clear h1
    go_enter Tryd.func15, Tryd.ntmps15
    go_wp2
    go_ret
    exact ⟨rfl, Below.refl _ _⟩
  · have d1 : decide (0 ≤ b) = false := decide_eq_false h1
    rw [d1, Bool.false_and]
    clear h1
    go_enter Tryd.func15, Tryd.ntmps15
    go_wp2
    go_ret
    exact ⟨rfl, Below.refl _ _⟩
set_option maxHeartbeats 2000000 in
theorem chtTable_any (E n : Nat) (a : Int) (L : List EN) (u : Value) (w : World) (hE : 1 ≤ E ∧ E ≤ 8192) (hn : n ≤ 65536) (hu : EntsS w u L) :
    Calls Tryd.prog 16 #[.int .i64 (E : Int), .agg #[.int .i64 a, u], .int .i64 (n : Int)] w fun e w' => e = .returned (.bool (tblB (E : Int) L (n : Int))) ∧ Below w.heap.size w w' := by
  obtain ⟨A, cap, rfl, hc1, hc2, hc3⟩ := hu
  have hu : EntsS w (.slice A L.length cap) L := ⟨A, cap, rfl, hc1, hc2, hc3⟩
  have HU := Lib.hid hu
  have HX0 := Lib.hid (B2.new w (.int .i64 a) (.slice A L.length cap) 42)
  have HB0 := Lib.hid (below1 w (.cells #[.int .i64 a, .slice A L.length cap] 42))
  by_cases hl : L.length = E
  case neg =>
    have d0 : ((L.length : Int) == (E : Int)) = false := by rw [beq_eq_false_iff_ne]; omega
    have d1 : ((L.length : Int) != (E : Int)) = true := by rw [bne_iff_ne]; omega
    have HF : Hid (tblB (E : Int) L (n : Int) = false) := Lib.hid (by unfold tblB; rw [decide_eq_false (by omega)]; rfl)
    clear hl hu hc3
    go_enter Tryd.func16, Tryd.ntmps16
    go_wp2
    go_ret
    exact ⟨by rw [HF.out]; rfl, HB0.out⟩
  case pos =>
  subst hl
  obtain ⟨b, off, rfl, hb, _⟩ := hc3.resolve_left (by intro e; rw [e] at hE; simp at hE)
  obtain ⟨m, hmdef⟩ : ∃ m, m = min n L.length := ⟨_, rfl⟩
  have hmin : (min (n : Int) (L.length : Int)).toNat = m := by omega
  have HT : Hid (tblB (L.length : Int) L (n : Int) = (!L.any wrongB && (L.take m).any fullB && !(L.drop m).any fullB)) := Lib.hid (by unfold tblB; rw [hmin, decide_eq_true rfl]; simp)
  have hm : m ≤ L.length := by rw [hmdef]; exact Nat.min_le_right _ _
  have hmm : (n ≤ L.length ∧ n = m) ∨ (L.length < n ∧ L.length = m) := by omega
  have hW := fun W (h : EntsS W (.slice (some ⟨b, off, none⟩) L.length cap) L) => contWrong_any L _ W h
  have hF1 := fun W (h : EntsS W (.slice (some ⟨b, off, none⟩) L.length cap) L) => contFull_any _ _ W (h.take m hm)
  have hF2 := fun W (h : EntsS W (.slice (some ⟨b, off, none⟩) L.length cap) L) => contFull_any _ _ W (h.drop m hm)
  rw [HT.out]
  have hF3 : cap = m → ∀ W, Calls Tryd.prog 31 #[.slice (some ⟨b, off, none⟩) 0 0, .func (.func 32) #[] #[]] W fun e w' => e = .returned (.bool ((L.drop m).any fullB)) ∧ Below W.heap.size W w' := fun h W => by
    have e : (L.drop m).length = 0 := by rw [List.length_drop]; omega
    exact contFull_any _ _ W ⟨some ⟨b, off, none⟩, 0, by rw [e], by rw [e]; omega, Nat.zero_le _, .inl (List.eq_nil_of_length_eq_zero e)⟩
  generalize L.any wrongB = x1 at hW ⊢
  generalize (L.take m).any fullB = x2 at hF1 ⊢
  generalize (L.drop m).any fullB = x3 at hF2 hF3 ⊢
  have HMM := Lib.hid hmm
  have HMC : Hid (m ≤ cap) := Lib.hid (by omega)
  have hmi : min (n : Int) (L.length : Int) = (m : Int) := by omega
  clear hu hc3 HT hmin hb hmdef hmm
  go_enter Tryd.func16, Tryd.ntmps16
  go_upto_region 1 with fail
  generalize w.alloc (.cells #[.int .i64 a, .slice (some ⟨b, off, none⟩) L.length cap] 42) = w0 at HX0 HB0 ⊢
  obtain ⟨_, y0, y1, _, _⟩ := HX0.out
  have HU0 := Lib.hid (HU.out.below HB0.out (Nat.le_refl _))
  cases x1 with
  | true =>
    go_wp2_with (go_at_call 31; with_reducible refine (hW _ HU0.out).mono ?_; rintro e w1 ⟨rfl, hb1⟩; have HB1 := Lib.hid (HB0.out.trans (hb1.mono HB0.out.size)); clear hb1)
    go_ret
    exact ⟨by simp, HB1.out⟩
  | false =>
    go_upto_region 6 with (go_at_call 31; with_reducible refine (hW _ HU0.out).mono ?_; rintro e w1 ⟨rfl, hb1⟩; have HB1 := Lib.hid (HB0.out.trans (hb1.mono HB0.out.size)); have HX1 := Lib.hid (HX0.out.below hb1); have HU1 := Lib.hid (HU0.out.below hb1 (Nat.le_refl _)); clear hb1)
    clear y0 y1
    obtain ⟨_, y0, y1, _, _⟩ := HX1.out
    go_upto_region 7 with fail
    have hmc := HMC.out
    cases x2 with
    | false =>
      go_wp2_with (go_at_call 31; with_reducible refine (hF1 _ HU1.out).mono ?_; rintro e w2 ⟨rfl, hb2⟩; have HB2 := Lib.hid (HB1.out.trans (hb2.mono HB1.out.size)); clear hb2)
      go_ret
      exact ⟨by simp, HB2.out⟩
    | true =>
      by_cases hcm : cap = m
      · have hF4 := hF3 hcm
        subst hcm
        go_wp2_with (first
          | (go_at_call 31; with_reducible refine (hF1 _ HU1.out).mono ?_; rintro e w2 ⟨rfl, hb2⟩; have HB2 := Lib.hid (HB1.out.trans (hb2.mono HB1.out.size)); have HX2 := Lib.hid (HX1.out.below hb2); have HU2 := Lib.hid (HU1.out.below hb2 (Nat.le_refl _)); clear hb2 y0 y1; obtain ⟨_, y0, y1, _, _⟩ := HX2.out)
          | (go_at_call 31; with_reducible refine (hF4 _).mono ?_; rintro e w3 ⟨rfl, hb3⟩; have HB3 := Lib.hid (HB2.out.trans (hb3.mono HB2.out.size)); clear hb3))
        go_ret
        exact ⟨by simp, HB3.out⟩
      · clear hF3
        go_wp2_with (first
          | (go_at_call 31; with_reducible refine (hF1 _ HU1.out).mono ?_; rintro e w2 ⟨rfl, hb2⟩; have HB2 := Lib.hid (HB1.out.trans (hb2.mono HB1.out.size)); have HX2 := Lib.hid (HX1.out.below hb2); have HU2 := Lib.hid (HU1.out.below hb2 (Nat.le_refl _)); clear hb2 y0 y1; obtain ⟨_, y0, y1, _, _⟩ := HX2.out)
          | (go_at_call 31; with_reducible refine (hF2 _ HU2.out).mono ?_; rintro e w3 ⟨rfl, hb3⟩; have HB3 := Lib.hid (HB2.out.trans (hb3.mono HB2.out.size)); clear hb3))
        go_ret
        exact ⟨by simp, HB3.out⟩
end Go.Proofs.YtngkbcaflkinhaaDoor
