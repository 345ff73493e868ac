/- Uses of clusters: the lowest ones that are free are taken, by the code. -/
import Derived.Test.YtoaofhgkpnpglaaSpcE
import Derived.Test.YtoaofhgkpnpglaaRegO
import Derived.BigQuiet
import Derived.Sort.CutIn
namespace Go.Proofs.Ytoaofhgkpnpglaa
open Go.RowKit Go.Shelf
attribute [local go_sem] Oper.semAt_some

theorem takeE_neg {Q : List Bool} {n : Int} (h : n < 0) : takeE Q n = 1 ∧ takeL Q n = [] ∧ takeU Q n = Q := by
  have e : takeE Q n = 1 := by unfold takeE; rw [if_pos h]
  have e2 : takeL Q n = [] := by unfold takeL; rw [e]; rfl
  exact ⟨e, e2, by unfold takeU; rw [e2]; rfl⟩
theorem takeE_few {Q : List Bool} {n : Int} (h0 : ¬ n < 0) (h : ((fr false Q).length : Int) < n) : takeE Q n = 11 ∧ takeL Q n = [] ∧ takeU Q n = Q := by
  have e : takeE Q n = 11 := by unfold takeE; rw [if_neg h0, if_pos h]
  have e2 : takeL Q n = [] := by unfold takeL; rw [e]; rfl
  exact ⟨e, e2, by unfold takeU; rw [e2]; rfl⟩
theorem takeE_yes {Q : List Bool} {n : Nat} (h : n ≤ (fr false Q).length) : takeE Q n = 0 ∧ takeL Q n = (fr false Q).take n ∧ takeU Q n = setB true ((fr false Q).take n) Q := by
  have e : takeE Q (n : Int) = 0 := by unfold takeE; rw [if_neg (by omega), if_neg (by omega)]
  have e2 : takeL Q (n : Int) = (fr false Q).take n := by unfold takeL; rw [if_pos e, Int.toNat_natCast]
  exact ⟨e, e2, by unfold takeU; rw [e2]⟩
theorem idxS_none (w : World) : IdxS w (.slice none 0 0) (intsN []) := ⟨none, 0, rfl, Nat.le_refl _, by unfold maxLen; omega, .inl rfl⟩
/-- Where Take stands ahead of the range. -/
structure TkW (w W : World) (b7 : Nat) (A1 : Option Addr) (cap1 : Nat) (Q : List Bool) (n : Int) : Prop where
  x0 : Boxed W w.heap.size 3 (.int .i64 n)
  x7 : Boxed W b7 22 (.slice A1 Q.length cap1)
  ow : OwnU W (w.heap.size + 1) (.slice A1 Q.length cap1) Q
  gl : ∀ g, A1 = some ⟨g, 0, none⟩ → g < b7
  lt : w.heap.size < b7
  be : Below w.heap.size w W
theorem TkW.below {w W W' : World} {b7 cap1 : Nat} {A1 : Option Addr} {Q : List Bool} {n : Int} (k : TkW w W b7 A1 cap1 Q n) (hb : Below W.heap.size W W') : TkW w W' b7 A1 cap1 Q n :=
  ⟨k.x0.kept (belowG hb) (by simp), k.x7.kept (belowG hb) (by simp), k.ow.below hb (Nat.le_refl _), k.gl, k.lt, k.be.trans (hb.mono k.be.size)⟩
theorem grown_set (W : World) (b o : Nat) (v : Value) : W.grownBy (W.setCell ⟨b, o, none⟩ v) (some b) :=
  ⟨rfl, rfl, rfl, (KeepsWalks.setCell W _ v).size, fun k _ hk => Below.heap_setCell _ _ _ k (fun e => hk (by rw [e]))⟩
theorem OwnU.kept {W W' : World} {base n c : Nat} {A : Option Addr} {Q : List Bool} {row : Option Nat} (k : OwnU W base (.slice A n c) Q) (hg : W.grownBy W' row) (hne : ∀ g, A = some ⟨g, 0, none⟩ → some g ≠ row) : OwnU W' base (.slice A n c) Q := by
  obtain ⟨A', cap, hv, h1, h2, h3⟩ := k
  injection hv with e1 e2 e3
  subst e1 e2 e3
  refine ⟨A, c, rfl, h1, h2, ?_⟩
  rcases h3 with h3 | ⟨g, hA, hg', hlt, hc⟩
  · exact .inl h3
  · have hb := hg.block g hlt (hne g hA)
    exact .inr ⟨g, hA, hg', Nat.lt_of_lt_of_le hlt hg.size, fun j hj => ⟨(World.cell?_of_block (a := ⟨g, j, none⟩) hb).trans (hc j hj).1, (World.frozen?_of_block (a := ⟨g, j, none⟩) hb).trans (hc j hj).2⟩⟩
/-- Where Take stands in the range: k are noted, k2 are turned. -/
structure TkI (w W : World) (b7 b8 : Nat) (A1 A : Option Addr) (cap1 cap : Nat) (Q : List Bool) (m k k2 : Nat) : Prop where
  x0 : Boxed W w.heap.size 3 (.int .i64 (m : Int))
  x7 : Boxed W b7 22 (.slice A1 Q.length cap1)
  x8 : ∃ u, Boxed W b8 23 u ∧ W.ownsRow b8 3 1 u k (ivs ((fr false Q).take k))
  y0 : Boxed W (b8 + 1) 22 (.slice A Q.length cap)
  y1 : Boxed W (b8 + 1 + 1) 4 (.bool false)
  ow : OwnU W (w.heap.size + 1) (.slice A1 Q.length cap1) (setB true ((fr false Q).take k2) Q)
  gl : ∀ g, A1 = some ⟨g, 0, none⟩ → g < b7
  l7 : w.heap.size < b7
  l8 : b7 < b8
  be : Below w.heap.size w W
  km : k ≤ m
section
variable {w W W' w1 : World} {b7 b8 cap1 cap m k k2 : Nat} {A1 A : Option Addr} {Q : List Bool}
theorem TkI.grow (h : TkI w W b7 b8 A1 A cap1 cap Q m k k2) {B : Nat} (hB : b8 + 3 ≤ B) {row : Option Nat} (hg : W.grownBy W' row) (hr : ∀ r, row = some r → B ≤ r ∧ ∃ o : Obj, W.heap[r]? = some o ∧ o.isCells = false) : TkI w W' b7 b8 A1 A cap1 cap Q m k k2 := by
  have h7 := h.l7
  have h8 := h.l8
  obtain ⟨u, hu, hrow⟩ := h.x8
  refine ⟨h.x0.kept hg (fun e => by have := (hr _ e.symm).1; omega), h.x7.kept hg (fun e => by have := (hr _ e.symm).1; omega), ⟨u, hu.kept hg (fun e => by have := (hr _ e.symm).1; omega), hrow.kept hg ?_⟩, h.y0.kept hg (fun e => by have := (hr _ e.symm).1; omega), h.y1.kept hg (fun e => by have := (hr _ e.symm).1; omega),
    h.ow.kept hg (fun g e e' => by have := (hr _ e'.symm).1; have := h.gl g e; omega), h.gl, h.l7, h.l8, h.be.grown hg h.be.size (fun r e => by have := (hr r e).1; omega), h.km⟩
  rcases hrow.2 with ⟨rfl, _⟩ | ⟨g, c9, cur, rfl, _, hgb, _⟩
  · exact .inl rfl
  · refine .inr fun e' => ?_
    obtain ⟨_, o, ho, hc⟩ := hr g (by simpa [Value.ownBlock] using e'.symm)
    rw [hgb] at ho; cases ho; cases hc
theorem TkI.sto (h : TkI w W b7 b8 A1 A cap1 cap Q m k k) {g : Nat} (hA : A1 = some ⟨g, 0, none⟩) (hk : k < (fr false Q).length) : TkI w (W.setCell ⟨g, (fr false Q).getD k 0, none⟩ (.bool true)) b7 b8 A1 A cap1 cap Q m k (k + 1) := by
  have h7 := h.l7
  have h8 := h.l8
  have hgl := h.gl g hA
  have hm : (fr false Q).getD k 0 < Q.length := by
    have : (fr false Q).getD k 0 ∈ fr false Q := by rw [List.getD, List.getElem?_eq_getElem hk]; exact List.getElem_mem ..
    exact (frI_mem.1 this).1
  have hgb : w.heap.size + 1 ≤ g := by
    obtain ⟨A', c9, hv, _, _, h3⟩ := h.ow
    injection hv with e1 e2 e3
    subst e1
    obtain ⟨g9, e9, hb9, _⟩ := h3.resolve_left (by rintro ⟨e, _⟩; rw [hA] at e; cases e)
    rw [hA] at e9; injection e9 with e9; injection e9 with e9; rw [e9]; exact hb9
  have hg := grown_set W g ((fr false Q).getD k 0) (.bool true)
  obtain ⟨u, hu, hrow⟩ := h.x8
  subst hA
  refine ⟨h.x0.kept hg (by intro e; injection e with e; omega), h.x7.kept hg (by intro e; injection e with e; omega), ⟨u, hu.kept hg (by intro e; injection e with e; omega), hrow.kept hg (.inr fun e => by have := (hrow.lt _ e).1; omega)⟩, h.y0.kept hg (by intro e; injection e with e; omega), h.y1.kept hg (by intro e; injection e with e; omega), ?_, h.gl, h.l7, h.l8, h.be.setCell (p := ⟨g, _, none⟩) (by show w.heap.size ≤ g; omega) _, h.km⟩
  rw [fr_take hk, setB_snoc]
  exact h.ow.set _ (by rw [setB_len]; exact hm) true
theorem TkI.app (h : TkI w W b7 b8 A1 A cap1 cap Q m k k2) {u u' : Value} {tmp : Obj} (hu : Boxed W b8 23 u) (hrow : W.ownsRow b8 3 1 u k (ivs ((fr false Q).take k))) (hk : k < (fr false Q).length) (hkm : k < m)
    (hown' : w1.ownsRow b8 3 1 u' (k + 1) (ivs ((fr false Q).take k) ++ [.int .i64 (frV false Q k)])) (hgrow : (W.alloc tmp).grownBy w1 u.ownBlock) :
    TkI w (w1.setCell ⟨b8, 0, none⟩ u') b7 b8 A1 A cap1 cap Q m (k + 1) k2 ∧ KeepsOthers W (w1.setCell ⟨b8, 0, none⟩ u') ∧ Boxed w1 b8 23 u := by
  have h7 := h.l7
  have h8 := h.l8
  have hb8 : b8 ≤ W.heap.size := Nat.le_of_lt hu.lt
  obtain ⟨q1, q2, q3, q4, q5⟩ := hu.appended (by decide) hrow hb8 (Nat.le_refl _) hown' hgrow
  have hbx : ∀ (B : Nat) (t : TypeId) (x : Value), t ≠ 3 → B ≠ b8 → Boxed W B t x → Boxed (w1.setCell ⟨b8, 0, none⟩ u') B t x := fun B t x ht hB hb =>
    ((hb.alloc tmp).kept hgrow (hb.not_row ht hrow)).kept (grownBy_setCell' w1 b8 u') (fun e => hB (by injection e))
  refine ⟨⟨?_, hbx _ _ _ (by decide) (by omega) h.x7, ⟨u', q2, by rw [fr_take hk, ivs_snoc]; exact q3⟩, hbx _ _ _ (by decide) (by omega) h.y0, hbx _ _ _ (by decide) (by omega) h.y1, ?_, h.gl, h.l7, h.l8, h.be.trans (q5.mono (by omega)), hkm⟩, q4, q1⟩
  · exact (q5.block _ (by omega)).trans h.x0
  · obtain ⟨A', c9, hv, h1, h2, h3⟩ := h.ow
    refine ⟨A', c9, hv, h1, h2, ?_⟩
    injection hv with e1 e2 e3
    rcases h3 with h3 | ⟨g, hA, hg', hlt, hc⟩
    · exact .inl h3
    · have hgl := h.gl g (e1.trans hA)
      have hb := q5.block g (by omega)
      exact .inr ⟨g, hA, hg', Nat.lt_of_lt_of_le hlt q5.size, fun j hj => ⟨(World.cell?_of_block (a := ⟨g, j, none⟩) hb).trans (hc j hj).1, (World.frozen?_of_block (a := ⟨g, j, none⟩) hb).trans (hc j hj).2⟩⟩
end
set_option maxRecDepth 100000 in
set_option maxHeartbeats 4000000 in
theorem spTake_any {w : World} {v : Value} {Q : List Bool} (h : UseS w v Q) (hq : Q.length ≤ 5000) (n : Int) :
    Calls Try.prog 10 #[v, .int .i64 n] w fun e w' => ∃ r l, e = .returned (.tuple #[r, l, .int .i64 (takeE Q n)]) ∧ OwnU w' w.heap.size r (takeU Q n) ∧ IdxS w' l (intsN (takeL Q n)) ∧ Below w.heap.size w w' := by
  have HU := Lib.hid h
  have HQ := Lib.hid hq
  have hCl := Lib.hid (fun (W : World) (hb : Below w.heap.size w W) (j : Nat) => (callsIn_wide (n := j)).2 (cloneU_any (h.below hb (Nat.le_refl _)) hq))
  have hFr := Lib.hid (fun (W : World) (hb : Below w.heap.size w W) (j : Nat) => (callsIn_wide (n := j)).2 (free_any (h.below hb (Nat.le_refl _)) hq))
  obtain ⟨A, cap, rfl, _⟩ := h
  refine (callsIn_wide (n := 9)).1 ?_
  have hf0 : Fence.wide.fn 10 := trivial
  have hf1 : Fence.wide.fn 23 := trivial
  have hf2 : Fence.wide.fn 16 := trivial
  have hf3 : Fence.wide.fn 22 := trivial
  have hSt := fun (W : World) j => (callsIn_wide (n := j)).2 (told_any A Q.length cap false W)
  have HB0 := Lib.hid ((Below.refl w.heap.size w).alloc (Nat.le_refl _) (.cells #[.int .i64 n] 3))
  have HX0 := Lib.hid (Boxed.new w 3 (.int .i64 n))
  clear hq
  refine callsIn_of_wp_marks Try.func10 rfl hf0 ?_ rfl
  simp only [Try.ntmps10, List.size_toArray, List.length_cons, List.length_nil, Nat.reduceAdd, Nat.reduceSub, Array.replicate_succ, Array.replicate_zero, List.push_toArray, List.append_toArray, List.nil_append, List.cons_append]
  by_cases hn0 : n < 0
  · have d1 : decide (n < 0) = true := decide_eq_true hn0
    have HE := Lib.hid (takeE_neg (Q := Q) hn0)
    clear hn0
    gi_wp2_with (gi_at_call 22; refine (hCl.out _ HB0.out _).mono ?_; rintro e w1 ⟨v1, rfl, hO1, hb1⟩; have HO1 := Lib.hid hO1; have HB1 := Lib.hid hb1; have hX1 := HX0.out.kept (belowG hb1) (by simp); have hc0 := hX1.cell; have hl0 := hX1.lt; have HX1 := Lib.hid hX1; obtain ⟨A1, cap1, rfl, _⟩ := id hO1; clear hO1 hb1 hX1)
    refine ⟨.tuple #[.slice A1 Q.length cap1, .slice none 0 0, .int .i64 1], ?_, _, _, by rw [HE.out.1], by rw [HE.out.2.2]; exact (HO1.out.base (by simp)).below ((Below.refl _ _).alloc (Nat.le_refl _) _) (Nat.le_refl _), by rw [HE.out.2.1]; exact idxS_none _, ?_⟩
    · simp [results, Try.f10, go_sem]
    · exact (HB0.out.trans (HB1.out.mono HB0.out.size)).alloc (Nat.le_trans HB0.out.size HB1.out.size) _
  · obtain ⟨m, rfl⟩ : ∃ m : Nat, n = (m : Int) := ⟨n.toNat, by omega⟩
    have d1 : decide ((m : Int) < 0) = false := decide_eq_false hn0
    clear hn0
    gi_wp2_with (gi_at_call 22; refine (hCl.out _ HB0.out _).mono ?_; rintro e w1 ⟨v1, rfl, hO1, hb1⟩; have HO1 := Lib.hid hO1; have HB1 := Lib.hid hb1; have hX1 := HX0.out.kept (belowG hb1) (by simp); have hc0 := hX1.cell; have hl0 := hX1.lt; have HX1 := Lib.hid hX1; obtain ⟨A1, cap1, rfl, _⟩ := id hO1; clear hO1 hb1 hX1)
    have HT2 : Hid (TkW w (w1.alloc (.cells #[.slice A1 Q.length cap1] 22)) w1.heap.size A1 cap1 Q (m : Int)) := Lib.hid ⟨HX1.out.alloc _, Boxed.new _ _ _, (HO1.out.base (by simp)).below ((Below.refl _ _).alloc (Nat.le_refl _) _) (Nat.le_refl _), fun g e => by
      obtain ⟨A9, c9, h9, _, _, h8⟩ := HO1.out
      injection h9 with e1 e2 e3
      subst e1
      obtain ⟨g9, e9, _, hl9, _⟩ := h8.resolve_left (by rintro ⟨e', _⟩; rw [e] at e'; cases e')
      rw [e] at e9
      injection e9 with e9
      injection e9 with e9
      rw [e9]; exact hl9, HX1.out.lt, (HB0.out.trans (HB1.out.mono HB0.out.size)).alloc (Nat.le_trans HB0.out.size HB1.out.size) _⟩
    clear HO1 HB1 HX1 hc0 hl0 HB0 HX0
    generalize w1.alloc (.cells #[.slice A1 Q.length cap1] 22) = w2 at HT2 ⊢
    generalize w1.heap.size = b7 at HT2 ⊢
    have HTD := Lib.hid (HT2.out.below ((Below.refl _ _).drew))
    clear HT2
    have c0 := HTD.out.x0.cell
    have hFq := fun (W : World) (hb : Below w.heap.size w W) => free_any (HU.out.below hb (Nat.le_refl _)) HQ.out
    have gd := HTD.out
    have z0 : ∀ p : Wk (fun W => TkW w W b7 A1 cap1 Q (m : Int)), p.W.cell? ⟨w.heap.size, 0, none⟩ = some (.int .i64 (m : Int)) := fun p => p.h.x0.cell
    refine wpIn_region_wk (fun W => TkW w W b7 A1 cap1 Q (m : Int)) (by kernel_rfl) (by kernel_rfl) gd ?_
    have ne : Nonempty (Wk (fun W => TkW w W b7 A1 cap1 Q (m : Int))) := ⟨⟨_, gd⟩⟩
    clear gd c0 HTD
    repeat (refine wpQuiet_step (fun K hK => ?_); go_simp; first
      | (refine hK _ ?_; clear hK K)
      | (apply Exists.intro
         refine ⟨fun p => ?_, hK _ ?_⟩
         (go_at_call 16; exact (hFq _ p.h.be).mono fun _ _ h => ⟨h.1, ⟨_, TkW.below p.h h.2⟩, rfl⟩)
         clear hK K))
    refine wpQuiet_nil ?_
    intro p
    have HT := Lib.hid p.h
    generalize p.W = w4 at HT ⊢
    clear p z0 ne hFq
    by_cases hf : (fr false Q).length < m
    · have d2 : decide (((fr false Q).length : Int) < (m : Int)) = true := decide_eq_true (by omega)
      have HE := Lib.hid (takeE_few (Q := Q) (n := (m : Int)) (by omega) (by omega))
      have c7 := HT.out.x7.cell
      gi_wp2
      refine ⟨.tuple #[.slice A1 Q.length cap1, .slice none 0 0, .int .i64 11], ?_, _, _, by rw [HE.out.1], by rw [HE.out.2.2]; exact HT.out.ow.base (by omega), by rw [HE.out.2.1]; exact idxS_none _, HT.out.be⟩
      simp [results, Try.f10, go_sem]
    · have d2 : decide (((fr false Q).length : Int) < (m : Int)) = false := decide_eq_false (by omega)
      have hmN : m ≤ (fr false Q).length := by omega
      have HE := Lib.hid (takeE_yes (Q := Q) hmN)
      have HMN := Lib.hid hmN
      clear hmN
      gi_wp2_with (gi_at_call 23; refine (hSt _ _).mono ?_; rintro e W5 ⟨rfl, hW5⟩; have HW5 := Lib.hid hW5; clear hW5)
      have hHI : Hid (W5.heap.size = w4.heap.size + 3 ∧ TkI w W5 b7 w4.heap.size A1 A cap1 cap Q m 0 0) := Lib.hid (by
        rw [HW5.out]
        have h0 := HT.out
        have h8 := h0.x7.lt
        have hb1 : Below w4.heap.size w4 (w4.alloc (.cells #[.slice none 0 0] 23)) := (Below.refl _ _).alloc (Nat.le_refl _) _
        have hB := told_boxes (A := A) (n := Q.length) (c := cap) (b := false) (w := w4) hb1
        simp only [World.size_alloc] at hB
        obtain ⟨e1, e2, e3⟩ := hB
        refine ⟨by simp, (h0.x0.kept (belowG e1) (by simp)), (h0.x7.kept (belowG e1) (by simp)), ⟨_, ((Boxed.new w4 _ _).alloc _).alloc _, World.ownsRow_nil _ _ _ _⟩, e2, e3, h0.ow.below e1 (Nat.le_refl _), h0.gl, h0.lt, h8, h0.be.trans (e1.mono h0.be.size), Nat.zero_le _⟩)
      clear HW5 HT
      generalize w4.heap.size = b8 at hHI ⊢
      refine wpIn_range_ie rfl (by omega) (gf := 25) (lb := #[.pointer (some ⟨b8 + 1, 0, none⟩), .pointer (some ⟨b8 + 1 + 1, 0, none⟩)]) (by simp [go_sem]) trivial (enters_of Try.func25 (by kernel_rfl) rfl) (encs := encsT false Q) (fun _ => rfl)
        (told_tells Fence.wide _ trivial rfl (by omega) (b8 + 1) _ false Q HQ.out W5)
        (fun k W => TkI w W b7 b8 A1 A cap1 cap Q m k k)
        (fun c k W => c = .exit 0 ∧ k = m ∧ TkI w W b7 b8 A1 A cap1 cap Q m k k)
        (fun k X Y row hs hg hr => hs.grow (by have := hHI.out.1; omega) hg hr)
        (fun c k X Y row hs hg hr => ⟨hs.1, hs.2.1, hs.2.2.grow (by have := hHI.out.1; omega) hg hr⟩)
        (fun k X hs => ⟨hs.y0, hs.y1, HU.out.below hs.be (Nat.le_refl _)⟩)
        hHI.out.2 ?a1 ?assign ?body ?done ?stop
      case assign =>
        intro l k W K hK
        unfold encsT
        gi_wp2
        exact hK
      case body =>
        intro l k W hI hk
        have HI := Lib.hid hI
        have HK := Lib.hid hk
        have c0 := hI.x0.cell
        have c7 := hI.x7.cell
        obtain ⟨u, hu, hrow⟩ := hI.x8
        have c8 := hu.cell
        have huu : ∃ Au cu, u = .slice Au k cu := by
          rcases hrow.2 with ⟨h, h0⟩ | ⟨g, c, _, h, _⟩
          · exact ⟨none, 0, by rw [h, h0]⟩
          · exact ⟨_, c, h⟩
        obtain ⟨Au, cu, rfl⟩ := huu
        have HUB := Lib.hid hu
        have HRW := Lib.hid hrow
        have HKM := Lib.hid hI.km
        clear hI hu hrow hk
        by_cases hkm : k = m
        · subst hkm
          gi_wp2
          exact ⟨KeepsFrom.refl _ _, rfl, rfl, HI.out⟩
        · have d5 : ((k : Int) == (m : Int)) = false := by rw [beq_eq_false_iff_ne]; omega
          have hkm2 : k < m := by have := HKM.out; omega
          obtain ⟨x, hx⟩ : ∃ x : Nat, x = (fr false Q).getD k 0 := ⟨_, rfl⟩
          have hfv : frV false Q k = (x : Int) := by unfold frV; rw [hx]
          have hxq : x < Q.length := by
            have : (fr false Q).getD k 0 ∈ fr false Q := by rw [List.getD, List.getElem?_eq_getElem HK.out]; exact List.getElem_mem ..
            rw [hx]; exact (frI_mem.1 this).1
          obtain ⟨A9, c9, h9, _, _, h3⟩ := HI.out.ow
          injection h9 with e1 e2 e3
          subst e1
          obtain ⟨g, rfl, hgb, _, hcc⟩ := h3.resolve_left (by rintro ⟨_, e⟩; have e' := congrArg List.length e; rw [setB_len, List.length_nil] at e'; omega)
          obtain ⟨k0, f0⟩ := hcc x (by rw [setB_len]; exact hxq)
          have hgl := HI.out.gl g rfl
          have hl8 := HI.out.l8
          have hl7 := HI.out.l7
          have HG := Lib.hid (HI.out.sto rfl HK.out)
          rw [← hx] at HG
          have hgs := grown_set W g x (.bool true)
          have hug := HUB.out.kept hgs (by intro e; injection e with e; omega)
          have HUG := Lib.hid hug
          have HRG := Lib.hid (HRW.out.kept hgs (.inr fun e => by have := (HRW.out.lt _ e).1; omega))
          have HKO := Lib.hid (KeepsOthers.setCell W ⟨g, x, none⟩ (.bool true))
          have hx0 : (0 : Int) ≤ (x : Int) := by omega
          have hx1 : (x : Int) < (Q.length : Int) := by omega
          have HKM2 := Lib.hid hkm2
          generalize (setB true ((fr false Q).take k) Q).getD x false = y0 at k0
          clear h3 hcc e2 e3 hx hxq hgb hgl hl8 hl7 hgs hug hkm hkm2 HI
          have c8g := HUG.out.cell
          gi_upto_region 11 with fail
          clear c0 c7 c8 k0 f0
          generalize W.setCell ⟨g, x, none⟩ (.bool true) = Wg at HG HUG HRG HKO c8g ⊢
          obtain ⟨i0, hi, hz0, hz1, hz2⟩ := info_parts infoIn
          have HL5 : Hid (k + 1 ≤ 5000) := Lib.hid (by have := HK.out; have := frI_len false Q Q.length; have := HQ.out; unfold fr at *; omega)
          have HGS : Hid (b8 ≤ Wg.heap.size) := Lib.hid (Nat.le_of_lt HUG.out.lt)
          clear d1 d5 hx0 hx1
          gi_wp2_with (gi_at_builtin; refine wpListIn_append_own _ rfl _ _ 23 rfl b8 3 i0 _ 1 8 Try.underlying23 hi hz0 hz1 hz2 rfl (by decide) _ _ _ rfl (HRG.out.alloc _) ⟨Wg.heap.size, 0, none⟩ 1 1 [.int .i64 (x : Int)] rfl rfl (one_cell Wg (x : Int) _) (fun u hu => by simp only [List.mem_cons, List.not_mem_nil, or_false] at hu; rcases hu with rfl; rfl) (by have := HL5.out; unfold maxLen; omega) (by have := HL5.out; omega) (by have := HGS.out; simp; omega) ?_; intro v' w1 hown' hgrow _; obtain ⟨g', cap', rfl⟩ := ownsRow_succ hown'; have HAP := Lib.hid (HG.out.app HUG.out HRG.out HK.out HKM2.out (by rw [hfv]; exact hown') hgrow); have hc1 := HAP.out.2.2.cell; have hf1 := HAP.out.2.2.frozen; clear hown' hgrow)
          exact ⟨(HKO.out.trans HAP.out.2.1).from _, HAP.out.1⟩
      case done =>
        intro D W hD hI hK
        have hN : (fr false Q).length = m := by have := hI.km; have := HMN.out; omega
        have hlt := hHI.out.1
        rw [hN] at hI
        have c7 := hI.x7.cell
        obtain ⟨u, hu, hrow⟩ := hI.x8
        have c8 := hu.cell
        have huu : ∃ Au cu, u = .slice Au m cu := by
          rcases hrow.2 with ⟨h, h0⟩ | ⟨g, c, _, h, _⟩
          · exact ⟨none, 0, by rw [h, h0]⟩
          · exact ⟨_, c, h⟩
        obtain ⟨Au, cu, rfl⟩ := huu
        have HI := Lib.hid hI
        have HRW := Lib.hid hrow
        have HKD := Lib.hid hK
        have HDD : Hid (b8 + 3 ≤ D) := Lib.hid (by have h5 := hHI.out.2.y1.lt; omega)
        clear hI hu hrow hK hN hlt
        have ne : Nonempty (Wk (fun X => X = W.drew)) := ⟨⟨_, rfl⟩⟩
        have z7 : ∀ p : Wk (fun X => X = W.drew), p.W.cell? ⟨b7, 0, none⟩ = some (.slice A1 Q.length cap1) := fun p => by rw [p.h]; exact c7
        have z8 : ∀ p : Wk (fun X => X = W.drew), p.W.cell? ⟨b8, 0, none⟩ = some (.slice Au m cu) := fun p => by rw [p.h]; exact c8
        clear c7 c8
        gi_wp2_with fail
        refine wpIn_region_wk (fun X => X = W.drew) (by kernel_rfl) (by kernel_rfl) rfl ?_
        repeat (refine wpQuiet_step (fun K hK => ?_); go_simp; (refine hK _ ?_; clear hK K))
        refine wpQuiet_nil ?_
        rintro ⟨_, rfl⟩
        clear z7 z8 ne
        gi_wp2
        refine ⟨by simp, .inl ⟨_, _, rfl, run_takeDeferred HKD.out, ?_⟩⟩
        have hbW : Below w.heap.size w (W.drew.putObj D (.deferred none)) := (HI.out.be.drew).grown (grownBy_putObj' _ D _) HI.out.be.size (fun r e => by cases e; have := HDD.out; have := HI.out.l7; have := HI.out.l8; omega)
        refine ⟨.tuple #[.slice A1 Q.length cap1, .slice Au m cu, .int .i64 0], ?_, _, _, by rw [HE.out.1], ?_, ?_, hbW⟩
        · simp [results, Try.f10, go_sem]
        · rw [HE.out.2.2]
          exact (HI.out.ow.base (by omega)).kept (W := W.drew) (grownBy_putObj' _ D _) (fun g e e' => by cases e'; have := HDD.out; have := HI.out.gl _ e; have := HI.out.l8; omega)
        · rw [HE.out.2.1]
          exact idxS_of (by rw [← ivs_ints]; exact ownsRow_putObj (W := W.drew) HRW.out _ HKD.out rfl)
      case stop =>
        rintro D c k W hD hk ⟨rfl, rfl, hI⟩ hK
        have hlt := hHI.out.1
        have c7 := hI.x7.cell
        obtain ⟨u, hu, hrow⟩ := hI.x8
        have c8 := hu.cell
        have huu : ∃ Au cu, u = .slice Au k cu := by
          rcases hrow.2 with ⟨h, h0⟩ | ⟨g, c, _, h, _⟩
          · exact ⟨none, 0, by rw [h, h0]⟩
          · exact ⟨_, c, h⟩
        obtain ⟨Au, cu, rfl⟩ := huu
        have HI := Lib.hid hI
        have HRW := Lib.hid hrow
        have HKD := Lib.hid hK
        have HDD : Hid (b8 + 3 ≤ D) := Lib.hid (by have h5 := hHI.out.2.y1.lt; omega)
        clear hI hu hrow hK hlt hk
        have ne : Nonempty (Wk (fun X => X = W.drew)) := ⟨⟨_, rfl⟩⟩
        have z7 : ∀ p : Wk (fun X => X = W.drew), p.W.cell? ⟨b7, 0, none⟩ = some (.slice A1 Q.length cap1) := fun p => by rw [p.h]; exact c7
        have z8 : ∀ p : Wk (fun X => X = W.drew), p.W.cell? ⟨b8, 0, none⟩ = some (.slice Au k cu) := fun p => by rw [p.h]; exact c8
        clear c7 c8
        gi_wp2_with fail
        refine wpIn_region_wk (fun X => X = W.drew) (by kernel_rfl) (by kernel_rfl) rfl ?_
        repeat (refine wpQuiet_step (fun K hK => ?_); go_simp; (refine hK _ ?_; clear hK K))
        refine wpQuiet_nil ?_
        rintro ⟨_, rfl⟩
        clear z7 z8 ne
        gi_wp2
        refine ⟨by simp, .inl ⟨_, _, rfl, run_takeDeferred HKD.out, ?_⟩⟩
        have hbW : Below w.heap.size w (W.drew.putObj D (.deferred none)) := (HI.out.be.drew).grown (grownBy_putObj' _ D _) HI.out.be.size (fun r e => by cases e; have := HDD.out; have := HI.out.l7; have := HI.out.l8; omega)
        refine ⟨.tuple #[.slice A1 Q.length cap1, .slice Au k cu, .int .i64 0], ?_, _, _, by rw [HE.out.1], ?_, ?_, hbW⟩
        · simp [results, Try.f10, go_sem]
        · rw [HE.out.2.2]
          exact (HI.out.ow.base (by omega)).kept (W := W.drew) (grownBy_putObj' _ D _) (fun g e e' => by cases e'; have := HDD.out; have := HI.out.gl _ e; have := HI.out.l8; omega)
        · rw [HE.out.2.1]
          exact idxS_of (by rw [← ivs_ints]; exact ownsRow_putObj (W := W.drew) HRW.out _ HKD.out rfl)
end Go.Proofs.Ytoaofhgkpnpglaa
