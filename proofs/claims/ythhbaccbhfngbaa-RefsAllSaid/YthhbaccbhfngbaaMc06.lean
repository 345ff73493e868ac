/- References: the document's Same, ahead. References: the document's Count: the model. References: what the document's count is, said by places. -/
import Derived.Test.YthhbaccbhfngbaaRefM
import Derived.Test.YthhbaccbhfngbaaMb04
import Derived.Test.YthhbaccbhfngbaaMc01
import Derived.Test.YthhbaccbhfngbaaMc05
import Derived.Deep.DeepCutAuto
namespace Go.Proofs.Ythhbaccbhfngbaa
open Go.RowKit

instance : DecidableEq RF := fun a b => if h : a.s = b.s ∧ a.m = b.m ∧ a.n = b.n then isTrue (by obtain ⟨h1, h2, h3⟩ := h; cases a; cases b; simp_all) else isFalse (fun e => h (by rw [e]; exact ⟨rfl, rfl, rfl⟩))
theorem same_allR {A B : List RF} (hl : A.length = B.length) (h : ∀ i, i < A.length → A.getD i RF.zero = B.getD i RF.zero) : A = B := by
  apply List.ext_getElem hl
  intro i h1 h2
  have := h i h1
  rw [List.getD, List.getD, List.getElem?_eq_getElem h1, List.getElem?_eq_getElem h2] at this
  exact this
set_option maxRecDepth 100000 in
set_option maxHeartbeats 2000000 in
theorem docSame_any {A B : List RF} {va vb : Value} {w : World} (ha : RefS w va A) (hb : RefS w vb B) :
    Calls Try.prog 12 #[va, vb] w fun e w' => e = .returned (.bool (decide (A = B))) ∧ Below w.heap.size w w' := by
  obtain ⟨PA, capA, rfl, ha1, ha2, ha3⟩ := ha
  obtain ⟨PB, capB, rfl, hb1, hb2, hb3⟩ := hb
  have HA := Lib.hid ha3
  have HBB := Lib.hid hb3
  clear ha3 hb3
  by_cases hl : A.length = B.length
  case neg =>
    have d0 : ((A.length : Int) == (B.length : Int)) = false := by rw [beq_eq_false_iff_ne]; omega
    have d1 : ((A.length : Int) != (B.length : Int)) = true := by rw [bne_iff_ne]; omega
    have HF : Hid (decide (A = B) = false) := Lib.hid (decide_eq_false (fun e => hl (by rw [e])))
    clear hl
    go_enter Try.func12, Try.ntmps12
    go_wp2
    go_ret
    exact ⟨by rw [HF.out]; rfl, Below.refl _ _⟩
  case pos =>
  have d0 : ((A.length : Int) == (B.length : Int)) = true := by rw [beq_iff_eq]; omega
  have d1 : ((A.length : Int) != (B.length : Int)) = false := by rw [bne_eq_false_iff_eq]; omega
  have HL := Lib.hid hl
  clear hl
  go_enter Try.func12, Try.ntmps12
  go_wp2
  clear d0 d1
  go_loopw [13] (fun ix wr => ∃ (j : Nat), j ≤ A.length ∧ ix = .int .i64 (j : Int) ∧ (∀ i, i < j → A.getD i RF.zero = B.getD i RF.zero) ∧ Below w.heap.size w wr) (fun ix _ => A.length - (intOf ix).toNat)
  case atStart => exact ⟨0, Nat.zero_le _, rfl, (fun i h => absurd h (by omega)), Below.refl _ _⟩
  case round =>
    obtain ⟨j, hj, rfl, hp, hB⟩ := hrel
    have HB := Lib.hid hB
    have HP := Lib.hid hp
    clear hB hp
    by_cases hlt : j < A.length
    · have hlt2 : j < B.length := by have := HL.out; omega
      obtain ⟨b, off, rfl, hb, hcell⟩ := HA.out.resolve_left (by intro e; rw [e] at hlt; simp at hlt)
      obtain ⟨b2, off2, rfl, hb2, hcell2⟩ := HBB.out.resolve_left (by intro e; rw [e] at hlt2; simp at hlt2)
      have hc : ∀ q u, (A.getD j RF.zero).enc[q]? = some u → wr.cell? ⟨b, off + j * 3 + q, none⟩ = some u := fun q u hu => (HB.out.cell (p := ⟨b, off + j * 3 + q, none⟩) hb).trans (hcell j hlt q u hu)
      have hc2 : ∀ q u, (B.getD j RF.zero).enc[q]? = some u → wr.cell? ⟨b2, off2 + j * 3 + q, none⟩ = some u := fun q u hu => (HB.out.cell (p := ⟨b2, off2 + j * 3 + q, none⟩) hb2).trans (hcell2 j hlt2 q u hu)
      have hdl : decide ((j : Int) < (B.length : Int)) = true := decide_eq_true (by omega)
      have HEQ : Hid (A.getD j RF.zero = B.getD j RF.zero → ∀ i, i < j + 1 → A.getD i RF.zero = B.getD i RF.zero) := Lib.hid (fun h i hi => by
        by_cases e : i = j
        · rw [e]; exact h
        · exact HP.out i (by omega))
      have HNE0 : Hid (A.getD j RF.zero ≠ B.getD j RF.zero → A ≠ B) := Lib.hid (fun h e => h (by rw [e]))
      clear hcell hcell2 hb hb2
      generalize A.getD j RF.zero = p at hc HEQ HNE0
      generalize B.getD j RF.zero = q at hc2 HEQ HNE0
      obtain ⟨st, mb, fr⟩ := p
      obtain ⟨st', mb', fr'⟩ := q
      have q0 : wr.cell? ⟨b, off + j * 3, none⟩ = some (.int .i64 st) := hc 0 _ rfl
      have q1 : wr.cell? ⟨b, off + j * 3 + 1, none⟩ = some (.int .i64 mb) := hc 1 _ rfl
      have q2 : wr.cell? ⟨b, off + j * 3 + 2, none⟩ = some (.int .i64 fr) := hc 2 _ rfl
      have r0 : wr.cell? ⟨b2, off2 + j * 3, none⟩ = some (.int .i64 st') := hc2 0 _ rfl
      have r1 : wr.cell? ⟨b2, off2 + j * 3 + 1, none⟩ = some (.int .i64 mb') := hc2 1 _ rfl
      have r2 : wr.cell? ⟨b2, off2 + j * 3 + 2, none⟩ = some (.int .i64 fr') := hc2 2 _ rfl
      clear hc hc2
      by_cases hs : st = st'
      · have b1 : (st == st') = true := by rw [beq_iff_eq]; exact hs
        by_cases hm : mb = mb'
        · have b2 : (mb == mb') = true := by rw [beq_iff_eq]; exact hm
          by_cases hf : fr = fr'
          · have b3 : (fr == fr') = true := by rw [beq_iff_eq]; exact hf
            have HJ := Lib.hid (HEQ.out (by rw [hs, hm, hf]))
            clear HEQ HNE0 hs hm hf
            have hw1 := wrap_succ hlt ha1 ha2
            go_upto_region 6 with fail
            go_quiet (fail)
            go_wp2
            clear hdl b1 b2 b3
            rw [hw1]
            clear hw1
            go_roundw
            case rel => exact ⟨j + 1, by omega, by go_num, HJ.out, below_drewN HB.out _⟩
            case measure => simp [intOf]; omega
          · have hd : (fr == fr') = false := by rw [beq_eq_false_iff_ne]; exact hf
            have HF : Hid (decide (A = B) = false) := Lib.hid (decide_eq_false (HNE0.out (fun e => hf (by injection e))))
            clear hf hm hs HEQ HNE0
            go_upto_region 6 with fail
            go_quiet (fail)
            go_wp2
            go_ret
            exact ⟨by rw [HF.out]; rfl, below_drewN HB.out _⟩
        · have hd : (mb == mb') = false := by rw [beq_eq_false_iff_ne]; exact hm
          have HF : Hid (decide (A = B) = false) := Lib.hid (decide_eq_false (HNE0.out (fun e => hm (by injection e))))
          clear hm hs HEQ HNE0
          go_upto_region 6 with fail
          go_quiet (fail)
          go_wp2
          go_ret
          exact ⟨by rw [HF.out]; rfl, below_drewN HB.out _⟩
      · have hd : (st == st') = false := by rw [beq_eq_false_iff_ne]; exact hs
        have HF : Hid (decide (A = B) = false) := Lib.hid (decide_eq_false (HNE0.out (fun e => hs (by injection e))))
        clear hs HEQ HNE0
        go_upto_region 6 with fail
        go_quiet (fail)
        go_wp2
        go_ret
        exact ⟨by rw [HF.out]; rfl, below_drewN HB.out _⟩
    · obtain rfl : j = A.length := by omega
      have HF : Hid (decide (A = B) = true) := Lib.hid (decide_eq_true (same_allR HL.out HP.out))
      go_wp2
      go_ret
      exact ⟨by rw [HF.out]; rfl, HB.out⟩
/-- A place ahead of another one. -/
def aheadB (a b c d : Int) : Bool := decide (a < c) || (a == c && decide (b < d))
set_option maxRecDepth 100000 in
set_option maxHeartbeats 1000000 in
theorem docAhead_any (a b c d : Int) (w : World) :
    Calls Try.prog 27 #[.agg #[.int .i64 a, .int .i64 b], .agg #[.int .i64 c, .int .i64 d]] w fun e w' => e = .returned (.bool (aheadB a b c d)) ∧ Below w.heap.size w w' := by
  have hb : Below w.heap.size w ((w.alloc (.cells #[.int .i64 a, .int .i64 b] 36)).alloc (.cells #[.int .i64 c, .int .i64 d] 36)) := (below_new w _).alloc (by simp) _
  unfold aheadB
  by_cases h1 : a < c
  · have d1 : decide (a < c) = true := decide_eq_true h1
    rw [d1, Bool.true_or]
    go_enter Try.func27, Try.ntmps27
    go_wp2
    go_ret
    exact ⟨rfl, hb⟩
  · have d1 : decide (a < c) = false := decide_eq_false h1
    rw [d1, Bool.false_or]
    by_cases h2 : a = c
    · have d2 : (a == c) = true := by rw [beq_iff_eq]; exact h2
      rw [d2, Bool.true_and]
      clear h1 h2
      cases d3 : decide (b < d) with
      | true =>
        go_enter Try.func27, Try.ntmps27
        go_wp2
        go_ret
        exact ⟨rfl, hb⟩
      | false =>
        go_enter Try.func27, Try.ntmps27
        go_wp2
        go_ret
        exact ⟨rfl, hb⟩
    · have d2 : (a == c) = false := by rw [beq_eq_false_iff_ne]; exact h2
      rw [d2, Bool.false_and]
      clear h1 h2
      go_enter Try.func27, Try.ntmps27
      go_wp2
      go_ret
      exact ⟨rfl, hb⟩
end Go.Proofs.Ythhbaccbhfngbaa
namespace Go.Proofs.Ythhbaccbhfngbaa
open Go.RowKit

theorem tw_len {α : Type} (p : α → Bool) (z : α) : ∀ (l : List α) (i : Nat), i ≤ l.length → (∀ j, j < i → p (l.getD j z) = true) → (i < l.length → p (l.getD i z) = false) → (l.takeWhile p).length = i
  | [], i, h, _, _ => by simp at h; simp [h]
  | x :: l, 0, _, _, h2 => by
    have h3 := h2 (by simp)
    rw [List.getD_cons_zero] at h3
    rw [List.takeWhile_cons, if_neg (by rw [h3]; decide)]; rfl
  | x :: l, i + 1, h, h1, h2 => by
    have h3 := h1 0 (by omega)
    rw [List.getD_cons_zero] at h3
    rw [List.takeWhile_cons, if_pos h3, List.length_cons, tw_len p z l i (by simpa using h) (fun j hj => by have := h1 (j + 1) (by omega); rwa [List.getD_cons_succ] at this) (fun hi => by have := h2 (by simpa using hi); rwa [List.getD_cons_succ] at this)]
/-- Where a place stands, or would. -/
def posR (l : List RF) (s m : Int) : Nat := (l.takeWhile (fun r => aheadB r.s r.m s m)).length
/-- One entry more is counted. -/
def cntS (l : List RF) (y : EN) : List RF :=
  if y.kind = 1 then
    if posR l y.st y.mb < l.length ∧ (l.getD (posR l y.st y.mb) RF.zero).s = y.st ∧ (l.getD (posR l y.st y.mb) RF.zero).m = y.mb then l.set (posR l y.st y.mb) ⟨(l.getD (posR l y.st y.mb) RF.zero).s, (l.getD (posR l y.st y.mb) RF.zero).m, wrap64 ((l.getD (posR l y.st y.mb) RF.zero).n + 1)⟩
    else l.take (posR l y.st y.mb) ++ [⟨y.st, y.mb, 1⟩] ++ l.drop (posR l y.st y.mb)
  else l
def cntU (L : List EN) : List RF := L.foldl cntS []
theorem cntU_snoc {L : List EN} {j : Nat} (h : j < L.length) : (L.take (j + 1)).foldl cntS [] = cntS ((L.take j).foldl cntS []) (L.getD j EN.zero) := by
  rw [getD_snoc EN.zero h, List.foldl_append]; rfl
theorem cntS_len (l : List RF) (y : EN) : (cntS l y).length ≤ l.length + 1 := by
  unfold cntS; split
  · split
    · simp
    · simp; omega
  · omega
theorem cntU_len : ∀ (L : List EN) (l : List RF), (L.foldl cntS l).length ≤ l.length + L.length
  | [], l => Nat.le_refl _
  | b :: L, l => by
    have h1 := cntU_len L (cntS l b)
    have h2 := cntS_len l b
    rw [List.foldl_cons, List.length_cons]; omega
theorem cntS_hit {l : List RF} {s m f : Int} {i : Nat} {n : Int} {kk : Int} (hk : kk = 1) (hp : posR l s m = i) (hi : i < l.length) (h : l.getD i RF.zero = ⟨s, m, n⟩) : cntS l ⟨kk, s, m, f⟩ = l.set i ⟨s, m, wrap64 (n + 1)⟩ := by
  unfold cntS
  rw [if_pos hk]
  dsimp only
  rw [hp, h, if_pos ⟨hi, rfl, rfl⟩]
theorem cntS_lay {l : List RF} {s m f : Int} {i : Nat} {kk : Int} (hk : kk = 1) (hp : posR l s m = i) (h : i < l.length → ¬ ((l.getD i RF.zero).s = s ∧ (l.getD i RF.zero).m = m)) : cntS l ⟨kk, s, m, f⟩ = l.take i ++ [⟨s, m, 1⟩] ++ l.drop i := by
  unfold cntS
  rw [if_pos hk]
  dsimp only
  rw [hp, if_neg (fun e => h e.1 e.2)]
theorem cntS_no {l : List RF} {y : EN} (hk : y.kind ≠ 1) : cntS l y = l := by unfold cntS; rw [if_neg hk]
theorem flat_setN : ∀ (l : List RF) (i : Nat) (s m n n' : Int), i < l.length → l.getD i RF.zero = ⟨s, m, n⟩ → (l.set i ⟨s, m, n'⟩).flatMap RF.enc = (l.flatMap RF.enc).set (i * 3 + 2) (.int .i64 n')
  | x :: l, 0, s, m, n, n', _, h => by
    rw [List.getD_cons_zero] at h
    rw [h]; rfl
  | x :: l, i + 1, s, m, n, n', hi, h => by
    rw [List.getD_cons_succ] at h
    have e : (i + 1) * 3 + 2 = (i * 3 + 2) + 1 + 1 + 1 := by omega
    rw [List.set_cons_succ, List.flatMap_cons, List.flatMap_cons, flat_setN l i s m n n' (by simpa using hi) h, e]
    obtain ⟨a, b, c⟩ := x
    rfl
theorem rfInfo : ∃ i, Try.prog.info? 52 = some i ∧ i.zero = some (.agg #[.int .i64 0, .int .i64 0, .int .i64 0]) ∧ i.size = 3 ∧ i.bytes = 24 := by
  have e : (Try.prog.info? 52).map (fun i => (i.zero, i.size, i.bytes)) = some (some (.agg #[.int .i64 0, .int .i64 0, .int .i64 0]), 3, 24) := by kernel_rfl
  obtain ⟨i, hi, hz⟩ := Option.map_eq_some_iff.1 e
  simp only [Prod.mk.injEq] at hz
  exact ⟨i, hi, hz.1, hz.2.1, hz.2.2⟩
/-- What the three appends come to. -/
theorem ins_rf {w : World} {uL uR : Value} {A B : List RF} (s m n : Int) (hL : SrcS RF.enc w uL A) (hL2 : ∀ a c n, uL = .slice (some a) n c → a.block < w.heap.size) (hR : SrcS RF.enc w uR B) (hR2 : ∀ a c n, uR = .slice (some a) n c → a.block < w.heap.size) (hl : A.length + 1 + B.length ≤ 100000) :
    ∃ v1 w2, (Builtin.append_ #[25, 25] 25 #[.slice (some ⟨w.heap.size, 0, none⟩) 0 0, uL]).run Try.prog (w.alloc (.cells #[] 52)) = .ok v1 w2 ∧
      ∃ v2 w3, (Builtin.append_ #[25, 25] 25 #[v1, .slice (some ⟨w2.heap.size, 0, none⟩) 1 1]).run Try.prog (w2.alloc (.cells #[.int .i64 s, .int .i64 m, .int .i64 n] 52)) = .ok v2 w3 ∧
        ∃ v3 w4, (Builtin.append_ #[25, 25] 25 #[v2, uR]).run Try.prog w3 = .ok v3 w4 ∧ w4.ownsRow w.heap.size 52 3 v3 (A ++ [(⟨s, m, n⟩ : RF)] ++ B).length ((A ++ [(⟨s, m, n⟩ : RF)] ++ B).flatMap RF.enc) ∧ Below w.heap.size w w4 := by
  obtain ⟨i0, hi, hz0, hz1, hz2⟩ := rfInfo
  obtain ⟨v1, w2, r1, v2, w3, r2, v3, w4, r3, o, b, _⟩ := ins_runs Try.underlying25 hi hz0 hz1 hz2 rfl (by decide) RF.enc_len RF.enc_one (⟨s, m, n⟩ : RF) hL hL2 hR hR2 (by unfold maxLen; omega) (by omega)
  exact ⟨v1, w2, r1, v2, w3, r2, v3, w4, r3, o, b⟩
end Go.Proofs.Ythhbaccbhfngbaa
namespace Go.Proofs.Ythhbaccbhfngbaa
open Go.RowKit

def plcOf (L : List EN) : List (Int × Int) := (L.filter (fun y => y.kind = 1)).map (fun y => (y.st, y.mb))
theorem plcOf_y {L : List EN} {y : EN} (h : y.kind = 1) : plcOf (L ++ [y]) = plcOf L ++ [(y.st, y.mb)] := by
  unfold plcOf; rw [List.filter_append, List.filter_cons_of_pos (by simpa using h), List.filter_nil, List.map_append]; rfl
theorem plcOf_n {L : List EN} {y : EN} (h : y.kind ≠ 1) : plcOf (L ++ [y]) = plcOf L := by
  unfold plcOf; rw [List.filter_append, List.filter_cons_of_neg (by simpa using h), List.filter_nil, List.append_nil]
theorem plcOf_len (L : List EN) : (plcOf L).length ≤ L.length := by
  unfold plcOf; rw [List.length_map]; exact List.length_filter_le _ _
theorem aheadB_iff {a b c d : Int} : aheadB a b c d = true ↔ a < c ∨ (a = c ∧ b < d) := by
  unfold aheadB
  simp [Bool.or_eq_true, Bool.and_eq_true]
abbrev Ahd (x y : RF) : Prop := aheadB x.s x.m y.s y.m = true
theorem Ahd.ne {x y : RF} (h : Ahd x y) : ¬ (x.s = y.s ∧ x.m = y.m) := by
  rintro ⟨h1, h2⟩
  rw [Ahd, aheadB_iff] at h
  omega
theorem Ahd.trans {x y z : RF} (h : Ahd x y) (k : Ahd y z) : Ahd x z := by
  rw [Ahd, aheadB_iff] at *
  omega
/-- The references of these places, in their order. -/
structure RefsOf (l : List RF) (P : List (Int × Int)) : Prop where
  pw : l.Pairwise Ahd
  mem : ∀ r : RF, r ∈ l ↔ (r.s, r.m) ∈ P ∧ r.n = (P.count (r.s, r.m) : Nat)
theorem RefsOf.nil : RefsOf [] [] := ⟨List.Pairwise.nil, fun r => by simp⟩
theorem strict_eq : ∀ {A B : List RF}, A.Pairwise Ahd → B.Pairwise Ahd → (∀ x, x ∈ A ↔ x ∈ B) → A = B
  | [], [], _, _, _ => rfl
  | [], y :: B, _, _, h => absurd ((h y).2 (List.mem_cons_self ..)) (by simp)
  | x :: A, [], _, _, h => absurd ((h x).1 (List.mem_cons_self ..)) (by simp)
  | x :: A, y :: B, ha, hb, h => by
    obtain ⟨a1, a2⟩ := List.pairwise_cons.1 ha
    obtain ⟨b1, b2⟩ := List.pairwise_cons.1 hb
    have exy : x = y := by
      rcases List.mem_cons.1 ((h x).1 (List.mem_cons_self ..)) with e | e
      · exact e
      rcases List.mem_cons.1 ((h y).2 (List.mem_cons_self ..)) with e' | e'
      · exact e'.symm
      exact absurd ⟨rfl, rfl⟩ ((b1 x e).trans (a1 y e')).ne
    subst exy
    congr 1
    refine strict_eq a2 b2 (fun z => ⟨fun hz => ?_, fun hz => ?_⟩)
    · rcases List.mem_cons.1 ((h z).1 (List.mem_cons_of_mem _ hz)) with e | e
      · subst e; exact absurd ⟨rfl, rfl⟩ (a1 z hz).ne
      · exact e
    · rcases List.mem_cons.1 ((h z).2 (List.mem_cons_of_mem _ hz)) with e | e
      · subst e; exact absurd ⟨rfl, rfl⟩ (b1 z hz).ne
      · exact e
theorem RefsOf.eq {A B : List RF} {P : List (Int × Int)} (ha : RefsOf A P) (hb : RefsOf B P) : A = B :=
  strict_eq ha.pw hb.pw (fun x => by rw [ha.mem, hb.mem])
/-- Where a place stands, or would stand. -/
theorem split_at (l : List RF) (s m : Int) : ∃ A B, l = A ++ B ∧ A.length = posR l s m ∧ (∀ r ∈ A, aheadB r.s r.m s m = true) ∧ (∀ r B', B = r :: B' → aheadB r.s r.m s m = false) := by
  refine ⟨l.takeWhile (fun r => aheadB r.s r.m s m), l.dropWhile (fun r => aheadB r.s r.m s m), (List.takeWhile_append_dropWhile ..).symm, rfl, fun r hr => ?_, fun r B' h => ?_⟩
  · induction l with
    | nil => simp at hr
    | cons x l ih =>
      rw [List.takeWhile_cons] at hr
      split at hr
      · rename_i hx
        rcases List.mem_cons.1 hr with rfl | hr
        · exact hx
        · exact ih hr
      · simp at hr
  · induction l with
    | nil => simp at h
    | cons x l ih =>
      rw [List.dropWhile_cons] at h
      split at h
      · exact ih h
      · rename_i hx
        injection h with h1 h2
        rw [← h1]; simpa using hx
theorem count_snoc_ne {P : List (Int × Int)} {p q : Int × Int} (h : p ≠ q) : (P ++ [q]).count p = P.count p := by
  rw [List.count_append, List.count_eq_zero_of_not_mem (a := p) (l := [q]) (by simpa using h), Nat.add_zero]
theorem count_snoc_eq {P : List (Int × Int)} {q : Int × Int} : (P ++ [q]).count q = P.count q + 1 := by
  rw [List.count_append, List.count_singleton_self]
theorem RefsOf.step {l : List RF} {P : List (Int × Int)} (h : RefsOf l P) {y : EN} (hk : y.kind = 1) (hP : P.length ≤ 100000) : RefsOf (cntS l y) (P ++ [(y.st, y.mb)]) := by
  obtain ⟨kk, s, m, f⟩ := y
  dsimp only at hk ⊢
  obtain ⟨A, B, hl, hA, hAa, hB⟩ := split_at l s m
  have hpw := h.pw
  rw [hl] at hpw
  obtain ⟨pA, pB, pAB⟩ := List.pairwise_append.1 hpw
  have hneA : ∀ r ∈ A, (r.s, r.m) ≠ (s, m) := fun r hr e => by
    have h1 := hAa r hr
    rw [aheadB_iff] at h1
    injection e with e1 e2
    omega
  have hmemN : ∀ r : RF, (r.s, r.m) ≠ (s, m) → (r ∈ l ↔ (r.s, r.m) ∈ P ++ [(s, m)] ∧ r.n = ((P ++ [(s, m)]).count (r.s, r.m) : Nat)) := fun r hr => by
    rw [h.mem, count_snoc_ne hr, List.mem_append]
    simp [hr]
  have hcnt : ((P ++ [(s, m)]).count (s, m)) = P.count (s, m) + 1 := count_snoc_eq
  cases B with
  | nil =>
    rw [List.append_nil] at hl
    have hp : posR l s m = l.length := by rw [← hA, hl]
    have e : cntS l ⟨kk, s, m, f⟩ = l ++ [⟨s, m, 1⟩] := by
      rw [cntS_lay (l := l) (i := l.length) hk hp (fun h => absurd h (Nat.lt_irrefl _)), List.take_length, List.drop_length, List.append_nil]
    rw [e]
    have hnot : (s, m) ∉ P := fun hm => by
      have := (h.mem ⟨s, m, (P.count (s, m) : Nat)⟩).2 ⟨hm, rfl⟩
      rw [hl] at this
      exact hneA _ this rfl
    have h0 : P.count (s, m) = 0 := List.count_eq_zero_of_not_mem hnot
    refine ⟨?_, fun r => ?_⟩
    · rw [hl]
      refine List.pairwise_append.2 ⟨pA, by simp, fun x hx z hz => ?_⟩
      rw [List.mem_singleton] at hz
      rw [hz]; exact hAa x hx
    · rw [List.mem_append, List.mem_singleton]
      by_cases hr : (r.s, r.m) = (s, m)
      · obtain ⟨rs, rm, rn⟩ := r
        injection hr with e1 e2
        dsimp only at e1 e2 ⊢
        subst e1; subst e2
        rw [hcnt, h0]
        constructor
        · rintro (h1 | h1)
          · rw [hl] at h1; exact absurd rfl (hneA _ h1)
          · injection h1 with _ _ h1
            exact ⟨by simp, by rw [h1]; rfl⟩
        · rintro ⟨_, h1⟩
          exact .inr (by rw [h1]; rfl)
      · rw [← hmemN r hr]
        exact ⟨fun h1 => h1.resolve_right (fun h2 => hr (by rw [h2])), .inl⟩
  | cons r0 B' =>
    have hr0 := hB r0 B' rfl
    have hi : posR l s m < l.length := by rw [← hA, hl]; simp
    have hget : l.getD (posR l s m) RF.zero = r0 := by rw [← hA, hl, List.getD, List.getElem?_append_right (Nat.le_refl _)]; simp
    obtain ⟨b1, b2⟩ := List.pairwise_cons.1 pB
    have hneB : ∀ r ∈ B', (r.s, r.m) ≠ (s, m) := fun r hr e => by
      have h1 := b1 r hr
      injection e with e1 e2
      have h2 : ¬ (r0.s < s ∨ (r0.s = s ∧ r0.m < m)) := by rw [← aheadB_iff, hr0]; decide
      rw [Ahd, aheadB_iff] at h1
      omega
    by_cases hit : r0.s = s ∧ r0.m = m
    · obtain ⟨rs, rm, rn⟩ := r0
      obtain ⟨e1, e2⟩ := hit
      dsimp only at e1 e2
      subst e1; subst e2
      have hin : (⟨rs, rm, rn⟩ : RF) ∈ l := by rw [hl]; simp
      obtain ⟨hmP, hn⟩ := (h.mem _).1 hin
      dsimp only at hmP hn
      have hc : P.count (rs, rm) ≤ 100000 := Nat.le_trans List.count_le_length hP
      have hw : wrap64 (rn + 1) = rn + 1 := by rw [hn]; unfold wrap64; omega
      have e : cntS l ⟨kk, rs, rm, f⟩ = A ++ ⟨rs, rm, rn + 1⟩ :: B' := by
        rw [cntS_hit hk rfl hi hget, hw, ← hA, hl, List.set_append_right (i := A.length) (h := Nat.le_refl _), Nat.sub_self, List.set_cons_zero]
      rw [e]
      refine ⟨?_, fun r => ?_⟩
      · refine List.pairwise_append.2 ⟨pA, List.pairwise_cons.2 ⟨fun z hz => b1 z hz, b2⟩, fun x hx z hz => ?_⟩
        rcases List.mem_cons.1 hz with rfl | hz
        · exact hAa x hx
        · exact pAB x hx z (List.mem_cons_of_mem _ hz)
      · by_cases hr : (r.s, r.m) = (rs, rm)
        · obtain ⟨s', m', n'⟩ := r
          injection hr with e1 e2
          dsimp only at e1 e2 ⊢
          subst e1; subst e2
          rw [hcnt]
          rw [List.mem_append, List.mem_cons]
          constructor
          · rintro (h1 | h1 | h1)
            · exact absurd rfl (hneA _ h1)
            · injection h1 with _ _ h1
              exact ⟨by simp, by rw [h1, hn]; rfl⟩
            · exact absurd rfl (hneB _ h1)
          · rintro ⟨_, h1⟩
            exact .inr (.inl (by rw [h1, hn]; rfl))
        · rw [← hmemN r hr, hl, List.mem_append, List.mem_append, List.mem_cons, List.mem_cons]
          constructor
          · rintro (h1 | rfl | h1)
            · exact .inl h1
            · exact absurd rfl hr
            · exact .inr (.inr h1)
          · rintro (h1 | rfl | h1)
            · exact .inl h1
            · exact absurd rfl hr
            · exact .inr (.inr h1)
    · have e : cntS l ⟨kk, s, m, f⟩ = A ++ [⟨s, m, 1⟩] ++ r0 :: B' := by
        rw [cntS_lay hk rfl (fun _ => by rw [hget]; exact hit), ← hA, hl, List.take_left' rfl, List.drop_left' rfl]
      rw [e]
      have hah : Ahd ⟨s, m, 1⟩ r0 := by
        rw [Ahd, aheadB_iff]
        have h2 : ¬ (r0.s < s ∨ (r0.s = s ∧ r0.m < m)) := by rw [← aheadB_iff, hr0]; decide
        dsimp only
        omega
      have hne0 : (r0.s, r0.m) ≠ (s, m) := fun e => hit (by injection e with e1 e2; exact ⟨e1, e2⟩)
      have hnot : (s, m) ∉ P := fun hm => by
        have := (h.mem ⟨s, m, (P.count (s, m) : Nat)⟩).2 ⟨hm, rfl⟩
        rw [hl, List.mem_append, List.mem_cons] at this
        rcases this with h1 | h1 | h1
        · exact hneA _ h1 rfl
        · exact hne0 (by rw [← h1])
        · exact hneB _ h1 rfl
      have h0 : P.count (s, m) = 0 := List.count_eq_zero_of_not_mem hnot
      refine ⟨?_, fun r => ?_⟩
      · rw [List.append_assoc]
        refine List.pairwise_append.2 ⟨pA, List.pairwise_cons.2 ⟨fun z hz => ?_, pB⟩, fun x hx z hz => ?_⟩
        · rcases List.mem_cons.1 hz with rfl | hz
          · exact hah
          · exact hah.trans (b1 z hz)
        · rcases List.mem_cons.1 hz with rfl | hz
          · exact hAa x hx
          · exact pAB x hx z hz
      · rw [List.append_assoc, List.mem_append, List.singleton_append, List.mem_cons]
        by_cases hr : (r.s, r.m) = (s, m)
        · obtain ⟨rs, rm, rn⟩ := r
          injection hr with e1 e2
          dsimp only at e1 e2 ⊢
          subst e1; subst e2
          rw [hcnt, h0]
          constructor
          · rintro (h1 | h1 | h1)
            · exact absurd rfl (hneA _ h1)
            · injection h1 with _ _ h1
              exact ⟨by simp, by rw [h1]; rfl⟩
            · rcases List.mem_cons.1 h1 with h1 | h1
              · exact absurd (by rw [← h1]) hne0
              · exact absurd rfl (hneB _ h1)
          · rintro ⟨_, h1⟩
            exact .inr (.inl (by rw [h1]; rfl))
        · rw [← hmemN r hr, hl, List.mem_append]
          constructor
          · rintro (h1 | rfl | h1)
            · exact .inl h1
            · exact absurd rfl hr
            · exact .inr h1
          · rintro (h1 | h1)
            · exact .inl h1
            · exact .inr (.inr h1)
theorem cntU_of : ∀ (L0 L : List EN) (l : List RF), RefsOf l (plcOf L0) → L0.length + L.length ≤ 100000 → RefsOf (L.foldl cntS l) (plcOf (L0 ++ L))
  | L0, [], l, h, _ => by rw [List.append_nil]; exact h
  | L0, y :: L, l, h, hl => by
    rw [List.length_cons] at hl
    have e : L0 ++ y :: L = (L0 ++ [y]) ++ L := by simp
    rw [e, List.foldl_cons]
    refine cntU_of (L0 ++ [y]) L _ ?_ (by simp; omega)
    by_cases hk : y.kind = 1
    · rw [plcOf_y hk]
      exact h.step hk (Nat.le_trans (plcOf_len _) (by omega))
    · rw [plcOf_n hk, cntS_no hk]; exact h
theorem cntU_refs {L : List EN} (hl : L.length ≤ 100000) : RefsOf (cntU L) (plcOf L) := by
  have h := cntU_of [] L [] RefsOf.nil (by simpa using hl)
  rwa [List.nil_append] at h
end Go.Proofs.Ythhbaccbhfngbaa
