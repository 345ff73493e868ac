/- Pools: the document's Add. -/
import Derived.Test.YtmnjcmpikbihaaaPoolO
import Derived.RegionTactic
import Derived.Deep.RegionLaw
import Derived.Deep.RegionHeld3
import Derived.Deep.DeepCutAuto
import Derived.Lib.AppendZerosOnto
namespace Go.Proofs.Ytmnjcmpikbihaaa
open Go.RowKit Go.Maps

theorem step_append_runP {P : Program} {ops : Array Oper} {o : Oper} {a : Act} {K : Act → World → Prop} {Q : Exit → Act → World → Prop} {E : Prop} (w : World) (hgd : o.guard = none) (s x : Operand) (t tn : TypeId)
    (ho : o.op = .call { callee := .builtin .append, args := #[s, x], argTypes := #[t, tn] }) (vs vx : Value) (hs : a.eval s = vs) (hx : a.eval x = vx)
    (v' : Value) (w' : World) (hr : (Builtin.append_ #[t, tn] o.type #[vs, vx]).run P w = .ok v' w') (h : K (a.put o.dst v') w') : if Region.wanted o (yielded ops a.tmps) = true then Oper.wp P o a w K Q else E := by
  have hw : Region.wanted o (yielded ops a.tmps) = true := by simp [Region.wanted, hgd]
  rw [if_pos hw]
  exact Lib.wp_append_run w s x t tn ho vs vx hs hx v' w' hr h
theorem step_append_exP {P : Program} {ops : Array Oper} {o : Oper} {a : Act} {K : Act → World → Prop} {Q : Exit → Act → World → Prop} {E : Prop} (w : World) (hgd : o.guard = none) (s x : Operand) (t tn : TypeId)
    (ho : o.op = .call { callee := .builtin .append, args := #[s, x], argTypes := #[t, tn] }) (vs vx : Value) (hs : a.eval s = vs) (hx : a.eval x = vx)
    (Z : Value → World → Prop) (hr : ∃ v' w', (Builtin.append_ #[t, tn] o.type #[vs, vx]).run P w = .ok v' w' ∧ Z v' w') (h : ∀ v' w', Z v' w' → K (a.put o.dst v') w') : if Region.wanted o (yielded ops a.tmps) = true then Oper.wp P o a w K Q else E := by
  obtain ⟨v', w', hr, hz⟩ := hr
  exact step_append_runP w hgd s x t tn ho vs vx hs hx v' w' hr (h v' w' hz)
theorem enc1_mk (x : Int) (s : ByteArray) : enc1 (x, s.data.toList) = [.int .i64 x, .string s] := rfl
/-- The end of Add: what was added lies in the answer's box. -/
theorem addEnd {w X w5 : World} {x : Value} {L : PL} {k : Int} (hb : Below X.heap.size X w5) (ho : w5.ownsRow X.heap.size 52 2 x L.length (L.flatMap enc1)) (hs : X.heap.size = w.heap.size + 1 + 1) (hw : Below w.heap.size w X) :
    Ap (fun k => w.heap.size ≤ k ∧ k < X.heap.size) w5 (((w5.setCell ⟨w.heap.size, 0, none⟩ x).setCell ⟨w.heap.size + 1, 0, none⟩ x).setCell ⟨w.heap.size + 1, 1, none⟩ (.int .i64 k)) ∧
    (((w5.setCell ⟨w.heap.size, 0, none⟩ x).setCell ⟨w.heap.size + 1, 0, none⟩ x).setCell ⟨w.heap.size + 1, 1, none⟩ (.int .i64 k)).drew.ownsRow w.heap.size 52 2 x L.length (L.flatMap enc1) ∧
    Below w.heap.size w (((w5.setCell ⟨w.heap.size, 0, none⟩ x).setCell ⟨w.heap.size + 1, 0, none⟩ x).setCell ⟨w.heap.size + 1, 1, none⟩ (.int .i64 k)).drew := by
  have ha : Ap (fun k => w.heap.size ≤ k ∧ k < X.heap.size) w5 (((w5.setCell ⟨w.heap.size, 0, none⟩ x).setCell ⟨w.heap.size + 1, 0, none⟩ x).setCell ⟨w.heap.size + 1, 1, none⟩ (.int .i64 k)) :=
    Ap.setCell (p := ⟨w.heap.size + 1, 1, none⟩) (Ap.setCell (p := ⟨w.heap.size + 1, 0, none⟩) (Ap.setCell (p := ⟨w.heap.size, 0, none⟩) (Ap.refl w5) (.inl ⟨Nat.le_refl _, by show w.heap.size < _; omega⟩) _) (.inl ⟨by show _ ≤ w.heap.size + 1; omega, by show w.heap.size + 1 < _; omega⟩) _) (.inl ⟨by show _ ≤ w.heap.size + 1; omega, by show w.heap.size + 1 < _; omega⟩) _
  have h1 := hb.size
  exact ⟨ha, own_low (own_ap ho ha.drew (fun g hg => by have := (World.ownsRow.lt ho g hg).1; omega)) (by omega), ((hw.trans (hb.mono (by omega))).trans (ha.below (by omega) (fun k hk => hk.1))).drew⟩
set_option maxHeartbeats 4000000 in
set_option maxRecDepth 100000 in
theorem refAdd_yes {w : World} {v : Value} {L : PL} {b0 : Nat} (hv : w.ownsRow b0 52 2 v L.length (L.flatMap enc1)) (hL : L.length ≤ 1000) (n : Nat) (hn : n ≤ 1000) (s : ByteArray) (hs : s.size ≤ 65536) :
    Calls Try.prog 6 #[.agg #[v, .int .i64 (n : Int)], .string s] w fun e w' => ∃ v', e = .returned (.tuple #[.agg #[v', .int .i64 ((n : Int) + 1)], .int .i64 ((n : Int) + 1), .int .i64 0]) ∧ w'.ownsRow w.heap.size 52 2 v' (L ++ [((n : Int) + 1, s.data.toList)]).length ((L ++ [((n : Int) + 1, s.data.toList)]).flatMap enc1) ∧ Below w.heap.size w w' := by
  obtain ⟨A, c1, rfl, _, _⟩ := ownS_form hv
  have HV := Lib.hid hv
  have d1 : decide ((65536 : Int) < (s.size : Int)) = false := decide_eq_false (by omega)
  have d2 : ((n : Int) == 1073741824) = false := by rw [beq_eq_false_iff_ne]; omega
  obtain ⟨hw1, hw2⟩ := nextP n hn
  obtain ⟨X, hX⟩ : ∃ X, X = (w.alloc (.cells #[.slice A L.length c1, .int .i64 ((n : Int) + 1)] 28)).alloc (.cells #[.slice none 0 0, .int .i64 0] 28) := ⟨_, rfl⟩
  clear hv
  go_enter Try.func6, Try.ntmps6
  go_wp2
  rw [← hX]
  have y0 : X.drew.cell? ⟨w.heap.size, 0, none⟩ = some (.slice A L.length c1) := by rw [hX]; simp [go_sem]
  have y1 : X.drew.cell? ⟨w.heap.size, 1, none⟩ = some (.int .i64 ((n : Int) + 1)) := by rw [hX]; simp [go_sem]
  have x0 : X.cell? ⟨w.heap.size, 0, none⟩ = some (.slice A L.length c1) := by rw [hX]; simp [go_sem]
  have x1 : X.cell? ⟨w.heap.size, 1, none⟩ = some (.int .i64 ((n : Int) + 1)) := by rw [hX]; simp [go_sem]
  have hxs : X.heap.size = w.heap.size + 1 + 1 := by rw [hX]; simp
  have HX := Lib.hid hX
  clear hX d1 d2
  have HE : Hid (∀ (W : World) (g : Nat), Below X.heap.size X W → X.heap.size ≤ g → W.heap[g]? = some (.cells #[] 52) → ∃ v1 w1, (Builtin.append_ #[26, 26] 26 #[.slice (some ⟨g, 0, none⟩) 0 0, .slice A L.length c1]).run Try.prog W = .ok v1 w1 ∧ w1.ownsRow X.heap.size 52 2 v1 L.length (L.flatMap enc1) ∧ Ap (fun k => k = g) W w1) := Lib.hid (fun W g hb hg he => by
    have hbw : Below w.heap.size w X := by rw [HX.out]; exact (below1P w _).alloc (by simp) _
    exact app1 (ownS_keep HV.out (hbw.trans (hb.mono (by omega)))) he hg hL hb.size)
  have HF : Hid (∀ (W : World) (g : Nat) (v1 : Value), X.heap.size ≤ W.heap.size → W.ownsRow X.heap.size 52 2 v1 L.length (L.flatMap enc1) → W.heap[g]? = some (.cells #[.int .i64 ((n : Int) + 1), .string s] 52) → ∃ v2 w2, (Builtin.append_ #[26, 26] 26 #[v1, .slice (some ⟨g, 0, none⟩) 1 1]).run Try.prog W = .ok v2 w2 ∧ w2.ownsRow X.heap.size 52 2 v2 (L ++ [((n : Int) + 1, s.data.toList)]).length ((L ++ [((n : Int) + 1, s.data.toList)]).flatMap enc1) ∧ Below X.heap.size W w2) := Lib.hid (fun W g v1 hs ho hg => app2 ho _ (fun j u hu => by
    rw [enc1_mk] at hu
    rw [add_mid0, cell_of_row W g j _ _ (0, 0) hg, ← hu]
    simp) hL hs)
  have hEa := HE.out (X.alloc (.cells #[] 52)).drew X.heap.size ((below1P X _).drew) (Nat.le_refl _) (heap_alloc_new X _)
  have hEb := HE.out ((X.alloc (.cells #[] 52)).alloc (.cells #[.int .i64 ((n : Int) + 1), .string s] 52)).drew X.heap.size (((below1P X _).alloc (by simp) _).drew) (Nat.le_refl _) (((below1P (X.alloc (.cells #[] 52)) _).block X.heap.size (by simp)).trans (heap_alloc_new X _))
  have hEc := HE.out ((X.alloc (.cells #[.int .i64 ((n : Int) + 1), .string s] 52)).alloc (.cells #[] 52)).drew (X.heap.size + 1) (((below1P X _).alloc (by simp) _).drew) (by omega) (by have h := heap_alloc_new (X.alloc (.cells #[.int .i64 ((n : Int) + 1), .string s] 52)) (.cells #[] 52); rw [World.size_alloc] at h; exact h)
  have HEa := Lib.hid hEa
  have HEb := Lib.hid hEb
  have HEc := Lib.hid hEc
  clear hEa hEb hEc
  have HCL : Hid (∀ W : World, Below X.heap.size X W → W.cell? ⟨w.heap.size, 0, none⟩ = some (.slice A L.length c1) ∧ W.cell? ⟨w.heap.size, 1, none⟩ = some (.int .i64 ((n : Int) + 1)) ∧ W.frozen? ⟨w.heap.size, 0, none⟩ = false ∧ W.frozen? ⟨w.heap.size, 1, none⟩ = false ∧ W.frozen? ⟨w.heap.size + 1, 0, none⟩ = false ∧ W.frozen? ⟨w.heap.size + 1, 1, none⟩ = false ∧ W.cell? ⟨w.heap.size + 1, 0, none⟩ = some (.slice none 0 0) ∧ W.cell? ⟨w.heap.size + 1, 1, none⟩ = some (.int .i64 0)) := Lib.hid (fun W hb => by
    have hlt : w.heap.size < X.heap.size := by omega
    have hlt1 : w.heap.size + 1 < X.heap.size := by omega
    have g0 : X.heap[w.heap.size]? = some (.cells #[.slice A L.length c1, .int .i64 ((n : Int) + 1)] 28) := by
      rw [HX.out]
      exact ((below1P (w.alloc (.cells #[.slice A L.length c1, .int .i64 ((n : Int) + 1)] 28)) (.cells #[.slice none 0 0, .int .i64 0] 28)).block w.heap.size (by simp)).trans (heap_alloc_new w (.cells #[.slice A L.length c1, .int .i64 ((n : Int) + 1)] 28))
    have g1 : X.heap[w.heap.size + 1]? = some (.cells #[.slice none 0 0, .int .i64 0] 28) := by
      rw [HX.out]
      have h := heap_alloc_new (w.alloc (.cells #[.slice A L.length c1, .int .i64 ((n : Int) + 1)] 28)) (.cells #[.slice none 0 0, .int .i64 0] 28)
      rw [World.size_alloc] at h; exact h
    have k0 := (hb.block w.heap.size hlt).trans g0
    have k1 := (hb.block (w.heap.size + 1) hlt1).trans g1
    exact ⟨(hb.cell (p := ⟨w.heap.size, 0, none⟩) hlt).trans x0, (hb.cell (p := ⟨w.heap.size, 1, none⟩) hlt).trans x1, frozen_of_row _ _ _ _ _ k0, frozen_of_row _ _ _ _ _ k0, frozen_of_row _ _ _ _ _ k1, frozen_of_row _ _ _ _ _ k1, by rw [cell_of_row _ _ _ _ _ (0, 0) k1]; rfl, by rw [cell_of_row _ _ _ _ _ (0, 0) k1]; rfl⟩)
  have HB0a : Hid (Below X.heap.size X (X.alloc (.cells #[] 52)).drew) := Lib.hid ((below1P X _).drew)
  have HB0b : Hid (Below X.heap.size X ((X.alloc (.cells #[] 52)).alloc (.cells #[.int .i64 ((n : Int) + 1), .string s] 52)).drew) := Lib.hid (((below1P X _).alloc (by simp) _).drew)
  have HB0c : Hid (Below X.heap.size X ((X.alloc (.cells #[.int .i64 ((n : Int) + 1), .string s] 52)).alloc (.cells #[] 52)).drew) := Lib.hid (((below1P X _).alloc (by simp) _).drew)
  have HBa : Hid (Below X.heap.size X (X.alloc (.cells #[] 52)).drew ∧ (X.alloc (.cells #[] 52)).drew.heap[X.heap.size]? = some (.cells #[] 52)) := Lib.hid ⟨(below1P X _).drew, heap_alloc_new X _⟩
  have HBb : Hid (Below X.heap.size X ((X.alloc (.cells #[] 52)).alloc (.cells #[.int .i64 ((n : Int) + 1), .string s] 52)).drew ∧ ((X.alloc (.cells #[] 52)).alloc (.cells #[.int .i64 ((n : Int) + 1), .string s] 52)).drew.heap[X.heap.size]? = some (.cells #[] 52) ∧ ((X.alloc (.cells #[] 52)).alloc (.cells #[.int .i64 ((n : Int) + 1), .string s] 52)).drew.heap[X.heap.size + 1]? = some (.cells #[.int .i64 ((n : Int) + 1), .string s] 52) ∧ X.heap.size + 1 < ((X.alloc (.cells #[] 52)).alloc (.cells #[.int .i64 ((n : Int) + 1), .string s] 52)).drew.heap.size) := Lib.hid ⟨((below1P X _).alloc (by simp) _).drew, ((below1P (X.alloc (.cells #[] 52)) (.cells #[.int .i64 ((n : Int) + 1), .string s] 52)).block X.heap.size (by simp)).trans (heap_alloc_new X _), (by have h := heap_alloc_new (X.alloc (.cells #[] 52)) (.cells #[.int .i64 ((n : Int) + 1), .string s] 52); rw [World.size_alloc] at h; exact h), (by show X.heap.size + 1 < ((X.alloc (.cells #[] 52)).alloc (.cells #[.int .i64 ((n : Int) + 1), .string s] 52)).heap.size; simp)⟩
  have HBc : Hid (Below X.heap.size X ((X.alloc (.cells #[.int .i64 ((n : Int) + 1), .string s] 52)).alloc (.cells #[] 52)).drew ∧ ((X.alloc (.cells #[.int .i64 ((n : Int) + 1), .string s] 52)).alloc (.cells #[] 52)).drew.heap[X.heap.size + 1]? = some (.cells #[] 52) ∧ ((X.alloc (.cells #[.int .i64 ((n : Int) + 1), .string s] 52)).alloc (.cells #[] 52)).drew.heap[X.heap.size]? = some (.cells #[.int .i64 ((n : Int) + 1), .string s] 52) ∧ X.heap.size < ((X.alloc (.cells #[.int .i64 ((n : Int) + 1), .string s] 52)).alloc (.cells #[] 52)).drew.heap.size) := Lib.hid ⟨((below1P X _).alloc (by simp) _).drew, (by have h := heap_alloc_new (X.alloc (.cells #[.int .i64 ((n : Int) + 1), .string s] 52)) (.cells #[] 52); rw [World.size_alloc] at h; exact h), ((below1P (X.alloc (.cells #[.int .i64 ((n : Int) + 1), .string s] 52)) (.cells #[] 52)).block X.heap.size (by simp)).trans (heap_alloc_new X _), (by show X.heap.size < ((X.alloc (.cells #[.int .i64 ((n : Int) + 1), .string s] 52)).alloc (.cells #[] 52)).heap.size; simp; omega)⟩
  clear HEa HEb HEc HB0a HB0b HB0c
  have HXS := Lib.hid hxs
  have hlt : w.heap.size < X.heap.size := by omega
  obtain ⟨a0, a1, -⟩ := HCL.out (X.alloc (.cells #[] 52)) (below1P X _)
  obtain ⟨b0', b1, -⟩ := HCL.out (X.alloc (.cells #[.int .i64 ((n : Int) + 1), .string s] 52)) (below1P X _)
  obtain ⟨e0, e1, -⟩ := HCL.out ((X.alloc (.cells #[] 52)).alloc (.cells #[.int .i64 ((n : Int) + 1), .string s] 52)) ((below1P X _).alloc (by simp) _)
  obtain ⟨f0, f1, -⟩ := HCL.out ((X.alloc (.cells #[.int .i64 ((n : Int) + 1), .string s] 52)).alloc (.cells #[] 52)) ((below1P X _).alloc (by simp) _)
  clear hxs
  go_cut [] (fun wx => ∃ (A2 : Option Addr) (k2 : Nat) (w5 : World), wx = w5.setCell ⟨w.heap.size, 0, none⟩ (.slice A2 (L.length + 1) k2) ∧ Below X.heap.size X w5 ∧ w5.ownsRow X.heap.size 52 2 (.slice A2 (L.length + 1) k2) (L ++ [((n : Int) + 1, s.data.toList)]).length ((L ++ [((n : Int) + 1, s.data.toList)]).flatMap enc1))
  case first =>
    go_region_law (first
      | (refine step_append_exP _ (by rfl) (.tmp 19) (.tmp 21) 26 26 (by rfl) _ _ (by rfl) (by rfl) _ (HE.out _ _ (by with_reducible first | exact HBa.out.1 | exact HBb.out.1 | exact HBc.out.1) (by omega) (by with_reducible first | exact HBa.out.2 | exact HBb.out.2.1 | exact HBc.out.2.1)) ?_; intro v1 w3 hz; have HZ := Lib.hid hz; have HB3 : Hid (Below X.heap.size X w3) := Lib.hid (by with_reducible first | exact HBa.out.1.trans (hz.2.below HBa.out.1.size (fun k hk => by omega)) | exact HBb.out.1.trans (hz.2.below HBb.out.1.size (fun k hk => by omega)) | exact HBc.out.1.trans (hz.2.below HBc.out.1.size (fun k hk => by omega))); obtain ⟨z0, z1, -⟩ := HCL.out w3 HB3.out; clear hz)
      | (refine step_append_exP _ (by rfl) (.tmp 22) (.tmp 27) 26 26 (by rfl) _ _ (by rfl) (by rfl) _ (HF.out _ _ v1 (by with_reducible first | exact HB3.out.size | exact (HB3.out.alloc HB3.out.size _).size) (by with_reducible first | exact HZ.out.1 | exact HZ.out.1.alloc _) (by with_reducible first | exact heap_alloc_new w3 _ | exact (HZ.out.2.block _ HBb.out.2.2.2 (by omega)).trans HBb.out.2.2.1 | exact (HZ.out.2.block _ HBc.out.2.2.2 (by omega)).trans HBc.out.2.2.1)) ?_; intro v2 w5 hz; obtain ⟨A2, k2, rfl, -, -⟩ := ownS_form hz.1; have HZ2 := Lib.hid hz; have HB5 : Hid (Below X.heap.size X w5) := Lib.hid (by with_reducible first | exact HB3.out.trans hz.2 | exact (HB3.out.alloc HB3.out.size _).trans hz.2); obtain ⟨s0, s1, s2, s3, s4, s5, s6, s7⟩ := HCL.out w5 HB5.out; clear hz))
    all_goals go_wp2_with fail
    all_goals go_meet
    all_goals exact ⟨_, _, w5, rfl, HB5.out, by have h := HZ2.out.1; rw [show (L ++ [((n : Int) + 1, s.data.toList)]).length = L.length + 1 by simp] at h ⊢; exact h⟩
  case rest =>
    obtain ⟨A2, k2, w5, hwx, hb5, ho5⟩ := hcut
    have HB5 := Lib.hid hb5
    have HZ2 := Lib.hid ho5
    obtain ⟨-, -, -, -, s4, s5, s6, s7⟩ := HCL.out w5 HB5.out
    obtain ⟨s0, s1, -⟩ := HCL.out w5 HB5.out
    clear hb5 ho5 HE HF HBa HBb HBc a0 a1 b0' b1 e0 e1 f0 f1 x0 x1 y0 y1
    have hW7 := hwx
    generalize wc = W7 at hwx hW7 ⊢
    clear hwx
    have c70 : W7.cell? ⟨w.heap.size, 0, none⟩ = some (.slice A2 (L.length + 1) k2) := by rw [hW7]; go_cell
    have c71 : W7.cell? ⟨w.heap.size, 1, none⟩ = some (.int .i64 ((n : Int) + 1)) := by rw [hW7]; go_cell
    have c72 : W7.frozen? ⟨w.heap.size + 1, 0, none⟩ = false := by rw [hW7, World.frozen?_setCell]; exact s4
    have c73 : W7.frozen? ⟨w.heap.size + 1, 1, none⟩ = false := by rw [hW7, World.frozen?_setCell]; exact s5
    have c74 : W7.cell? ⟨w.heap.size + 1, 0, none⟩ = some (.slice none 0 0) := by rw [hW7]; go_cell
    have c75 : W7.cell? ⟨w.heap.size + 1, 1, none⟩ = some (.int .i64 0) := by rw [hW7]; go_cell
    have HC7 : Hid (W7.cell? ⟨w.heap.size, 0, none⟩ = some (.slice A2 (L.length + 1) k2) ∧ W7.cell? ⟨w.heap.size, 1, none⟩ = some (.int .i64 ((n : Int) + 1))) := Lib.hid ⟨c70, c71⟩
    have HC8 : Hid (((W7.setCell ⟨w.heap.size + 1, 0, none⟩ (.slice A2 (L.length + 1) k2)).setCell ⟨w.heap.size + 1, 1, none⟩ (.int .i64 ((n : Int) + 1))).drew.cell? ⟨w.heap.size, 0, none⟩ = some (.slice A2 (L.length + 1) k2) ∧ ((W7.setCell ⟨w.heap.size + 1, 0, none⟩ (.slice A2 (L.length + 1) k2)).setCell ⟨w.heap.size + 1, 1, none⟩ (.int .i64 ((n : Int) + 1))).drew.cell? ⟨w.heap.size, 1, none⟩ = some (.int .i64 ((n : Int) + 1))) := Lib.hid ⟨by go_cell, by go_cell⟩
    have HW7 := Lib.hid hW7
    clear hW7 s0 s1 s4 s5 s6 s7
    go_wp2
    go_region_held3 (fun w' => w'.cell? ⟨w.heap.size, 0, none⟩ = some (.slice A2 (L.length + 1) k2) ∧ w'.cell? ⟨w.heap.size, 1, none⟩ = some (.int .i64 ((n : Int) + 1))) (first | exact HC7.out | exact HC8.out) (fail)
    go_wp2
    have q0 : ((W7.setCell ⟨w.heap.size + 1, 0, none⟩ (.slice A2 (L.length + 1) k2)).setCell ⟨w.heap.size + 1, 1, none⟩ (.int .i64 ((n : Int) + 1))).drew.cell? ⟨w.heap.size + 1, 0, none⟩ = some (.slice A2 (L.length + 1) k2) := by go_cell
    have q1 : ((W7.setCell ⟨w.heap.size + 1, 0, none⟩ (.slice A2 (L.length + 1) k2)).setCell ⟨w.heap.size + 1, 1, none⟩ (.int .i64 ((n : Int) + 1))).drew.cell? ⟨w.heap.size + 1, 1, none⟩ = some (.int .i64 ((n : Int) + 1)) := by go_cell
    obtain ⟨hap, hrow, hbel⟩ := addEnd (w := w) (k := (n : Int) + 1) HB5.out HZ2.out (by have := HXS.out; omega) (by rw [HX.out]; exact (below1P w _).alloc (by simp) _)
    rw [← HW7.out] at hrow hbel
    refine bodyPost_ret (v := .tuple #[.agg #[.slice A2 (L.length + 1) k2, .int .i64 ((n : Int) + 1)], .int .i64 ((n : Int) + 1), .int .i64 0]) (by simp [results, Try.results6, go_sem, q0, q1]) rfl ?_
    exact ⟨_, rfl, hrow, hbel⟩
end Go.Proofs.Ytmnjcmpikbihaaa
