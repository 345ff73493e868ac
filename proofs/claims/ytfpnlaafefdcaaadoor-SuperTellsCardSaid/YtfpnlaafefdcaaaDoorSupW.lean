/- Superblocks: the walk of SuperTells. the last region draws its order: walked once, in a class of worlds (wp_region_wk). Superblocks: one that comes in. Superblocks: SuperTells, as its row asks. -/
import Derived.Test.YtfpnlaafefdcaaaDoorSupN
import Derived.Test.YtfpnlaafefdcaaaDoorSupR
import Derived.Test.YtfpnlaafefdcaaaDoorSupM
import Derived.OpenShut
import Derived.Lib.SmallJoins
namespace Go.Proofs.YtfpnlaafefdcaaaDoor
open Go.RowKit Go.Shelf
set_option maxRecDepth 100000 in
set_option maxHeartbeats 4000000 in
theorem superTells_walk (p : SP) (hp : p.In) (s : ByteArray) (w : World) (hT : Tab w) : Calls Tryd.prog 5 #[p.v, .string s] w fun e w' => e = .returned (.bool true) ∧ Below w.heap.size w w' := by
  have hTB := Lib.hid (fun W (hb : Below w.heap.size w W) => hT.below hb (Nat.le_refl _))
  have hB := fun W hW => supBytes_any p hp W hW
  have hRB := fun W => refSupBytes_any p hp W
  have hP := fun W hW => supParse_any s W hW
  have hRP := fun W => refSupParse_any s W
  have hC := fun W => supCheck_any p hp W
  have hRC := fun W => refSupCheck_any p hp W
  have hL := fun W hW => supLives_any W hW
  have HX0 := Lib.hid (B9.new w p 53)
  dsimp only [SP.v] at hB hRB hP hRP hC hRC ⊢
  generalize (⟨(supL p).toArray⟩ : ByteArray) = X at *
  generalize supE p = z at *
  generalize supP s.data.toList = r at *
  generalize supPE s.data.toList = y at *
  clear hp hT
  have hlen : decide ((s.size : Int) > 4096) = true ∨ decide ((s.size : Int) > 4096) = false := by cases decide ((s.size : Int) > 4096) <;> simp
  go_enter Tryd.func5, Tryd.ntmps5
  go_upto_region 1 with fail
  generalize w.alloc (.cells #[.int .i64 p.gen, .int .i64 p.s, .int .i64 p.k, .int .i64 p.m, .int .i64 p.c, .int .i64 p.len, .int .i64 p.a, .int .i64 p.b, .int .u32 (p.sum : Int)] 53) = w0 at HX0 ⊢
  obtain ⟨_, _, ⟨_, c0, c1, c2, c3, c4, c5, c6, c7, c8⟩, _⟩ := HX0.out
  by_cases hle : s.size ≤ 4096
  · have g1 : decide ((s.size : Int) > 4096) = false := decide_eq_false (by omega)
    clear hlen
    go_upto_region 4 with (go_at_call 23; refine (hB _ (hTB.out _ HX0.out.be)).mono ?_; rintro e w1 ⟨rfl, hb1⟩; have HX1 := Lib.hid (HX0.out.below hb1); clear hb1)
    clear c0 c1 c2 c3 c4 c5 c6 c7 c8
    obtain ⟨_, _, ⟨_, c0, c1, c2, c3, c4, c5, c6, c7, c8⟩, _⟩ := HX1.out
    go_upto_region 5 with (go_at_call 24; refine (hRB _).mono ?_; rintro e w2 ⟨rfl, hb2⟩; have HX2 := Lib.hid (HX1.out.below hb2); clear hb2)
    clear c0 c1 c2 c3 c4 c5 c6 c7 c8
    go_upto_region 6 with (go_at_call 25; refine (hP _ (hTB.out _ HX2.out.be)).mono ?_; rintro e w3 ⟨rfl, hb3⟩; have HX3 := Lib.hid (HX2.out.below hb3); clear hb3)
    have HA3 := Lib.hid (B9.new w3 r 53)
    have HY3 := Lib.hid (HX3.out.below HA3.out.be)
    generalize w3.alloc (.cells #[.int .i64 r.gen, .int .i64 r.s, .int .i64 r.k, .int .i64 r.m, .int .i64 r.c, .int .i64 r.len, .int .i64 r.a, .int .i64 r.b, .int .u32 (r.sum : Int)] 53) = w4 at HA3 HY3 ⊢
    have HS3 := Lib.hid HA3.out.bx
    generalize w3.heap.size = b9 at HS3 ⊢
    clear HA3
    go_upto_region 7 with (go_at_call 26; refine (hRP _).mono ?_; rintro e w5 ⟨rfl, hb5⟩; have HX5 := Lib.hid (HY3.out.below hb5); have HS5 := Lib.hid (HS3.out.below hb5); clear hb5)
    have HA5 := Lib.hid (B9.new w5 r 53)
    have HY5 := Lib.hid (HX5.out.below HA5.out.be)
    have HS6 := Lib.hid (HS5.out.below HA5.out.be)
    generalize w5.alloc (.cells #[.int .i64 r.gen, .int .i64 r.s, .int .i64 r.k, .int .i64 r.m, .int .i64 r.c, .int .i64 r.len, .int .i64 r.a, .int .i64 r.b, .int .u32 (r.sum : Int)] 53) = w6 at HA5 HY5 HS6 ⊢
    have HT6 := Lib.hid HA5.out.bx
    generalize w5.heap.size = b11 at HT6 ⊢
    clear HA5 HX0 HX1 HX2 HX3 HX5 HY3 HS3 HS5
    have HYD := Lib.hid (HY5.out.below ((Below.refl _ _).drew))
    have HSD := Lib.hid HS6.out.drew
    have HTD := Lib.hid HT6.out.drew
    clear HY5 HS6 HT6
    have gd : B9 w w6.drew w.heap.size p ∧ SBox w6.drew b9 r ∧ SBox w6.drew b11 r := ⟨HYD.out, HSD.out, HTD.out⟩
    clear HYD HSD HTD
    have hLq := fun (W : World) (k : B9 w W w.heap.size p) => hL W (hTB.out W k.be)
    obtain ⟨Cx, hCx⟩ : ∃ Cx : World → Prop, Cx = fun W => B9 w W w.heap.size p ∧ SBox W b9 r ∧ SBox W b11 r := ⟨_, rfl⟩
    have toC : ∀ W, Cx W → B9 w W w.heap.size p ∧ SBox W b9 r ∧ SBox W b11 r := fun W h => by rw [hCx] at h; exact h
    have below : ∀ W W', Cx W → Below W.heap.size W W' → Cx W' := fun W W' h hb => by
      rw [hCx] at h ⊢; exact ⟨h.1.below hb, h.2.1.below hb, h.2.2.below hb⟩
    have gd2 : Cx w6.drew := by rw [hCx]; exact gd
    have HTC := Lib.hid toC
    have HBC := Lib.hid below
    have a0 : ∀ q : Wk Cx, q.W.cell? ⟨w.heap.size, 0, none⟩ = some (.int .i64 p.gen) := fun q => (toC _ q.h).1.bx.c0
    have a1 : ∀ q : Wk Cx, q.W.cell? ⟨w.heap.size, 1, none⟩ = some (.int .i64 p.s) := fun q => (toC _ q.h).1.bx.c1
    have a2 : ∀ q : Wk Cx, q.W.cell? ⟨w.heap.size, 2, none⟩ = some (.int .i64 p.k) := fun q => (toC _ q.h).1.bx.c2
    have a3 : ∀ q : Wk Cx, q.W.cell? ⟨w.heap.size, 3, none⟩ = some (.int .i64 p.m) := fun q => (toC _ q.h).1.bx.c3
    have a4 : ∀ q : Wk Cx, q.W.cell? ⟨w.heap.size, 4, none⟩ = some (.int .i64 p.c) := fun q => (toC _ q.h).1.bx.c4
    have a5 : ∀ q : Wk Cx, q.W.cell? ⟨w.heap.size, 5, none⟩ = some (.int .i64 p.len) := fun q => (toC _ q.h).1.bx.c5
    have a6 : ∀ q : Wk Cx, q.W.cell? ⟨w.heap.size, 6, none⟩ = some (.int .i64 p.a) := fun q => (toC _ q.h).1.bx.c6
    have a7 : ∀ q : Wk Cx, q.W.cell? ⟨w.heap.size, 7, none⟩ = some (.int .i64 p.b) := fun q => (toC _ q.h).1.bx.c7
    have a8 : ∀ q : Wk Cx, q.W.cell? ⟨w.heap.size, 8, none⟩ = some (.int .u32 (p.sum : Int)) := fun q => (toC _ q.h).1.bx.c8
    refine wp_region_wk Cx (by kernel_rfl) (by kernel_rfl) gd2 ?_
    have ne : Nonempty (Wk Cx) := ⟨⟨_, gd2⟩⟩
    clear gd gd2 hCx toC below hTB hL
    iterate 9 (refine wpQuiet_step (fun K hK => ?_); go_simp; first
      | (refine hK _ ?_; clear hK K)
      | (apply Exists.intro
         refine ⟨fun q => ?_, hK _ ?_⟩
         (first
           | (go_at_call 22; exact (hLq _ (HTC.out _ q.h).1).mono fun _ _ h => ⟨h.1, ⟨_, HBC.out _ _ q.h h.2⟩, rfl⟩)
           | (go_at_call 27; exact (hC _).mono fun _ _ h => ⟨h.1, ⟨_, HBC.out _ _ q.h h.2⟩, rfl⟩)
           | (go_at_call 28; exact (hRC _).mono fun _ _ h => ⟨h.1, ⟨_, HBC.out _ _ q.h h.2⟩, rfl⟩))
         clear hK K))
    clear a0 a1 a2 a3 a4 a5 a6 a7 a8 hC hRC hLq
    iterate 10 (refine wpQuiet_step (fun K hK => ?_); go_simp; (refine hK _ ?_; clear hK K))
    have u0 : ∀ q : Wk Cx, q.W.cell? ⟨b9, 0, none⟩ = some (.int .i64 r.gen) := fun q => (HTC.out _ q.h).2.1.c0
    have u1 : ∀ q : Wk Cx, q.W.cell? ⟨b9, 1, none⟩ = some (.int .i64 r.s) := fun q => (HTC.out _ q.h).2.1.c1
    have u2 : ∀ q : Wk Cx, q.W.cell? ⟨b9, 2, none⟩ = some (.int .i64 r.k) := fun q => (HTC.out _ q.h).2.1.c2
    have u3 : ∀ q : Wk Cx, q.W.cell? ⟨b9, 3, none⟩ = some (.int .i64 r.m) := fun q => (HTC.out _ q.h).2.1.c3
    have u4 : ∀ q : Wk Cx, q.W.cell? ⟨b9, 4, none⟩ = some (.int .i64 r.c) := fun q => (HTC.out _ q.h).2.1.c4
    have u5 : ∀ q : Wk Cx, q.W.cell? ⟨b9, 5, none⟩ = some (.int .i64 r.len) := fun q => (HTC.out _ q.h).2.1.c5
    have u6 : ∀ q : Wk Cx, q.W.cell? ⟨b9, 6, none⟩ = some (.int .i64 r.a) := fun q => (HTC.out _ q.h).2.1.c6
    have u7 : ∀ q : Wk Cx, q.W.cell? ⟨b9, 7, none⟩ = some (.int .i64 r.b) := fun q => (HTC.out _ q.h).2.1.c7
    have u8 : ∀ q : Wk Cx, q.W.cell? ⟨b9, 8, none⟩ = some (.int .u32 (r.sum : Int)) := fun q => (HTC.out _ q.h).2.1.c8
    have t0 : ∀ q : Wk Cx, q.W.cell? ⟨b11, 0, none⟩ = some (.int .i64 r.gen) := fun q => (HTC.out _ q.h).2.2.c0
    have t1 : ∀ q : Wk Cx, q.W.cell? ⟨b11, 1, none⟩ = some (.int .i64 r.s) := fun q => (HTC.out _ q.h).2.2.c1
    have t2 : ∀ q : Wk Cx, q.W.cell? ⟨b11, 2, none⟩ = some (.int .i64 r.k) := fun q => (HTC.out _ q.h).2.2.c2
    have t3 : ∀ q : Wk Cx, q.W.cell? ⟨b11, 3, none⟩ = some (.int .i64 r.m) := fun q => (HTC.out _ q.h).2.2.c3
    have t4 : ∀ q : Wk Cx, q.W.cell? ⟨b11, 4, none⟩ = some (.int .i64 r.c) := fun q => (HTC.out _ q.h).2.2.c4
    have t5 : ∀ q : Wk Cx, q.W.cell? ⟨b11, 5, none⟩ = some (.int .i64 r.len) := fun q => (HTC.out _ q.h).2.2.c5
    have t6 : ∀ q : Wk Cx, q.W.cell? ⟨b11, 6, none⟩ = some (.int .i64 r.a) := fun q => (HTC.out _ q.h).2.2.c6
    have t7 : ∀ q : Wk Cx, q.W.cell? ⟨b11, 7, none⟩ = some (.int .i64 r.b) := fun q => (HTC.out _ q.h).2.2.c7
    have t8 : ∀ q : Wk Cx, q.W.cell? ⟨b11, 8, none⟩ = some (.int .u32 (r.sum : Int)) := fun q => (HTC.out _ q.h).2.2.c8
    iterate 10 (refine wpQuiet_step (fun K hK => ?_); go_simp; (refine hK _ ?_; clear hK K))
    refine wpQuiet_nil ?_
    intro q
    have HQ := Lib.hid (HTC.out _ q.h)
    generalize q.W = w8 at HQ ⊢
    clear u0 u1 u2 u3 u4 u5 u6 u7 u8 t0 t1 t2 t3 t4 t5 t6 t7 t8 ne q
    go_wp2
    go_ret
    exact ⟨rfl, HQ.out.1.be⟩
  · have g1 : decide ((s.size : Int) > 4096) = true := decide_eq_true (by omega)
    clear hlen
    go_wp2_with (go_at_call 22; refine (hL _ (hTB.out _ HX0.out.be)).mono ?_; rintro e w1 ⟨rfl, hb1⟩; have HB1 := Lib.hid hb1; clear hb1)
    go_ret
    exact ⟨rfl, HX0.out.be.trans (HB1.out.mono HX0.out.be.size)⟩
end Go.Proofs.YtfpnlaafefdcaaaDoor
namespace Go.Proofs.YtfpnlaafefdcaaaDoor
open Go.RowKit Go.Joins Go.WideShapes Go.ChangeShapes

/-- A value that is a superblock. -/
def SupVal (v : Value) : Prop := ∃ p : SP, v = p.v ∧ p.In
theorem array9 {cs : Array Value} (h : cs.size = 9) : ∃ a b c d e f g i j, cs = #[a, b, c, d, e, f, g, i, j] := by
  obtain ⟨l⟩ := cs
  match l, h with
  | [a, b, c, d, e, f, g, i, j], _ => exact ⟨a, b, c, d, e, f, g, i, j, rfl⟩
theorem su32_of_wf {n : Int} (h : (Lit.int .u32 n).wf = true) : 0 ≤ n ∧ n < 4294967296 := by
  simp [Lit.wf, IntKind.min, IntKind.max, IntKind.signed, IntKind.bits] at h
  omega
theorem sup_struct3 {H : Type} {enc : TypeId × Value → H} {P : Program} {w : World} {base : Nat} {spare : Nat → Bool} {held : Bool} {t : TypeId} {f0 f1 f2 : Field} {fuel : Nat} {cs : List Value} {x : DataW H × List MemPlace} (ht : P.underlying t = some (.struct #[f0, f1, f2])) (h : DataW.trod enc P w base spare held fuel t cs = some x) :
    ∃ y0 y1 y2 n, DataW.trod enc P w base spare held n f0.type ((cs.drop f0.offset).take (P.cellsOf f0.type)) = some y0 ∧ DataW.trod enc P w base spare held n f1.type ((cs.drop f1.offset).take (P.cellsOf f1.type)) = some y1 ∧ DataW.trod enc P w base spare held n f2.type ((cs.drop f2.offset).take (P.cellsOf f2.type)) = some y2 := by
  obtain ⟨xs, n, _, rfl, hl, hlen, hf⟩ := DataW.trod_struct ht h
  match xs, hlen with
  | [y0, y1, y2], _ => exact ⟨y0, y1, y2, n, by simpa using hf 0 f0 rfl, by simpa using hf 1 f1 rfl, by simpa using hf 2 f2 rfl⟩
set_option maxRecDepth 100000 in
theorem supVal_of {H : Type} {enc : TypeId × Value → H} {w : World} {base : Nat} {spare : Nat → Bool} {held : Bool} {r : Reach} {b0 : Nat} {v : Value} {d : DataW H} {p : List MemPlace}
    (hv : Value.okWide Tryd.prog w r b0 53 v) (h : DataW.Trod enc Tryd.prog w base spare held 53 v d p) : SupVal v := by
  have kC : Tryd.prog.cellsOf 53 = 9 := by kernel_rfl
  have kN : Tryd.prog.cellsOf 2 = 1 := by kernel_rfl
  have kG : Tryd.prog.cellsOf 23 = 4 := by kernel_rfl
  have kI : Tryd.prog.cellsOf 3 = 1 := by kernel_rfl
  have kP : Tryd.prog.cellsOf 32 = 3 := by kernel_rfl
  have kU : Tryd.prog.cellsOf 30 = 1 := by kernel_rfl
  obtain ⟨cs, rfl, hsz⟩ := okWide_struct Tryd.underlying53 hv
  obtain ⟨c0, c1, c2, c3, c4, c5, c6, c7, c8, rfl⟩ := array9 (hsz.trans kC)
  obtain ⟨fuel, hf⟩ := h
  obtain ⟨y0, y1, y2, y3, n, _, _, h0, h1, h2, h3⟩ := trod_struct4 Tryd.underlying53 hf
  simp only [Value.cells, kN, kG, kI, kP, List.drop_zero, List.drop_succ_cons, List.take_succ_cons, List.take_zero] at h0 h1 h2 h3
  obtain ⟨_, _, _, _, n1, _, _, g0, g1, g2, g3⟩ := trod_struct4 Tryd.underlying23 h1
  obtain ⟨_, _, _, n3, q0, q1, q2⟩ := sup_struct3 Tryd.underlying32 h3
  simp only [kI, kU, List.drop_zero, List.drop_succ_cons, List.take_succ_cons, List.take_zero] at g0 g1 g2 g3 q0 q1 q2
  obtain ⟨x0, e0, _, w0⟩ := DataW.trod_int Tryd.underlying2 h0
  obtain ⟨x1, e1, _, w1⟩ := DataW.trod_int Tryd.underlying3 g0
  obtain ⟨x2, e2, _, w2⟩ := DataW.trod_int Tryd.underlying3 g1
  obtain ⟨x3, e3, _, w3⟩ := DataW.trod_int Tryd.underlying3 g2
  obtain ⟨x4, e4, _, w4⟩ := DataW.trod_int Tryd.underlying3 g3
  obtain ⟨x5, e5, _, w5⟩ := DataW.trod_int Tryd.underlying3 h2
  obtain ⟨x6, e6, _, w6⟩ := DataW.trod_int Tryd.underlying3 q0
  obtain ⟨x7, e7, _, w7⟩ := DataW.trod_int Tryd.underlying3 q1
  obtain ⟨x8, e8, _, w8⟩ := DataW.trod_int Tryd.underlying30 q2
  simp only [List.cons.injEq, and_true] at e0 e1 e2 e3 e4 e5 e6 e7 e8
  subst e0 e1 e2 e3 e4 e5 e6 e7 e8
  have hu := su32_of_wf w8
  refine ⟨⟨x0, x1, x2, x3, x4, x5, x6, x7, x8.toNat⟩, ?_, ⟨w64_of_wf w0, w64_of_wf w1, w64_of_wf w2, w64_of_wf w3, w64_of_wf w4, w64_of_wf w5, w64_of_wf w6, w64_of_wf w7, by show x8.toNat < 4294967296; omega⟩⟩
  unfold SP.v
  dsimp only
  rw [Int.toNat_of_nonneg hu.1]
end Go.Proofs.YtfpnlaafefdcaaaDoor
namespace Go.Proofs.YtfpnlaafefdcaaaDoor
open Go.RowKit
theorem superTells_any {w : World} {v : Value} (h : SupVal v) (s : ByteArray) {q : Prop} (_ : q) (hT : Tab w) : Calls Tryd.prog 5 #[v, .string s] w fun e w' => e = .returned (.bool true) ∧ Below w.heap.size w w' := by
  obtain ⟨p, rfl, hp⟩ := h
  exact superTells_walk p hp s w hT
end Go.Proofs.YtfpnlaafefdcaaaDoor
