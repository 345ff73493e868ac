/- Scripts: what comes in, and what the package variables hold by the row's condition. -/
import Derived.Test.YtfmpbohiahjafaaDoorScrX
import Derived.Test.YtfmpbohiahjafaaDoorStrIn
import Derived.OpenShut
import Derived.ShutString
import Derived.ChangeOld
import Derived.LaidMore
import Derived.LaidLaws
import Derived.Lay
import Derived.Lib.LaidTab
import Derived.Stop.Joined
import Derived.Shelf.Vars
import Derived.Handed
import Derived.Test.YtfmpbohiahjafaaDoorRows
namespace Go.Proofs.YtfmpbohiahjafaaDoor
open Go.RowKit Go.Joins Go.WideShapes Go.ChangeShapes Go.ChangeAt
open Go.Deep (open_slice)

theorem yk_D : Tryd.prog.cellsOf 24 = 5 := by kernel_rfl
theorem yk_I : Tryd.prog.cellsOf 3 = 1 := by kernel_rfl
theorem yk_J : Tryd.prog.cellsOf 2 = 1 := by kernel_rfl
theorem yk_K : Tryd.prog.cellsOf 22 = 1 := by kernel_rfl
theorem yk_S : Tryd.prog.cellsOf 9 = 1 := by kernel_rfl
theorem yk_U : Tryd.prog.cellsOf 35 = 5 := by kernel_rfl
theorem yk_G : Tryd.prog.cellsOf 33 = 4 := by kernel_rfl
theorem yk_H : Tryd.prog.cellsOf 45 = 4 := by kernel_rfl
theorem yk_3 : Tryd.prog.cellsOf 43 = 3 := by kernel_rfl
theorem td_struct5 {H : Type} {enc : TypeId × Value → H} {P : Program} {w : World} {base : Nat} {spare : Nat → Bool} {held : Bool} {t : TypeId} {f0 f1 f2 f3 f4 : Field} {fuel : Nat} {cs : List Value} {x : DataW H × List MemPlace} (ht : P.underlying t = some (.struct #[f0, f1, f2, f3, f4])) (h : DataW.trod enc P w base spare held fuel t cs = some x) :
    ∃ y0 y1 y2 y3 y4 n, DataW.trod enc P w base spare held n f0.type ((cs.drop f0.offset).take (P.cellsOf f0.type)) = some y0 ∧ DataW.trod enc P w base spare held n f1.type ((cs.drop f1.offset).take (P.cellsOf f1.type)) = some y1 ∧ DataW.trod enc P w base spare held n f2.type ((cs.drop f2.offset).take (P.cellsOf f2.type)) = some y2 ∧ DataW.trod enc P w base spare held n f3.type ((cs.drop f3.offset).take (P.cellsOf f3.type)) = some y3 ∧ DataW.trod enc P w base spare held n f4.type ((cs.drop f4.offset).take (P.cellsOf f4.type)) = some y4 := by
  obtain ⟨xs, n, _, rfl, hl, hlen, hf⟩ := DataW.trod_struct ht h
  match xs, hlen with
  | [y0, y1, y2, y3, y4], _ => exact ⟨y0, y1, y2, y3, y4, n, by simpa using hf 0 f0 rfl, by simpa using hf 1 f1 rfl, by simpa using hf 2 f2 rfl, by simpa using hf 3 f3 rfl, by simpa using hf 4 f4 rfl⟩
theorem td_struct4 {H : Type} {enc : TypeId × Value → H} {P : Program} {w : World} {base : Nat} {spare : Nat → Bool} {held : Bool} {t : TypeId} {f0 f1 f2 f3 : Field} {fuel : Nat} {cs : List Value} {x : DataW H × List MemPlace} (ht : P.underlying t = some (.struct #[f0, f1, f2, f3])) (h : DataW.trod enc P w base spare held fuel t cs = some x) :
    ∃ y0 y1 y2 y3 n, DataW.trod enc P w base spare held n f0.type ((cs.drop f0.offset).take (P.cellsOf f0.type)) = some y0 ∧ DataW.trod enc P w base spare held n f1.type ((cs.drop f1.offset).take (P.cellsOf f1.type)) = some y1 ∧ DataW.trod enc P w base spare held n f2.type ((cs.drop f2.offset).take (P.cellsOf f2.type)) = some y2 ∧ DataW.trod enc P w base spare held n f3.type ((cs.drop f3.offset).take (P.cellsOf f3.type)) = some y3 := by
  obtain ⟨xs, n, _, rfl, hl, hlen, hf⟩ := DataW.trod_struct ht h
  match xs, hlen with
  | [y0, y1, y2, y3], _ => exact ⟨y0, y1, y2, y3, n, by simpa using hf 0 f0 rfl, by simpa using hf 1 f1 rfl, by simpa using hf 2 f2 rfl, by simpa using hf 3 f3 rfl⟩
theorem td_struct2e {H : Type} {enc : TypeId × Value → H} {P : Program} {w : World} {base : Nat} {spare : Nat → Bool} {held : Bool} {t : TypeId} {f0 f1 : Field} {fuel : Nat} {cs : List Value} {x : DataW H × List MemPlace} (ht : P.underlying t = some (.struct #[f0, f1])) (h : DataW.trod enc P w base spare held fuel t cs = some x) :
    ∃ y0 y1 n, x.1 = .agg [y0.1, y1.1] ∧ DataW.trod enc P w base spare held n f0.type ((cs.drop f0.offset).take (P.cellsOf f0.type)) = some y0 ∧ DataW.trod enc P w base spare held n f1.type ((cs.drop f1.offset).take (P.cellsOf f1.type)) = some y1 := by
  obtain ⟨xs, n, _, rfl, hl, hlen, hf⟩ := DataW.trod_struct ht h
  match xs, hlen with
  | [y0, y1], _ => exact ⟨y0, y1, n, rfl, by simpa using hf 0 f0 rfl, by simpa using hf 1 f1 rfl⟩
theorem yi64 {n : Int} (h : (Lit.int .i64 n).wf = true) : I6 n := by
  have := td_i64 h
  unfold I6; omega
theorem yu8 {n : Int} (h : (Lit.int .u8 n).wf = true) : 0 ≤ n ∧ n < 256 := by
  simp [Lit.wf, IntKind.min, IntKind.max, IntKind.signed, IntKind.bits] at h
  omega
section
variable {H : Type} {enc : TypeId × Value → H} {w : World} {base : Nat} {held : Bool} {fuel t : Nat} {A : Option Addr} {len cap : Nat} {x : DataW H × List MemPlace}
set_option maxRecDepth 100000 in
theorem ddS_in (ht : Tryd.prog.underlying t = some (.slice 24)) (h : DataW.trod enc Tryd.prog w base (fun _ => true) held fuel t (Value.slice A len cap).cells.toList = some x) : ∃ R, DdS w (.slice A len cap) R ∧ ∀ d ∈ R, DDok d :=
  stS_in (k := 5) (enc := DD.enc) (z := DD.zero) (G := DDok) (by decide) ht yk_D (fun n cs y hl hf => by
    match cs, hl with
    | [c0, c1, c2, c3, c4], _ =>
      obtain ⟨_, _, _, _, _, m, h0, h1, h2, h3, h4⟩ := td_struct5 Tryd.underlying24 hf
      simp only [yk_K, yk_I, yk_J, yk_S, List.drop_zero, List.drop_succ_cons, List.take_succ_cons, List.take_zero] at h0 h1 h2 h3 h4
      obtain ⟨x0, e0, _, w0⟩ := DataW.trod_int Tryd.underlying22 h0
      obtain ⟨x1, e1, _, w1⟩ := DataW.trod_int Tryd.underlying2 h1
      obtain ⟨x2, e2, _, w2⟩ := DataW.trod_int Tryd.underlying2 h2
      obtain ⟨x3, e3, _, w3⟩ := DataW.trod_int Tryd.underlying3 h3
      obtain ⟨x4, e4, _, _⟩ := DataW.trod_string Tryd.underlying9 h4
      simp only [List.cons.injEq, and_true] at e0 e1 e2 e3 e4
      exact ⟨⟨x0, x1, x2, x3, x4.data.toList⟩, by rw [e0, e1, e2, e3, e4]; rfl, (yu8 w0).1, (yu8 w0).2, yi64 w1, yi64 w2, yi64 w3⟩) h
end
theorem yarr5 {cs : Array Value} (h : cs.size = 5) : ∃ a b c d e, cs = #[a, b, c, d, e] := by
  obtain ⟨l⟩ := cs
  match l, h with
  | [a, b, c, d, e], _ => exact ⟨a, b, c, d, e, rfl⟩
set_option maxRecDepth 100000 in
theorem suVal_of {H : Type} {enc : TypeId × Value → H} {w : World} {base : Nat} {held : Bool} {r : Reach} {b0 : Nat} {v : Value} {d : DataW H} {p : List MemPlace}
    (hv : Value.okWide Tryd.prog w r b0 35 v) (h : DataW.Trod enc Tryd.prog w base (fun _ => true) held 35 v d p) : ∃ c : SU, v = .agg c.enc.toArray ∧ SUok c := by
  obtain ⟨cs, rfl, hsz⟩ := okWide_struct Tryd.underlying35 hv
  obtain ⟨c0, c1, c2, c3, c4, rfl⟩ := yarr5 (hsz.trans yk_U)
  obtain ⟨fuel, hf⟩ := h
  have hf' : DataW.trod enc Tryd.prog w base (fun _ => true) held fuel 35 [c0, c1, c2, c3, c4] = some (d, p) := hf
  obtain ⟨y0, y1, n, h0, h1⟩ := td_struct2 Tryd.underlying35 hf'
  simp only [yk_G, yk_I, List.drop_zero, List.drop_succ_cons, List.take_succ_cons, List.take_zero] at h0 h1
  obtain ⟨_, _, _, _, m, g0, g1, g2, g3⟩ := td_struct4 Tryd.underlying33 h0
  simp only [yk_I, List.drop_zero, List.drop_succ_cons, List.take_succ_cons, List.take_zero] at g0 g1 g2 g3
  obtain ⟨x0, e0, _, w0⟩ := DataW.trod_int Tryd.underlying3 g0
  obtain ⟨x1, e1, _, w1⟩ := DataW.trod_int Tryd.underlying3 g1
  obtain ⟨x2, e2, _, w2⟩ := DataW.trod_int Tryd.underlying3 g2
  obtain ⟨x3, e3, _, w3⟩ := DataW.trod_int Tryd.underlying3 g3
  obtain ⟨x4, e4, _, w4⟩ := DataW.trod_int Tryd.underlying3 h1
  simp only [List.cons.injEq, and_true] at e0 e1 e2 e3 e4
  exact ⟨⟨x0, x1, x2, x3, x4⟩, by rw [e0, e1, e2, e3, e4]; rfl, yi64 w0, yi64 w1, yi64 w2, yi64 w3, yi64 w4⟩

def laid8 : List (String × DataW Unit) := [("math/bits.deBruijn32tab", Rows.laid_math_bits_deBruijn32tab), ("math/bits.deBruijn64tab", Rows.laid_math_bits_deBruijn64tab), ("internal/strconv.uint64pow10", Rows.laid_internal_strconv_uint64pow10), ("unicode/utf8.acceptRanges", Rows.laid_unicode_utf8_acceptRanges), ("strconv.ErrRange", Rows.laid_strconv_ErrRange), ("strconv.ErrSyntax", Rows.laid_strconv_ErrSyntax), ("caulk/script.shapes", Rows.laid_caulk_script_shapes), ("unicode/utf8.first", Rows.laid_unicode_utf8_first)]
theorem laid_pow : (Rows.laid_internal_strconv_uint64pow10 : DataW Unit) = Lib.tabData .u64 Lib.pow10Tab := rfl
theorem yg_pow : Tryd.prog.globalNamed "internal/strconv.uint64pow10" = some 2 := by kernel_rfl
theorem yg_shp : Tryd.prog.globalNamed "caulk/script.shapes" = some 0 := by kernel_rfl
theorem yg_syn : Tryd.prog.globalNamed "strconv.ErrSyntax" = some 5 := by kernel_rfl
theorem yg_rng : Tryd.prog.globalNamed "strconv.ErrRange" = some 6 := by kernel_rfl
theorem err_cell {W : World} {n : String} {g ti : Nat} {ms : Array (String × TypeId)} {cs : Array Value} {fuel : Nat} {nm : String} {d : DataW Unit} {p : List MemPlace} (hg : Tryd.prog.globalNamed n = some g) (hi : Tryd.prog.underlying ti = some (.interface ms))
    (hv : W.var? Tryd.prog n = some cs) (hd : DataW.trod (fun _ => ()) Tryd.prog W 0 (fun _ => true) false fuel ti cs.toList = some (.iface nm d, p)) :
    ∃ ev, W.cell? ⟨g, 0, none⟩ = some ev ∧ (ev = .nilIface ∨ ∃ te pe, ev = .iface te pe) := by
  obtain ⟨_, u, v, e, _, _⟩ := iface_of_trod hi hd
  refine ⟨.iface u v, ?_, .inr ⟨u, v, rfl⟩⟩
  rw [World.var?_cell hg hv 0]
  have : cs.toList[0]? = some (.iface u v) := by rw [e]; rfl
  simpa using this
def shD (k : Nat) : DataW Unit := .agg [.lit (.string (kWd k)), .agg [.lit (.int .i64 (kTw k 0)), .lit (.int .i64 (kTw k 1)), .lit (.int .i64 (kTw k 2))]]
theorem laid_shp : (Rows.laid_caulk_script_shapes : DataW Unit) = .agg ((List.range 19).map shD) := rfl
set_option maxRecDepth 100000 in
theorem shapes_four {W : World} {cs : List Value} {fuel : Nat} {p : List MemPlace}
    (hd : DataW.trod (fun _ => ()) Tryd.prog W 0 (fun _ => true) false fuel 46 cs = some (Rows.laid_caulk_script_shapes, p)) (k : Nat) (hk : k < 19) :
    cs[k * 4]? = some (Bs (kWd k)) ∧ cs[k * 4 + 1]? = some (.int .i64 (kTw k 0)) ∧ cs[k * 4 + 2]? = some (.int .i64 (kTw k 1)) ∧ cs[k * 4 + 3]? = some (.int .i64 (kTw k 2)) := by
  obtain ⟨xs, m, _, ex, _, hl, hel⟩ := DataW.trod_array Tryd.underlying46 hd
  have hE := hel k hk
  rw [yk_H, List.getElem?_eq_getElem (by omega)] at hE
  have e3 : (xs.map (·.1)) = (List.range 19).map shD := (DataW.agg.inj ((Prod.mk.inj ex).1.symm.trans laid_shp))
  have e4 : (xs.map (·.1))[k]? = ((List.range 19).map shD)[k]? := by rw [e3]
  rw [List.getElem?_map, List.getElem?_map, List.getElem?_eq_getElem (by omega : k < xs.length), List.getElem?_range hk] at e4
  have e5 : (xs[k]'(by omega)).1 = shD k := Option.some.inj e4
  obtain ⟨y, hy⟩ : ∃ y, y = xs[k]'(by omega) := ⟨_, rfl⟩
  rw [← hy] at hE e5
  clear hy hel e4 e3 ex
  obtain ⟨d, pl⟩ := y
  have e5 : d = shD k := e5
  subst e5
  have hC : ∀ q, q < 4 → ((cs.drop (k * 4)).take 4)[q]? = cs[k * 4 + q]? := fun q hq => by
    rw [List.getElem?_take, if_pos hq, List.getElem?_drop]
  generalize (cs.drop (k * 4)).take 4 = C at hE hC
  obtain ⟨y0, y1, n, ey, f0, f1⟩ := td_struct2e Tryd.underlying45 hE
  have ey2 := DataW.agg.inj ey
  simp only [List.cons.injEq, and_true] at ey2
  obtain ⟨a0, a1⟩ := ey2
  simp only [yk_S, yk_3, List.drop_zero] at f0 f1
  obtain ⟨s, e1, e2, _⟩ := DataW.trod_string Tryd.underlying9 f0
  obtain ⟨zs, m3, _, ez, _, hlz, helz⟩ := DataW.trod_array Tryd.underlying43 f1
  rw [e2] at a0
  rw [ez] at a1
  have a0 : kWd k = s.data.toList := by simpa using a0
  have a1 := DataW.agg.inj a1
  have c0 : C[0]? = some (.string s) := by
    have h : (C.take 1)[0]? = some (.string s) := by rw [e1]; rfl
    simpa using h
  have cj : ∀ j (hj : j < 3), C[1 + j]? = some (.int .i64 (kTw k j)) := fun j hj => by
    have h := helz j hj
    rw [yk_I, Nat.mul_one, List.getElem?_eq_getElem (by omega)] at h
    obtain ⟨x, g1, g2, _⟩ := DataW.trod_int Tryd.underlying3 h
    have h2 : ([.lit (.int .i64 (kTw k 0)), .lit (.int .i64 (kTw k 1)), .lit (.int .i64 (kTw k 2))] : List (DataW Unit))[j]? = (zs.map (·.1))[j]? := by rw [a1]
    rw [List.getElem?_map, List.getElem?_eq_getElem (by omega : j < zs.length), g2] at h2
    have h3 : ((((C.drop 1).take 3).drop j).take 1)[0]? = some (.int .i64 x) := by rw [g1]; rfl
    have h4 : C[1 + j]? = some (.int .i64 x) := by
      rw [List.getElem?_take, if_pos (by omega), List.getElem?_drop, List.getElem?_take, if_pos (by omega), List.getElem?_drop] at h3
      exact h3
    rw [h4]
    match j, hj with
    | 0, _ => simpa using h2.symm
    | 1, _ => simpa using h2.symm
    | 2, _ => simpa using h2.symm
  refine ⟨?_, ?_, ?_, ?_⟩
  · rw [← Nat.add_zero (k * 4), ← hC 0 (by omega), c0, a0]
  · rw [← hC 1 (by omega)]; exact cj 0 (by omega)
  · rw [← hC 2 (by omega)]; exact cj 1 (by omega)
  · rw [← hC 3 (by omega)]; exact cj 2 (by omega)
set_option maxRecDepth 100000 in
/-- What the row's condition and the world's shape give the walks. -/
theorem scW_of {W : World} (h : laidMetH Tryd.prog laid8 W) (hs : W.ShapedOpen Tryd.prog) : ScW W := by
  rw [MakeChecks.laidMetH_plain _ _ _ (by kernel_rfl)] at h
  obtain ⟨ps, hL, _, _⟩ := h
  obtain ⟨_, _, _, _, _, q0, _, _, _, _, hL, _⟩ := hL
  obtain ⟨_, _, _, _, _, q1, _, _, _, _, hL, _⟩ := hL
  obtain ⟨g2, t2, cs2, f2, p2, q2, hg2, ht2, hv2, hd2, hL, _⟩ := hL
  obtain ⟨_, _, _, _, _, q3, _, _, _, _, hL, _⟩ := hL
  obtain ⟨g4, t4, cs4, f4, p4, q4, hg4, ht4, hv4, hd4, hL, _⟩ := hL
  obtain ⟨g5, t5, cs5, f5, p5, q5, hg5, ht5, hv5, hd5, hL, _⟩ := hL
  obtain ⟨g6, t6, cs6, f6, p6, q6, hg6, ht6, hv6, hd6, hL, _⟩ := hL
  obtain rfl := Option.some.inj (yg_pow.symm.trans hg2)
  obtain rfl := Option.some.inj (yg_rng.symm.trans hg4)
  obtain rfl := Option.some.inj (yg_syn.symm.trans hg5)
  obtain rfl := Option.some.inj (yg_shp.symm.trans hg6)
  obtain rfl := Option.some.inj ((show (Tryd.prog.globals[2]?).map (·.type) = some 119 by kernel_rfl).symm.trans ht2)
  obtain rfl := Option.some.inj ((show (Tryd.prog.globals[6]?).map (·.type) = some 69 by kernel_rfl).symm.trans ht4)
  obtain rfl := Option.some.inj ((show (Tryd.prog.globals[5]?).map (·.type) = some 69 by kernel_rfl).symm.trans ht5)
  obtain rfl := Option.some.inj ((show (Tryd.prog.globals[0]?).map (·.type) = some 46 by kernel_rfl).symm.trans ht6)
  refine ⟨?_, ?_, err_cell yg_syn Tryd.underlying69 hv5 hd5, err_cell yg_rng Tryd.underlying69 hv4 hd4, ?_⟩
  · unfold Lib.TabIs
    rw [hv2, ← Lib.cells_of_tab (k := .u64) (zs := Lib.pow10Tab) Tryd.underlying119 Tryd.underlying107 (by kernel_rfl) (by kernel_rfl) (by rw [← laid_pow]; exact hd2)]
  · exact cell_of_shapedOpen_int (P := Tryd.prog) (g := 1) (t := 3) (zero := #[.int .i64 0]) hs (of_decide_eq_true (by kernel_rfl)) (by kernel_rfl) rfl (by kernel_rfl) (by kernel_rfl) Tryd.underlying3
  · intro j v hj
    have hlen : shC.length = 76 := by decide
    have hj2 : j < 76 := by have := (List.getElem?_eq_some_iff.1 hj).1; omega
    show W.cell? ⟨0, 0 + j, none⟩ = some v
    rw [Nat.zero_add, World.var?_cell yg_shp hv6 j, ← Array.getElem?_toList, ← hj]
    obtain ⟨k, q, rfl, hq⟩ : ∃ k q, j = k * 4 + q ∧ q < 4 := ⟨j / 4, j % 4, by omega, by omega⟩
    obtain ⟨a0, a1, a2, a3⟩ := shapes_four hd6 k (by omega)
    obtain ⟨b0, b1, b2, b3⟩ := shC_at k (by omega)
    match q, hq with
    | 0, _ => exact a0.trans b0.symm
    | 1, _ => exact a1.trans b1.symm
    | 2, _ => exact a2.trans b2.symm
    | 3, _ => exact a3.trans b3.symm
end Go.Proofs.YtfmpbohiahjafaaDoor
