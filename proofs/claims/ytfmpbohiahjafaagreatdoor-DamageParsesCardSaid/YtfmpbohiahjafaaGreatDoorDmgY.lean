/- Reports of damage: what comes in, and what the package variables hold by the row's condition. -/
import Derived.Test.YtfmpbohiahjafaaGreatDoorDmgX
import Derived.Test.YtfmpbohiahjafaaGreatDoorStrIn
import Derived.OpenShut
import Derived.ShutString
import Derived.ChangeOld
import Derived.LaidMore
import Derived.LaidLaws
import Derived.Lay
import Derived.Lib.LaidTab
import Derived.Stop.Joined
import Derived.Shelf.Vars
import Derived.Handed
import Derived.Test.YtfmpbohiahjafaaGreatDoorRows
namespace Go.Proofs.YtfmpbohiahjafaaGreatDoor
open Go.RowKit Go.Joins Go.WideShapes Go.ChangeShapes Go.ChangeAt
open Go.Deep (open_slice)

theorem yk_W : Tryz.prog.cellsOf 42 = 5 := by kernel_rfl
theorem yk_L : Tryz.prog.cellsOf 46 = 3 := by kernel_rfl
theorem yk_R : Tryz.prog.cellsOf 44 = 2 := by kernel_rfl
theorem yk_I : Tryz.prog.cellsOf 3 = 1 := by kernel_rfl
theorem yk_K : Tryz.prog.cellsOf 40 = 1 := by kernel_rfl
theorem yk_B : Tryz.prog.cellsOf 4 = 1 := by kernel_rfl
theorem yk_Ws : Tryz.prog.cellsOf 22 = 1 := by kernel_rfl
theorem yk_Ls : Tryz.prog.cellsOf 23 = 1 := by kernel_rfl
theorem yk_P : Tryz.prog.cellsOf 25 = 2 := by kernel_rfl
theorem yk_S : Tryz.prog.cellsOf 9 = 1 := by kernel_rfl
theorem td_struct5 {H : Type} {enc : TypeId × Value → H} {P : Program} {w : World} {base : Nat} {spare : Nat → Bool} {held : Bool} {t : TypeId} {f0 f1 f2 f3 f4 : Field} {fuel : Nat} {cs : List Value} {x : DataW H × List MemPlace} (ht : P.underlying t = some (.struct #[f0, f1, f2, f3, f4])) (h : DataW.trod enc P w base spare held fuel t cs = some x) :
    ∃ y0 y1 y2 y3 y4 n, DataW.trod enc P w base spare held n f0.type ((cs.drop f0.offset).take (P.cellsOf f0.type)) = some y0 ∧ DataW.trod enc P w base spare held n f1.type ((cs.drop f1.offset).take (P.cellsOf f1.type)) = some y1 ∧ DataW.trod enc P w base spare held n f2.type ((cs.drop f2.offset).take (P.cellsOf f2.type)) = some y2 ∧ DataW.trod enc P w base spare held n f3.type ((cs.drop f3.offset).take (P.cellsOf f3.type)) = some y3 ∧ DataW.trod enc P w base spare held n f4.type ((cs.drop f4.offset).take (P.cellsOf f4.type)) = some y4 := by
  obtain ⟨xs, n, _, rfl, hl, hlen, hf⟩ := DataW.trod_struct ht h
  match xs, hlen with
  | [y0, y1, y2, y3, y4], _ => exact ⟨y0, y1, y2, y3, y4, n, by simpa using hf 0 f0 rfl, by simpa using hf 1 f1 rfl, by simpa using hf 2 f2 rfl, by simpa using hf 3 f3 rfl, by simpa using hf 4 f4 rfl⟩
theorem yu8 {n : Int} (h : (Lit.int .u8 n).wf = true) : 0 ≤ n := by
  simp [Lit.wf, IntKind.min, IntKind.max, IntKind.signed, IntKind.bits] at h
  omega
section
variable {H : Type} {enc : TypeId × Value → H} {w : World} {base : Nat} {held : Bool} {fuel t : Nat} {A : Option Addr} {len cap : Nat} {x : DataW H × List MemPlace}
set_option maxRecDepth 100000 in
theorem wdS_in (ht : Tryz.prog.underlying t = some (.slice 42)) (h : DataW.trod enc Tryz.prog w base (fun _ => true) held fuel t (Value.slice A len cap).cells.toList = some x) : ∃ R, WdS w (.slice A len cap) R ∧ KsOk R :=
  stS_in (k := 5) (enc := WD.enc) (z := WD.zero) (G := fun q => 0 ≤ q.k) (by decide) ht yk_W (fun n cs y hl hf => by
    match cs, hl with
    | [c0, c1, c2, c3, c4], _ =>
      obtain ⟨_, _, _, _, _, m, h0, h1, h2, h3, h4⟩ := td_struct5 Tryz.underlying42 hf
      simp only [yk_K, yk_I, yk_B, List.drop_zero, List.drop_succ_cons, List.take_succ_cons, List.take_zero] at h0 h1 h2 h3 h4
      obtain ⟨x0, e0, _, w0⟩ := DataW.trod_int Tryz.underlying40 h0
      obtain ⟨x1, e1, _, _⟩ := DataW.trod_int Tryz.underlying3 h1
      obtain ⟨x2, e2, _, _⟩ := DataW.trod_int Tryz.underlying3 h2
      obtain ⟨x3, e3, _, _⟩ := DataW.trod_int Tryz.underlying3 h3
      obtain ⟨x4, e4, _⟩ := DataW.trod_bool Tryz.underlying4 h4
      simp only [List.cons.injEq, and_true] at e0 e1 e2 e3 e4
      exact ⟨⟨x0, x1, x2, x3, x4⟩, by rw [e0, e1, e2, e3, e4]; rfl, yu8 w0⟩) h
set_option maxRecDepth 100000 in
theorem loS_in (ht : Tryz.prog.underlying t = some (.slice 46)) (h : DataW.trod enc Tryz.prog w base (fun _ => true) held fuel t (Value.slice A len cap).cells.toList = some x) : ∃ R, LoS w (.slice A len cap) R := by
  obtain ⟨R, h1, _⟩ := stS_in (k := 3) (enc := LO.enc) (z := LO.zero) (G := fun _ => True) (by decide) ht yk_L (fun n cs y hl hf => by
    match cs, hl with
    | [c0, c1, c2], _ =>
      obtain ⟨_, _, m, h0, h1⟩ := td_struct2 Tryz.underlying46 hf
      simp only [yk_R, yk_I, List.drop_zero, List.drop_succ_cons, List.take_succ_cons, List.take_zero] at h0 h1
      obtain ⟨_, _, m2, g0, g1⟩ := td_struct2 Tryz.underlying44 h1
      simp only [yk_I, List.drop_zero, List.drop_succ_cons, List.take_succ_cons, List.take_zero] at g0 g1
      obtain ⟨x0, e0, _, _⟩ := DataW.trod_int Tryz.underlying3 h0
      obtain ⟨x1, e1, _, _⟩ := DataW.trod_int Tryz.underlying3 g0
      obtain ⟨x2, e2, _, _⟩ := DataW.trod_int Tryz.underlying3 g1
      simp only [List.cons.injEq, and_true] at e0 e1 e2
      exact ⟨⟨x0, x1, x2⟩, by rw [e0, e1, e2]; rfl, trivial⟩) h
  exact ⟨R, h1⟩
end
/-- A value that is a report, read in a world. -/
def RepVal (w : World) (z : Value) : Prop := ∃ u v W L, z = .agg #[u, v] ∧ WdS w u W ∧ LoS w v L ∧ KsOk W
theorem yarr2 {cs : Array Value} (h : cs.size = 2) : ∃ a b, cs = #[a, b] := by
  obtain ⟨l⟩ := cs
  match l, h with
  | [a, b], _ => exact ⟨a, b, rfl⟩
set_option maxRecDepth 100000 in
theorem repVal_of {H : Type} {enc : TypeId × Value → H} {w : World} {base : Nat} {held : Bool} {r : Reach} {b0 : Nat} {v : Value} {d : DataW H} {p : List MemPlace}
    (hv : Value.okWide Tryz.prog w r b0 25 v) (h : DataW.Trod enc Tryz.prog w base (fun _ => true) held 25 v d p) : RepVal w v := by
  obtain ⟨cs, rfl, hsz⟩ := okWide_struct Tryz.underlying25 hv
  obtain ⟨c0, c1, rfl⟩ := yarr2 (hsz.trans yk_P)
  obtain ⟨fuel, hf⟩ := h
  have hf' : DataW.trod enc Tryz.prog w base (fun _ => true) held fuel 25 [c0, c1] = some (d, p) := hf
  obtain ⟨y0, y1, n, h0, h1⟩ := td_struct2 Tryz.underlying25 hf'
  simp only [yk_Ws, yk_Ls, List.drop_zero, List.drop_succ_cons, List.take_succ_cons, List.take_zero] at h0 h1
  obtain ⟨A, l, k, e0⟩ : ∃ A l k, [c0] = (Value.slice A l k).cells.toList := by
    rcases open_slice Tryz.underlying22 h0 with ⟨hcs, _⟩ | ⟨a, len, cap, _, _, _, _, hcs, _⟩
    · exact ⟨_, _, _, hcs⟩
    · exact ⟨_, _, _, hcs⟩
  obtain ⟨B, l', k', e1⟩ : ∃ A l k, [c1] = (Value.slice A l k).cells.toList := by
    rcases open_slice Tryz.underlying23 h1 with ⟨hcs, _⟩ | ⟨a, len, cap, _, _, _, _, hcs, _⟩
    · exact ⟨_, _, _, hcs⟩
    · exact ⟨_, _, _, hcs⟩
  rw [e0] at h0
  rw [e1] at h1
  obtain ⟨W, hW, hK⟩ := wdS_in Tryz.underlying22 h0
  obtain ⟨L, hL⟩ := loS_in Tryz.underlying23 h1
  simp only [Value.cells, List.cons.injEq, and_true] at e0 e1
  exact ⟨_, _, W, L, by rw [e0, e1], hW, hL, hK⟩

def laid8 : List (String × DataW Unit) := [("math/bits.deBruijn32tab", Rows.laid_math_bits_deBruijn32tab), ("math/bits.deBruijn64tab", Rows.laid_math_bits_deBruijn64tab), ("internal/strconv.uint64pow10", Rows.laid_internal_strconv_uint64pow10), ("unicode/utf8.acceptRanges", Rows.laid_unicode_utf8_acceptRanges), ("strconv.ErrRange", Rows.laid_strconv_ErrRange), ("strconv.ErrSyntax", Rows.laid_strconv_ErrSyntax), ("caulk/damage.words", Rows.laid_caulk_damage_words), ("unicode/utf8.first", Rows.laid_unicode_utf8_first)]
theorem laid_pow : (Rows.laid_internal_strconv_uint64pow10 : DataW Unit) = Lib.tabData .u64 Lib.pow10Tab := rfl
theorem yg_pow : Tryz.prog.globalNamed "internal/strconv.uint64pow10" = some 2 := by kernel_rfl
theorem yg_wds : Tryz.prog.globalNamed "caulk/damage.words" = some 0 := by kernel_rfl
theorem yg_syn : Tryz.prog.globalNamed "strconv.ErrSyntax" = some 3 := by kernel_rfl
theorem yg_rng : Tryz.prog.globalNamed "strconv.ErrRange" = some 4 := by kernel_rfl
theorem err_cell {W : World} {n : String} {g ti : Nat} {ms : Array (String × TypeId)} {cs : Array Value} {fuel : Nat} {nm : String} {d : DataW Unit} {p : List MemPlace} (hg : Tryz.prog.globalNamed n = some g) (hi : Tryz.prog.underlying ti = some (.interface ms))
    (hv : W.var? Tryz.prog n = some cs) (hd : DataW.trod (fun _ => ()) Tryz.prog W 0 (fun _ => true) false fuel ti cs.toList = some (.iface nm d, p)) :
    ∃ ev, W.cell? ⟨g, 0, none⟩ = some ev ∧ (ev = .nilIface ∨ ∃ te pe, ev = .iface te pe) := by
  obtain ⟨_, u, v, e, _, _⟩ := iface_of_trod hi hd
  refine ⟨.iface u v, ?_, .inr ⟨u, v, rfl⟩⟩
  rw [World.var?_cell hg hv 0]
  have : cs.toList[0]? = some (.iface u v) := by rw [e]; rfl
  simpa using this
set_option maxRecDepth 100000 in
theorem words_cell {W : World} {cs : Array Value} {fuel : Nat} {p : List MemPlace}
    (hv : W.var? Tryz.prog "caulk/damage.words" = some cs) (hd : DataW.trod (fun _ => ()) Tryz.prog W 0 (fun _ => true) false fuel 77 cs.toList = some (Rows.laid_caulk_damage_words, p)) (i : Nat) (hi : i < 4) :
    W.cell? ⟨0, i, none⟩ = some (Bs ([[], slotW, pageW, stripeW].getD i [])) := by
  obtain ⟨xs, m, _, ex, _, hl, hel⟩ := DataW.trod_array Tryz.underlying77 hd
  have hE := hel i hi
  rw [yk_S, Nat.mul_one, List.getElem?_eq_getElem (by omega)] at hE
  obtain ⟨s, e1, e2, _⟩ := DataW.trod_string Tryz.underlying9 hE
  have e3 : (xs.map (·.1)) = [[], slotW, pageW, stripeW].map fun n => .lit (.string n) := (DataW.agg.inj (Prod.mk.inj ex).1).symm
  have e4 : (xs.map (·.1))[i]? = ([[], slotW, pageW, stripeW].map fun n => (DataW.lit (.string n) : DataW Unit))[i]? := by rw [e3]
  rw [List.getElem?_map, List.getElem?_map, List.getElem?_eq_getElem (by omega : i < xs.length), List.getElem?_eq_getElem (by simpa using hi), e2] at e4
  have hz : s.data.toList = [[], slotW, pageW, stripeW].getD i [] := by
    simp only [Option.map_some, Option.some.injEq, DataW.lit.injEq, Lit.string.injEq] at e4
    rw [e4, List.getD, List.getElem?_eq_getElem (by simpa using hi)]; rfl
  rw [World.var?_cell yg_wds hv i, ← hz]
  have : cs.toList[i]? = some (.string s) := by
    have h0 : ((cs.toList.drop i).take 1)[0]? = some (.string s) := by rw [e1]; rfl
    simpa using h0
  simpa using this
set_option maxRecDepth 100000 in
/-- What the row's condition and the world's shape give the walks. -/
theorem dmW_of {W : World} (h : laidMetH Tryz.prog laid8 W) (hs : W.ShapedOpen Tryz.prog) : DmW W := by
  rw [MakeChecks.laidMetH_plain _ _ _ (by kernel_rfl)] at h
  obtain ⟨ps, hL, _, _⟩ := h
  obtain ⟨_, _, _, _, _, q0, _, _, _, _, hL, _⟩ := hL
  obtain ⟨_, _, _, _, _, q1, _, _, _, _, hL, _⟩ := hL
  obtain ⟨g2, t2, cs2, f2, p2, q2, hg2, ht2, hv2, hd2, hL, _⟩ := hL
  obtain ⟨_, _, _, _, _, q3, _, _, _, _, hL, _⟩ := hL
  obtain ⟨g4, t4, cs4, f4, p4, q4, hg4, ht4, hv4, hd4, hL, _⟩ := hL
  obtain ⟨g5, t5, cs5, f5, p5, q5, hg5, ht5, hv5, hd5, hL, _⟩ := hL
  obtain ⟨g6, t6, cs6, f6, p6, q6, hg6, ht6, hv6, hd6, hL, _⟩ := hL
  obtain rfl := Option.some.inj (yg_pow.symm.trans hg2)
  obtain rfl := Option.some.inj (yg_rng.symm.trans hg4)
  obtain rfl := Option.some.inj (yg_syn.symm.trans hg5)
  obtain rfl := Option.some.inj (yg_wds.symm.trans hg6)
  obtain rfl := Option.some.inj ((show (Tryz.prog.globals[2]?).map (·.type) = some 139 by kernel_rfl).symm.trans ht2)
  obtain rfl := Option.some.inj ((show (Tryz.prog.globals[4]?).map (·.type) = some 52 by kernel_rfl).symm.trans ht4)
  obtain rfl := Option.some.inj ((show (Tryz.prog.globals[3]?).map (·.type) = some 52 by kernel_rfl).symm.trans ht5)
  obtain rfl := Option.some.inj ((show (Tryz.prog.globals[0]?).map (·.type) = some 77 by kernel_rfl).symm.trans ht6)
  refine ⟨?_, ?_, err_cell yg_syn Tryz.underlying52 hv5 hd5, err_cell yg_rng Tryz.underlying52 hv4 hd4, words_cell hv6 hd6 0 (by decide), words_cell hv6 hd6 1 (by decide), words_cell hv6 hd6 2 (by decide), words_cell hv6 hd6 3 (by decide)⟩
  · unfold Lib.TabIs
    rw [hv2, ← Lib.cells_of_tab (k := .u64) (zs := Lib.pow10Tab) Tryz.underlying139 Tryz.underlying120 (by kernel_rfl) (by kernel_rfl) (by rw [← laid_pow]; exact hd2)]
  · exact cell_of_shapedOpen_int (P := Tryz.prog) (g := 1) (t := 3) (zero := #[.int .i64 0]) hs (of_decide_eq_true (by kernel_rfl)) (by kernel_rfl) rfl (by kernel_rfl) (by kernel_rfl) Tryz.underlying3
end Go.Proofs.YtfmpbohiahjafaaGreatDoor
