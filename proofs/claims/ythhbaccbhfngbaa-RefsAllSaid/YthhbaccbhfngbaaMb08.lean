/- Charts: the contract of the document's own flat. Charts: the map of entries, block by block; tables that a call owns. Charts: the contract of the document's own of. -/
import Derived.Test.YthhbaccbhfngbaaMb07
import Derived.Test.YthhbaccbhfngbaaMb04
namespace Go.Proofs.Ythhbaccbhfngbaa
open Go.RowKit

/-- flat under way: the chart's box, and the row. -/
structure FL (w W : World) (B : Int) (v : Value) (L : List EN) : Prop where
  bl : Below w.heap.size w W
  x : B2 W w.heap.size (.int .i64 B) v
  row : RowE W (w.heap.size + 1) L
theorem FL.below {w W W' : World} {B : Int} {v : Value} {L : List EN} (k : FL w W B v L) (hb : Below W.heap.size W W') : FL w W' B v L := ⟨k.bl.trans (hb.mono k.bl.size), k.x.below hb, k.row.below hb⟩
theorem FL.new (w : World) (BN : Nat) (v : Value) : FL w ((w.alloc (.cells #[.int .i64 (BN : Int), v] 44)).alloc (.cells (madeCells zeroC (BN * 4)) 50)) (BN : Int) v (List.replicate BN EN.zero) := by
  refine ⟨(below1 _ _).alloc (by simp) _, (B2.new w _ _ _).below (below1 _ _), ?_⟩
  have h := RowE.made (w.alloc (.cells #[.int .i64 (BN : Int), v] 44)) BN 50
  rw [World.size_alloc] at h
  exact h
theorem FL.put {w W : World} {B : Int} {v : Value} {L : List EN} (k : FL w W B v L) (i : Nat) (hi : i < L.length) (p : EN) : FL w (putN W (w.heap.size + 1) (i * 4) p) B v (L.set i p) := by
  have hap := ap_putN W (w.heap.size + 1) (i * 4) p
  refine ⟨?_, k.x.ap hap (by omega), k.row.put i hi p⟩
  exact k.bl.trans (hap.below k.bl.size (fun k e => by omega))
set_option maxRecDepth 100000 in
set_option maxHeartbeats 8000000 in
theorem rchtFlat_any (E BN : Nat) (T : List TB) (tv : Value) (w : World) (hT : TabsS w tv T) (hOK : COk E BN T) :
    Calls Try.prog 59 #[.int .i64 (E : Int), .agg #[.int .i64 (BN : Int), tv]] w fun e' w' => e' = .returned (.slice (some ⟨w.heap.size + 1, 0, none⟩) BN BN) ∧ RowE w' (w.heap.size + 1) (flatM E BN T) ∧ Below w.heap.size w w' := by
  obtain ⟨A, cap, rfl, hc1, hc2, hc3⟩ := hT
  have HC3 := Lib.hid hc3
  have HF0 := Lib.hid (FL.new w BN (.slice A T.length cap))
  have hmk := makeEnts BN (by have := hOK.b2; omega)
  have HOK := Lib.hid hOK
  clear hc3 hOK
  go_enter Try.func59, Try.ntmps59
  go_upto_region 2 with fail
  clear hmk
  generalize (w.alloc (.cells #[.int .i64 (BN : Int), .slice A T.length cap] 44)).alloc (.cells (madeCells zeroC (BN * 4)) 50) = w0 at HF0 ⊢
  obtain ⟨_, y0, y1, _, _⟩ := HF0.out.x
  go_wp2
  clear y0 y1
  go_loopw [16] (fun ix wr => ∃ (j : Nat) (L : List EN), j ≤ T.length ∧ ix = .int .i64 (j : Int) ∧ (L.length = BN ∧ ∀ b, b < BN → L.getD b EN.zero = lookM E (T.take j) b) ∧ FL w wr (BN : Int) (.slice A T.length cap) L) (fun ix _ => T.length - (intOf ix).toNat)
  case atStart =>
    refine ⟨0, List.replicate BN EN.zero, Nat.zero_le _, rfl, ⟨List.length_replicate, fun b hb => ?_⟩, HF0.out⟩
    rw [List.getD, List.getElem?_replicate, if_pos hb]; rfl
  case round =>
    obtain ⟨j, L, hj, rfl, hL, hF⟩ := hrel
    have HF := Lib.hid hF
    have HL := Lib.hid hL
    clear hF hL HF0
    by_cases hlt : j < T.length
    · obtain ⟨b, off, rfl, hb, hcell⟩ := HC3.out.resolve_left (by intro e; rw [e] at hlt; simp at hlt)
      obtain ⟨u, q0', q1', hu⟩ := hcell j hlt
      have q0 := (HF.out.bl.cell (p := ⟨b, off + j * 2, none⟩) hb).trans q0'
      have q1 := (HF.out.bl.cell (p := ⟨b, off + j * 2 + 1, none⟩) hb).trans q1'
      clear q0' q1'
      have HW1 := Lib.hid (wrap_succ hlt hc1 hc2)
      have HJ := Lib.hid hlt
      have HEA : Hid (∃ k : Nat, (T.getD j TB.zero).at' = (k : Int) ∧ k * E < BN ∧ (T.getD j TB.zero).l.length = E) := Lib.hid (by
        obtain ⟨k, h1, h2, h3⟩ := HOK.out.each j hlt
        exact ⟨k, h1, h2, by have := tblB_len h3; omega⟩)
      have HHALF := Lib.hid (half_zero HL.out)
      have HEND : Hid (∀ L', HalfL E BN T j E L' → L'.length = BN ∧ ∀ b, b < BN → L'.getD b EN.zero = lookM E (T.take (j + 1)) b) := Lib.hid (fun L' h => half_end HOK.out.rise hlt HOK.out.e1 h)
      have HSKIP : Hid (∀ i k L', (T.getD j TB.zero).at' = ((k : Nat) : Int) → BN ≤ k * E + i → HalfL E BN T j i L' → HalfL E BN T j (i + 1) L') := Lib.hid (fun i k L' h1 h2 h3 => half_skip h1 h2 h3)
      have HPUT : Hid (∀ i k L', i < E → (T.getD j TB.zero).at' = ((k : Nat) : Int) → k * E + i < BN → HalfL E BN T j i L' → HalfL E BN T j (i + 1) (L'.set (k * E + i) ((T.getD j TB.zero).l.getD i EN.zero))) := Lib.hid (fun i k L' h0 h1 h2 h3 => half_put HOK.out.e1 h0 h1 h2 h3)
      clear hcell
      generalize T.getD j TB.zero = tb at q0 q1 hu HEA HSKIP HPUT
      obtain ⟨a, l⟩ := tb
      dsimp only at q0 q1 hu HEA HSKIP HPUT
      obtain ⟨k, rfl, hkE, hlE⟩ := HEA.out
      have HU := Lib.hid hu
      obtain ⟨A', cap', rfl, he1, he2, _⟩ := hu
      obtain ⟨M, hM⟩ : ∃ M : Nat, M = k * E := ⟨_, rfl⟩
      rw [← hM] at hkE
      have HMB := Lib.hid hkE
      have HMM := Lib.hid hM
      have M1 : Hid (wrap64 ((k : Int) * (E : Int)) = (M : Int)) := Lib.hid (by rw [← Int.natCast_mul, ← hM]; have := HOK.out.b2; unfold wrap64; omega)
      have HLE := Lib.hid hlE
      have HF1 := Lib.hid (HF.out.below (below1 wr (.cells #[.int .i64 (k : Int), .slice A' l.length cap'] 55)))
      have HT1 := Lib.hid (B2.new wr (.int .i64 (k : Int)) (.slice A' l.length cap') 55)
      have HBT : Hid (w.heap.size + 1 < wr.heap.size) := Lib.hid HF.out.row.1
      obtain ⟨_, y0, y1, _, _⟩ := HF.out.x
      clear hkE hM hlE
      go_upto_region 5 with fail
      clear y0 y1
      generalize wr.alloc (.cells #[.int .i64 (k : Int), .slice A' l.length cap'] 55) = w3 at HF1 HT1 ⊢
      generalize wr.heap.size = bt at HT1 HBT ⊢
      obtain ⟨_, z0, z1, _, _⟩ := HT1.out
      go_wp2
      clear z0 z1
      go_loopw [23] (fun ix wi => ∃ (i : Nat) (L' : List EN), i ≤ l.length ∧ ix = .int .i64 (i : Int) ∧ HalfL E BN T j i L' ∧ FL w wi (BN : Int) (.slice (some ⟨b, off, none⟩) T.length cap) L' ∧ B2 wi bt (.int .i64 (k : Int)) (.slice A' l.length cap')) (fun ix _ => l.length - (intOf ix).toNat)
      case atStart => exact ⟨0, L, Nat.zero_le _, rfl, HHALF.out, HF1.out, HT1.out⟩
      case round =>
        obtain ⟨i, L', hi, rfl, hH, hFi, hTi⟩ := hrel
        have HFi := Lib.hid hFi
        have HTi := Lib.hid hTi
        have HH := Lib.hid hH
        clear hFi hTi hH
        by_cases hil : i < l.length
        · obtain ⟨A2, cap2, hv2, hd1, hd2, hd3⟩ := HU.out
          obtain ⟨b3, off3, rfl, hb3, hcell3⟩ := hd3.resolve_left (by intro e; rw [e] at hil; simp at hil)
          injection hv2 with e1 e2 e3
          subst e1
          subst e3
          clear e2
          obtain ⟨g0, g1, g2, g3⟩ := (hcell3 i hil).below HFi.out.bl hb3
          have HWi := Lib.hid (wrap_succ hil he1 he2)
          have hik : Hid (i < E) := Lib.hid (by rw [← HLE.out]; exact hil)
          obtain ⟨S, hS⟩ : ∃ S : Nat, S = M + i := ⟨_, rfl⟩
          have M2 : Hid (wrap64 ((M : Int) + (i : Int)) = (S : Int)) := Lib.hid (by have h1 := HMB.out; have h2 := HOK.out.b2; have h3 := hik.out; have h4 := HOK.out.e2; unfold wrap64; omega)
          have HS : Hid (S = k * E + i) := Lib.hid (by rw [hS, HMM.out])
          have HLL : Hid (L'.length = BN) := Lib.hid HH.out.1
          have HSK : Hid (BN ≤ S → HalfL E BN T j (i + 1) L') := Lib.hid (fun h => HSKIP.out i k L' rfl (by rw [← HS.out]; exact h) HH.out)
          have HPT : Hid (S < BN → HalfL E BN T j (i + 1) (L'.set S (l.getD i EN.zero))) := Lib.hid (fun h => by rw [HS.out]; exact HPUT.out i k L' hik.out rfl (by rw [← HS.out]; exact h) HH.out)
          clear hcell3 hd3 hb3 hS
          generalize l.getD i EN.zero = p at g0 g1 g2 g3 HPT
          obtain ⟨kk, st, mb, fr⟩ := p
          dsimp only at g0 g1 g2 g3
          have HF5 := Lib.hid (HFi.out.below (below1 wr (.cells #[.int .u8 kk, .int .i64 st, .int .i64 mb, .int .i64 fr] 50)))
          have HT5 := Lib.hid (HTi.out.below (below1 wr (.cells #[.int .u8 kk, .int .i64 st, .int .i64 mb, .int .i64 fr] 50)))
          obtain ⟨_, x0, x1, _, _⟩ := HF5.out.x
          obtain ⟨_, z0, z1, _, _⟩ := HT5.out
          have hw1 := HWi.out
          have m1 := M1.out
          have m2 := M2.out
          by_cases hs : S < BN
          · have e5 : decide ((S : Int) < (BN : Int)) = true := decide_eq_true (by omega)
            have e5' : decide (S < BN) = true := decide_eq_true hs
            have HQ := Lib.hid (HPT.out hs)
            have hat := HF5.out.row.2.1 S (by rw [HLL.out]; exact hs)
            have hfz := HF5.out.row.2.2
            rw [HLL.out] at hfz
            have f0 := hfz (S * 4) (by omega); have f1 := hfz (S * 4 + 1) (by omega); have f2 := hfz (S * 4 + 2) (by omega); have f3 := hfz (S * 4 + 3) (by omega)
            obtain ⟨r0, r1, r2, r3⟩ := hat
            have HFP := Lib.hid (HF5.out.put S (by rw [HLL.out]; exact hs) ⟨kk, st, mb, fr⟩)
            have HTP := Lib.hid (HT5.out.ap (ap_putN _ (w.heap.size + 1) (S * 4) ⟨kk, st, mb, fr⟩) (by have := HBT.out; omega))
            unfold putN at HFP HTP
            dsimp only at HFP HTP
            clear hfz
            go_wp2
            rw [hw1]
            clear hw1 m1 m2 e5 e5'
            go_roundw
            case rel => exact ⟨i + 1, L'.set S ⟨kk, st, mb, fr⟩, by omega, by go_num, HQ.out, HFP.out, HTP.out⟩
            case measure => simp [intOf]; omega
          · have e5 : decide ((S : Int) < (BN : Int)) = false := decide_eq_false (by omega)
            have e5' : decide (S < BN) = false := decide_eq_false hs
            have HQ := Lib.hid (HSK.out (by omega))
            go_wp2
            rw [hw1]
            clear hw1 m1 m2 e5 e5'
            go_roundw
            case rel => exact ⟨i + 1, L', by omega, by go_num, HQ.out, HF5.out, HT5.out⟩
            case measure => simp [intOf]; omega
        · obtain rfl : i = l.length := by omega
          have HN := Lib.hid (HEND.out L' (by have h := HH.out; rw [HLE.out] at h; exact h))
          have hw1 := HW1.out
          go_wp2
          rw [hw1]
          clear hw1
          go_roundw
          case rel => exact ⟨j + 1, L', by have := HJ.out; omega, by go_num, HN.out, HFi.out⟩
          case measure => have := HJ.out; simp [intOf]; omega
    · obtain rfl : j = T.length := by omega
      have HFL := Lib.hid (flat_of HL.out)
      go_wp2
      go_ret
      refine ⟨rfl, ?_, HF.out.bl⟩
      rw [← HFL.out]
      exact HF.out.row
end Go.Proofs.Ythhbaccbhfngbaa
namespace Go.Proofs.Ythhbaccbhfngbaa
open Go.RowKit

/-- The part k of entries, filled up with holes. -/
def partL (E : Nat) (l : List EN) (k : Nat) : List EN := (List.range E).map fun i => l.getD (k * E + i) EN.zero
theorem partL_len (E : Nat) (l : List EN) (k : Nat) : (partL E l k).length = E := by unfold partL; simp
theorem partL_at (E : Nat) (l : List EN) (k : Nat) {i : Nat} (h : i < E) : (partL E l k).getD i EN.zero = l.getD (k * E + i) EN.zero := by
  unfold partL; rw [List.getD, List.getElem?_map, List.getElem?_range h]; rfl
def oneT (E : Nat) (l : List EN) (k : Nat) : List TB := if (partL E l k).any fullB = true then [⟨(k : Int), partL E l k⟩] else []
/-- The map of the first k parts. -/
def ofK (E : Nat) (l : List EN) (k : Nat) : List TB := (List.range k).flatMap (oneT E l)
theorem ofK_succ (E : Nat) (l : List EN) (k : Nat) : ofK E l (k + 1) = ofK E l k ++ oneT E l k := by unfold ofK; rw [List.range_succ, List.flatMap_append, List.flatMap_singleton]
theorem ofK_len (E : Nat) (l : List EN) : ∀ k, (ofK E l k).length ≤ k
  | 0 => Nat.le_refl _
  | k + 1 => by
    rw [ofK_succ, List.length_append]
    have := ofK_len E l k
    have : (oneT E l k).length ≤ 1 := by unfold oneT; split <;> simp
    omega
def nParts (E n : Nat) : Nat := (n + E - 1) / E
def ofM (E : Nat) (l : List EN) : List TB := ofK E l (nParts E l.length)
theorem nParts_iff {E n k : Nat} (hE : 1 ≤ E) : k < nParts E n ↔ k * E < n := by
  unfold nParts
  rw [show (k < (n + E - 1) / E) ↔ k + 1 ≤ (n + E - 1) / E from Iff.rfl, Nat.le_div_iff_mul_le (by omega), Nat.add_mul]
  omega
/-- What stands behind a cut, and holes. -/
theorem part_fill {E k c : Nat} {l : List EN} (hc : ((l.drop (k * E)).take E).length + c = E) : (l.drop (k * E)).take E ++ List.replicate c EN.zero = partL E l k := by
  refine same_all (by rw [List.length_append, List.length_replicate, partL_len]; exact hc) (fun i hi => ?_)
  rw [List.length_append, List.length_replicate] at hi
  rw [partL_at E l k (by omega)]
  rw [List.length_take, List.length_drop] at hc hi
  rw [List.getD, List.getD, List.getElem?_append]
  rw [List.length_take, List.length_drop]
  by_cases h : i < min E (l.length - k * E)
  · rw [if_pos h, List.getElem?_take, if_pos (by omega), List.getElem?_drop]
  · rw [if_neg h, List.getElem?_replicate, if_pos (by omega), List.getElem?_eq_none (by omega)]; rfl
/-! ### tables that a call owns -/
def tCells : List TB → List Value → List Value
  | t :: T, u :: us => .int .i64 t.at' :: u :: tCells T us
  | _, _ => []
theorem tCells_len : ∀ (T : List TB) (us : List Value), us.length = T.length → (tCells T us).length = T.length * 2
  | [], [], _ => rfl
  | t :: T, u :: us, h => by
    show (tCells T us).length + 1 + 1 = _
    rw [tCells_len T us (by simpa using h), List.length_cons]; omega
theorem tCells_snoc : ∀ (T : List TB) (us : List Value) (t : TB) (u : Value), us.length = T.length → tCells (T ++ [t]) (us ++ [u]) = tCells T us ++ [.int .i64 t.at', u]
  | [], [], _, _, _ => rfl
  | t' :: T, u' :: us, t, u, h => by
    show .int .i64 t'.at' :: u' :: tCells (T ++ [t]) (us ++ [u]) = _
    rw [tCells_snoc T us t u (by simpa using h)]; rfl
theorem tCells_at : ∀ (T : List TB) (us : List Value), us.length = T.length → ∀ j, j < T.length → (tCells T us)[j * 2]? = some (.int .i64 (T.getD j TB.zero).at') ∧ (tCells T us)[j * 2 + 1]? = us[j]?
  | t :: T, u :: us, _, 0, _ => ⟨rfl, rfl⟩
  | t :: T, u :: us, h, j + 1, hj => by
    have := tCells_at T us (by simpa using h) j (by simpa using hj)
    rw [show (j + 1) * 2 = j * 2 + 1 + 1 by omega]
    exact this
/-- A table's entries in a block apart. -/
def OneO (W : World) (B : Nat) (u : Value) (l : List EN) (ob : Option Nat) : Prop := EntsS W u l ∧ ∃ g n c, u = .slice (some ⟨g, 0, none⟩) n c ∧ B ≤ g ∧ g < W.heap.size ∧ some g ≠ ob
theorem EntsS.ap {S : Nat → Prop} {w w' : World} {g n c : Nat} {l : List EN} (k : EntsS w (.slice (some ⟨g, 0, none⟩) n c) l) (a : Ap S w w') (hn : ¬ S g) : EntsS w' (.slice (some ⟨g, 0, none⟩) n c) l := by
  obtain ⟨A, cap, hv, h1, h2, h3⟩ := k
  refine ⟨A, cap, hv, h1, h2, ?_⟩
  rcases h3 with h3 | ⟨b, off, hA, hlt, hc⟩
  · exact .inl h3
  · injection hv with e1 _ _
    rw [hA] at e1
    injection e1 with e1
    injection e1 with e1 e2 _
    subst e1
    refine .inr ⟨g, off, hA, Nat.lt_of_lt_of_le hlt a.size, fun j hj => ?_⟩
    have := hc j hj
    exact ⟨(a.cell hlt hn _).trans this.c0, (a.cell hlt hn _).trans this.c1, (a.cell hlt hn _).trans this.c2, (a.cell hlt hn _).trans this.c3⟩
structure TOwn (W : World) (B : Nat) (v : Value) (T : List TB) (us : List Value) : Prop where
  len : us.length = T.length
  own : W.ownsRow B 55 2 v T.length (tCells T us)
  each : ∀ j u, us[j]? = some u → OneO W B u (T.getD j TB.zero).l v.ownBlock
theorem TOwn.nil (W : World) (B : Nat) : TOwn W B (.slice none 0 0) [] [] := ⟨rfl, World.ownsRow_nil _ _ _ _, fun j u h => by simp at h⟩
theorem TOwn.below {W W' : World} {B : Nat} {v : Value} {T : List TB} {us : List Value} (k : TOwn W B v T us) (hb : Below W.heap.size W W') : TOwn W' B v T us := by
  refine ⟨k.len, own_keepE k.own hb, fun j u hu => ?_⟩
  obtain ⟨h1, g, n, c, rfl, hB, hg, hne⟩ := k.each j u hu
  exact ⟨h1.below hb (Nat.le_refl _), g, n, c, rfl, hB, Nat.lt_of_lt_of_le hg hb.size, hne⟩
theorem TOwn.ap {S : Nat → Prop} {W W' : World} {B : Nat} {v : Value} {T : List TB} {us : List Value} (k : TOwn W B v T us) (a : Ap S W W') (hS : ∀ q, S q → q < B) : TOwn W' B v T us := by
  refine ⟨k.len, ?_, fun j u hu => ?_⟩
  · refine ⟨k.own.1, ?_⟩
    rcases k.own.2 with h0 | ⟨g, cap, cur, hv, hg, hh, r⟩
    · exact .inl h0
    · exact .inr ⟨g, cap, cur, hv, hg, (a.block g (Array.getElem?_eq_some_iff.1 hh).1 (fun e => by have := hS g e; omega)).trans hh, r⟩
  · obtain ⟨h1, g, n, c, rfl, hB, hg, hne⟩ := k.each j u hu
    exact ⟨h1.ap a (fun e => by have := hS g e; omega), g, n, c, rfl, hB, Nat.lt_of_lt_of_le hg a.size, hne⟩
/-- One more table. -/
theorem TOwn.snoc {W W' : World} {B : Nat} {v v' u : Value} {T : List TB} {us : List Value} {t : TB} (k : TOwn W B v T us) (ho : OneO W B u t.l v.ownBlock) (hown : W'.ownsRow B 55 2 v' (T.length + 1) (tCells T us ++ [.int .i64 t.at', u])) (hg : W.grownBy W' v.ownBlock) (hob : v'.ownBlock = v.ownBlock ∨ v'.ownBlock = some W.heap.size) : TOwn W' B v' (T ++ [t]) (us ++ [u]) := by
  have hap : Ap (fun b => some b = v.ownBlock) W W' := Ap.grown (Ap.refl W) hg (fun q hq => .inl hq.symm)
  have one : ∀ u l, OneO W B u l v.ownBlock → OneO W' B u l v'.ownBlock := by
    rintro u l ⟨h1, g, n, c, rfl, hB, hlt, hne⟩
    refine ⟨h1.ap hap (fun e => hne e), g, n, c, rfl, hB, Nat.lt_of_lt_of_le hlt hap.size, ?_⟩
    rcases hob with h | h
    · rw [h]; exact hne
    · rw [h]; intro e; injection e with e; omega
  refine ⟨by rw [List.length_append, List.length_append, k.len]; rfl, by rw [tCells_snoc _ _ _ _ k.len, List.length_append]; exact hown, fun j x hx => ?_⟩
  by_cases hj : j < us.length
  · rw [List.getElem?_append_left hj] at hx
    have e : (T ++ [t]).getD j TB.zero = T.getD j TB.zero := by rw [List.getD, List.getElem?_append_left (by rw [← k.len]; exact hj)]; rfl
    rw [e]
    exact one _ _ (k.each j x hx)
  · have hj2 : j = us.length := by have := (List.getElem?_eq_some_iff.1 hx).1; simp at this; omega
    subst hj2
    rw [List.getElem?_append_right (Nat.le_refl _), Nat.sub_self] at hx
    injection hx with hx
    subst hx
    have e : (T ++ [t]).getD us.length TB.zero = t := by rw [List.getD, k.len, List.getElem?_append_right (Nat.le_refl _), Nat.sub_self]; rfl
    rw [e]
    exact one _ _ ho
theorem TOwn.tabs {W : World} {B : Nat} {v : Value} {T : List TB} {us : List Value} (k : TOwn W B v T us) : TabsS W v T := by
  rcases k.own.2 with ⟨rfl, h0⟩ | ⟨g, cap, cur, rfl, hb, hh, hn, hm, hs, ht⟩
  · have : T = [] := List.eq_nil_of_length_eq_zero h0
    subst this
    exact ⟨none, 0, rfl, Nat.le_refl _, Nat.zero_le _, .inl rfl⟩
  · refine ⟨_, cap, rfl, hn, hm, .inr ⟨g, 0, rfl, (Array.getElem?_eq_some_iff.1 hh).1, fun j hj => ?_⟩⟩
    have hc : ∀ q, q < T.length * 2 → W.cell? ⟨g, q, none⟩ = (tCells T us)[q]? := by
      intro q hq
      rw [cell_of_row W g q cur _ (0, 0) hh]
      have h1 : (cur.toList.take (T.length * 2))[q]? = (tCells T us)[q]? := by rw [ht]
      rw [List.getElem?_take, if_pos hq, Array.getElem?_toList] at h1
      exact h1
    obtain ⟨a1, a2⟩ := tCells_at T us k.len j hj
    have hu : us[j]? = some (us[j]'(by rw [k.len]; exact hj)) := List.getElem?_eq_getElem (by rw [k.len]; exact hj)
    rw [Nat.zero_add]
    exact ⟨_, (hc _ (by omega)).trans a1, ((hc _ (by omega)).trans a2).trans hu, (k.each j _ hu).1⟩
end Go.Proofs.Ythhbaccbhfngbaa
namespace Go.Proofs.Ythhbaccbhfngbaa
open Go.RowKit

/-- of under way. -/
structure OS (w W : World) (N : Nat) (tv : Value) (T : List TB) (us : List Value) : Prop where
  bl : Below w.heap.size w W
  r : B2 W w.heap.size (.int .i64 0) (.slice none 0 0)
  x : B2 W (w.heap.size + 1) (.int .i64 (N : Int)) tv
  own : TOwn W (w.heap.size + 2) tv T us
theorem OS.below {w W W' : World} {N : Nat} {tv : Value} {T : List TB} {us : List Value} (k : OS w W N tv T us) (hb : Below W.heap.size W W') : OS w W' N tv T us :=
  ⟨k.bl.trans (hb.mono k.bl.size), k.r.below hb, k.x.below hb, k.own.below hb⟩
theorem OS.new (w : World) (N : Nat) : OS w ((w.alloc (.cells #[.int .i64 0, .slice none 0 0] 44)).alloc (.cells #[.int .i64 (N : Int), .slice none 0 0] 44)) N (.slice none 0 0) [] [] := by
  refine ⟨(below1 _ _).alloc (by simp) _, (B2.new w _ _ _).below (below1 _ _), ?_, TOwn.nil _ _⟩
  have h := B2.new (w.alloc (.cells #[.int .i64 0, .slice none 0 0] 44)) (.int .i64 (N : Int)) (.slice none 0 0) 44
  rw [World.size_alloc] at h
  exact h
theorem ownE_empty (W : World) : (W.alloc (.cells #[] 50)).ownsRow W.heap.size 50 4 (.slice (some ⟨W.heap.size, 0, none⟩) 0 0) 0 [] :=
  ⟨rfl, .inr ⟨W.heap.size, 0, #[], rfl, Nat.le_refl _, heap_alloc_new W _, Nat.le_refl _, Nat.zero_le _, rfl, rfl⟩⟩
theorem cut_cells {w : World} {b off M m : Nat} {l : List EN} (hc : ∀ j, j < l.length → EntAt w b (off + j * 4) (l.getD j EN.zero)) (hm : M + m ≤ l.length) : ∀ j u, (eCells ((l.drop M).take m))[j]? = some u → w.cell? ((⟨b, off + M * 4, none⟩ : Addr).add j) = some u := by
  intro j u hu
  have hl : ((l.drop M).take m).length = m := by rw [List.length_take, List.length_drop]; omega
  have hj : j < m * 4 := by have := (List.getElem?_eq_some_iff.1 hu).1; rw [eCells_len, hl] at this; exact this
  have e : ((⟨b, off + M * 4, none⟩ : Addr).add j) = ⟨b, off + M * 4 + j, none⟩ := by unfold Addr.add; split <;> simp_all
  obtain ⟨i, q, hq, rfl⟩ : ∃ i q, q < 4 ∧ j = i * 4 + q := ⟨j / 4, j % 4, Nat.mod_lt _ (by omega), by omega⟩
  rw [eCells_at _ i (by rw [hl]; omega) q hq] at hu
  have hg : ((l.drop M).take m).getD i EN.zero = l.getD (M + i) EN.zero := by rw [List.getD, List.getElem?_take, if_pos (by omega), List.getElem?_drop]; rfl
  rw [hg] at hu
  have := hc (M + i) (by omega)
  rw [e, show off + M * 4 + (i * 4 + q) = off + (M + i) * 4 + q by omega, ← hu]
  match q, hq with
  | 0, _ => exact this.c0
  | 1, _ => exact this.c1
  | 2, _ => exact this.c2
  | 3, _ => exact this.c3
theorem eCells_one (l : List EN) : ∀ u ∈ eCells l, u.oneCell' = true := by
  intro u hu
  unfold eCells at hu
  obtain ⟨p, _, h⟩ := List.mem_flatMap.1 hu
  exact ent_one p u h
theorem own_form {w : World} {base e s n : Nat} {v : Value} {xs : List Value} (h : w.ownsRow base e s v n xs) : ∃ ao cp, v = .slice ao n cp ∧ (n ≠ 0 → ∃ g, ao = some ⟨g, 0, none⟩ ∧ base ≤ g ∧ g < w.heap.size) := by
  rcases h.2 with ⟨rfl, rfl⟩ | ⟨g, cap, cur, rfl, hb, hh, _⟩
  · exact ⟨none, 0, rfl, fun h => absurd rfl h⟩
  · exact ⟨_, _, rfl, fun _ => ⟨g, rfl, hb, (Array.getElem?_eq_some_iff.1 hh).1⟩⟩
theorem tabInfo' : ∃ i, Try.prog.info? 55 = some i ∧ i.zero = some (.agg #[.int .i64 0, .slice none 0 0]) ∧ i.size = 2 ∧ i.bytes = 32 := by
  have h : (Try.prog.info? 55).map (fun i => (i.zero, i.size, i.bytes)) = some (some (.agg #[.int .i64 0, .slice none 0 0]), 2, 32) := by kernel_rfl
  obtain ⟨i, hi, hz⟩ := Option.map_eq_some_iff.1 h
  simp only [Prod.mk.injEq] at hz
  exact ⟨i, hi, hz.1, hz.2.1, hz.2.2⟩
theorem new_cells2 (W : World) (a b : Value) (t : TypeId) : ∀ j u, ([a, b] : List Value)[j]? = some u → (W.alloc (.cells #[a, b] t)).cell? ((⟨W.heap.size, 0, none⟩ : Addr).add j) = some u := by
  intro j u h
  have hj : j < 2 := by have := (List.getElem?_eq_some_iff.1 h).1; simpa using this
  have e : ((⟨W.heap.size, 0, none⟩ : Addr).add j) = ⟨W.heap.size, j, none⟩ := by unfold Addr.add; split <;> simp_all
  rw [e, cell_of_row _ _ _ _ t (0, 0) (heap_alloc_new W _), ← h]
  simp
theorem B2.put1 {W : World} {b : Nat} {v0 v1 : Value} (k : B2 W b v0 v1) (u : Value) : B2 (W.setCell ⟨b, 1, none⟩ u) b v0 u :=
  ⟨by rw [World.size_setCell]; exact k.lt, (cell_putne _ _ _ _ _ (by omega)).trans k.c0, cell_put k.c1 u, (World.frozen?_setCell _ _ _ _).trans k.f0, (World.frozen?_setCell _ _ _ _).trans k.f1⟩
theorem OS.x2 {w W W2 : World} {N : Nat} {tv : Value} {T : List TB} {us : List Value} (k : OS w W N tv T us) (hg : W.grownBy W2 tv.ownBlock) : B2 W2 (w.heap.size + 1) (.int .i64 (N : Int)) tv := by
  have hap : Ap (fun b => w.heap.size + 2 ≤ b) W W2 := Ap.grown (Ap.refl W) hg (fun q hq => .inl (World.ownsRow.lt k.own.own q hq).1)
  exact k.x.ap hap (by omega)
/-- The table is laid behind the others. -/
theorem OS.snoc {w W W2 : World} {N : Nat} {tv tv' u : Value} {T : List TB} {us : List Value} {t : TB} (k : OS w W N tv T us) (ho : OneO W (w.heap.size + 2) u t.l tv.ownBlock) (hown : W2.ownsRow (w.heap.size + 2) 55 2 tv' (T.length + 1) (tCells T us ++ [.int .i64 t.at', u])) (hg : W.grownBy W2 tv.ownBlock) (hob : tv'.ownBlock = tv.ownBlock ∨ tv'.ownBlock = some W.heap.size) :
    OS w (W2.setCell ⟨w.heap.size + 1, 1, none⟩ tv') N tv' (T ++ [t]) (us ++ [u]) := by
  have hob2 : ∀ q, tv.ownBlock = some q → w.heap.size + 2 ≤ q := fun q hq => by
    have hlt := World.ownsRow.lt k.own.own q hq
    exact hlt.1
  have hap : Ap (fun b => w.heap.size + 2 ≤ b) W W2 := Ap.grown (Ap.refl W) hg (fun q hq => .inl (hob2 q hq))
  have hap2 := ap_put W2 (w.heap.size + 1) 1 tv'
  refine ⟨?_, (k.r.ap hap (by omega)).ap hap2 (by omega), (k.x.ap hap (by omega)).put1 tv', (TOwn.snoc k.own ho hown hg hob).ap hap2 (fun q e => by omega)⟩
  exact (k.bl.trans (hap.below k.bl.size (fun q hq => by omega))).trans (hap2.below (Nat.le_trans k.bl.size hap.size) (fun q e => by omega))
end Go.Proofs.Ythhbaccbhfngbaa
