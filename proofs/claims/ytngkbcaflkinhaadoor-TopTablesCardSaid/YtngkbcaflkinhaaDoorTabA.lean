/- Tables as bytes: ParseTable's answer lies in memory of its own; what TopTables says of a map without fresh entries. TopTables: what is known under way. TopTables: the map that is put together again. -/
import Derived.Test.YtngkbcaflkinhaaDoorEntSV
import Derived.Test.YtngkbcaflkinhaaDoorChwM
import Derived.Test.YtngkbcaflkinhaaDoorChvXZ
import Derived.Test.YtngkbcaflkinhaaDoorChtTW
import Derived.Test.YtngkbcaflkinhaaDoorChvMB
import Derived.Test.YtngkbcaflkinhaaDoorChvL
import Derived.Test.YtngkbcaflkinhaaDoorStrAll
namespace Go.Proofs.YtngkbcaflkinhaaDoor
open Go.RowKit

set_option maxHeartbeats 2000000 in
theorem entParseTable_own (s : ByteArray) (hsz : s.size ≤ maxLen) (w : World) :
    Calls Tryd.prog 10 #[.string s] w fun e w' => (∃ x, e = .returned (.tuple #[x, .int .i64 (ptE s.data.toList)]) ∧ EntsS w' x (ptL s.data.toList) ∧ (ptE s.data.toList = 0 → ∃ g n c, x = .slice (some ⟨g, 0, none⟩) n c ∧ w.heap.size ≤ g ∧ g < w'.heap.size)) ∧ Below w.heap.size w w' := by
  obtain ⟨r, hr⟩ : ∃ r : Int, r = ((s.size % 8 : Nat) : Int) := ⟨_, rfl⟩
  obtain ⟨n, hn⟩ : ∃ n : Nat, n = s.size / 8 := ⟨_, rfl⟩
  have hm1 : (s.size : Int) % 8 = r := by omega
  have hm2 : (s.size : Int).tmod 8 = r := by rw [hr]; rfl
  have hq1 : (s.size : Int) / 8 = (n : Int) := by omega
  have hq2 : (s.size : Int).tdiv 8 = (n : Int) := by rw [hn]; rfl
  have HN : Hid (n = s.data.toList.length / 8) := Lib.hid (by rw [size_toList]; exact hn)
  have HR : Hid (r = ((s.data.toList.length % 8 : Nat) : Int)) := Lib.hid (by rw [size_toList]; exact hr)
  by_cases h0 : r = 0
  case neg =>
    obtain ⟨e1, e2⟩ := pt_bad (s := s.data.toList) (fun h => h0 (by rw [HR.out, h.1]; rfl))
    rw [e1, e2]
    have d0 : (r == 0) = false := by rw [beq_eq_false_iff_ne]; exact h0
    have d1 : (r != 0) = true := by rw [bne_iff_ne]; exact h0
    clear hr hn
    go_enter Tryd.func10, Tryd.ntmps10
    go_wp2
    go_ret2
    exact ⟨⟨_, rfl, ⟨_, 0, rfl, Nat.le_refl _, Nat.zero_le _, .inl rfl⟩, fun h => absurd h (by decide)⟩, Below.refl _ _⟩
  case pos =>
  rw [h0] at hm1 hm2
  clear h0
  by_cases hl : 8192 < n
  · obtain ⟨e1, e2⟩ := pt_bad (s := s.data.toList) (fun h => by have := h.2; rw [← HN.out] at this; omega)
    rw [e1, e2]
    have d1 : decide ((8192 : Int) < (n : Int)) = true := decide_eq_true (by omega)
    have d2 : wrap64 (n : Int) = (n : Int) := by unfold maxLen at hsz; unfold wrap64; omega
    clear hr hn hl
    go_enter Tryd.func10, Tryd.ntmps10
    go_wp2
    go_ret2
    exact ⟨⟨_, rfl, ⟨_, 0, rfl, Nat.le_refl _, Nat.zero_le _, .inl rfl⟩, fun h => absurd h (by decide)⟩, Below.refl _ _⟩
  have HMOD : Hid (s.data.toList.length % 8 = 0) := Lib.hid (by rw [size_toList]; omega)
  have HSZ : Hid (s.size = 8 * n) := Lib.hid (by omega)
  have HNL : Hid (n ≤ 8192) := Lib.hid (by omega)
  have hnl := HNL.out
  have hsz8 : (s.size : Int) = 8 * (n : Int) := by omega
  have hmk := makeEnts n (by omega)
  have d1 : decide ((8192 : Int) < (n : Int)) = false := decide_eq_false (by omega)
  have d2 : wrap64 (n : Int) = (n : Int) := by unfold wrap64; omega
  have hq3 : (8 * (n : Int)).tdiv 8 = (n : Int) := by rw [← hsz8]; exact hq2
  have hm3 : (8 * (n : Int)).tmod 8 = 0 := by rw [← hsz8]; exact hm2
  clear hr hn hl hsz
  go_enter Tryd.func10, Tryd.ntmps10
  go_wp2
  have HRW := Lib.hid (RowE.made w n 38)
  have HB0 := Lib.hid (below1 w (.cells (madeCells zeroC (n * 4)) 38))
  generalize w.alloc (.cells (madeCells zeroC (n * 4)) 38) = w1 at HRW HB0 ⊢
  clear hmk hm1 hm2 hm3 hq1 hq2 hq3 hsz8 d1 d2 HR
  go_loopw [24] (fun ix wr => ∃ (j : Nat), j ≤ n ∧ ix = .int .i64 (j : Int) ∧ (∀ i, i < j → EP (chunk s.data.toList i)) ∧ RowE wr w.heap.size (ptR s.data.toList j ++ List.replicate (n - j) EN.zero) ∧ Below w.heap.size w wr) (fun ix _ => n - (intOf ix).toNat)
  case atStart => exact ⟨0, Nat.zero_le _, rfl, (fun i h => absurd h (by omega)), HRW.out, HB0.out⟩
  case round =>
    obtain ⟨j, hj, rfl, hp, hrow, hB⟩ := hrel
    have HB := Lib.hid hB
    have HP := Lib.hid hp
    have HROW := Lib.hid hrow
    clear hB hp hrow HB0 HRW
    by_cases hlt : j < n
    · have hSl := slice8' s j (by have := HSZ.out; omega)
      have hPa := entParse_any (s.extract (j * 8) (j * 8 + 8))
      rw [extract_chunk'] at hPa
      generalize s.extract (j * 8) (j * 8 + 8) = sub at hSl hPa
      have HPOK : Hid (EP (chunk s.data.toList j) → entPE (chunk s.data.toList j) = 0) := Lib.hid (fun h => if_pos h)
      have HNO : Hid (¬ EP (chunk s.data.toList j) → entPE (chunk s.data.toList j) = 6 ∧ ptE s.data.toList = 6 ∧ ptL s.data.toList = []) := Lib.hid (fun h => ⟨if_neg h, pt_stop (by rw [← HN.out]; exact hlt) h⟩)
      by_cases hp : EP (chunk s.data.toList j)
      · rw [HPOK.out hp] at hPa
        have HPJ : Hid (∀ i, i < j + 1 → EP (chunk s.data.toList i)) := Lib.hid (fun i hi => by
          by_cases e : i = j
          · rw [e]; exact hp
          · exact HP.out i (by omega))
        have HFILL := Lib.hid (pt_fill s.data.toList n j hlt)
        have HLEN : Hid ((ptR s.data.toList j ++ List.replicate (n - j) EN.zero).length = n) := Lib.hid (by rw [List.length_append, ptR_len, List.length_replicate]; omega)
        generalize entP (chunk s.data.toList j) = p at hPa HFILL
        obtain ⟨k, st, mb, fr⟩ := p
        unfold EN.v at hPa
        dsimp only at hPa
        clear hp HPOK HNO
        go_wp2_with (go_at_call 25; refine (hPa _).mono ?_; rintro e w2 ⟨rfl, hb2⟩
                     have HB3 := Lib.hid ((HB.out.trans (hb2.mono HB.out.size)).alloc (Nat.le_trans HB.out.size hb2.size) (.cells #[.int .u8 k, .int .i64 st, .int .i64 mb, .int .i64 fr] 38))
                     have HROW3 := Lib.hid ((HROW.out.below hb2).below (below1 w2 (.cells #[.int .u8 k, .int .i64 st, .int .i64 mb, .int .i64 fr] 38)))
                     have hat := HROW3.out.2.1 j (by rw [HLEN.out]; exact hlt)
                     have hfz := HROW3.out.2.2
                     rw [HLEN.out] at hfz
                     have f0 := hfz (j * 4) (by omega); have f1 := hfz (j * 4 + 1) (by omega); have f2 := hfz (j * 4 + 2) (by omega); have f3 := hfz (j * 4 + 3) (by omega)
                     obtain ⟨g0, g1, g2, g3⟩ := hat
                     have HPUT := Lib.hid (HROW3.out.put j (by rw [HLEN.out]; exact hlt) ⟨k, st, mb, fr⟩)
                     rw [HFILL.out] at HPUT
                     unfold putN at HPUT
                     dsimp only at HPUT
                     clear hb2 hfz)
        go_roundw
        case rel => exact ⟨j + 1, by omega, by go_num, HPJ.out, HPUT.out, (((HB3.out.setCell (p := ⟨_, _, none⟩) (Nat.le_refl _) _).setCell (p := ⟨_, _, none⟩) (Nat.le_refl _) _).setCell (p := ⟨_, _, none⟩) (Nat.le_refl _) _).setCell (p := ⟨_, _, none⟩) (Nat.le_refl _) _⟩
        case measure => simp [intOf]; omega
      · obtain ⟨e1, e2, e3⟩ := HNO.out hp
        rw [e1] at hPa
        have HE2 := Lib.hid e2
        have HE3 := Lib.hid e3
        generalize entP (chunk s.data.toList j) = p at hPa
        obtain ⟨k, st, mb, fr⟩ := p
        unfold EN.v at hPa
        dsimp only at hPa
        clear hp HPOK HNO e1 e2 e3
        go_wp2_with (go_at_call 25; refine (hPa _).mono ?_; rintro e w2 ⟨rfl, hb2⟩
                     have HB3 := Lib.hid ((HB.out.trans (hb2.mono HB.out.size)).alloc (Nat.le_trans HB.out.size hb2.size) (.cells #[.int .u8 k, .int .i64 st, .int .i64 mb, .int .i64 fr] 38))
                     clear hb2)
        go_ret2
        rw [HE2.out, HE3.out]
        exact ⟨⟨_, rfl, ⟨_, 0, rfl, Nat.le_refl _, Nat.zero_le _, .inl rfl⟩, fun h => absurd h (by decide)⟩, HB3.out⟩
    · obtain rfl : j = n := by omega
      have HOK : Hid (ptOk s.data.toList) := Lib.hid ⟨HMOD.out, by rw [← HN.out]; exact HNL.out, fun i hi => HP.out i (by rw [HN.out]; exact hi)⟩
      have HL2 : Hid (ptL s.data.toList = ptR s.data.toList j) := Lib.hid (by unfold ptL; rw [if_pos HOK.out, ← HN.out])
      have HE2 : Hid (ptE s.data.toList = 0) := Lib.hid (if_pos HOK.out)
      go_wp2
      go_ret2
      rw [HE2.out, HL2.out]
      have h1 := HROW.out
      rw [Nat.sub_self, List.replicate_zero, List.append_nil] at h1
      have h2 := h1.ents j (by rw [ptR_len]; exact Nat.le_refl _) (by have := HNL.out; unfold maxLen; omega)
      rw [ptR_len] at h2
      exact ⟨⟨_, rfl, h2, fun _ => ⟨_, _, _, rfl, Nat.le_refl _, HROW.out.1⟩⟩, HB.out⟩

/-- No entry is fresh. -/
def NF (L : List EN) : Prop := ∀ i, (L.getD i EN.zero).kind ≠ 2
theorem NF.new (n : Nat) : NF (List.replicate n EN.zero) := fun i => by
  rw [List.getD, List.getElem?_replicate]
  split <;> simp [EN.zero]
theorem NF.set {L : List EN} (h : NF L) (b : Nat) {x : EN} (hx : x.kind ≠ 2) : NF (L.set b x) := fun i => by
  by_cases hb : b < L.length
  · rw [set_getD b i hb]
    split
    · exact hx
    · exact h i
  · rw [List.set_eq_of_length_le (by omega)]; exact h i
/-- Each table of such a map has bytes. -/
theorem LS.table {E BN : Nat} {T : List TB} {L : List EN} (h : LS E BN T L) (hn : NF L) {t : TB} (ht : t ∈ T) : t.l.length = E ∧ tabE t.l = 0 := by
  obtain ⟨k, hk, h2, h3, h4, h5⟩ := h.ok.tab ht
  refine ⟨h3, tabE_ok.2 ⟨by rw [h3]; exact h.ok.e2, fun p hp => ?_⟩⟩
  obtain ⟨i, hi, rfl⟩ := List.mem_iff_getElem.1 hp
  have e0 : t.l.getD i EN.zero = t.l[i] := by rw [List.getD, List.getElem?_eq_getElem hi]; rfl
  rw [h3] at hi
  obtain ⟨h6, h7⟩ := h5 i hi
  rw [e0] at h6 h7
  refine ⟨h6, ?_⟩
  by_cases hb : k * E + i < BN
  · have hE := h.ok.e1
    have e1 : (k * E + i) / E = k := by rw [Nat.mul_comm, Nat.mul_add_div (by omega), Nat.div_eq_of_lt hi, Nat.add_zero]
    have e2 : (k * E + i) % E = i := by rw [Nat.mul_comm, Nat.mul_add_mod, Nat.mod_eq_of_lt hi]
    have h8 : lookM E T (k * E + i) = t.l.getD i EN.zero := by
      have := look_mem (E := E) (b := k * E + i) (rises_pair h.ok.rise) ht (by rw [e1]; exact hk)
      rw [this, e2]
    have h9 := hn (k * E + i)
    rw [← h.fl, flatM_at E BN T hb, h8, e0] at h9
    exact h9
  · rw [h7 (by omega)]; simp [EN.zero]
end Go.Proofs.YtngkbcaflkinhaaDoor
namespace Go.Proofs.YtngkbcaflkinhaaDoor
open Go.RowKit

/-- How many of the first entries are no holes. -/
def cntH (L : List EN) (j : Nat) : Nat := ((List.range j).filter (fun b => fullB (L.getD b EN.zero))).length
theorem cntH_zero (L : List EN) : cntH L 0 = 0 := rfl
theorem cntH_y {L : List EN} {j : Nat} (h : fullB (L.getD j EN.zero) = true) : cntH L (j + 1) = cntH L j + 1 := by
  have e : [j].filter (fun b => fullB (L.getD b EN.zero)) = [j] := by unfold List.filter; rw [h]; rfl
  unfold cntH
  rw [List.range_succ, List.filter_append, List.length_append, e]; rfl
theorem cntH_n {L : List EN} {j : Nat} (h : fullB (L.getD j EN.zero) = false) : cntH L (j + 1) = cntH L j := by
  have e : [j].filter (fun b => fullB (L.getD b EN.zero)) = [] := by unfold List.filter; rw [h]; rfl
  unfold cntH
  rw [List.range_succ, List.filter_append, List.length_append, e]; rfl
theorem cntH_le (L : List EN) (j : Nat) : cntH L j ≤ j := by
  unfold cntH
  exact Nat.le_trans (List.length_filter_le _ _) (by simp)
theorem LS.all {E BN : Nat} {T : List TB} {L : List EN} (h : LS E BN T L) : (atC (E : Int) ⟨(BN : Int), T⟩).length = cntH L BN := by
  unfold atC
  rw [if_pos h.okB]
  show (blocksC (E : Int).toNat (BN : Int).toNat T).length = _
  rw [Int.toNat_natCast, Int.toNat_natCast]
  unfold blocksC fullL cntH
  rw [List.length_map]
  congr 1
  refine List.filter_congr fun b hb => ?_
  rw [← h.fl, flatM_at E BN T (List.mem_range.1 hb)]
/-- A number of 16 bits, as it lies; a place. -/
def encU (x : Int) : List Value := [.int .u16 x]
def encP (p : Int × Int) : List Value := [.int .i64 p.1, .int .i64 p.2]
abbrev U16S (w : World) (v : Value) (K : List Int) : Prop := StS 1 encU 0 w v K
abbrev PlS (w : World) (v : Value) (P : List (Int × Int)) : Prop := StS 2 encP (0, 0) w v P
/-- A map in a box, and its entries. -/
structure TT (w W : World) (b E BN : Nat) (tv : Value) (T : List TB) (L : List EN) : Prop where
  bl : Below w.heap.size w W
  hb : w.heap.size ≤ b
  b2 : B2 W b (.int .i64 (BN : Int)) tv
  tf : TabsF (b + 1) W tv T
  ls : LS E BN T L
  nf : NF L
theorem TT.below {w W W' : World} {b E BN : Nat} {tv : Value} {T : List TB} {L : List EN} (k : TT w W b E BN tv T L) (hb : Below W.heap.size W W') : TT w W' b E BN tv T L :=
  ⟨k.bl.trans (hb.mono k.bl.size), k.hb, k.b2.below hb, k.tf.below hb, k.ls, k.nf⟩
theorem TabsF.weak {B B' : Nat} {W : World} {v : Value} {T : List TB} (k : TabsF B W v T) (h : B' ≤ B) : TabsF B' W v T := fun W' a => k W' (a.weak (fun _ hq => Nat.lt_of_lt_of_le hq h))
theorem TabsF.ap {B : Nat} {W W' : World} {v : Value} {T : List TB} (k : TabsF B W v T) (a : Ap (fun q => q < B) W W') : TabsF B W' v T := fun W2 a2 => k W2 (a.trans a2)
/-- Set's answer, in a box of its own. -/
structure TN (W : World) (b b3 BN : Nat) (tv : Value) (T : List TB) : Prop where
  hb : b < b3
  b2 : B2 W b3 (.int .i64 (BN : Int)) tv
  tf : TabsF (b + 1) W tv T
theorem B2.set2' {W : World} {b : Nat} {v0 v1 : Value} (k : B2 W b v0 v1) (u0 u1 : Value) : B2 ((W.setCell ⟨b, 0, none⟩ u0).setCell ⟨b, 1, none⟩ u1) b u0 u1 :=
  ⟨by rw [World.size_setCell, World.size_setCell]; exact k.lt, (cell_putne _ _ _ _ _ (by omega)).trans (cell_put k.c0 _), cell_put ((cell_putne _ _ _ _ _ (by omega)).trans k.c1) _, (World.frozen?_setCell _ _ _ _).trans ((World.frozen?_setCell _ _ _ _).trans k.f0), (World.frozen?_setCell _ _ _ _).trans ((World.frozen?_setCell _ _ _ _).trans k.f1)⟩
/-- .. and taken over. -/
theorem TT.over {w W : World} {b b3 E BN : Nat} {tv tv' : Value} {T T' : List TB} {L L' : List EN} (k : TT w W b E BN tv T L) (n : TN W b b3 BN tv' T') (ls : LS E BN T' L') (nf : NF L') : TT w ((W.setCell ⟨b, 0, none⟩ (.int .i64 (BN : Int))).setCell ⟨b, 1, none⟩ tv') b E BN tv' T' L' := by
  have ha : Ap (fun q => q = b) W ((W.setCell ⟨b, 0, none⟩ (.int .i64 (BN : Int))).setCell ⟨b, 1, none⟩ tv') := Ap.setCell (S := fun q => q = b) (p := ⟨b, 1, none⟩) (Ap.setCell (S := fun q => q = b) (p := ⟨b, 0, none⟩) (Ap.refl W) (.inl rfl) _) (.inl rfl) _
  exact ⟨k.bl.trans (ha.below k.bl.size (fun q hq => by rw [hq]; exact k.hb)), k.hb, B2.set2' k.b2 _ _, n.tf.ap (ha.weak (fun q hq => by show q < b + 1; omega)), ls, nf⟩
end Go.Proofs.YtngkbcaflkinhaaDoor
namespace Go.Proofs.YtngkbcaflkinhaaDoor
open Go.RowKit

/-- again, under way. -/
structure AG (wo W : World) (BN : Nat) (tv : Value) (T : List TB) (us : List Value) : Prop where
  bl : Below wo.heap.size wo W
  x : B2 W wo.heap.size (.int .i64 (BN : Int)) tv
  own : TOwn W (wo.heap.size + 1) tv T us
theorem AG.below {wo W W' : World} {BN : Nat} {tv : Value} {T : List TB} {us : List Value} (k : AG wo W BN tv T us) (hb : Below W.heap.size W W') : AG wo W' BN tv T us :=
  ⟨k.bl.trans (hb.mono k.bl.size), k.x.below hb, k.own.below hb⟩
theorem AG.new (wo : World) (BN : Nat) : AG wo (wo.alloc (.cells #[.int .i64 (BN : Int), .slice none 0 0] 27)) BN (.slice none 0 0) [] [] :=
  ⟨below_new wo _, B2.new wo _ _ _, TOwn.nil _ _⟩
theorem AG.x2 {wo W W2 : World} {BN : Nat} {tv : Value} {T : List TB} {us : List Value} (k : AG wo W BN tv T us) (hg : W.grownBy W2 tv.ownBlock) : B2 W2 wo.heap.size (.int .i64 (BN : Int)) tv := by
  have hap : Ap (fun b => wo.heap.size + 1 ≤ b) W W2 := Ap.grown (Ap.refl W) hg (fun q hq => .inl (World.ownsRow.lt k.own.own q hq).1)
  exact k.x.ap hap (by omega)
theorem AG.snoc {wo W W2 : World} {BN : Nat} {tv tv' u : Value} {T : List TB} {us : List Value} {t : TB} (k : AG wo W BN tv T us) (ho : OneO W (wo.heap.size + 1) u t.l tv.ownBlock) (hown : W2.ownsRow (wo.heap.size + 1) 42 2 tv' (T.length + 1) (tCells T us ++ [.int .i64 t.at', u])) (hg : W.grownBy W2 tv.ownBlock) (hob : tv'.ownBlock = tv.ownBlock ∨ tv'.ownBlock = some W.heap.size) :
    AG wo (W2.setCell ⟨wo.heap.size, 1, none⟩ tv') BN tv' (T ++ [t]) (us ++ [u]) := by
  have hob2 : ∀ q, tv.ownBlock = some q → wo.heap.size + 1 ≤ q := fun q hq => (World.ownsRow.lt k.own.own q hq).1
  have hap : Ap (fun b => wo.heap.size + 1 ≤ b) W W2 := Ap.grown (Ap.refl W) hg (fun q hq => .inl (hob2 q hq))
  have hap2 := ap_put W2 wo.heap.size 1 tv'
  refine ⟨?_, (k.x.ap hap (by omega)).put1 tv', (TOwn.snoc k.own ho hown hg hob).ap hap2 (fun q e => by omega)⟩
  exact (k.bl.trans (hap.below k.bl.size (fun q hq => by omega))).trans (hap2.below (Nat.le_trans k.bl.size hap.size) (fun q e => by omega))
/-- A table's bytes, and what they are read as. -/
theorem tab_round {l : List EN} {E : Nat} (hl : l.length = E) (h : tabE l = 0) : (⟨(tabL l).toArray⟩ : ByteArray).size = 8 * E ∧ ptE (⟨(tabL l).toArray⟩ : ByteArray).data.toList = 0 ∧ ptL (⟨(tabL l).toArray⟩ : ByteArray).data.toList = l := by
  obtain ⟨h1, h2, h3⟩ := tab_back h
  have e : (⟨(tabL l).toArray⟩ : ByteArray).data.toList = tabL l := by simp
  refine ⟨?_, by rw [e]; exact if_pos h1, by rw [e]; exact h2⟩
  show (tabL l).toArray.size = 8 * E
  rw [List.size_toArray, h3, hl]
end Go.Proofs.YtngkbcaflkinhaaDoor
