/- Entries: rows of them that are made and written; the contracts of ParseTable. -/
import Derived.Test.YtifhbaacljkleaaEntS
import Derived.Laws.MakeOwn
import Derived.Deep.OwnRows
namespace Go.Proofs.Ytifhbaacljkleaa
open Go.RowKit

/-- Entries, one behind the other, from the start of a block on, that may be written. -/
def RowE (W : World) (b : Nat) (L : List EN) : Prop := b < W.heap.size ∧ (∀ i, i < L.length → EntAt W b (i * 4) (L.getD i EN.zero)) ∧ ∀ o, o < L.length * 4 → W.frozen? ⟨b, o, none⟩ = false
theorem RowE.ap {S : Nat → Prop} {W W' : World} {b : Nat} {L : List EN} (k : RowE W b L) (a : Ap S W W') (hn : ¬ S b) : RowE W' b L :=
  ⟨Nat.lt_of_lt_of_le k.1 a.size, fun i hi => ⟨(a.cell k.1 hn _).trans (k.2.1 i hi).c0, (a.cell k.1 hn _).trans (k.2.1 i hi).c1, (a.cell k.1 hn _).trans (k.2.1 i hi).c2, (a.cell k.1 hn _).trans (k.2.1 i hi).c3⟩, fun o ho => (a.frozen k.1 hn o).trans (k.2.2 o ho)⟩
theorem RowE.below {W W' : World} {b : Nat} {L : List EN} (k : RowE W b L) (hb : Below W.heap.size W W') : RowE W' b L := k.ap (Ap.of_below (S := fun _ => False) hb) id
/-- Four stores, one entry. -/
def putN (W : World) (b o : Nat) (s : EN) : World := (((W.setCell ⟨b, o, none⟩ (.int .u8 s.kind)).setCell ⟨b, o + 1, none⟩ (.int .i64 s.st)).setCell ⟨b, o + 2, none⟩ (.int .i64 s.mb)).setCell ⟨b, o + 3, none⟩ (.int .i64 s.fr)
theorem ap_putN (W : World) (b o : Nat) (s : EN) : Ap (fun k => k = b) W (putN W b o s) :=
  (((ap_put W b o _).trans (ap_put _ b (o + 1) _)).trans (ap_put _ b (o + 2) _)).trans (ap_put _ b (o + 3) _)
theorem putN_at {W : World} {b o : Nat} {p : EN} (k : EntAt W b o p) (s : EN) : EntAt (putN W b o s) b o s := by
  have f0 : (W.setCell ⟨b, o, none⟩ (.int .u8 s.kind)).cell? ⟨b, o, none⟩ = some (.int .u8 s.kind) := cell_put k.c0 _
  have f1 : ((W.setCell ⟨b, o, none⟩ (.int .u8 s.kind)).setCell ⟨b, o + 1, none⟩ (.int .i64 s.st)).cell? ⟨b, o + 1, none⟩ = some (.int .i64 s.st) := cell_put ((cell_putne _ _ _ _ _ (by omega)).trans k.c1) _
  have f2 : (((W.setCell ⟨b, o, none⟩ (.int .u8 s.kind)).setCell ⟨b, o + 1, none⟩ (.int .i64 s.st)).setCell ⟨b, o + 2, none⟩ (.int .i64 s.mb)).cell? ⟨b, o + 2, none⟩ = some (.int .i64 s.mb) :=
    cell_put (((cell_putne _ _ _ _ _ (by omega)).trans (cell_putne _ _ _ _ _ (by omega))).trans k.c2) _
  have f3 : (putN W b o s).cell? ⟨b, o + 3, none⟩ = some (.int .i64 s.fr) :=
    cell_put ((((cell_putne _ _ _ _ _ (by omega)).trans (cell_putne _ _ _ _ _ (by omega))).trans (cell_putne _ _ _ _ _ (by omega))).trans k.c3) _
  exact ⟨((cell_putne _ _ _ _ _ (by omega)).trans ((cell_putne _ _ _ _ _ (by omega)).trans (cell_putne _ _ _ _ _ (by omega)))).trans f0, ((cell_putne _ _ _ _ _ (by omega)).trans (cell_putne _ _ _ _ _ (by omega))).trans f1, (cell_putne _ _ _ _ _ (by omega)).trans f2, f3⟩
theorem putN_ne (W : World) (b o q : Nat) (s : EN) (hq : q < o ∨ o + 4 ≤ q) : (putN W b o s).cell? ⟨b, q, none⟩ = W.cell? ⟨b, q, none⟩ :=
  ((cell_putne _ _ _ _ _ (by omega)).trans ((cell_putne _ _ _ _ _ (by omega)).trans (cell_putne _ _ _ _ _ (by omega)))).trans (cell_putne _ _ _ _ _ (by omega))
theorem putN_fz (W : World) (b o q : Nat) (s : EN) : (putN W b o s).frozen? ⟨b, q, none⟩ = W.frozen? ⟨b, q, none⟩ := by
  unfold putN
  rw [World.frozen?_setCell, World.frozen?_setCell, World.frozen?_setCell, World.frozen?_setCell]
theorem getD_setE (L : List EN) (i j : Nat) (s : EN) (hi : i < L.length) : (L.set i s).getD j EN.zero = if j = i then s else L.getD j EN.zero := by
  rw [List.getD, List.getElem?_set]
  by_cases h : i = j
  · subst h; rw [if_pos rfl, if_pos rfl, if_pos hi]; rfl
  · rw [if_neg h, if_neg (fun e => h e.symm)]; rfl
theorem RowE.put {W : World} {b : Nat} {L : List EN} (k : RowE W b L) (i : Nat) (hi : i < L.length) (s : EN) : RowE (putN W b (i * 4) s) b (L.set i s) := by
  refine ⟨Nat.lt_of_lt_of_le k.1 (ap_putN W b (i * 4) s).size, fun j hj => ?_, fun o ho => ?_⟩
  · rw [List.length_set] at hj
    rw [getD_setE _ _ _ _ hi]
    by_cases e : j = i
    · subst e
      rw [if_pos rfl]
      exact putN_at (k.2.1 j hi) s
    · rw [if_neg e]
      have s1 := k.2.1 j hj
      have h (q : Nat) (hq : q < i * 4 ∨ i * 4 + 4 ≤ q) : (putN W b (i * 4) s).cell? ⟨b, q, none⟩ = W.cell? ⟨b, q, none⟩ := putN_ne W b _ q s hq
      exact ⟨(h _ (by omega)).trans s1.c0, (h _ (by omega)).trans s1.c1, (h _ (by omega)).trans s1.c2, (h _ (by omega)).trans s1.c3⟩
  · rw [List.length_set] at ho
    rw [putN_fz]
    exact k.2.2 o ho
theorem RowE.ents {W : World} {b : Nat} {L : List EN} (k : RowE W b L) (cap : Nat) (h1 : L.length ≤ cap) (h2 : cap ≤ maxLen) : EntsS W (.slice (some ⟨b, 0, none⟩) L.length cap) L :=
  ⟨_, cap, rfl, h1, h2, .inr ⟨b, 0, rfl, k.1, fun j hj => by rw [Nat.zero_add]; exact k.2.1 j hj⟩⟩
/-! ### a row that is made -/
theorem entInfo : (Try.prog.info? 26).map (fun i => (i.zero, i.size, i.bytes)) = some (some (.agg #[.int .u8 0, .int .i64 0, .int .i64 0, .int .i64 0]), 4, 32) := by kernel_rfl
def zeroC : Array Value := #[.int .u8 0, .int .i64 0, .int .i64 0, .int .i64 0]
theorem madeE_at (n k : Nat) (hk : k < n) : (madeCells zeroC n)[k]? = some (zeroC[k % 4]!) := by
  unfold madeCells
  rw [Array.getElem?_map, Array.getElem?_range, if_pos hk]; rfl
theorem makeEnts (n : Nat) (h : n ≤ 8589934592) (W : World) : (Instr.makeSlice 36 (.int .i64 (n : Int)) (.int .i64 (n : Int))).run Try.prog W = .ok (.slice (some ⟨W.heap.size, 0, none⟩) n n) (W.alloc (.cells (madeCells zeroC (n * 4)) 26)) := by
  obtain ⟨i, hi, hz⟩ := Option.map_eq_some_iff.1 entInfo
  simp only [Prod.mk.injEq] at hz
  obtain ⟨hz, hs, hb⟩ := hz
  have hr := run_make (P := Try.prog) W 36 26 i _ Try.underlying36 hi hz .i64 .i64 n n (by omega) (Int.le_refl _) (by rw [hb]; omega) (by omega)
  simp only [Int.toNat_natCast, hs] at hr
  exact hr
theorem RowE.made (W : World) (n : Nat) (t : TypeId) : RowE (W.alloc (.cells (madeCells zeroC (n * 4)) t)) W.heap.size (List.replicate n EN.zero) := by
  refine ⟨by simp, fun i hi => ?_, fun o _ => frozen_of_row _ _ _ _ t (heap_alloc_new W _)⟩
  rw [List.length_replicate] at hi
  have e : (List.replicate n EN.zero).getD i EN.zero = EN.zero := by rw [List.getD, List.getElem?_replicate, if_pos hi]; rfl
  rw [e]
  have h (q : Nat) (hq : q < 4) : (W.alloc (.cells (madeCells zeroC (n * 4)) t)).cell? ⟨W.heap.size, i * 4 + q, none⟩ = some (zeroC[q]!) := by
    rw [cell_of_row _ _ _ _ t (0, 0) (heap_alloc_new W _), madeE_at _ _ (by omega), show (i * 4 + q) % 4 = q by omega]
  exact ⟨h 0 (by omega), h 1 (by omega), h 2 (by omega), h 3 (by omega)⟩
/-! ### ParseTable -/
theorem extract_chunk (s : ByteArray) (j : Nat) : (s.extract (8 * j) (8 * j + 8)).data.toList = chunk s.data.toList j := by
  unfold chunk
  rw [ByteArray.data_extract, Array.toList_extract, List.extract_eq_take_drop]
  congr 1; omega
theorem extract_chunk' (s : ByteArray) (j : Nat) : (s.extract (j * 8) (j * 8 + 8)).data.toList = chunk s.data.toList j := by
  rw [Nat.mul_comm]; exact extract_chunk s j
theorem slice8 (s : ByteArray) (j : Nat) (h : j * 8 + 8 ≤ s.size) (W : World) :
    (Instr.slice 9 (.string s) (some (.int .i64 ((j : Int) * 8))) (some (.int .i64 ((j : Int) * 8 + 8))) none).run Try.prog W = .ok (.string (s.extract (j * 8) (j * 8 + 8))) W := by
  have h0 : (0 : Int) ≤ (j : Int) * 8 := by omega
  have h1 : (j : Int) * 8 + 8 ≤ (s.size : Int) := by omega
  have h2 : (0 : Int) ≤ (j : Int) * 8 + 8 := by omega
  have h3 : ((j : Int) * 8 + 8).toNat = j * 8 + 8 := by omega
  have h4 : ((j : Int) * 8).toNat = j * 8 := by omega
  have h5 : (j : Int) * 8 ≤ (j : Int) * 8 + 8 := by omega
  go_simp
theorem slice8' (s : ByteArray) (j : Nat) (h : j * 8 + 8 ≤ s.size) (W : World) :
    (Instr.slice 9 (.string s) (some (.int .i64 ((j : Int) * 8))) (some (.int .i64 (((j : Int) + 1) * 8))) none).run Try.prog W = .ok (.string (s.extract (j * 8) (j * 8 + 8))) W := by
  rw [show ((j : Int) + 1) * 8 = (j : Int) * 8 + 8 by omega]
  exact slice8 s j h W
theorem pt_stop {s : List UInt8} {j : Nat} (hj : j < s.length / 8) (h : ¬ EP (chunk s j)) : ptE s = 6 ∧ ptL s = [] := by
  have hn : ¬ ptOk s := fun k => h (k.2.2 j hj)
  exact ⟨if_neg hn, if_neg hn⟩
theorem pt_bad {s : List UInt8} (h : ¬ (s.length % 8 = 0 ∧ s.length / 8 ≤ 8192)) : ptE s = 6 ∧ ptL s = [] := by
  have hn : ¬ ptOk s := fun k => h ⟨k.1, k.2.1⟩
  exact ⟨if_neg hn, if_neg hn⟩
theorem pt_fill (s : List UInt8) (n j : Nat) (h : j < n) : (ptR s j ++ List.replicate (n - j) EN.zero).set j (entP (chunk s j)) = ptR s (j + 1) ++ List.replicate (n - (j + 1)) EN.zero := by
  rw [List.set_append_right _ _ (by rw [ptR_len]; exact Nat.le_refl _), ptR_len, Nat.sub_self, ptR_succ, List.append_assoc]
  congr 1
  rw [show n - j = (n - (j + 1)) + 1 by omega, List.replicate_succ]; rfl
set_option maxRecDepth 100000 in
set_option maxHeartbeats 2000000 in
theorem entParseTable_any (s : ByteArray) (hsz : s.size ≤ maxLen) (w : World) :
    Calls Try.prog 19 #[.string s] w fun e w' => (∃ x, e = .returned (.tuple #[x, .int .i64 (ptE s.data.toList)]) ∧ EntsS w' x (ptL s.data.toList)) ∧ Below w.heap.size w w' := by
  obtain ⟨r, hr⟩ : ∃ r : Int, r = ((s.size % 8 : Nat) : Int) := ⟨_, rfl⟩
  obtain ⟨n, hn⟩ : ∃ n : Nat, n = s.size / 8 := ⟨_, rfl⟩
  have hm1 : (s.size : Int) % 8 = r := by omega
  have hm2 : (s.size : Int).tmod 8 = r := by rw [hr]; rfl
  have hq1 : (s.size : Int) / 8 = (n : Int) := by omega
  have hq2 : (s.size : Int).tdiv 8 = (n : Int) := by rw [hn]; rfl
  have HN : Hid (n = s.data.toList.length / 8) := Lib.hid (by rw [size_toList]; exact hn)
  have HR : Hid (r = ((s.data.toList.length % 8 : Nat) : Int)) := Lib.hid (by rw [size_toList]; exact hr)
  by_cases h0 : r = 0
  case neg =>
    obtain ⟨e1, e2⟩ := pt_bad (s := s.data.toList) (fun h => h0 (by rw [HR.out, h.1]; rfl))
    rw [e1, e2]
    have d0 : (r == 0) = false := by rw [beq_eq_false_iff_ne]; exact h0
    have d1 : (r != 0) = true := by rw [bne_iff_ne]; exact h0
    clear hr hn
    go_enter Try.func19, Try.ntmps19
    go_wp2
    go_ret2
    exact ⟨⟨_, rfl, _, 0, rfl, Nat.le_refl _, Nat.zero_le _, .inl rfl⟩, Below.refl _ _⟩
  case pos =>
  rw [h0] at hm1 hm2
  clear h0
  by_cases hl : 8192 < n
  · obtain ⟨e1, e2⟩ := pt_bad (s := s.data.toList) (fun h => by have := h.2; rw [← HN.out] at this; omega)
    rw [e1, e2]
    have d1 : decide ((8192 : Int) < (n : Int)) = true := decide_eq_true (by omega)
    have d2 : wrap64 (n : Int) = (n : Int) := by unfold maxLen at hsz; unfold wrap64; omega
    clear hr hn hl
    go_enter Try.func19, Try.ntmps19
    go_wp2
    go_ret2
    exact ⟨⟨_, rfl, _, 0, rfl, Nat.le_refl _, Nat.zero_le _, .inl rfl⟩, Below.refl _ _⟩
  have HMOD : Hid (s.data.toList.length % 8 = 0) := Lib.hid (by rw [size_toList]; omega)
  have HSZ : Hid (s.size = 8 * n) := Lib.hid (by omega)
  have HNL : Hid (n ≤ 8192) := Lib.hid (by omega)
  have hnl := HNL.out
  have hsz8 : (s.size : Int) = 8 * (n : Int) := by omega
  have hmk := makeEnts n (by omega)
  have d1 : decide ((8192 : Int) < (n : Int)) = false := decide_eq_false (by omega)
  have d2 : wrap64 (n : Int) = (n : Int) := by unfold wrap64; omega
  have hq3 : (8 * (n : Int)).tdiv 8 = (n : Int) := by rw [← hsz8]; exact hq2
  have hm3 : (8 * (n : Int)).tmod 8 = 0 := by rw [← hsz8]; exact hm2
  clear hr hn hl hsz
  go_enter Try.func19, Try.ntmps19
  go_wp2
  have HRW := Lib.hid (RowE.made w n 26)
  have HB0 := Lib.hid (below1 w (.cells (madeCells zeroC (n * 4)) 26))
  generalize w.alloc (.cells (madeCells zeroC (n * 4)) 26) = w1 at HRW HB0 ⊢
  clear hmk hm1 hm2 hm3 hq1 hq2 hq3 hsz8 d1 d2 HR
  go_loopw [24] (fun ix wr => ∃ (j : Nat), j ≤ n ∧ ix = .int .i64 (j : Int) ∧ (∀ i, i < j → EP (chunk s.data.toList i)) ∧ RowE wr w.heap.size (ptR s.data.toList j ++ List.replicate (n - j) EN.zero) ∧ Below w.heap.size w wr) (fun ix _ => n - (intOf ix).toNat)
  case atStart => exact ⟨0, Nat.zero_le _, rfl, (fun i h => absurd h (by omega)), HRW.out, HB0.out⟩
  case round =>
    obtain ⟨j, hj, rfl, hp, hrow, hB⟩ := hrel
    have HB := Lib.hid hB
    have HP := Lib.hid hp
    have HROW := Lib.hid hrow
    clear hB hp hrow HB0 HRW
    by_cases hlt : j < n
    · have hSl := slice8' s j (by have := HSZ.out; omega)
      have hPa := entParse_any (s.extract (j * 8) (j * 8 + 8))
      rw [extract_chunk'] at hPa
      generalize s.extract (j * 8) (j * 8 + 8) = sub at hSl hPa
      have HPOK : Hid (EP (chunk s.data.toList j) → entPE (chunk s.data.toList j) = 0) := Lib.hid (fun h => if_pos h)
      have HNO : Hid (¬ EP (chunk s.data.toList j) → entPE (chunk s.data.toList j) = 6 ∧ ptE s.data.toList = 6 ∧ ptL s.data.toList = []) := Lib.hid (fun h => ⟨if_neg h, pt_stop (by rw [← HN.out]; exact hlt) h⟩)
      by_cases hp : EP (chunk s.data.toList j)
      · rw [HPOK.out hp] at hPa
        have HPJ : Hid (∀ i, i < j + 1 → EP (chunk s.data.toList i)) := Lib.hid (fun i hi => by
          by_cases e : i = j
          · rw [e]; exact hp
          · exact HP.out i (by omega))
        have HFILL := Lib.hid (pt_fill s.data.toList n j hlt)
        have HLEN : Hid ((ptR s.data.toList j ++ List.replicate (n - j) EN.zero).length = n) := Lib.hid (by rw [List.length_append, ptR_len, List.length_replicate]; omega)
        generalize entP (chunk s.data.toList j) = p at hPa HFILL
        obtain ⟨k, st, mb, fr⟩ := p
        unfold EN.v at hPa
        dsimp only at hPa
        clear hp HPOK HNO
        go_wp2_with (go_at_call 10; refine (hPa _).mono ?_; rintro e w2 ⟨rfl, hb2⟩
                     have HB3 := Lib.hid ((HB.out.trans (hb2.mono HB.out.size)).alloc (Nat.le_trans HB.out.size hb2.size) (.cells #[.int .u8 k, .int .i64 st, .int .i64 mb, .int .i64 fr] 26))
                     have HROW3 := Lib.hid ((HROW.out.below hb2).below (below1 w2 (.cells #[.int .u8 k, .int .i64 st, .int .i64 mb, .int .i64 fr] 26)))
                     have hat := HROW3.out.2.1 j (by rw [HLEN.out]; exact hlt)
                     have hfz := HROW3.out.2.2
                     rw [HLEN.out] at hfz
                     have f0 := hfz (j * 4) (by omega); have f1 := hfz (j * 4 + 1) (by omega); have f2 := hfz (j * 4 + 2) (by omega); have f3 := hfz (j * 4 + 3) (by omega)
                     obtain ⟨g0, g1, g2, g3⟩ := hat
                     have HPUT := Lib.hid (HROW3.out.put j (by rw [HLEN.out]; exact hlt) ⟨k, st, mb, fr⟩)
                     rw [HFILL.out] at HPUT
                     unfold putN at HPUT
                     dsimp only at HPUT
                     clear hb2 hfz)
        go_roundw
        case rel => exact ⟨j + 1, by omega, by go_num, HPJ.out, HPUT.out, (((HB3.out.setCell (p := ⟨_, _, none⟩) (Nat.le_refl _) _).setCell (p := ⟨_, _, none⟩) (Nat.le_refl _) _).setCell (p := ⟨_, _, none⟩) (Nat.le_refl _) _).setCell (p := ⟨_, _, none⟩) (Nat.le_refl _) _⟩
        case measure => simp [intOf]; omega
      · obtain ⟨e1, e2, e3⟩ := HNO.out hp
        rw [e1] at hPa
        have HE2 := Lib.hid e2
        have HE3 := Lib.hid e3
        generalize entP (chunk s.data.toList j) = p at hPa
        obtain ⟨k, st, mb, fr⟩ := p
        unfold EN.v at hPa
        dsimp only at hPa
        clear hp HPOK HNO e1 e2 e3
        go_wp2_with (go_at_call 10; refine (hPa _).mono ?_; rintro e w2 ⟨rfl, hb2⟩
                     have HB3 := Lib.hid ((HB.out.trans (hb2.mono HB.out.size)).alloc (Nat.le_trans HB.out.size hb2.size) (.cells #[.int .u8 k, .int .i64 st, .int .i64 mb, .int .i64 fr] 26))
                     clear hb2)
        go_ret2
        rw [HE2.out, HE3.out]
        exact ⟨⟨_, rfl, _, 0, rfl, Nat.le_refl _, Nat.zero_le _, .inl rfl⟩, HB3.out⟩
    · obtain rfl : j = n := by omega
      have HOK : Hid (ptOk s.data.toList) := Lib.hid ⟨HMOD.out, by rw [← HN.out]; exact HNL.out, fun i hi => HP.out i (by rw [HN.out]; exact hi)⟩
      have HL2 : Hid (ptL s.data.toList = ptR s.data.toList j) := Lib.hid (by unfold ptL; rw [if_pos HOK.out, ← HN.out])
      have HE2 : Hid (ptE s.data.toList = 0) := Lib.hid (if_pos HOK.out)
      go_wp2
      go_ret2
      rw [HE2.out, HL2.out]
      have h1 := HROW.out
      rw [Nat.sub_self, List.replicate_zero, List.append_nil] at h1
      have h2 := h1.ents j (by rw [ptR_len]; exact Nat.le_refl _) (by have := HNL.out; unfold maxLen; omega)
      rw [ptR_len] at h2
      exact ⟨⟨_, rfl, h2⟩, HB.out⟩
end Go.Proofs.Ytifhbaacljkleaa
