/- The document's answers for devices: New. The document's answers for devices: Bytes. -/
import Derived.Test.YtjhpheepimbbdaaGreatDoorRdG
import Derived.Test.YtjhpheepimbbdaaGreatDoorZRdD
namespace Go.Proofs.YtjhpheepimbbdaaGreatDoor
open Go.RowKit Go.Maps

def blankS : SM := ⟨⟨blankB.toArray⟩, ⟨#[]⟩, false, false⟩
theorem allS_snoc (f : Nat → SM) (n : Nat) : allS f (n + 1) = allS f n ++ (f n).l := by unfold allS; rw [List.range_succ, List.flatMap_append, List.flatMap_singleton]
/-- append(l, s). -/
theorem wpList_app_sect {W : World} {ops : Array Oper} {rest : List Oper} {o : Oper} {a : Act} {K : Exit → Act → World → Prop} (hgd : o.guard = none) (s x : Operand)
    (ho : o.op = .call { callee := .builtin .append, args := #[s, x], argTypes := #[30, 30] }) {B : Nat} {v : Value} {f : Nat → SM} {j gb : Nat} (hs : a.eval s = v) (hown : W.ownsRow B 58 4 v j (allS f j)) (hB : B ≤ W.heap.size)
    (hgb : gb = W.heap.size) (hx : a.eval x = .slice (some ⟨gb, 0, none⟩) 1 1) (hl : j ≤ 300)
    (hK : ∀ v' w', w'.ownsRow B 58 4 v' (j + 1) (allS f (j + 1)) → Below B W w' → wpList Tryz.prog ops K rest (a.put o.dst v') w') :
    wpList Tryz.prog ops K (o :: rest) a (W.alloc (.cells #[.string (f j).su, .string (f j).fr, .bool (f j).wt, .bool (f j).bd] 58)) := by
  subst hgb
  obtain ⟨i, hi, hz, hsz, hby⟩ := infoSect
  have hbx := Bx.new W (.string (f j).su) (.string (f j).fr) (.bool (f j).wt) (.bool (f j).bd) 58
  refine wpList_append_own_at _ hgd s x 30 ho B 58 i _ 4 40 Tryz.underlying30 hi hz hsz hby rfl (by decide) v j (allS f j) hs (own_below hown (below1 _ _)) ⟨W.heap.size, 0, none⟩ 1 1 (f j).l hx rfl (fun q u hu => ?_) (fun u hu => ?_) (by unfold maxLen; omega) (by omega) (by simp; omega) ?_
  · have hq : q < 4 := by have := (List.getElem?_eq_some_iff.1 hu).1; exact this
    rw [adr_add, Nat.zero_add, ← hu]
    match q, hq with
    | 0, _ => exact hbx.c0
    | 1, _ => exact hbx.c1
    | 2, _ => exact hbx.c2
    | 3, _ => exact hbx.c3
  · simp only [SM.l, List.mem_cons, List.not_mem_nil, or_false] at hu
    rcases hu with rfl | rfl | rfl | rfl <;> rfl
  · intro v' w' hown' hg _ _
    refine hK v' w' ?_ ?_
    · rw [allS_snoc]; exact hown'
    · exact ((below1 W (.cells #[.string (f j).su, .string (f j).fr, .bool (f j).wt, .bool (f j).bd] 58)).mono hB).trans (Below.grown (Below.refl _ _) hg (by simp; omega) (fun k hk => (World.ownsRow.lt hown k hk).1))
theorem own_ap {S : Nat → Prop} {W W' : World} {B e s n : Nat} {v : Value} {xs : List Value} (h : W.ownsRow B e s v n xs) (a : Ap S W W') (hS : ∀ k, S k → k < B) : W'.ownsRow B e s v n xs := by
  refine ⟨h.1, ?_⟩
  rcases h.2 with h0 | ⟨g, cap, cur, hv, hg, hh, r⟩
  · exact .inl h0
  · exact .inr ⟨g, cap, cur, hv, hg, (a.block g (Array.getElem?_eq_some_iff.1 hh).1 (fun e => by have := hS g e; omega)).trans hh, r⟩
theorem ap_old {B : Nat} {W W' : World} (hb : Below B W W') : Ap (fun k => B ≤ k) W W' := ⟨hb.os, hb.tape, hb.output, hb.size, fun k _ hn => hb.block k (by omega)⟩
theorem own_sl4 {w : World} {base e s n : Nat} {v : Value} {xs : List Value} (h : w.ownsRow base e s v n xs) : ∃ ao cp, v = .slice ao n cp := by
  rcases h.2 with ⟨rfl, rfl⟩ | ⟨g, cap, cur, rfl, _⟩
  · exact ⟨none, 0, rfl⟩
  · exact ⟨_, _, rfl⟩
set_option maxHeartbeats 1000000 in
theorem refNew_no (x : Int) (h : x < 1 ∨ 32768 < x) (w : World) :
    Calls Tryz.prog 6 #[.int .i64 x] w fun e w' => e = .returned (.tuple #[.agg #[.slice none 0 0, .bool false, .int .i64 0, .int .i64 0], .bool false]) ∧ Below w.heap.size w w' := by
  have hx := Bx.new w (.slice none 0 0) (.bool false) (.int .i64 0) (.int .i64 0) 32
  rcases h with h | h
  · have d0 : decide (x < 1) = true := decide_eq_true h
    go_enter Tryz.func6, Tryz.ntmps6
    go_wp2_with fail
    refine bodyPost_ret (v := .tuple #[.agg #[.slice none 0 0, .bool false, .int .i64 0, .int .i64 0], .bool false]) (by simp [results, Tryz.results6, go_sem]) rfl ?_
    exact ⟨rfl, below1 _ _⟩
  · have d0 : decide (x < 1) = false := decide_eq_false (by omega)
    have d1 : decide (32768 < x) = true := decide_eq_true h
    go_enter Tryz.func6, Tryz.ntmps6
    go_wp2_with fail
    refine bodyPost_ret (v := .tuple #[.agg #[.slice none 0 0, .bool false, .int .i64 0, .int .i64 0], .bool false]) (by simp [results, Tryz.results6, go_sem]) rfl ?_
    exact ⟨rfl, below1 _ _⟩
set_option maxRecDepth 10000 in
set_option maxHeartbeats 1000000 in
theorem refNew_ok (n : Nat) (n1 : 1 ≤ n) (n2 : n ≤ 256) (w : World) :
    Calls Tryz.prog 6 #[.int .i64 (n : Int)] w fun e w' => ∃ v, e = .returned (.tuple #[v, .bool true]) ∧ RefAt w' v (newM n) ∧ Below w.heap.size w w' := by
  have d0 : decide ((n : Int) < 1) = false := decide_eq_false (by omega)
  have d1 : decide (32768 < (n : Int)) = false := decide_eq_false (by omega)
  have hmk : ∀ w : World, (Instr.makeSlice 56 (.int .i64 512) (.int .i64 512)).run Tryz.prog w = .ok (.slice (some ⟨w.heap.size, 0, none⟩) 512 512) (w.alloc (.cells (madeCells #[.int .u8 0] 512) 5)) := by
    obtain ⟨i, hi, hz, hs, hb⟩ := infoU8x
    intro w
    have := run_make (P := Tryz.prog) w 56 5 i (.int .u8 0) Tryz.underlying56 hi hz .i64 .i64 512 512 (by omega) (by omega) (by rw [hb]; omega) (by omega)
    rw [hs] at this
    exact this
  obtain ⟨Z0, hZ0⟩ : ∃ Z0 : ByteArray, Z0 = ⟨blankB.toArray⟩ := ⟨_, rfl⟩
  have hcz : ∀ W : World, (convert 56 9 (.slice (some ⟨W.heap.size, 0, none⟩) 512 512)).run Tryz.prog (W.alloc (.cells (madeCells #[.int .u8 0] 512) 5)) = .ok (.string Z0) (W.alloc (.cells (madeCells #[.int .u8 0] 512) 5)) := fun W => by
    rw [hZ0]; exact string_of_row 512 blankB_len.symm (row_made W 512 5) 56 9 5 Tryz.underlying56 Tryz.underlying5 Tryz.underlying9
  have hcz1 := hcz (w.alloc (.cells #[.slice none 0 0, .bool false, .int .i64 0, .int .i64 0] 32))
  rw [show (w.alloc (.cells #[.slice none 0 0, .bool false, .int .i64 0, .int .i64 0] 32)).heap.size = w.heap.size + 1 by simp] at hcz1
  have HZ := Lib.hid hZ0
  clear hZ0
  go_enter Tryz.func6, Tryz.ntmps6
  go_upto_region 6 with fail
  have hB1 := below1 w (.cells #[.slice none 0 0, .bool false, .int .i64 0, .int .i64 0] 32)
  have hB2 := below1 (w.alloc (.cells #[.slice none 0 0, .bool false, .int .i64 0, .int .i64 0] 32)) (.cells (madeCells #[.int .u8 0] 512) 5)
  have hB3 := below1 ((w.alloc (.cells #[.slice none 0 0, .bool false, .int .i64 0, .int .i64 0] 32)).alloc (.cells (madeCells #[.int .u8 0] 512) 5)) (.cells #[.slice none 0 0, .bool false, .int .i64 (-1), .int .i64 0] 32)
  have HR : Hid (Bx (((w.alloc (.cells #[.slice none 0 0, .bool false, .int .i64 0, .int .i64 0] 32)).alloc (.cells (madeCells #[.int .u8 0] 512) 5)).alloc (.cells #[.slice none 0 0, .bool false, .int .i64 (-1), .int .i64 0] 32)) w.heap.size (.slice none 0 0) (.bool false) (.int .i64 0) (.int .i64 0)) := Lib.hid (((Bx.new w _ _ _ _ _).below hB2).below hB3)
  have HX : Hid (Bx (((w.alloc (.cells #[.slice none 0 0, .bool false, .int .i64 0, .int .i64 0] 32)).alloc (.cells (madeCells #[.int .u8 0] 512) 5)).alloc (.cells #[.slice none 0 0, .bool false, .int .i64 (-1), .int .i64 0] 32)) (w.heap.size + 1 + 1) (.slice none 0 0) (.bool false) (.int .i64 (-1)) (.int .i64 0)) := Lib.hid (by
    have h := Bx.new ((w.alloc (.cells #[.slice none 0 0, .bool false, .int .i64 0, .int .i64 0] 32)).alloc (.cells (madeCells #[.int .u8 0] 512) 5)) (.slice none 0 0) (.bool false) (.int .i64 (-1)) (.int .i64 0) 32
    rw [show ((w.alloc (.cells #[.slice none 0 0, .bool false, .int .i64 0, .int .i64 0] 32)).alloc (.cells (madeCells #[.int .u8 0] 512) 5)).heap.size = w.heap.size + 1 + 1 by simp] at h
    exact h)
  have HB : Hid (Below w.heap.size w (((w.alloc (.cells #[.slice none 0 0, .bool false, .int .i64 0, .int .i64 0] 32)).alloc (.cells (madeCells #[.int .u8 0] 512) 5)).alloc (.cells #[.slice none 0 0, .bool false, .int .i64 (-1), .int .i64 0] 32))) := Lib.hid ((hB1.trans (hB2.mono (by simp))).trans (hB3.mono (by simp; omega)))
  clear hB1 hB2 hB3 hcz hcz1 hmk
  generalize (((w.alloc (.cells #[.slice none 0 0, .bool false, .int .i64 0, .int .i64 0] 32)).alloc (.cells (madeCells #[.int .u8 0] 512) 5)).alloc (.cells #[.slice none 0 0, .bool false, .int .i64 (-1), .int .i64 0] 32)) = W0 at HR HX HB ⊢
  generalize hbx : w.heap.size + 1 + 1 = bx at HX ⊢
  have HNE : Hid (w.heap.size < bx) := Lib.hid (by omega)
  have HBX : Hid (bx < W0.heap.size) := Lib.hid HX.out.lt
  clear hbx
  go_loopw [6] (fun ix wr => ∃ (j : Nat) (o : Value), j ≤ n ∧ ix = .int .i64 (j : Int) ∧ Bx wr bx o (.bool false) (.int .i64 (-1)) (.int .i64 0) ∧ Bx wr w.heap.size (.slice none 0 0) (.bool false) (.int .i64 0) (.int .i64 0) ∧ wr.ownsRow W0.heap.size 58 4 o j (allS (fun _ => ⟨Z0, ⟨#[]⟩, false, false⟩) j) ∧ Below w.heap.size w wr ∧ W0.heap.size ≤ wr.heap.size) (fun ix _ => n - (intOf ix).toNat)
  case atStart => exact ⟨0, .slice none 0 0, Nat.zero_le _, rfl, HX.out, HR.out, ⟨rfl, .inl ⟨rfl, rfl⟩⟩, HB.out, Nat.le_refl _⟩
  case round =>
    obtain ⟨j, o, hj, rfl, hx, hr, ho, hb, hsz⟩ := hrel
    have HX1 := Lib.hid hx
    have HR1 := Lib.hid hr
    have HO1 := Lib.hid ho
    have HB1 := Lib.hid hb
    have HS1 := Lib.hid hsz
    obtain ⟨ao, cp, rfl⟩ := own_sl4 ho
    clear hx hr ho hb hsz HX HR HB
    by_cases hlt : j < n
    · have x0 := HX1.out.c0
      have x1 := HX1.out.c1
      have hjl : j ≤ 300 := by omega
      have HXB := Lib.hid (HX1.out.below (below1 wr (.cells #[.string Z0, .string ⟨#[]⟩, .bool false, .bool false] 58)))
      have hxb := HXB.out.c0
      go_wp2_with (at_builtin; refine wpList_app_sect (f := fun _ => ⟨Z0, ⟨#[]⟩, false, false⟩) rfl (.tmp 23) (.tmp 26) rfl rfl HO1.out HS1.out rfl rfl hjl ?_; intro v' w1 ho1 hb1; obtain ⟨ao1, cp1, rfl⟩ := own_sl4 ho1; have HO2 := Lib.hid ho1; have HW2 := Lib.hid hb1; have HX2 := Lib.hid (HX1.out.ap (ap_old hb1) (fun e => by have := HBX.out; omega)); have HR2 := Lib.hid (HR1.out.ap (ap_old hb1) (fun e => by have h1 := HBX.out; have h2 := HNE.out; omega)); have x2 := HX2.out.c0; have x3 := HX2.out.f0; clear ho1 hb1)
      have A3 := ap_put w1 bx 0 (.slice ao1 (j + 1) cp1)
      go_roundw
      case rel => exact ⟨j + 1, _, by omega, by go_num, HX2.out.set0 _, HR2.out.ap A3 (fun e => by have h2 := HNE.out; omega), own_ap HO2.out A3 (fun k e => by have := HBX.out; omega), (HB1.out.trans (HW2.out.mono (by have h1 := HBX.out; have h2 := HNE.out; omega))).trans (A3.below (by have h1 := HB1.out.size; have h2 := HW2.out.size; omega) (fun k e => by have h2 := HNE.out; omega)), by rw [World.size_setCell]; have h1 := HS1.out; have h2 := HW2.out.size; omega⟩
      case measure => simp [intOf]; omega
    · obtain rfl : j = n := by omega
      obtain ⟨_, x0, x1, x2, x3, _, _, _, _⟩ := HX1.out
      obtain ⟨_, t0, t1, t2, t3, k0, k1, k2, k3⟩ := HR1.out
      go_wp2_with fail
      obtain ⟨g, c, cur, hv, hg, hh, hnc, hcm, _, ht⟩ := HO1.out.2.resolve_left (fun e => by omega)
      injection hv with hv1 hv2 hv3
      subst hv1
      subst hv3
      clear hv2
      have hR := RowS.of_row hh ht
      obtain ⟨y0, y1, y2, y3, hG, hBB⟩ := stored HR1.out HB1.out (Nat.le_refl _) hR (by have h1 := HBX.out; have h2 := HNE.out; omega) (.slice (some ⟨g, 0, none⟩) j cp) (.bool false) (.int .i64 (-1)) (.int .i64 0)
      refine bodyPost_ret (v := .tuple #[.agg #[.slice (some ⟨g, 0, none⟩) j cp, .bool false, .int .i64 (-1), .int .i64 0], .bool true]) (by simp [results, Tryz.results6, go_sem, y0, y1, y2, y3]) rfl ?_
      exact ⟨_, rfl, RG.congr ⟨g, cp, rfl, hnc, hcm, hG⟩ (fun i _ => by rw [HZ.out]; rfl), hBB⟩
end Go.Proofs.YtjhpheepimbbdaaGreatDoor
namespace Go.Proofs.YtjhpheepimbbdaaGreatDoor
open Go.RowKit Go.Maps

set_option maxRecDepth 10000 in
set_option maxHeartbeats 1000000 in
theorem refBytes_any {w : World} {v : Value} {M : DM} (k : RefAt w v M) (hn : M.n ≤ 256) (hlen : ∀ i, i < M.n → (M.sure i).length = 512) :
    Calls Tryz.prog 11 #[v] w fun e w' => e = .returned (.string ⟨(preB M M.n).toArray⟩) ∧ Below w.heap.size w w' := by
  obtain ⟨n, su, fr, bd, ct, dn, lf⟩ := M
  obtain ⟨b, cap, rfl, h1, h2, h3⟩ := k
  dsimp only at h1 h3
  have hblt := h3.1
  have HB := Lib.hid (below1 w (.cells #[.slice (some ⟨b, 0, none⟩) n cap, .bool dn, .int .i64 lf, .int .i64 (ct : Int)] 32))
  have HX := Lib.hid (Bx.new w (.slice (some ⟨b, 0, none⟩) n cap) (.bool dn) (.int .i64 lf) (.int .i64 (ct : Int)) 32)
  have HL := Lib.hid (h3.below HB.out)
  obtain ⟨W0, hW⟩ : ∃ W0 : World, W0 = w.alloc (.cells #[.slice (some ⟨b, 0, none⟩) n cap, .bool dn, .int .i64 lf, .int .i64 (ct : Int)] 32) := ⟨_, rfl⟩
  rw [← hW] at HB HX HL
  clear h3 hblt
  obtain ⟨_, x0, x1, x2, x3, _, _, _, _⟩ := HX.out
  dsimp only at hn hlen
  obtain ⟨P, hP⟩ : ∃ P : Nat → List UInt8, P = preB ⟨n, su, fr, bd, ct, dn, lf⟩ := ⟨_, rfl⟩
  have HPS : Hid (∀ j, P (j + 1) = P j ++ (if bd j = true then blankB else su j)) := Lib.hid (fun j => by rw [hP]; exact preB_succ _ j)
  have HPL : Hid (∀ j, j ≤ n → (P j).length = j * 512) := Lib.hid (by
    intro j
    induction j with
    | zero => intro _; rw [hP]; rfl
    | succ j ih =>
      intro hj
      rw [HPS.out, List.length_append, ih (by omega)]
      have : (if bd j = true then blankB else su j).length = 512 := by split; exact blankB_len; exact hlen j (by omega)
      rw [this]; omega)
  have HP0 : Hid (P 0 = []) := Lib.hid (by rw [hP]; rfl)
  have HLN := Lib.hid hlen
  show Calls Tryz.prog 11 _ w fun e w' => e = .returned (.string ⟨(preB ⟨n, su, fr, bd, ct, dn, lf⟩ n).toArray⟩) ∧ Below w.heap.size w w'
  rw [← hP]
  clear hP hlen
  go_enter Tryz.func11, Tryz.ntmps11
  go_upto_region 1 with fail
  rw [← hW]
  clear hW
  go_upto_region 3 with fail
  clear x0 x1 x2 x3 HX
  go_loopw [3, 9] (fun o ix wr => ∃ j : Nat, j ≤ n ∧ ix = .int .i64 (j : Int) ∧ OwnB wr W0.heap.size o (P j) ∧ Below W0.heap.size W0 wr) (fun _ ix _ => n - (intOf ix).toNat)
  case atStart => exact ⟨0, Nat.zero_le _, rfl, by rw [HP0.out]; exact ⟨rfl, .inl ⟨rfl, rfl⟩⟩, Below.refl _ _⟩
  case round =>
    obtain ⟨j, hj, rfl, ho, hb⟩ := hrel
    have HO := Lib.hid ho
    have HBW := Lib.hid hb
    have HLR := Lib.hid (HL.out.below hb)
    have hsz := hb.size
    clear ho hb
    by_cases hlt : j < n
    · obtain ⟨g0, g1, g2, g3⟩ := HLR.out.2.1 j hlt
      dsimp only [sM] at g0 g1 g2 g3
      have HLJ : Hid ((P j).length ≤ 200000) := Lib.hid (by rw [HPL.out j hj]; omega)
      cases hpj : bd j with
      | true =>
        rw [hpj] at g3
        have HF : Hid (P (j + 1) = P j ++ blankB) := Lib.hid (by rw [HPS.out, if_pos hpj])
        have HO2 : Hid (OwnB _ W0.heap.size _ (P j)) := Lib.hid (own_below HO.out (below1 wr (.cells #[.string ⟨(su j).toArray⟩, .string ⟨((fr j).getD []).toArray⟩, .bool (fr j).isSome, .bool true] 58)))
        have HB2 := Lib.hid (HBW.out.trans ((below1 wr (.cells #[.string ⟨(su j).toArray⟩, .string ⟨((fr j).getD []).toArray⟩, .bool (fr j).isSome, .bool true] 58)).mono hsz))
        have HBS : Hid (W0.heap.size ≤ (wr.alloc (.cells #[.string ⟨(su j).toArray⟩, .string ⟨((fr j).getD []).toArray⟩, .bool (fr j).isSome, .bool true] 58)).heap.size) := Lib.hid (by simp; omega)
        clear hpj HLR
        go_wp2_with (at_builtin; refine wpList_app_zeros rfl (.tmp 15) rfl rfl HO2.out HBS.out HLJ.out ?_; intro v' w1 ho1 hb1; have HO3 := Lib.hid ho1; have HB3 := Lib.hid (HB2.out.trans hb1); clear ho1 hb1)
        go_roundw
        case rel => exact ⟨j + 1, by omega, by go_num, by rw [HF.out]; exact HO3.out, HB3.out⟩
        case measure => simp [intOf]; omega
      | false =>
        rw [hpj] at g3
        have HF : Hid (P (j + 1) = P j ++ su j) := Lib.hid (by rw [HPS.out, if_neg (by rw [hpj]; simp)])
        have HO2 : Hid (OwnB _ W0.heap.size _ (P j)) := Lib.hid (own_below HO.out (below1 wr (.cells #[.string ⟨(su j).toArray⟩, .string ⟨((fr j).getD []).toArray⟩, .bool (fr j).isSome, .bool false] 58)))
        have HB2 := Lib.hid (HBW.out.trans ((below1 wr (.cells #[.string ⟨(su j).toArray⟩, .string ⟨((fr j).getD []).toArray⟩, .bool (fr j).isSome, .bool false] 58)).mono hsz))
        have HBS : Hid (W0.heap.size ≤ (wr.alloc (.cells #[.string ⟨(su j).toArray⟩, .string ⟨((fr j).getD []).toArray⟩, .bool (fr j).isSome, .bool false] 58)).heap.size) := Lib.hid (by simp; omega)
        have HSJ : Hid ((su j).length ≤ 1000) := Lib.hid (by rw [HLN.out j hlt]; omega)
        clear hpj HLR
        go_wp2_with (at_builtin; refine wpList_app_str rfl (.tmp 17) (.tmp 19) rfl rfl HO2.out rfl HBS.out HLJ.out HSJ.out ?_; intro v' w1 ho1 hb1; have HO3 := Lib.hid ho1; have HB3 := Lib.hid (HB2.out.trans hb1); clear ho1 hb1)
        go_roundw
        case rel => exact ⟨j + 1, by omega, by go_num, by rw [HF.out]; exact HO3.out, HB3.out⟩
        case measure => simp [intOf]; omega
    · obtain rfl : j = n := by omega
      have hcv := own_string (P := Tryz.prog) HO.out (src := 56) (dst := 9) Tryz.underlying56 Tryz.underlying5 Tryz.underlying9
      clear HLR hlt hj hsz
      go_wp2_with fail
      go_ret
      exact ⟨rfl, HB.out.trans (HBW.out.mono HB.out.size)⟩
end Go.Proofs.YtjhpheepimbbdaaGreatDoor
