/- Spans: Blocks, the program's. -/
import Derived.Test.YtdcpgjkaimekbaaSpnE
import Derived.Test.YtdcpgjkaimekbaaIdx
namespace Go.Proofs.Ytdcpgjkaimekbaa
open Go.RowKit

theorem cells_not_row {W : World} {B base s n : Nat} {cs : Array Value} {t e : TypeId} {v : Value} {xs : List Value} (h : W.heap[B]? = some (.cells cs t (0, 0))) (hte : t ≠ e) (hrow : W.ownsRow base e s v n xs) : some B ≠ v.ownBlock := by
  rcases hrow.2 with ⟨rfl, _⟩ | ⟨g, cap, cur, rfl, _, hgb, _⟩
  · simp [Value.ownBlock]
  · intro e'
    obtain rfl : B = g := by simpa [Value.ownBlock] using e'
    rw [hgb] at h
    injection h with h
    injection h with _ h2 _
    exact hte h2.symm
def ints (L : List Int) : List Value := L.map (Value.int .i64)
theorem ints_snoc (L : List Int) (x : Int) : ints (L ++ [x]) = ints L ++ [.int .i64 x] := by unfold ints; rw [List.map_append]; rfl
theorem one_int (x : Int) : ∀ u ∈ ([.int .i64 x] : List Value), u.oneCell' = true := by
  intro u hu
  rw [List.mem_singleton] at hu
  rw [hu]; rfl
theorem intInfo' : ∃ i, Try.prog.info? 3 = some i ∧ i.zero = some (.int .i64 0) ∧ i.size = 1 ∧ i.bytes = 8 := by
  have e : (Try.prog.info? 3).map (fun i => (i.zero, i.size, i.bytes)) = some (some (.int .i64 0), 1, 8) := by kernel_rfl
  obtain ⟨i, hi, hz⟩ := Option.map_eq_some_iff.1 e
  simp only [Prod.mk.injEq] at hz
  exact ⟨i, hi, hz.1, hz.2.1, hz.2.2⟩
theorem rgOk_iff (r : RG) : rgOk r = true ↔ 0 ≤ r.f ∧ r.f ≤ r.t ∧ r.t ≤ 65536 := by unfold rgOk; simp [and_assoc]
theorem blk_no {L : List RG} (h : ¬ (∀ r ∈ L, rgOk r = true) ∨ ¬ many L ≤ 65536) : blkE L = 1 ∧ blkL L = [] := by
  have h0 : ¬ blkOk L = true := by
    unfold blkOk
    rw [Bool.and_eq_true, List.all_eq_true, decide_eq_true_eq]
    rintro ⟨h1, h2⟩
    rcases h with h | h
    · exact h h1
    · exact h h2
  exact ⟨if_neg h0, if_neg h0⟩
theorem blk_yes {L : List RG} (h : ∀ r ∈ L, rgOk r = true) (h2 : many L ≤ 65536) : blkE L = 0 ∧ blkL L = L.flatMap rgB := by
  have h0 : blkOk L = true := by
    unfold blkOk
    rw [Bool.and_eq_true, List.all_eq_true, decide_eq_true_eq]
    exact ⟨h, h2⟩
  exact ⟨if_pos h0, if_pos h0⟩
theorem mem_take_snoc {L : List RG} {j : Nat} (hj : j < L.length) (h : ∀ r ∈ L.take j, rgOk r = true) (hr : rgOk (L.getD j RG.zero) = true) : ∀ r ∈ L.take (j + 1), rgOk r = true := by
  rw [getD_snoc RG.zero hj]
  intro r h1
  rcases List.mem_append.1 h1 with h1 | h1
  · exact h r h1
  · rw [List.mem_singleton.1 h1]; exact hr
theorem getD_memR {L : List RG} {j : Nat} (hj : j < L.length) : L.getD j RG.zero ∈ L := by
  rw [List.getD, List.getElem?_eq_getElem hj]; exact List.getElem_mem _
/-- A right range, as numbers. -/
theorem rg_nat {r : RG} (h : rgOk r = true) : ∃ F D : Nat, r = ⟨(F : Int), ((F + D : Nat) : Int)⟩ ∧ F + D ≤ 65536 ∧ rgB r = (List.range D).map (fun (j : Nat) => (F : Int) + (j : Int)) := by
  obtain ⟨h1, h2, h3⟩ := (rgOk_iff r).1 h
  obtain ⟨f, t⟩ := r
  dsimp only at h1 h2 h3
  obtain ⟨F, rfl⟩ : ∃ F : Nat, f = (F : Int) := ⟨f.toNat, by omega⟩
  obtain ⟨D, rfl⟩ : ∃ D : Nat, t = ((F + D : Nat) : Int) := ⟨(t - (F : Int)).toNat, by omega⟩
  refine ⟨F, D, rfl, by omega, ?_⟩
  unfold rgB
  dsimp only
  rw [show (((F + D : Nat) : Int) - (F : Int)).toNat = D by omega]
theorem rg_step (F i : Nat) (P : List Int) : ints (P ++ (List.range (i + 1)).map (fun (j : Nat) => (F : Int) + (j : Int))) = ints (P ++ (List.range i).map (fun (j : Nat) => (F : Int) + (j : Int))) ++ [.int .i64 ((F : Int) + (i : Int))] := by
  rw [List.range_succ, List.map_append, ← List.append_assoc]; exact ints_snoc _ _
theorem flat_take (L : List RG) {j : Nat} (hj : j < L.length) : (L.take (j + 1)).flatMap rgB = (L.take j).flatMap rgB ++ rgB (L.getD j RG.zero) := by rw [getD_snoc RG.zero hj, List.flatMap_append, List.flatMap_singleton]
set_option maxRecDepth 100000 in
set_option maxHeartbeats 4000000 in
theorem spanBlocks_any (L : List RG) (v : Value) (w : World) (hv : RgsS w v L) (hreach : L.length * 16 ≤ 140737488351232) :
    Calls Try.prog 29 #[v] w fun e w' => ∃ x, e = .returned (.tuple #[x, .int .i64 (blkE L)]) ∧ IdxS w' x (blkL L) ∧ Below w.heap.size w w' := by
  obtain ⟨A, cap, rfl, hc1, hc2, hc3⟩ := hv
  have HC3 := Lib.hid hc3
  have HBAD : Hid (¬ (∀ r ∈ L, rgOk r = true) ∨ ¬ many L ≤ 65536 → blkE L = 1 ∧ blkL L = []) := Lib.hid blk_no
  have HCAP := Lib.hid (And.intro hc1 hc2)
  have HR := Lib.hid hreach
  clear hc1 hc2 hc3 hreach
  have hll : L.length ≤ 9000000000000 := by have := HR.out; omega
  go_enter Try.func29, Try.ntmps29
  go_wp2
  go_loopw [4, 13] (fun mx ix wr => ∃ (j : Nat) (m : Int), j ≤ L.length ∧ ix = .int .i64 (j : Int) ∧ mx = .int .i64 m ∧ m = many (L.take j) ∧ (∀ r ∈ L.take j, rgOk r = true) ∧ Below w.heap.size w wr) (fun _ ix _ => L.length - (intOf ix).toNat)
  case atStart => exact ⟨0, 0, Nat.zero_le _, rfl, rfl, rfl, (fun r h => by cases h), Below.refl _ _⟩
  case round =>
    obtain ⟨j, m, hj, rfl, rfl, hm, hok, hB⟩ := hrel
    have HB := Lib.hid hB
    have HOK := Lib.hid hok
    have HM := Lib.hid hm
    have hm0 : 0 ≤ m := by rw [hm]; exact many_nonneg _ hok
    have hm1 : m ≤ 589824000000000000 := by
      have := many_le _ hok
      rw [← hm, List.length_take] at this; omega
    clear hB hok hm
    by_cases hlt : j < L.length
    · obtain ⟨b, off, rfl, hb, hcell⟩ := HC3.out.resolve_left (by intro e; rw [e] at hlt; simp at hlt)
      have hcA : ∀ q u, (L.getD j RG.zero).cells[q]? = some u → wr.cell? ⟨b, off + j * 2 + q, none⟩ = some u := fun q u hu => (HB.out.cell (p := ⟨b, off + j * 2 + q, none⟩) hb).trans (hcell j hlt q u hu)
      have HNO : Hid (rgOk (L.getD j RG.zero) = false → blkE L = 1 ∧ blkL L = []) := Lib.hid (fun h => HBAD.out (.inl (fun h2 => by rw [h2 _ (getD_memR hlt)] at h; cases h)))
      have HYES : Hid (rgOk (L.getD j RG.zero) = true → (∀ r ∈ L.take (j + 1), rgOk r = true) ∧ many (L.take (j + 1)) = m + ((L.getD j RG.zero).t - (L.getD j RG.zero).f)) := Lib.hid (fun h => ⟨mem_take_snoc hlt HOK.out h, by rw [getD_snoc RG.zero hlt, many_snoc, HM.out]⟩)
      clear hcell hb
      generalize L.getD j RG.zero = p at hcA HNO HYES
      obtain ⟨pf, pt⟩ := p
      have q0 : wr.cell? ⟨b, off + j * 2, none⟩ = some (.int .i64 pf) := hcA 0 _ rfl
      have q1 : wr.cell? ⟨b, off + j * 2 + 1, none⟩ = some (.int .i64 pt) := hcA 1 _ rfl
      rw [← Bool.not_eq_true, rgOk_iff] at HNO
      rw [rgOk_iff] at HYES
      dsimp only at HNO HYES
      clear hcA
      have HBN := Lib.hid (HB.out.alloc HB.out.size (.cells #[.int .i64 pf, .int .i64 pt] 51))
      by_cases g1 : pf < 0
      · have d1 : decide (pf < (0 : Int)) = true := decide_eq_true g1
        have HE := Lib.hid (HNO.out (fun h => by omega))
        clear HYES
        go_wp2
        go_ret2
        rw [HE.out.1, HE.out.2]
        exact ⟨_, rfl, ⟨none, 0, rfl, Nat.le_refl _, Nat.zero_le _, .inl rfl⟩, HBN.out⟩
      by_cases g2 : pt < pf
      · have d1 : decide (pf < (0 : Int)) = false := decide_eq_false g1
        have d2 : decide (pt < pf) = true := decide_eq_true g2
        have HE := Lib.hid (HNO.out (fun h => by omega))
        clear HYES
        go_wp2
        go_ret2
        rw [HE.out.1, HE.out.2]
        exact ⟨_, rfl, ⟨none, 0, rfl, Nat.le_refl _, Nat.zero_le _, .inl rfl⟩, HBN.out⟩
      by_cases g3 : 65536 < pt
      · have d1 : decide (pf < (0 : Int)) = false := decide_eq_false g1
        have d2 : decide (pt < pf) = false := decide_eq_false g2
        have d3 : decide ((65536 : Int) < pt) = true := decide_eq_true g3
        have HE := Lib.hid (HNO.out (fun h => by omega))
        clear HYES
        go_wp2
        go_ret2
        rw [HE.out.1, HE.out.2]
        exact ⟨_, rfl, ⟨none, 0, rfl, Nat.le_refl _, Nat.zero_le _, .inl rfl⟩, HBN.out⟩
      · have d1 : decide (pf < (0 : Int)) = false := decide_eq_false g1
        have d2 : decide (pt < pf) = false := decide_eq_false g2
        have d3 : decide ((65536 : Int) < pt) = false := decide_eq_false g3
        obtain ⟨e1, e2⟩ := HYES.out (by omega)
        have HE1 := Lib.hid e1
        have HE2 := Lib.hid e2
        clear HNO HYES e1 e2
        go_wp2
        go_roundw
        case rel => exact ⟨j + 1, m + (pt - pf), by omega, by go_num, rfl, HE2.out.symm, HE1.out, HBN.out⟩
        case measure => simp [intOf]; omega
    · obtain rfl : j = L.length := by omega
      have HT : Hid (L.take L.length = L) := Lib.hid (List.take_of_length_le (Nat.le_refl _))
      rw [HT.out] at HM HOK
      clear HT
      by_cases g : 65536 < m
      · have d1 : decide ((65536 : Int) < m) = true := decide_eq_true g
        have HE := Lib.hid (HBAD.out (.inr (by rw [← HM.out]; omega)))
        go_wp2
        go_ret2
        rw [HE.out.1, HE.out.2]
        exact ⟨_, rfl, ⟨none, 0, rfl, Nat.le_refl _, Nat.zero_le _, .inl rfl⟩, HB.out⟩
      · have d1 : decide ((65536 : Int) < m) = false := decide_eq_false g
        have HYES := Lib.hid (blk_yes HOK.out (by rw [← HM.out]; omega))
        have HLEN : Hid (∀ k, ((L.take k).flatMap rgB).length ≤ 65536) := Lib.hid (fun k => by
          have h1 := flat_rg_len (L.take k) (fun r hr => HOK.out r (List.mem_of_mem_take hr))
          have h2 := many_mono L k HOK.out
          have h3 := HM.out
          omega)
        obtain ⟨i0, hi, hz0, hz1, hz2⟩ := intInfo'
        have HYE : Hid (blkE L = 0) := Lib.hid HYES.out.1
        have HYL : Hid (blkL L = L.flatMap rgB) := Lib.hid HYES.out.2
        have HBR := Lib.hid HB.out
        clear HYES HBAD
        go_wp2
        clear d1 HB
        go_loopw [7, 44] (fun vx ix wr => ∃ (j : Nat) (z : Value), j ≤ L.length ∧ ix = .int .i64 (j : Int) ∧ z = vx ∧ wr.ownsRow w.heap.size 3 1 z ((L.take j).flatMap rgB).length (ints ((L.take j).flatMap rgB)) ∧ Below w.heap.size w wr) (fun _ ix _ => L.length - (intOf ix).toNat)
        case atStart => exact ⟨0, .slice none 0 0, Nat.zero_le _, rfl, rfl, World.ownsRow_nil _ _ _ _, HBR.out⟩
        case round =>
          obtain ⟨j, z, hj, rfl, rfl, hown, hB⟩ := hrel
          have HB := Lib.hid hB
          have HOWN := Lib.hid hown
          clear hB hown HBR
          by_cases hlt : j < L.length
          · obtain ⟨b, off, rfl, hb, hcell⟩ := HC3.out.resolve_left (by intro e; rw [e] at hlt; simp at hlt)
            have hcA : ∀ q u, (L.getD j RG.zero).cells[q]? = some u → wr.cell? ⟨b, off + j * 2 + q, none⟩ = some u := fun q u hu => (HB.out.cell (p := ⟨b, off + j * 2 + q, none⟩) hb).trans (hcell j hlt q u hu)
            obtain ⟨F, D, hFD, hFD2, hrB⟩ := rg_nat (HOK.out _ (getD_memR hlt))
            have HNX := Lib.hid (flat_take L hlt)
            have HLN := Lib.hid (HLEN.out (j + 1))
            rw [HNX.out, List.length_append, hrB, List.length_map, List.length_range] at HLN
            rw [hrB] at HNX
            rw [hFD] at hcA
            have q0 : wr.cell? ⟨b, off + j * 2, none⟩ = some (.int .i64 (F : Int)) := hcA 0 _ rfl
            have q1 : wr.cell? ⟨b, off + j * 2 + 1, none⟩ = some (.int .i64 ((F + D : Nat) : Int)) := hcA 1 _ rfl
            obtain ⟨G, hG⟩ : ∃ G, G = F + D := ⟨_, rfl⟩
            rw [← hG] at q1 hFD2
            have HGD := Lib.hid hG
            generalize hP : (L.take j).flatMap rgB = P at HOWN HNX HLN
            clear hcA hcell hb hrB hFD hP hG
            obtain ⟨wo, hwo⟩ : ∃ wo, wo = wr := ⟨_, rfl⟩
            have HBX := Lib.hid (show (wr.alloc (.cells #[.int .i64 (F : Int), .int .i64 (G : Int)] 51)).heap[wr.heap.size]? = some (.cells #[.int .i64 (F : Int), .int .i64 (G : Int)] 51 (0, 0)) from heap_alloc_new wr _)
            have HO1 := Lib.hid (ownS_keep HOWN.out (below_new wr (.cells #[.int .i64 (F : Int), .int .i64 (G : Int)] 51)))
            have HB1 := Lib.hid (HB.out.alloc HB.out.size (.cells #[.int .i64 (F : Int), .int .i64 (G : Int)] 51))
            subst hwo
            go_wp2
            generalize hbt : wo.heap.size = bt at HBX ⊢
            clear q0 q1 hbt
            generalize wo.alloc (.cells #[.int .i64 (F : Int), .int .i64 (G : Int)] 51) = w1 at HBX HO1 HB1 ⊢
            go_loopw [7, 10] (fun vx bx wi => ∃ (i x : Nat) (y : Value), i ≤ D ∧ x = F + i ∧ bx = .int .i64 (x : Int) ∧ y = vx ∧ wi.ownsRow w.heap.size 3 1 y (P.length + i) (ints (P ++ (List.range i).map (fun (j : Nat) => (F : Int) + (j : Int)))) ∧ wi.heap[bt]? = some (.cells #[.int .i64 (F : Int), .int .i64 (G : Int)] 51 (0, 0)) ∧ Below w.heap.size w wi) (fun _ bx _ => G - (intOf bx).toNat)
            case atStart => exact ⟨0, F, z, Nat.zero_le _, rfl, rfl, rfl, by rw [Nat.add_zero, List.range_zero, List.map_nil, List.append_nil]; exact HO1.out, HBX.out, HB1.out⟩
            case round =>
              obtain ⟨i, x, y, hi', hx, rfl, rfl, hown, hbx, hB⟩ := hrel
              have HX := Lib.hid hx
              have HOI := Lib.hid hown
              have HBI := Lib.hid hB
              have HBXI := Lib.hid hbx
              have r0 : wr.cell? ⟨bt, 0, none⟩ = some (.int .i64 (F : Int)) := (cell_of_row wr bt 0 _ _ (0, 0) hbx).trans rfl
              have r1 : wr.cell? ⟨bt, 1, none⟩ = some (.int .i64 (G : Int)) := (cell_of_row wr bt 1 _ _ (0, 0) hbx).trans rfl
              have HBT : Hid (bt < wr.heap.size) := Lib.hid (Array.getElem?_eq_some_iff.1 hbx).1
              clear hx hown hB hbx HBX HO1 HB1
              by_cases hil : i < D
              · have d1 : decide ((x : Int) < (G : Int)) = true := decide_eq_true (by have := HX.out; have := HGD.out; omega)
                have d2 : decide (x < G) = true := decide_eq_true (by have := HX.out; have := HGD.out; omega)
                have hxb : x ≤ 65536 := by have := HX.out; have := HGD.out; omega
                have hst := rg_step F i P
                rw [show (F : Int) + (i : Int) = (x : Int) by have := HX.out; omega] at hst
                have HST := Lib.hid hst
                clear hst
                go_wp2_with (at_builtin; (refine wpList_append_own _ rfl _ _ 29 rfl w.heap.size 3 i0 _ 1 8 Try.underlying29 hi hz0 hz1 hz2 rfl (by decide) _ _ _ rfl (HOI.out.alloc _) ⟨wr.heap.size, 0, none⟩ 1 1 [.int .i64 (x : Int)] rfl rfl (new_cells wr [.int .i64 (x : Int)] _) (one_int _) (by have := HLN.out; unfold maxLen; omega) (by have := HLN.out; omega) (by have := HBI.out.size; simp; omega) ?_); intro v' w3 hown3 hgrow _)
                have hB3 : Below w.heap.size w w3 := (HBI.out.alloc HBI.out.size _).grown hgrow (by have := HBI.out.size; simp; omega) (fun g hg => (World.ownsRow.lt HOI.out g hg).1)
                have hbx3 : w3.heap[bt]? = some (.cells #[.int .i64 (F : Int), .int .i64 (G : Int)] 51 (0, 0)) := (hgrow.block _ (by have := HBT.out; simp; omega) (cells_not_row HBXI.out (by decide) HOI.out)).trans ((Below.heap_alloc _ _ _ HBT.out).trans HBXI.out)
                go_roundw
                case rel => exact ⟨i + 1, x + 1, v', by omega, by have := HX.out; omega, by go_num, rfl, by rw [HST.out]; exact hown3, hbx3, hB3⟩
                case measure => simp [intOf]; have := HX.out; have := HGD.out; omega
              · have d1 : decide ((x : Int) < (G : Int)) = false := decide_eq_false (by have := HX.out; have := HGD.out; omega)
                have d2 : decide (x < G) = false := decide_eq_false (by have := HX.out; have := HGD.out; omega)
                obtain rfl : i = D := by omega
                have HON := HOI.out
                have hw1 := wrap_nx hlt HCAP.out.1 HCAP.out.2
                go_wp2
                clear d1 d2 hw1
                go_roundw
                case rel => exact ⟨j + 1, y, by omega, by go_num, rfl, by rw [HNX.out, List.length_append, List.length_map, List.length_range]; exact HON, HBI.out⟩
                case measure => simp [intOf]; omega
          · obtain rfl : j = L.length := by omega
            have HT : Hid (L.take L.length = L) := Lib.hid (List.take_of_length_le (Nat.le_refl _))
            rw [HT.out] at HOWN
            clear HT
            go_wp2
            go_ret2
            rw [HYE.out, HYL.out]
            exact ⟨_, rfl, idxS_of HOWN.out, HB.out⟩
end Go.Proofs.Ytdcpgjkaimekbaa
