/- Spans: Blocks, the document's. -/
import Derived.Test.YtdcpgjkaimekbaaSpnF
namespace Go.Proofs.Ytdcpgjkaimekbaa
open Go.RowKit

theorem blk_over {L : List RG} {j : Nat} (h : 65536 < many (L.take (j + 1))) : blkE L = 1 ∧ blkL L = [] := by
  by_cases ha : ∀ r ∈ L, rgOk r = true
  · exact blk_no (.inr (by have := many_mono L (j + 1) ha; omega))
  · exact blk_no (.inl ha)
theorem many_flat {L : List RG} {j : Nat} (h : ∀ r ∈ L.take j, rgOk r = true) : (((L.take j).flatMap rgB).length : Int) = many (L.take j) := flat_rg_len _ h
set_option maxRecDepth 100000 in
set_option maxHeartbeats 4000000 in
theorem rBlocks_any (L : List RG) (v : Value) (w : World) (hv : RgsS w v L) :
    Calls Try.prog 30 #[v] w fun e w' => ∃ x, e = .returned (.tuple #[x, .int .i64 (blkE L)]) ∧ IdxS w' x (blkL L) ∧ Below w.heap.size w w' := by
  obtain ⟨A, cap, rfl, hc1, hc2, hc3⟩ := hv
  have HC3 := Lib.hid hc3
  have HCAP := Lib.hid (And.intro hc1 hc2)
  clear hc1 hc2 hc3
  obtain ⟨i0, hi, hz0, hz1, hz2⟩ := intInfo'
  go_enter Try.func30, Try.ntmps30
  go_wp2
  go_loopw [4, 10] (fun vx ix wr => ∃ (j : Nat) (z : Value), j ≤ L.length ∧ ix = .int .i64 (j : Int) ∧ z = vx ∧ (∀ r ∈ L.take j, rgOk r = true) ∧ many (L.take j) ≤ 65536 ∧ wr.ownsRow w.heap.size 3 1 z ((L.take j).flatMap rgB).length (ints ((L.take j).flatMap rgB)) ∧ Below w.heap.size w wr) (fun _ ix _ => L.length - (intOf ix).toNat)
  case atStart => exact ⟨0, .slice none 0 0, Nat.zero_le _, rfl, rfl, (fun r h => by cases h), (show (0 : Int) ≤ 65536 by decide), World.ownsRow_nil _ _ _ _, Below.refl _ _⟩
  case round =>
    obtain ⟨j, z, hj, rfl, rfl, hok, hmn, hown, hB⟩ := hrel
    have HB := Lib.hid hB
    have HOWN := Lib.hid hown
    have HOK := Lib.hid hok
    have HMN := Lib.hid hmn
    clear hB hown hok hmn
    by_cases hlt : j < L.length
    · obtain ⟨b, off, rfl, hb, hcell⟩ := HC3.out.resolve_left (by intro e; rw [e] at hlt; simp at hlt)
      have hcA : ∀ q u, (L.getD j RG.zero).cells[q]? = some u → wr.cell? ⟨b, off + j * 2 + q, none⟩ = some u := fun q u hu => (HB.out.cell (p := ⟨b, off + j * 2 + q, none⟩) hb).trans (hcell j hlt q u hu)
      have HNX := Lib.hid (flat_take L hlt)
      have HPL := Lib.hid (many_flat HOK.out)
      have HNO : Hid (rgOk (L.getD j RG.zero) = false → blkE L = 1 ∧ blkL L = []) := Lib.hid (fun h => blk_no (.inl (fun h2 => by rw [h2 _ (getD_memR hlt)] at h; cases h)))
      have HYES : Hid (rgOk (L.getD j RG.zero) = true → (∀ r ∈ L.take (j + 1), rgOk r = true) ∧ many (L.take (j + 1)) = many (L.take j) + ((L.getD j RG.zero).t - (L.getD j RG.zero).f)) := Lib.hid (fun h => ⟨mem_take_snoc hlt HOK.out h, by rw [getD_snoc RG.zero hlt, many_snoc]⟩)
      have HOV : Hid (65536 < many (L.take (j + 1)) → blkE L = 1 ∧ blkL L = []) := Lib.hid blk_over
      have HNAT : Hid (rgOk (L.getD j RG.zero) = true → _) := Lib.hid (fun h => rg_nat h)
      clear hcell hb
      generalize L.getD j RG.zero = p at hcA HNX HNO HYES HNAT
      obtain ⟨pf, pt⟩ := p
      have q0 : wr.cell? ⟨b, off + j * 2, none⟩ = some (.int .i64 pf) := hcA 0 _ rfl
      have q1 : wr.cell? ⟨b, off + j * 2 + 1, none⟩ = some (.int .i64 pt) := hcA 1 _ rfl
      rw [← Bool.not_eq_true, rgOk_iff] at HNO
      rw [rgOk_iff] at HYES HNAT
      dsimp only at HNO HYES HNAT
      clear hcA
      have HBN := Lib.hid (HB.out.alloc HB.out.size (.cells #[.int .i64 pf, .int .i64 pt] 51))
      have HONE := HOWN.out
      obtain ⟨zA, zc, rfl, _⟩ := ownS_form HONE
      clear HONE
      generalize hP : (L.take j).flatMap rgB = P at HOWN HNX HPL ⊢
      clear hP
      by_cases g1 : pf < 0
      · have d1 : decide (pf < (0 : Int)) = true := decide_eq_true g1
        have HE := Lib.hid (HNO.out (fun h => by omega))
        clear HYES HNAT HNO
        go_wp2
        go_ret2
        rw [HE.out.1, HE.out.2]
        exact ⟨_, rfl, ⟨none, 0, rfl, Nat.le_refl _, Nat.zero_le _, .inl rfl⟩, HBN.out⟩
      by_cases g2 : pt < pf
      · have d1 : decide (pf < (0 : Int)) = false := decide_eq_false g1
        have d2 : decide (pt < pf) = true := decide_eq_true g2
        have HE := Lib.hid (HNO.out (fun h => by omega))
        clear HYES HNAT HNO
        go_wp2
        go_ret2
        rw [HE.out.1, HE.out.2]
        exact ⟨_, rfl, ⟨none, 0, rfl, Nat.le_refl _, Nat.zero_le _, .inl rfl⟩, HBN.out⟩
      by_cases g3 : 65536 < pt
      · have d1 : decide (pf < (0 : Int)) = false := decide_eq_false g1
        have d2 : decide (pt < pf) = false := decide_eq_false g2
        have d3 : decide ((65536 : Int) < pt) = true := decide_eq_true g3
        have HE := Lib.hid (HNO.out (fun h => by omega))
        clear HYES HNAT HNO
        go_wp2
        go_ret2
        rw [HE.out.1, HE.out.2]
        exact ⟨_, rfl, ⟨none, 0, rfl, Nat.le_refl _, Nat.zero_le _, .inl rfl⟩, HBN.out⟩
      obtain ⟨k1, k2⟩ := HYES.out (by omega)
      have HK1 := Lib.hid k1
      have HK2 := Lib.hid k2
      obtain ⟨F, D, hFD, hFD2, hrB⟩ := HNAT.out (by omega)
      injection hFD with hf ht
      subst hf
      obtain ⟨G, hG⟩ : ∃ G, G = F + D := ⟨_, rfl⟩
      rw [← hG] at ht hFD2
      subst ht
      have HGD := Lib.hid hG
      have hn0 : P.length ≤ 65536 := by have := HPL.out; have := HMN.out; omega
      have HMO : Hid (many (L.take (j + 1)) = (P.length : Int) + (D : Int)) := Lib.hid (by rw [HK2.out, HPL.out]; have := HGD.out; omega)
      have HRB := Lib.hid hrB
      clear k1 k2 HYES HNAT HNO HK2 hG hrB
      have d1 : decide ((F : Int) < (0 : Int)) = false := decide_eq_false g1
      have d2 : decide ((G : Int) < (F : Int)) = false := decide_eq_false g2
      have d2' : decide (G < F) = false := decide_eq_false (by omega)
      have d3 : decide ((65536 : Int) < (G : Int)) = false := decide_eq_false g3
      have d3' : decide (65536 < G) = false := decide_eq_false (by omega)
      by_cases g4 : 65536 < (P.length : Int) + (G : Int) - (F : Int)
      · have d4 : decide ((65536 : Int) < (P.length : Int) + (G : Int) - (F : Int)) = true := decide_eq_true g4
        have HE := Lib.hid (HOV.out (by have := HMO.out; have := HGD.out; omega))
        go_wp2
        go_ret2
        rw [HE.out.1, HE.out.2]
        exact ⟨_, rfl, ⟨none, 0, rfl, Nat.le_refl _, Nat.zero_le _, .inl rfl⟩, HBN.out⟩
      · have d4 : decide ((65536 : Int) < (P.length : Int) + (G : Int) - (F : Int)) = false := decide_eq_false g4
        have HLN : Hid (P.length + D ≤ 65536) := Lib.hid (by have := HGD.out; omega)
        have HML : Hid (many (L.take (j + 1)) ≤ 65536) := Lib.hid (by rw [HMO.out]; have := HLN.out; omega)
        have HLT : Hid (j + 1 ≤ L.length) := Lib.hid hlt
        have HLM : Hid (L.length - (j + 1) < L.length - j) := Lib.hid (by omega)
        obtain ⟨wo, hwo⟩ : ∃ wo, wo = wr := ⟨_, rfl⟩
        have HBX := Lib.hid (show (wr.alloc (.cells #[.int .i64 (F : Int), .int .i64 (G : Int)] 51)).heap[wr.heap.size]? = some (.cells #[.int .i64 (F : Int), .int .i64 (G : Int)] 51 (0, 0)) from heap_alloc_new wr _)
        have HO1 := Lib.hid (ownS_keep HOWN.out (below_new wr (.cells #[.int .i64 (F : Int), .int .i64 (G : Int)] 51)))
        subst hwo
        go_wp2
        generalize hbt : wo.heap.size = bt at HBX ⊢
        clear q0 q1 hbt d1 d2 d2' d3 d3' d4
        generalize wo.alloc (.cells #[.int .i64 (F : Int), .int .i64 (G : Int)] 51) = w1 at HBX HO1 HBN ⊢
        go_loopw [4, 7] (fun vx bx wi => ∃ (i x : Nat) (y : Value), i ≤ D ∧ x = F + i ∧ bx = .int .i64 (x : Int) ∧ y = vx ∧ wi.ownsRow w.heap.size 3 1 y (P.length + i) (ints (P ++ (List.range i).map (fun (j : Nat) => (F : Int) + (j : Int)))) ∧ wi.heap[bt]? = some (.cells #[.int .i64 (F : Int), .int .i64 (G : Int)] 51 (0, 0)) ∧ Below w.heap.size w wi) (fun _ bx _ => G - (intOf bx).toNat)
        case atStart => exact ⟨0, F, _, Nat.zero_le _, rfl, rfl, rfl, by rw [Nat.add_zero, List.range_zero, List.map_nil, List.append_nil]; exact HO1.out, HBX.out, HBN.out⟩
        case round =>
          obtain ⟨i, x, y, hi', hx, rfl, rfl, hown, hbx, hB⟩ := hrel
          have HX := Lib.hid hx
          have HOI := Lib.hid hown
          have HBI := Lib.hid hB
          have HBXI := Lib.hid hbx
          have r0 : wr.cell? ⟨bt, 0, none⟩ = some (.int .i64 (F : Int)) := (cell_of_row wr bt 0 _ _ (0, 0) hbx).trans rfl
          have r1 : wr.cell? ⟨bt, 1, none⟩ = some (.int .i64 (G : Int)) := (cell_of_row wr bt 1 _ _ (0, 0) hbx).trans rfl
          have HBT : Hid (bt < wr.heap.size) := Lib.hid (Array.getElem?_eq_some_iff.1 hbx).1
          clear hx hown hB hbx HBX HO1
          by_cases hil : i < D
          · have d1 : decide ((x : Int) < (G : Int)) = true := decide_eq_true (by have := HX.out; have := HGD.out; omega)
            have d2 : decide (x < G) = true := decide_eq_true (by have := HX.out; have := HGD.out; omega)
            have hxb : x ≤ 65536 := by have := HX.out; have := HGD.out; omega
            have hst := rg_step F i P
            rw [show (F : Int) + (i : Int) = (x : Int) by have := HX.out; omega] at hst
            have HST := Lib.hid hst
            clear hst
            go_wp2_with (at_builtin; (refine wpList_append_own _ rfl _ _ 29 rfl w.heap.size 3 i0 _ 1 8 Try.underlying29 hi hz0 hz1 hz2 rfl (by decide) _ _ _ rfl (HOI.out.alloc _) ⟨wr.heap.size, 0, none⟩ 1 1 [.int .i64 (x : Int)] rfl rfl (new_cells wr [.int .i64 (x : Int)] _) (one_int _) (by have := HLN.out; unfold maxLen; omega) (by have := HLN.out; omega) (by have := HBI.out.size; simp; omega) ?_); intro v' w3 hown3 hgrow _)
            have hB3 : Below w.heap.size w w3 := (HBI.out.alloc HBI.out.size _).grown hgrow (by have := HBI.out.size; simp; omega) (fun g hg => (World.ownsRow.lt HOI.out g hg).1)
            have hbx3 : w3.heap[bt]? = some (.cells #[.int .i64 (F : Int), .int .i64 (G : Int)] 51 (0, 0)) := (hgrow.block _ (by have := HBT.out; simp; omega) (cells_not_row HBXI.out (by decide) HOI.out)).trans ((Below.heap_alloc _ _ _ HBT.out).trans HBXI.out)
            go_roundw
            case rel => exact ⟨i + 1, x + 1, v', by omega, by have := HX.out; omega, by go_num, rfl, by rw [HST.out]; exact hown3, hbx3, hB3⟩
            case measure => simp [intOf]; have := HX.out; have := HGD.out; omega
          · have d1 : decide ((x : Int) < (G : Int)) = false := decide_eq_false (by have := HX.out; have := HGD.out; omega)
            have d2 : decide (x < G) = false := decide_eq_false (by have := HX.out; have := HGD.out; omega)
            obtain rfl : i = D := by omega
            have HON := HOI.out
            have hw1 := wrap_nx hlt HCAP.out.1 HCAP.out.2
            go_wp2
            clear d1 d2
            rw [hw1]
            clear hw1
            go_roundw
            case rel => exact ⟨j + 1, y, HLT.out, by go_num, rfl, HK1.out, HML.out, by rw [HNX.out, HRB.out, List.length_append, List.length_map, List.length_range]; exact HON, HBI.out⟩
            case measure => simp [intOf]; exact HLM.out
    · obtain rfl : j = L.length := by omega
      have HT : Hid (L.take L.length = L) := Lib.hid (List.take_of_length_le (Nat.le_refl _))
      rw [HT.out] at HOWN HOK HMN
      have HE := Lib.hid (blk_yes HOK.out HMN.out)
      clear HT
      go_wp2
      go_ret2
      rw [HE.out.1, HE.out.2]
      exact ⟨_, rfl, idxS_of HOWN.out, HB.out⟩
end Go.Proofs.Ytdcpgjkaimekbaa
