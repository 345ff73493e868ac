/- Pools: the walk of PoolPlays. -/
import Derived.Test.YtmnjcmpikbihaaaPoolS
import Derived.Test.YtmnjcmpikbihaaaPoolK
import Derived.Deep.DeepCutAuto
namespace Go.Proofs.Ytmnjcmpikbihaaa
open Go.RowKit Go.Maps

set_option maxHeartbeats 16000000 in
set_option maxRecDepth 100000 in
theorem poolPlays_walk {w : World} {v : Value} {R : List A17} (hv : A17W w v R) :
    Calls Try.prog 3 #[v] w fun e w' => e = .returned (.bool true) ∧ Below w.heap.size w w' := by
  obtain ⟨⟨A, c1, rfl, k1, k2, k3⟩, hg⟩ := hv
  have hL := poolLives_any w
  obtain ⟨N, hN⟩ : ∃ N, N = R.length := ⟨_, rfl⟩
  have HN := Lib.hid hN
  rw [← hN] at k1 ⊢
  have HK := Lib.hid k3
  have HG := Lib.hid hg
  clear hN k3 hg
  by_cases h100 : 100 < N
  · have d1 : decide ((100 : Int) < (N : Int)) = true := decide_eq_true (by omega)
    go_enter Try.func3, Try.ntmps3
    go_wp2_with (first
      | (go_at_call 4; refine hL.mono ?_; rintro e w1 ⟨rfl, hb1⟩; have HB1 := Lib.hid hb1; clear hb1)
      | (go_at_call 5; refine (poolNew_any w1).mono ?_; rintro e w2 ⟨rfl, _, hb2⟩; have HB2 := Lib.hid hb2; clear hb2))
    go_ret
    exact ⟨rfl, HB1.out.trans (HB2.out.mono HB1.out.size)⟩
  have d1 : decide ((100 : Int) < (N : Int)) = false := decide_eq_false (by omega)
  have hN100 : N ≤ 100 := by omega
  have HN1 := Lib.hid hN100
  clear h100
  go_enter Try.func3, Try.ntmps3
  go_wp2_with (first
    | (go_at_call 4; refine hL.mono ?_; rintro e w1 ⟨rfl, hb1⟩; have HB1 := Lib.hid hb1; clear hb1)
    | (go_at_call 5; refine (poolNew_any w1).mono ?_; rintro e w2 ⟨rfl, hp2, hb2⟩; have HA := Lib.hid (KP.start (PoolNew.start hp2 hb2)); clear hp2 hb2))
  have hS := HA.out
  obtain ⟨b0, hbb⟩ : ∃ b, b = w1.heap.size + 1 := ⟨_, rfl⟩
  obtain ⟨bx, hbx⟩ : ∃ b, b = w2.heap.size := ⟨_, rfl⟩
  rw [← hbb, ← hbx] at hS
  rw [← hbb, ← hbx]
  have HS := Lib.hid hS
  clear HA hS hbb hbx
  go_loopw [3, 33] (fun px ix wr => ∃ (j n b m : Nat) (L : PL) (z : Value), j ≤ N ∧ n ≤ j ∧ ix = .int .i64 (j : Int) ∧ px = .pointer (some ⟨b, 0, none⟩) ∧ KP w1 wr bx b m L n z) (fun _ ix _ => N - idxOf ix)
  case atStart => exact ⟨0, 0, _, _, _, _, Nat.zero_le _, Nat.le_refl _, rfl, rfl, HS.out⟩
  case round =>
    obtain ⟨j, n, b, m, L, z, hj, hnj, rfl, rfl, ha⟩ := hrel
    have HA := Lib.hid ha
    clear ha HS
    by_cases hlt : j < N
    · obtain ⟨g, o, rfl, hglt, hk⟩ := HK.out.resolve_left (by intro e; have := HN.out; rw [e] at this; simp at this; omega)
      have hjR : j < R.length := by rw [← HN.out]; exact hlt
      have hmem : R.getD j A17.zero ∈ R := by rw [List.getD, List.getElem?_eq_getElem hjR]; exact List.getElem_mem hjR
      have hga := HG.out _ hmem
      have hbw : Below w.heap.size w wr := HB1.out.trans (HA.out.pool.be.mono HB1.out.size)
      have hc : ∀ q u, (R.getD j A17.zero).enc[q]? = some u → wr.cell? ⟨g, o + j * 4 + q, none⟩ = some u := fun q u hu => (hbw.cell (p := ⟨g, o + j * 4 + q, none⟩) hglt).trans (hk j hjR q u hu)
      clear hk
      generalize R.getD j A17.zero = a at hga hc
      obtain ⟨ak, at', ai, av, aK⟩ := a
      have q0 : wr.cell? ⟨g, o + j * 4, none⟩ = some (.int .i64 ak) := hc 0 _ rfl
      have q1 : wr.cell? ⟨g, o + j * 4 + 1, none⟩ = some (.string at') := hc 1 _ rfl
      have q2 : wr.cell? ⟨g, o + j * 4 + 2, none⟩ = some (.int .i64 ai) := hc 2 _ rfl
      have q3 : wr.cell? ⟨g, o + j * 4 + 3, none⟩ = some av := hc 3 _ rfl
      have HV : Hid (IdxS wr av aK ∧ ∀ x ∈ aK, -9223372036854775808 ≤ x ∧ x ≤ 9223372036854775807) := Lib.hid ⟨hga.1.below hbw (Nat.le_refl _), hga.2.1⟩
      have HAI : Hid (-9223372036854775808 ≤ ai ∧ ai ≤ 9223372036854775807) := Lib.hid hga.2.2
      have hi0 : (0 : Int) ≤ (j : Int) := by omega
      have hi1 : (j : Int) < (N : Int) := by omega
      obtain ⟨A3, l3, c3, rfl⟩ : ∃ A l c, av = .slice A l c := by obtain ⟨A', c', e, _⟩ := hga.1; exact ⟨_, _, _, e⟩
      have hj1 : j + 1 ≤ N := hlt
      have hms : N - (j + 1) < N - j := by omega
      have hn1000 : n + 1 ≤ 1000 := by omega
      have HJ : Hid (j + 1 ≤ N ∧ N - (j + 1) < N - j ∧ n ≤ j ∧ n + 1 ≤ 1000) := Lib.hid ⟨hj1, hms, hnj, hn1000⟩
      obtain ⟨hw1, hw2⟩ := nextP j (by omega)
      obtain ⟨BX, hBX⟩ : ∃ BX, BX = wr.alloc (.cells #[.int .i64 ak, .string at', .int .i64 ai, .slice A3 l3 c3] 31) := ⟨_, rfl⟩
      have hh := heap_alloc_new wr (.cells #[.int .i64 ak, .string at', .int .i64 ai, .slice A3 l3 c3] 31)
      rw [← hBX] at hh
      have hbx : Below wr.heap.size wr BX := by rw [hBX]; exact below1P wr _
      have x0 : BX.cell? ⟨wr.heap.size, 0, none⟩ = some (.int .i64 ak) := by rw [cell_of_row _ _ _ _ _ (0, 0) hh]; rfl
      have x1 : BX.cell? ⟨wr.heap.size, 1, none⟩ = some (.string at') := by rw [cell_of_row _ _ _ _ _ (0, 0) hh]; rfl
      have x2 : BX.cell? ⟨wr.heap.size, 2, none⟩ = some (.int .i64 ai) := by rw [cell_of_row _ _ _ _ _ (0, 0) hh]; rfl
      have x3 : BX.cell? ⟨wr.heap.size, 3, none⟩ = some (.slice A3 l3 c3) := by rw [cell_of_row _ _ _ _ _ (0, 0) hh]; rfl
      have hbm : b < wr.heap.size ∧ m < wr.heap.size := ⟨HA.out.pool.at'.lt, HA.out.pool.at'.map.lt⟩
      have hszx : wr.heap.size < BX.heap.size := by rw [hBX]; simp
      have HCX : Hid (∀ w3 : World, Ap (fun k => k = b ∨ k = m) BX w3 → w3.cell? ⟨wr.heap.size, 1, none⟩ = some (.string at') ∧ w3.cell? ⟨wr.heap.size, 2, none⟩ = some (.int .i64 ai) ∧ w3.cell? ⟨wr.heap.size, 3, none⟩ = some (.slice A3 l3 c3)) := Lib.hid (fun w3 h => by
        have nx : ¬ (wr.heap.size = b ∨ wr.heap.size = m) := by omega
        exact ⟨(h.cell hszx nx 1).trans x1, (h.cell hszx nx 2).trans x2, (h.cell hszx nx 3).trans x3⟩)
      have HA2 := Lib.hid (HA.out.below hbx)
      have HV2 : Hid (IdxS BX (.slice A3 l3 c3) aK ∧ ∀ x ∈ aK, -9223372036854775808 ≤ x ∧ x ≤ 9223372036854775807) := Lib.hid ⟨HV.out.1.below hbx (Nat.le_refl _), HV.out.2⟩
      have HBX := Lib.hid hBX
      clear hbx HA HV hbm hszx hj1 hms hn1000 hnj hc hga hmem hjR hbw hh
      go_upto_region 10 with fail
      rw [← hBX]
      clear hBX q0 q1 q2 q3
      go_cut [37, 38] (fun s37 s38 wx => s37 = .pointer (some ⟨wr.heap.size, 0, none⟩) ∧ s38 = .int .i64 ak ∧ wx = BX)
      case first =>
        go_wp2_with fail
        go_meet
        exact ⟨rfl, rfl, rfl⟩
      case rest =>
      obtain ⟨rfl, rfl, hwx⟩ := hcut
      rename_i hKK
      rw [hwx]
      clear hwx
      apply hKK
      go_cut [3] (fun px wx => ∃ (n' b' m' : Nat) (L' : PL) (z' : Value), n' ≤ j + 1 ∧ px = .pointer (some ⟨b', 0, none⟩) ∧ KP w1 wx bx b' m' L' n' z')
      case first =>
        have hxs : BX.heap.size = wr.heap.size + 1 := by rw [HBX.out]; simp
        have hlen := HA2.out.pool.at'.len
        have hL1000 : L.length ≤ 1000 := by have := HJ.out.2.2.2; omega
        have hn1 : n ≤ 1000 := by have := HJ.out.2.2.2; omega
        have hn2 : n ≤ 1073741824 := by omega
        have hbase := HA2.out.pool.be.size
        obtain ⟨zA, zc, hz, -, -⟩ := ownS_form HA2.out.row
        have hc0 := HA2.out.c0
        have hc1 := HA2.out.c1
        by_cases hk0 : ak = 0
        · subst hk0
          have hRA := refAdd_any HA2.out.row hbase hL1000 n hn1 at'
          have hPA : ∀ W, PoolAt W b m L n → _ := fun W d => poolAdd_any (w := W) (b := b) (m := m) d at'
          have hsz : Sized (addL L n at') := HA2.out.sz.add n at'
          have hnn : addN n at' ≤ j + 1 := by have := HJ.out.2.2.1; unfold addN; split <;> omega
          generalize (if addE n at' = 0 then (n : Int) + 1 else 0) = rid at hRA hPA
          generalize addE n at' = re at hRA hPA
          generalize addN n at' = n2 at hRA hPA hnn
          generalize addL L n at' = L2 at hRA hPA hsz
          have HSZ := Lib.hid hsz
          have HNN := Lib.hid hnn
          have HT : Hid (∀ (w3 w4 : World) (v' : Value), _ → _ → _ → _ → _ → KM w1 w4 bx b m L2 n2 v' w3.heap.size) := Lib.hid (fun w3 w4 v' hb ho hv hp ha => HA2.out.turn (W1 := w3) (W3 := w4) (v' := v') hb ho hv hp (.inl rfl) ha hsz)
          have HP0 := Lib.hid HA2.out.pool.at'
          subst hz
          clear hsz hnn HSZ hlen hL1000 hn1 hn2 hbase HV2
          go_wp2_with (first
            | (go_at_call 6; (with_reducible refine hRA.mono ?_); rintro e w3 ⟨v', rfl, ho3, hv3, hb3⟩; obtain ⟨vA, vc, rfl, -, -⟩ := ownS_form ho3; have hbn := hb3.alloc hb3.size (.cells #[.slice vA L2.length vc, .int .i64 (n2 : Int)] 28); have y1 := (HCX.out _ (Ap.of_below hbn)).1; have HPN := Lib.hid (HP0.out.below hbn); have HO3 := Lib.hid ho3; have HV3 := Lib.hid hv3; have HB3 := Lib.hid hb3; clear ho3 hv3 hb3 hbn)
            | (go_at_call 7; (with_reducible refine (hPA _ HPN.out).mono ?_); rintro e w4 ⟨rfl, hp4, ha4⟩; have HM := Lib.hid (HT.out w3 w4 _ HB3.out HO3.out HV3.out hp4 ha4); clear hp4 ha4; obtain ⟨oA, ok, oc, ox, o0, o1⟩ := HM.out.c; have y2 := HM.out.y0; have y3 := HM.out.y1; have f0 := HM.out.f0; have f1 := HM.out.f1))
          go_meet
          exact ⟨n2, b, m, L2, _, HNN.out, rfl, HM.out.done⟩
        · have b0' : (ak == 0) = false := by rw [beq_eq_false_iff_ne]; exact hk0
          by_cases hk1 : ak = 1
          · subst hk1
            have hRG := fun W (hb : Below BX.heap.size BX W) => refGet_any (HA2.out.below hb).one (n : Int) ai hL1000
            have hPG := fun W (hb : Below BX.heap.size BX W) => poolGet_any (HA2.out.below hb).pool.at' ai HAI.out
            generalize (⟨(getV L ai).toArray⟩ : ByteArray) = gv at hRG hPG
            generalize getE L ai = ge at hRG hPG
            subst hz
            have HNN := Lib.hid (show n ≤ j + 1 from Nat.le_succ_of_le HJ.out.2.2.1)
            clear hlen hL1000 hn1 hn2 hbase HV2
            go_wp2_with (first
              | (go_at_call 8; (with_reducible refine (hRG _ (Below.refl _ _)).mono ?_); rintro e w3 ⟨rfl, hb3⟩; have y1 := (HCX.out _ (Ap.of_below hb3)).2.1; have HB3 := Lib.hid hb3; clear hb3)
              | (go_at_call 9; (with_reducible refine (hPG _ HB3.out).mono ?_); rintro e w4 ⟨rfl, hb4⟩; have HB4 := Lib.hid (HB3.out.trans (hb4.mono HB3.out.size)); clear hb4))
            go_meet
            exact ⟨n, b, m, L, _, HNN.out, rfl, HA2.out.below HB4.out⟩
          · have b1' : (ak == 1) = false := by rw [beq_eq_false_iff_ne]; exact hk1
            by_cases hk2 : ak = 2
            · subst hk2
              have hRK := refKeep_any HA2.out.one (n : Int) hL1000 HV2.out.1
              have hPK : ∀ W, PoolAt W b m L n → IdxS W (.slice A3 l3 c3) aK → _ := fun W d hi => poolKeep_any (w := W) (b := b) (m := m) d hn2 hi HV2.out.2
              have hsz : Sized (keepP L aK) := HA2.out.sz.keep aK
              generalize keepP L aK = L2 at hRK hPK hsz
              generalize L.length - L2.length = rid at hRK hPK
              have HNN := Lib.hid (show n ≤ j + 1 from Nat.le_succ_of_le HJ.out.2.2.1)
              have HT : Hid (∀ (w3 w4 : World) (v' : Value), Below BX.heap.size BX w3 → w3.ownsRow BX.heap.size 52 2 v' L2.length (L2.flatMap enc1) → _ → _ → KM w1 w4 bx b (w3.heap.size + 1) L2 n v' w3.heap.size) := Lib.hid (fun w3 w4 v' hb ho hp ha => HA2.out.turn (W1 := w3) (W3 := w4) (v' := v') (m' := w3.heap.size + 1) hb (own_low ho hbase) (fun g hg => .inr (World.ownsRow.lt ho g hg).1) hp (.inr (Nat.le_refl _)) ha hsz)
              have HP0 := Lib.hid HA2.out.pool.at'
              have HV3 := Lib.hid HV2.out.1
              subst hz
              clear hsz hlen hL1000 hn1 hn2 hbase HV2
              go_wp2_with (first
                | (go_at_call 10; (with_reducible refine hRK.mono ?_); rintro e w3 ⟨v', rfl, ho3, hb3⟩; obtain ⟨vA, vc, rfl, -, -⟩ := ownS_form ho3; have hbn := hb3.alloc hb3.size (.cells #[.slice vA L2.length vc, .int .i64 (n : Int)] 28); have y1 := (HCX.out _ (Ap.of_below hbn)).2.2; have HPN := Lib.hid (HP0.out.below hbn); have HVN := Lib.hid (HV3.out.below hbn (Nat.le_refl _)); have HO3 := Lib.hid ho3; have HB3 := Lib.hid hb3; clear ho3 hb3 hbn)
                | (go_at_call 11; (with_reducible refine (hPK _ HPN.out HVN.out).mono ?_); rintro e w4 ⟨rfl, hp4, ha4⟩; rw [World.size_alloc] at hp4; have HM := Lib.hid (HT.out w3 w4 _ HB3.out HO3.out hp4 (ha4.weak (fun _ h => .inl h))); clear hp4 ha4; obtain ⟨oA, ok, oc, ox, o0, o1⟩ := HM.out.c; have y2 := HM.out.y0; have y3 := HM.out.y1; have f0 := HM.out.f0; have f1 := HM.out.f1))
              go_meet
              exact ⟨n, b, _, L2, _, HNN.out, rfl, HM.out.done⟩
            · have b2' : (ak == 2) = false := by rw [beq_eq_false_iff_ne]; exact hk2
              have HNN := Lib.hid (show n ≤ j + 1 from Nat.le_succ_of_le HJ.out.2.2.1)
              by_cases hk3 : ak = 3
              · subst hk3
                have hPC := poolClone_any HA2.out.pool.at'
                have HP0 := Lib.hid HA2.out.pool.at'
                have hna : addN n ⟨#[103, 111, 110, 101]⟩ ≤ 1073741824 := by have := HJ.out.2.2.2; unfold addN; split <;> omega
                have hAO : ∀ W, PoolAt W b m L n → Calls Try.prog 7 #[.pointer (some ⟨b, 0, none⟩), .string ⟨#[103, 111, 110, 101]⟩] W fun e w' => (∃ r q : Int, e = .returned (.tuple #[.int .i64 r, .int .i64 q])) ∧ PoolAt w' b m (addL L n ⟨#[103, 111, 110, 101]⟩) (addN n ⟨#[103, 111, 110, 101]⟩) ∧ Ap (fun k => k = b ∨ k = m) W w' := fun W d =>
                  (poolAdd_any d ⟨#[103, 111, 110, 101]⟩).mono (fun e w' h => ⟨⟨_, _, h.1⟩, h.2.1, h.2.2⟩)
                have hKO : ∀ W, PoolAt W b m (addL L n ⟨#[103, 111, 110, 101]⟩) (addN n ⟨#[103, 111, 110, 101]⟩) → Calls Try.prog 11 #[.pointer (some ⟨b, 0, none⟩), .slice none 0 0] W fun e w' => (∃ r : Int, e = .returned (.int .i64 r)) ∧ Ap (fun k => k = b ∨ k = m) W w' := fun W d =>
                  (poolKeep_any d hna (v := .slice none 0 0) (K := []) ⟨none, 0, rfl, Nat.le_refl _, Nat.zero_le _, .inl rfl⟩ (fun x hx => by cases hx)).mono (fun e w' h => ⟨⟨_, h.1⟩, h.2.2.weak (fun _ h => .inl h)⟩)
                clear hlen hL1000 hn1 hn2 hbase HV2 hc0 hc1 hz
                go_wp2_with (first
                  | (go_at_call 12; (with_reducible refine hPC.mono ?_); rintro e w3 ⟨b3, m3, rfl, hp3, h31, h32, hb3⟩; have HP3 := Lib.hid hp3; have H31 := Lib.hid h31; have H32 := Lib.hid h32; have HB3 := Lib.hid hb3; have HPO := Lib.hid (HP0.out.below hb3); clear hp3 h31 h32 hb3)
                  | (go_at_call 7; (with_reducible refine (hAO _ HPO.out).mono ?_); rintro e w4 ⟨⟨r4, s4, rfl⟩, hp4, ha4⟩; have HP4 := Lib.hid hp4; have HA4 := Lib.hid ha4; clear hp4 ha4)
                  | (go_at_call 11; (with_reducible refine (hKO _ HP4.out).mono ?_); rintro e w5 ⟨⟨r5, rfl⟩, ha5⟩; have HA5 := Lib.hid (HA4.out.trans ha5); clear ha5))
                go_meet
                exact ⟨n, b3, m3, L, z, HNN.out, rfl, HA2.out.clone HP3.out H31.out H32.out HB3.out HA5.out⟩
              · have b3' : (ak == 3) = false := by rw [beq_eq_false_iff_ne]; exact hk3
                clear hlen hL1000 hn1 hn2 hbase HV2 hc0 hc1 hz
                go_wp2_with fail
                go_meet
                exact ⟨n, b, m, L, z, HNN.out, rfl, HA2.out⟩
      case rest =>
        obtain ⟨n', b', m', L', z', hnn', rfl, hkp⟩ := hcut
        have hlen := hkp.pool.at'.len
        have hn1 : n' ≤ 1000 := by have := HJ.out.2.2; omega
        have hL1000 : L'.length ≤ 1000 := by omega
        have hbz := hkp.bytes hn1
        have hIds := fun W (hb : Below wc.heap.size wc W) => poolIds_any (hkp.below hb).pool.at' (by omega)
        have hIdr := fun W (hb : Below wc.heap.size wc W) => refIds_any (hkp.below hb).one (n' : Int) hL1000
        have hBys := fun W (hb : Below wc.heap.size wc W) => poolBytes_any (hkp.below hb).pool.at' hbz
        have hByr := fun W (hb : Below wc.heap.size wc W) => refBytes_any (hkp.below hb).one (n' : Int) hL1000 hbz
        have hSame : ∀ W u v, IdxS W u (idsP L') → IdxS W v (idsP L') → Calls Try.prog 13 #[u, v] W fun e w' => e = .returned (.bool true) ∧ Below W.heap.size W w' := fun W u v h1 h2 => (idxSame_any h1 h2).mono (fun e w' h => ⟨by rw [h.1, decide_eq_true rfl], h.2⟩)
        generalize idsP L' = K' at hIds hIdr hSame
        generalize bytesP L' = bz at hBys hByr
        have hc0 := hkp.c0
        have hc1 := hkp.c1
        have hxlt := hkp.lt
        have HCB : Hid (∀ W, Below wc.heap.size wc W → W.cell? ⟨bx, 0, none⟩ = some z' ∧ W.cell? ⟨bx, 1, none⟩ = some (.int .i64 (n' : Int))) := Lib.hid (fun W hb => ⟨(hb.cell (p := ⟨bx, 0, none⟩) hxlt).trans hc0, (hb.cell (p := ⟨bx, 1, none⟩) hxlt).trans hc1⟩)
        obtain ⟨zA, zc, rfl, -, -⟩ := ownS_form hkp.row
        have HKP := Lib.hid hkp
        have HNN := Lib.hid hnn'
        have HB0 : Hid (Below wc.heap.size wc wc.drew) := Lib.hid ((Below.refl _ _).drew)
        obtain ⟨d0, d1'⟩ := HCB.out wc.drew HB0.out
        clear hkp hlen hn1 hL1000 hbz hxlt hnn' hc0 hc1 HCX HV2 x0 x1 x2 x3
        go_upto_region 34 with fail
        go_cut [128] (fun s wx => s = .bool false ∧ Below wc.heap.size wc wx)
        case first =>
          go_region_with (first
            | (go_at_call 14; (with_reducible refine (hIds _ (by first | exact HB0.out | exact HBR.out)).mono ?_); rintro e wI ⟨iv, rfl, hiv, hbi⟩; have HVI := Lib.hid hiv; have HbI := Lib.hid hbi; have HBI : Hid (Below wc.heap.size wc wI) := Lib.hid (by first | exact HB0.out.trans hbi | exact HBR.out.trans (hbi.mono HBR.out.size)); obtain ⟨i0, i1⟩ := HCB.out wI HBI.out; clear hiv hbi)
            | (go_at_call 15; (with_reducible refine (hIdr _ (by first | exact HB0.out | exact HBI.out)).mono ?_); rintro e wR ⟨rv, rfl, hrv, hbr⟩; have HVR := Lib.hid hrv; have HbR := Lib.hid hbr; have HBR : Hid (Below wc.heap.size wc wR) := Lib.hid (by first | exact HB0.out.trans hbr | exact HBI.out.trans (hbr.mono HBI.out.size)); obtain ⟨r0, r1⟩ := HCB.out wR HBR.out; clear hrv hbr)
            | (go_at_call 13; (with_reducible refine (hSame _ _ _ (by first | exact HVI.out | exact HVI.out.below HbR.out (Nat.le_refl _)) (by first | exact HVR.out | exact HVR.out.below HbI.out (Nat.le_refl _))).mono ?_); rintro e wS ⟨rfl, hbs⟩; have HBS : Hid (Below wc.heap.size wc wS) := Lib.hid (by first | exact HBR.out.trans (hbs.mono HBR.out.size) | exact HBI.out.trans (hbs.mono HBI.out.size)); obtain ⟨s0, s1⟩ := HCB.out wS HBS.out; clear hbs)
            | (go_at_call 16; (with_reducible refine (hBys _ (by first | exact HBS.out | exact HBT.out)).mono ?_); rintro e wU ⟨rfl, hbu⟩; have HBU : Hid (Below wc.heap.size wc wU) := Lib.hid (by first | exact HBS.out.trans (hbu.mono HBS.out.size) | exact HBT.out.trans (hbu.mono HBT.out.size)); obtain ⟨p0, p1⟩ := HCB.out wU HBU.out; clear hbu)
            | (go_at_call 17; (with_reducible refine (hByr _ (by first | exact HBS.out | exact HBU.out)).mono ?_); rintro e wT ⟨rfl, hbt⟩; have HBT : Hid (Below wc.heap.size wc wT) := Lib.hid (by first | exact HBS.out.trans (hbt.mono HBS.out.size) | exact HBU.out.trans (hbt.mono HBU.out.size)); obtain ⟨t0, t1⟩ := HCB.out wT HBT.out; clear hbt))
          all_goals go_wp2_with fail
          all_goals go_meet
          all_goals first | exact ⟨rfl, HBU.out⟩ | exact ⟨rfl, HBT.out⟩
        case rest =>
          obtain ⟨rfl, hb9⟩ := hcut
          have HA9 := Lib.hid (HKP.out.below hb9)
          clear hb9
          go_wp2_with fail
          go_roundw
          case rel => exact ⟨j + 1, n', b', m', L', _, HJ.out.1, HNN.out, by go_num, rfl, HA9.out⟩
          case measure => have h := HJ.out.2.1; clear hw1 hw2; simp only [idxOf]; omega
    · obtain rfl : j = N := by omega
      have hno : ¬ ((j : Int) < (j : Int)) := by omega
      have hbe := HA.out.pool.be
      go_wp2
      go_ret
      exact ⟨rfl, HB1.out.trans (hbe.mono HB1.out.size)⟩
end Go.Proofs.Ytmnjcmpikbihaaa
