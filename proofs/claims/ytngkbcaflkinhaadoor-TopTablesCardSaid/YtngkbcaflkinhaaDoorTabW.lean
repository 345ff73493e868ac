/- TopTables: the walk. -/
import Derived.Test.YtngkbcaflkinhaaDoorTabA
import Derived.Test.YtngkbcaflkinhaaDoorTopBeg
import Derived.Deep.DeepCutAuto
import Derived.Deep.RegionHeld3
namespace Go.Proofs.YtngkbcaflkinhaaDoor
open Go.RowKit

theorem TT.put13 {w wr w6 : World} {b b13 B E BN : Nat} {tv tv' x y : Value} {T T' : List TB} {L : List EN} (k : TT w wr b E BN tv T L) (hb : Below wr.heap.size wr w6) (hn : B2 w6 b13 x y) (h13 : wr.heap.size ≤ b13) (hf : TabsF B w6 tv' T') (hB : b13 < B) :
    TT w ((w6.setCell ⟨b13, 0, none⟩ (.int .i64 (BN : Int))).setCell ⟨b13, 1, none⟩ tv') b E BN tv T L ∧ TN ((w6.setCell ⟨b13, 0, none⟩ (.int .i64 (BN : Int))).setCell ⟨b13, 1, none⟩ tv') b b13 BN tv' T' := by
  have ha : Ap (fun q => q = b13) w6 ((w6.setCell ⟨b13, 0, none⟩ (.int .i64 (BN : Int))).setCell ⟨b13, 1, none⟩ tv') := Ap.setCell (S := fun q => q = b13) (p := ⟨b13, 1, none⟩) (Ap.setCell (S := fun q => q = b13) (p := ⟨b13, 0, none⟩) (Ap.refl w6) (.inl rfl) _) (.inl rfl) _
  have hlt := k.b2.lt
  refine ⟨k.below (hb.trans (ha.below hb.size (fun q hq => by rw [hq]; exact h13))), by omega, B2.set2' hn _ _, (hf.ap (ha.weak (fun q hq => by show q < B; omega))).weak (by omega)⟩
theorem TT.new13 {w wr w6 : World} {b B E BN : Nat} {tv tv' : Value} {T T' : List TB} {L : List EN} (k : TT w wr b E BN tv T L) (hb : Below wr.heap.size wr w6) (hf : TabsF B w6 tv' T') (hB : b < B) :
    TT w (w6.alloc (.cells #[.int .i64 (BN : Int), tv'] 27)) b E BN tv T L ∧ TN (w6.alloc (.cells #[.int .i64 (BN : Int), tv'] 27)) b w6.heap.size BN tv' T' := by
  have hlt := k.b2.lt
  have hs := hb.size
  exact ⟨k.below (hb.alloc hb.size _), by omega, B2.new w6 _ _ _, (hf.below (below_new w6 _)).weak (by omega)⟩
theorem wrap_sm (j : Nat) (h : j ≤ 100000) : wrap64 ((j : Int) + 1) = (j : Int) + 1 := by unfold wrap64; omega
theorem wrap_8 (E : Nat) (h : E ≤ 8192) : wrap64 (8 * (E : Int)) = 8 * (E : Int) := by unfold wrap64; omega
set_option maxHeartbeats 16000000 in
set_option maxRecDepth 100000 in
theorem topTables_main {w : World} {E BN : Nat} {a p : Value} {K : List Int} {P : List (Int × Int)} (hK : U16S w a K) (hKw : ∀ x ∈ K, 0 ≤ x ∧ x < 65536) (hP : PlS w p P) (hT : Tab w) (hE : 1 ≤ E ∧ E ≤ 8192) (hBN : 1 ≤ BN ∧ BN ≤ 2000) (hKl : K.length ≤ 60) :
    Calls Tryd.prog 3 #[.int .i64 (E : Int), .int .i64 (BN : Int), a, p] w fun e w' => e = .returned (.bool true) ∧ Below w.heap.size w w' := by
  have hBg := begins_any2 w hT
  have hNw := chtNew_any (BN : Int)
  have hm : mayB (BN : Int) = true := mayB_iff.2 ⟨by omega, by omega⟩
  unfold newC newE at hNw
  rw [if_pos hm, if_pos hm] at hNw
  have hls : LS E BN [] (List.replicate BN EN.zero) := LS.new hE.1 hE.2 (by omega)
  have hCk : ∀ W : World, Calls Tryd.prog 6 #[.int .i64 (E : Int), .agg #[.int .i64 (BN : Int), .slice none 0 0]] W fun e w' => e = .returned (.int .i64 0) ∧ Below W.heap.size W w' := fun W => by
    have h := chtCheck_any (E : Int) (BN : Int) [] (.slice none 0 0) W (TabsS.none W)
    unfold chtE at h
    rw [if_pos hls.okB] at h
    exact h
  obtain ⟨KA, kc, rfl, hk1, hk2, hk3⟩ := hK
  obtain ⟨N, hN⟩ : ∃ N, N = K.length := ⟨_, rfl⟩
  have HN := Lib.hid hN
  rw [← hN] at hk1 hKl ⊢
  obtain ⟨PA, pc, rfl, hp1, hp2, hp3⟩ := hP
  obtain ⟨M, hM⟩ : ∃ M, M = P.length := ⟨_, rfl⟩
  have HM := Lib.hid hM
  rw [← hM] at hp1 ⊢
  have d1 : decide ((2000 : Int) < (BN : Int)) = false := decide_eq_false (by omega)
  have d2 : decide ((60 : Int) < (N : Int)) = false := decide_eq_false (by omega)
  have d3 : ((BN : Int) == 0) = false := by rw [beq_eq_false_iff_ne]; omega
  have HK3 := Lib.hid hk3
  have HP3 := Lib.hid hp3
  have HKW := Lib.hid hKw
  have HE := Lib.hid hE
  have HBN := Lib.hid hBN
  have HLS := Lib.hid hls
  have HKL := Lib.hid hKl
  clear hk3 hp3 hKw hE hBN hls hT hm hN hM hKl
  go_enter Tryd.func3, Tryd.ntmps3
  go_upto_region 6 with (first
    | (go_at_call 4; refine hBg.mono ?_; rintro e w1 ⟨rfl, hw1⟩; subst hw1)
    | (go_at_call 5; refine (hNw _).mono ?_; rintro e w2 ⟨rfl, _, hb2⟩; have HB2 := Lib.hid hb2; clear hb2))
  have hT0 : TT w (w2.alloc (.cells #[.int .i64 (BN : Int), .slice none 0 0] 27)) w2.heap.size E BN (.slice none 0 0) [] (List.replicate BN EN.zero) :=
    ⟨HB2.out.trans ((below_new w2 _).mono HB2.out.size), HB2.out.size, B2.new w2 _ _ _, TabsF.none _ _, HLS.out, NF.new BN⟩
  obtain ⟨b9, hb9⟩ : ∃ b9, b9 = w2.heap.size := ⟨_, rfl⟩
  rw [← hb9] at hT0 ⊢
  have HT0 := Lib.hid hT0
  generalize w2.alloc (.cells #[.int .i64 (BN : Int), .slice none 0 0] 27) = w3 at HT0 ⊢
  obtain ⟨_, c0, c1, _, _⟩ := HT0.out.b2
  clear hT0 HB2 hb9 hBg hNw
  go_upto_region 8 with (go_at_call 6; (with_reducible refine (hCk _).mono ?_); rintro e w4 ⟨rfl, hb4⟩; have HT4 := Lib.hid (HT0.out.below hb4); clear hb4)
  clear HT0 c0 c1 hCk
  go_upto_region 8 with fail
  go_cut [57, 58, 59] (fun s57 s58 s59 wx => s57 = .slice KA N kc ∧ s58 = .int .i64 (N : Int) ∧ s59 = .int .i64 0 ∧ wx = w4)
  case first =>
    go_wp2_with fail
    go_meet
    exact ⟨rfl, rfl, rfl, rfl⟩
  case rest =>
  obtain ⟨rfl, rfl, rfl, hwx⟩ := hcut
  rename_i hKK
  rw [hwx]
  clear hwx
  apply hKK
  clear hKK
  go_cut [] (fun wx => ∃ (tv : Value) (T : List TB) (L : List EN), TT w wx b9 E BN tv T L)
  case first =>
    go_wp2_with fail
    go_loopw [59] (fun ix wr => ∃ (i : Nat) (tv : Value) (T : List TB) (L : List EN), i ≤ N ∧ ix = .int .i64 (i : Int) ∧ TT w wr b9 E BN tv T L) (fun ix _ => N - idxOf ix)
    case atStart => exact ⟨0, _, _, _, Nat.zero_le _, rfl, HT4.out⟩
    case round =>
      obtain ⟨i, tv, T, L, hi, rfl, htt⟩ := hrel
      have HTT := Lib.hid htt
      clear htt HT4
      by_cases hlt : i < N
      · obtain ⟨g, o, rfl, hglt, hk⟩ := HK3.out.resolve_left (by intro e; have := HN.out; rw [e] at this; simp at this; omega)
        have hiK : i < K.length := by rw [← HN.out]; exact hlt
        have hmem : K.getD i 0 ∈ K := by rw [List.getD, List.getElem?_eq_getElem hiK]; exact List.getElem_mem hiK
        have hx := HKW.out _ hmem
        have q0 : wr.cell? ⟨g, o + i, none⟩ = some (.int .u16 (K.getD i 0)) := by
          have h := hk i hiK 0 _ rfl
          rw [Nat.mul_one, Nat.add_zero] at h
          exact (HTT.out.bl.cell (p := ⟨g, o + i, none⟩) hglt).trans h
        generalize K.getD i 0 = x at q0 hx
        have hi0 : (0 : Int) ≤ (i : Int) := by omega
        have hi1 : (i : Int) < (N : Int) := by omega
        have hN60 := HKL.out
        have HJ : Hid (i + 1 ≤ N ∧ N - (i + 1) < N - i) := Lib.hid ⟨hlt, by omega⟩
        have HW1 := Lib.hid (wrap_sm i (by omega))
        clear hk hiK hmem
        by_cases him : i < M
        · have dm : decide ((M : Int) ≤ (i : Int)) = false := decide_eq_false (by omega)
          have hiP : i < P.length := by rw [← HM.out]; exact him
          obtain ⟨g2, o2, rfl, hg2, hp⟩ := HP3.out.resolve_left (by intro e; rw [e] at hiP; simp at hiP)
          have HPC : Hid (∀ W : World, Below wr.heap.size wr W → W.cell? ⟨g2, o2 + i * 2, none⟩ = some (.int .i64 (P.getD i (0, 0)).1) ∧ W.cell? ⟨g2, o2 + i * 2 + 1, none⟩ = some (.int .i64 (P.getD i (0, 0)).2)) := Lib.hid (fun W hb => by
            have hbw : Below w.heap.size w W := HTT.out.bl.trans (hb.mono HTT.out.bl.size)
            exact ⟨(hbw.cell (p := ⟨g2, o2 + i * 2, none⟩) hg2).trans (hp i hiP 0 _ rfl), (hbw.cell (p := ⟨g2, o2 + i * 2 + 1, none⟩) hg2).trans (hp i hiP 1 _ rfl)⟩)
          generalize P.getD i (0, 0) = pl at HPC
          obtain ⟨st, mb⟩ := pl
          dsimp only at HPC
          obtain ⟨r, hr⟩ : ∃ r : Nat, r = x.toNat % BN := ⟨_, rfl⟩
          have hrB : r < BN := by rw [hr]; exact Nat.mod_lt _ (by have := HBN.out; omega)
          have hrm : x.tmod (BN : Int) = (r : Int) := by
            obtain ⟨y, rfl⟩ : ∃ y : Nat, x = (y : Int) := ⟨x.toNat, by omega⟩
            rw [hr, Int.toNat_natCast]; rfl
          have hrm2 : x % (BN : Int) = (r : Int) := by
            obtain ⟨y, rfl⟩ : ∃ y : Nat, x = (y : Int) := ⟨x.toNat, by omega⟩
            rw [hr, Int.toNat_natCast]; rfl
          have hwx : IntKind.i64.wrap x = x := by rw [IntKind.wrap_i64]; omega
          obtain ⟨T', L', er, hSC, hSE, hER⟩ : ∃ (T' : List TB) (L' : List EN) (er : Int), setC (E : Int) ⟨(BN : Int), T⟩ (r : Int) ⟨1, st, mb, 0⟩ = ⟨(BN : Int), T'⟩ ∧ setRE (E : Int) ⟨(BN : Int), T⟩ (r : Int) ⟨1, st, mb, 0⟩ = er ∧ (er = 0 → LS E BN T' L' ∧ NF L') := by
            by_cases hok : EOk ⟨1, st, mb, 0⟩
            · obtain ⟨h1, h2⟩ := HTT.out.ls.setY hrB hok
              exact ⟨_, L.set r ⟨1, st, mb, 0⟩, _, h1, h2, fun _ => ⟨HTT.out.ls.set hrB hok, HTT.out.nf.set r (by show (1 : Int) ≠ 2; decide)⟩⟩
            · obtain ⟨h1, h2⟩ := HTT.out.ls.setN (b := (r : Int)) (x := ⟨1, st, mb, 0⟩) (fun h => hok h.2)
              exact ⟨T, L, _, h1, rfl, fun h => absurd h h2⟩
          have HER := Lib.hid hER
          have hSet : ∀ W : World, Below wr.heap.size wr W → Calls Tryd.prog 7 #[.int .i64 (E : Int), .agg #[.int .i64 (BN : Int), tv], .int .i64 (r : Int), .agg #[.int .u8 1, .int .i64 st, .int .i64 mb, .int .i64 0]] W fun e w' => ∃ tv', e = .returned (.tuple #[.agg #[.int .i64 (BN : Int), tv'], .int .i64 er]) ∧ TabsF W.heap.size w' tv' T' ∧ Below W.heap.size W w' := fun W hb => by
            have h := chtSet_any (E : Int) (BN : Int) (r : Int) T tv ⟨1, st, mb, 0⟩ W (HTT.out.below hb).tf.tabs
            rw [hSC, hSE] at h
            exact h
          have hDk : ∀ W : World, Calls Tryd.prog 8 #[.agg #[.int .i64 st, .int .i64 mb]] W fun e w' => e = .returned (.agg #[.int .u8 1, .int .i64 st, .int .i64 mb, .int .i64 0]) ∧ Below W.heap.size W w' := fun W => entDisk_any st mb W
          have HCB : Hid (∀ W : World, Below wr.heap.size wr W → W.cell? ⟨b9, 0, none⟩ = some (.int .i64 (BN : Int)) ∧ W.cell? ⟨b9, 1, none⟩ = some tv) := Lib.hid (fun W hb => ⟨(HTT.out.below hb).b2.c0, (HTT.out.below hb).b2.c1⟩)
          obtain ⟨tA, tc, rfl⟩ := HTT.out.tf.tabs.form
          clear hp hiP hSC hSE hER hr hx hrB
          go_upto_region 12 with fail
          have hz1 : ¬ (BN : Int) = 0 := by have := HBN.out; omega
          have hz2 : ¬ BN = 0 := by have := HBN.out; omega
          have HS : Hid (∀ w' : World, Below wr.heap.size wr w' → w'.cell? ⟨b9, 0, none⟩ = some (.int .i64 (BN : Int)) ∧ w'.cell? ⟨b9, 1, none⟩ = some (.slice tA T.length tc) ∧ w'.cell? ⟨g2, o2 + i * 2, none⟩ = some (.int .i64 st) ∧ w'.cell? ⟨g2, o2 + i * 2 + 1, none⟩ = some (.int .i64 mb)) := Lib.hid (fun W hb => ⟨(HCB.out W hb).1, (HCB.out W hb).2, (HPC.out W hb).1, (HPC.out W hb).2⟩)
          have HBR : Hid (Below wr.heap.size wr wr) := Lib.hid (Below.refl _ _)
          have HB0 : Hid (Below wr.heap.size wr wr.drew) := Lib.hid ((Below.refl _ _).drew)
          have HA0 : Hid (∀ oo : Obj, Below wr.heap.size wr (wr.alloc oo)) := Lib.hid (fun oo => below_new wr oo)
          have HA0d : Hid (∀ oo : Obj, Below wr.heap.size wr (wr.alloc oo).drew) := Lib.hid (fun oo => (below_new wr oo).drew)
          have HAd0 : Hid (∀ oo : Obj, Below wr.heap.size wr (wr.drew.alloc oo)) := Lib.hid (fun oo => (Below.refl _ _).drew.alloc (Nat.le_refl _) oo)
          have HN1 : Hid (B2 (wr.alloc (.cells #[.int .i64 0, .slice none 0 0] 27)).drew wr.heap.size (.int .i64 0) (.slice none 0 0)) := Lib.hid ((B2.new wr (.int .i64 0) (.slice none 0 0) 27).below (Below.refl _ _).drew)
          obtain ⟨e0, e1, e2, e3⟩ := HS.out wr HBR.out
          go_cut [13, 14] (fun s13 s14 wx => ∃ (b13 : Nat) (tv' : Value), s13 = .pointer (some ⟨b13, 0, none⟩) ∧ s14 = .int .i64 er ∧ TT w wx b9 E BN (.slice tA T.length tc) T L ∧ TN wx b9 b13 BN tv' T')
          case first =>
            go_region_held3 (fun w' => w'.cell? ⟨b9, 0, none⟩ = some (.int .i64 (BN : Int)) ∧ w'.cell? ⟨b9, 1, none⟩ = some (.slice tA T.length tc) ∧ w'.cell? ⟨g2, o2 + i * 2, none⟩ = some (.int .i64 st) ∧ w'.cell? ⟨g2, o2 + i * 2 + 1, none⟩ = some (.int .i64 mb)) (first | with_reducible exact HS.out _ HBR.out | with_reducible exact HS.out _ HB0.out | with_reducible exact HS.out _ (HA0.out _) | with_reducible exact HS.out _ (HA0d.out _) | with_reducible exact HS.out _ (HAd0.out _) | with_reducible exact HS.out _ HB5.out | with_reducible exact HS.out _ (HA5.out _) | with_reducible exact HS.out _ HB6.out | with_reducible exact HS.out _ (HA6.out _) | with_reducible exact HS.out _ HST.out)
              (first
              | (go_at_call 8; (with_reducible refine (hDk _).mono ?_); rintro e w5 ⟨rfl, hb5⟩; have HB5 : Hid (Below wr.heap.size wr w5) := Lib.hid (by first | exact HB0.out.trans hb5 | exact (HA0d.out _).trans (hb5.mono (HA0d.out _).size) | exact (HAd0.out _).trans (hb5.mono (HAd0.out _).size)); have HA5 : Hid (∀ oo : Obj, Below wr.heap.size wr (w5.alloc oo)) := Lib.hid (fun oo => HB5.out.alloc HB5.out.size oo); (first | (have HN5 := Lib.hid (HN1.out.below hb5)) | (have HN5 := Lib.hid True.intro)); clear hb5)
              | (go_at_call 7; (with_reducible refine (hSet _ (by first | with_reducible exact HB5.out | with_reducible exact HA5.out _)).mono ?_); rintro e w6 ⟨tv', rfl, htf, hb6⟩; obtain ⟨vA, vc, rfl⟩ := htf.tabs.form; have HTF := Lib.hid htf; have HB6 : Hid (Below wr.heap.size wr w6) := Lib.hid (by first | exact HB5.out.trans (hb6.mono HB5.out.size) | exact (HA5.out _).trans (hb6.mono (HA5.out _).size)); have HA6 : Hid (∀ oo : Obj, Below wr.heap.size wr (w6.alloc oo)) := Lib.hid (fun oo => HB6.out.alloc HB6.out.size oo); (first | (have hbx := HN5.out.below hb6; have HN6 := Lib.hid hbx; have HST : Hid (Below wr.heap.size wr ((w6.setCell ⟨wr.heap.size, 0, none⟩ (.int .i64 (BN : Int))).setCell ⟨wr.heap.size, 1, none⟩ (.slice vA T'.length vc))) := Lib.hid ((HB6.out.setCell (p := ⟨wr.heap.size, 0, none⟩) (Nat.le_refl _) _).setCell (p := ⟨wr.heap.size, 1, none⟩) (Nat.le_refl _) _); obtain ⟨_, n0, n1, n2, n3⟩ := hbx) | (have hbx := (B2.new w5 (.int .i64 0) (.slice none 0 0) 27).below hb6; have HN6 := Lib.hid hbx; have HST : Hid (Below wr.heap.size wr ((w6.setCell ⟨w5.heap.size, 0, none⟩ (.int .i64 (BN : Int))).setCell ⟨w5.heap.size, 1, none⟩ (.slice vA T'.length vc))) := Lib.hid ((HB6.out.setCell (p := ⟨w5.heap.size, 0, none⟩) HB5.out.size _).setCell (p := ⟨w5.heap.size, 1, none⟩) HB5.out.size _); obtain ⟨_, n0, n1, n2, n3⟩ := hbx) | (have HST := Lib.hid True.intro)); clear htf hb6))
            all_goals go_wp2_with fail
            all_goals go_meet
            · exact ⟨_, _, rfl, rfl, HTT.out.new13 HB6.out HTF.out (Nat.lt_of_lt_of_le HTT.out.b2.lt HB5.out.size)⟩
            · exact ⟨_, _, rfl, rfl, HTT.out.put13 HB6.out HN6.out HB5.out.size HTF.out (by simp)⟩
            · exact ⟨_, _, rfl, rfl, HTT.out.put13 HB6.out HN6.out (Nat.le_refl _) HTF.out HN5.out.lt⟩
          case rest =>
            obtain ⟨b13, tv', rfl, rfl, htt2, htn⟩ := hcut
            have HT2 := Lib.hid htt2
            have HTN := Lib.hid htn
            obtain ⟨vA, vc, rfl⟩ := htn.tf.tabs.form
            obtain ⟨_, u0, u1, _, _⟩ := htn.b2
            obtain ⟨_, v0, v1, v2, v3⟩ := htt2.b2
            have hw1 := HW1.out
            clear htt2 htn e0 e1 e2 e3 hz1 hz2 hwx hrm hrm2 q0
            clear hSet hDk HS HBR HB0 HA0 HA0d HAd0 HN1 HCB HPC hi1 hglt hg2 d1 d2 d3 hk1 hk2 hp1 hp2 hN60 him dm
            by_cases he : er = 0
            · obtain ⟨h1, h2⟩ := HER.out he
              have HOV := Lib.hid (TT.over HT2.out HTN.out h1 h2)
              subst he
              go_wp2_with fail
              go_roundw
              case rel => exact ⟨i + 1, _, _, _, HJ.out.1, by go_num, HOV.out⟩
              case measure => have h := HJ.out.2; clear hw1; simp only [idxOf, HW1.out]; omega
            · have hne : (er == 0) = false := by rw [beq_eq_false_iff_ne]; exact he
              go_wp2_with fail
              go_roundw
              case rel => exact ⟨i + 1, _, _, _, HJ.out.1, by go_num, HT2.out⟩
              case measure => have h := HJ.out.2; clear hw1; simp only [idxOf, HW1.out]; omega
        · have dm : decide ((M : Int) ≤ (i : Int)) = true := decide_eq_true (by omega)
          clear hx hi0
          go_wp2_with fail
          go_meet
          exact ⟨_, _, _, HTT.out⟩
      · obtain rfl : i = N := by omega
        have hno : ¬ ((i : Int) < (i : Int)) := by omega
        go_wp2_with fail
        go_meet
        exact ⟨_, _, _, HTT.out⟩
  case rest =>
    obtain ⟨tv, T, L, htt⟩ := hcut
    have HTT := Lib.hid htt
    clear htt HT4 HK3 HP3 HKW HKL HN HM d1 d2 d3 hk1 hk2 hp1 hp2
    obtain ⟨tA, tc, rfl⟩ := HTT.out.tf.tabs.form
    obtain ⟨_, c0, c1, _, _⟩ := HTT.out.b2
    go_upto_region 18 with fail
    have hAG := AG.new wc BN
    generalize wc.alloc (.cells #[.int .i64 (BN : Int), .slice none 0 0] 27) = w5 at hAG ⊢
    have HA5 := Lib.hid hAG
    have HW5 := Lib.hid (HTT.out.below hAG.bl)
    obtain ⟨_, d0, d1, _, _⟩ := HW5.out.b2
    have hEN := HBN.out
    have hTl : T.length ≤ 65536 := HTT.out.ls.ok.len
    have HTL := Lib.hid hTl
    have hTS := HTT.out.tf.tabs
    obtain ⟨A', cap', hv', hc1', hc2', hc3'⟩ := hTS
    injection hv' with hA' hl' hcc'
    subst hA' hcc'
    have HC3 := Lib.hid hc3'
    obtain ⟨iT, tI, tz0, tz1, tz2⟩ := tabInfo'
    clear hAG hc1' hl' hc3' hEN hTl c0 c1
    go_wp2_with fail
    clear d0 d1
    go_loopw [92] (fun ix wr => ∃ (j : Nat) (av : Value) (us : List Value), j ≤ T.length ∧ ix = .int .i64 (j : Int) ∧ AG wc wr BN av (T.take j) us) (fun ix _ => T.length - idxOf ix)
    case atStart => exact ⟨0, _, _, Nat.zero_le _, rfl, HA5.out⟩
    case round =>
      obtain ⟨j, av, us, hj, rfl, hag⟩ := hrel
      have HAG := Lib.hid hag
      clear hag HA5 HW5
      by_cases hlt : j < T.length
      · obtain ⟨bT, oT, rfl, hbT, hcell⟩ := HC3.out.resolve_left (by intro e; rw [e] at hlt; simp at hlt)
        obtain ⟨uu, hu0, hu1, hu2⟩ := (hcell j hlt).below HAG.out.bl hbT
        have htm : T.getD j TB.zero ∈ T := by rw [List.getD, List.getElem?_eq_getElem hlt]; exact List.getElem_mem hlt
        obtain ⟨hl1, hl2⟩ := HTT.out.ls.table HTT.out.nf htm
        have HSN : Hid (T.take (j + 1) = T.take j ++ [T.getD j TB.zero]) := Lib.hid (by rw [List.take_succ_eq_append_getElem hlt, List.getD, List.getElem?_eq_getElem hlt]; rfl)
        have hkl : (T.take j).length = j := by rw [List.length_take]; omega
        generalize T.getD j TB.zero = t at hu0 hu1 hu2 hl1 hl2 HSN
        obtain ⟨ta, tl⟩ := t
        dsimp only at hu0 hu1 hu2 hl1 hl2
        obtain ⟨r1, r2, r3⟩ := tab_round hl1 hl2
        have hu2' := hu2
        obtain ⟨eA, ec, hue, -⟩ := hu2
        have HES : Hid (∀ W : World, Below wr.heap.size wr W → EntsS W (.slice eA E ec) tl) := Lib.hid (fun W hb => (show EntsS wr (.slice eA E ec) tl by rw [← hl1, ← hue]; exact hu2').below hb (Nat.le_refl _))
        rw [hl1] at hue
        subst hue
        have hi0 : (0 : Int) ≤ (j : Int) := by omega
        have hi1 : (j : Int) < (T.length : Int) := by omega
        have HJ : Hid (j + 1 ≤ T.length ∧ T.length - (j + 1) < T.length - j ∧ j ≤ 65536) := Lib.hid ⟨hlt, by omega, by have := HTL.out; omega⟩
        have HW1 := Lib.hid (wrap_sm j (by have := HTL.out; omega))
        have HW8 := Lib.hid (wrap_8 E HE.out.2)
        have hTb := fun W hb => entTable_any tl _ W (HES.out W hb)
        rw [hl2] at hTb
        generalize (⟨(tabL tl).toArray⟩ : ByteArray) = sx at hTb r1 r2 r3
        have hPt := fun W => entParseTable_own sx (by rw [r1]; have := HE.out; unfold maxLen; omega) W
        rw [r2, r3] at hPt
        have hSm : ∀ (W : World) (x : Value), EntsS W x tl → Below wr.heap.size wr W → Calls Tryd.prog 11 #[x, .slice eA E ec] W fun e w' => e = .returned (.bool true) ∧ Below W.heap.size W w' := fun W x h1 hb => (rentSame_any tl tl x _ W h1 (HES.out W hb)).mono (fun _ _ h => ⟨h.1.trans (by rw [decide_eq_true rfl]), h.2⟩)
        have hsz : (sx.size : Int) = 8 * (E : Int) := by rw [r1]; omega
        obtain ⟨BX, hBX⟩ : ∃ BX, BX = wr.alloc (.cells #[.int .i64 ta, .slice eA E ec] 42) := ⟨_, rfl⟩
        have hbx : Below wr.heap.size wr BX := by rw [hBX]; exact below_new wr _
        have hh := heap_alloc_new wr (.cells #[.int .i64 ta, .slice eA E ec] 42)
        rw [← hBX] at hh
        have hszb : BX.heap.size = wr.heap.size + 1 := by rw [hBX]; simp
        have HX : Hid (∀ W : World, Below BX.heap.size BX W → W.cell? ⟨wr.heap.size, 0, none⟩ = some (.int .i64 ta) ∧ W.cell? ⟨wr.heap.size, 1, none⟩ = some (.slice eA E ec)) := Lib.hid (fun W hb => by
          have h := (hb.block wr.heap.size (by omega)).trans hh
          exact ⟨by rw [cell_of_row _ _ _ _ _ (0, 0) h]; rfl, by rw [cell_of_row _ _ _ _ _ (0, 0) h]; rfl⟩)
        obtain ⟨x0, x1⟩ := HX.out BX (Below.refl _ _)
        have HBX := Lib.hid hbx
        have HAX := Lib.hid (HAG.out.below hbx)
        clear hcell htm hh hszb hl2 hu2'
        go_upto_region 21 with fail
        rw [← hBX]
        clear hBX hu0 hu1
        obtain ⟨ao, ap, rfl, -⟩ := own_form HAX.out.own.own
        have HS0 := Lib.hid (Below.refl BX.heap.size BX)
        have hw8 := HW8.out
        go_upto_region 25 with (first
          | (go_at_call 9; (with_reducible refine (hTb _ HBX.out).mono ?_); rintro e w6 ⟨rfl, hb6⟩; have HB6 := Lib.hid hb6; obtain ⟨x2, x3⟩ := HX.out w6 hb6; clear hb6)
          | (go_at_call 10; (with_reducible refine (hPt _).mono ?_); rintro e w7 ⟨⟨xv, rfl, hxs, hxo⟩, hb7⟩; obtain ⟨gx, nx, cx, rfl, hg1, hg2⟩ := hxo trivial; have HXS := Lib.hid hxs; have HG1 := Lib.hid hg1; have HG2 := Lib.hid hg2; have HB7 := Lib.hid (HB6.out.trans (hb7.mono HB6.out.size)); obtain ⟨x4, x5⟩ := HX.out w7 HB7.out; clear hxs hxo hg1 hg2 hb7)
          | (go_at_call 11; (with_reducible refine (hSm _ _ HXS.out (HBX.out.trans (HB7.out.mono HBX.out.size))).mono ?_); rintro e w8 ⟨rfl, hb8⟩; have HXS8 := Lib.hid (HXS.out.below hb8 (Nat.le_refl _)); have HB8 := Lib.hid (HB7.out.trans (hb8.mono HB7.out.size)); have HG8 := Lib.hid (Nat.lt_of_lt_of_le HG2.out hb8.size); obtain ⟨x6, x7⟩ := HX.out w8 HB8.out; clear hb8))
        have HA8 := Lib.hid (HAX.out.below HB8.out)
        obtain ⟨_, y0, y1, _, _⟩ := HA8.out.x
        have HA9 := Lib.hid (HA8.out.below (below_new w8 (.cells #[.int .i64 ta, .slice (some ⟨gx, 0, none⟩) nx cx] 42)))
        have HOT := Lib.hid HA9.out.own.own
        have HCT := Lib.hid (new_cells2 w8 (.int .i64 ta) (.slice (some ⟨gx, 0, none⟩) nx cx) 42)
        have hw1' := HW1.out
        rw [hkl] at y1
        clear hsz hw8 r1 r2 r3 hi0 hi1 x0 x1 x2 x3 x4 x5 hl1 hj hlt
        go_wp2_with (at_builtin; (with_reducible refine wpList_append_own_at _ ?g0 (.tmp 128) (.tmp 133) 25 ?g1 (wc.heap.size + 1) 42 iT (.agg #[.int .i64 0, .slice none 0 0]) 2 32 Tryd.underlying25 tI tz0 tz1 tz2 ?g2 (by decide) (.slice ao j ap) j (tCells (T.take j) us) ?g3 (by have h := HOT.out; rw [hkl] at h; exact h) ⟨w8.heap.size, 0, none⟩ 1 1 [.int .i64 ta, .slice (some ⟨gx, 0, none⟩) nx cx] ?g4 ?g5 ?c1 ?c2 ?c3 ?c4 ?c5 ?_); (case g0 => rfl); (case g1 => rfl); (case g2 => rfl); (case g3 => rfl); (case g4 => rfl); (case g5 => rfl); (case c1 => exact HCT.out); (case c2 => intro u hu; simp only [List.mem_cons, List.not_mem_nil, or_false] at hu; rcases hu with rfl | rfl <;> rfl); (case c3 => clear hw1'; have := HJ.out; unfold maxLen; omega); (case c4 => clear hw1'; have := HJ.out; omega); (case c5 => clear hw1'; have := HA9.out.bl.size; have := HA9.out.x.lt; omega); (intro v6 w6' hown6 hgrow6 _ hob6); (obtain ⟨ao6, cp6, rfl, _⟩ := own_form hown6); (obtain ⟨_, x60, x61, _, f61⟩ := HA9.out.x2 (by rw [hkl]; exact hgrow6)); (have HSNC := Lib.hid (AG.snoc (t := ⟨ta, tl⟩) HA9.out ⟨HXS8.out.below (below_new w8 _) (Nat.le_refl _), gx, nx, cx, rfl, by clear hw1'; have := HG1.out; have := HAX.out.x.lt; have := HB6.out.size; omega, by clear hw1'; have := HG8.out; simp; omega, fun e => by clear hw1'; have h1 := (World.ownsRow.lt HAX.out.own.own gx e.symm).2; have := HG1.out; have := HB6.out.size; omega⟩ (by rw [hkl]; exact hown6) (by rw [hkl]; exact hgrow6) (by rw [hkl]; exact hob6))); clear hown6 hgrow6 hob6)
        go_roundw
        case rel => exact ⟨j + 1, _, _, HJ.out.1, by go_num, by rw [HSN.out]; exact HSNC.out⟩
        case measure => have h := HJ.out.2; clear hw1'; simp only [idxOf, HW1.out]; omega
      · obtain ⟨TL, hTLe⟩ : ∃ TL, TL = T.length := ⟨_, rfl⟩
        have hjT : j = TL := by omega
        have htk : T.take j = T := by rw [hjT, hTLe, List.take_length]
        rw [htk] at HAG
        have hd : decide ((j : Int) < (T.length : Int)) = false := decide_eq_false (by omega)
        have hno : ¬ (j < T.length) := hlt
        obtain ⟨ao, ap, rfl, -⟩ := own_form HAG.out.own.own
        have HT15 := Lib.hid HAG.out.own.tabs
        obtain ⟨_, y0, y1, _, _⟩ := HAG.out.x
        have hC := fun W (h : TabsS W (.slice ao T.length ap) T) => chtCheck_any (E : Int) (BN : Int) T (.slice ao T.length ap) W h
        unfold chtE at hC
        rw [if_pos HTT.out.ls.okB] at hC
        have HTW := Lib.hid (HTT.out.below HAG.out.bl)
        have hE0 := HE.out
        have hB0 := HBN.out
        clear hjT htk hTLe HC3
        go_upto_region 29 with (go_at_call 6; (with_reducible refine (hC _ HT15.out).mono ?_); rintro e w9 ⟨rfl, hb9⟩; have HA9 := Lib.hid (HAG.out.below hb9); have HB9 := Lib.hid hb9; clear hb9)
        clear y0 y1 hC hd hno
        have HT9 := Lib.hid (HT15.out.below HB9.out)
        have HS9 := Lib.hid (HTW.out.below HB9.out)
        have hG1 : ∀ (b : Nat) (W : World) (k st mb fr : Int), b < BN → L.getD b EN.zero = ⟨k, st, mb, fr⟩ → Below w9.heap.size w9 W → Calls Tryd.prog 12 #[.int .i64 (E : Int), .agg #[.int .i64 (BN : Int), .slice tA T.length tc], .int .i64 (b : Int)] W fun e w' => e = .returned (.tuple #[.agg #[.int .u8 k, .int .i64 st, .int .i64 mb, .int .i64 fr], .int .i64 0]) ∧ Below W.heap.size W w' := fun b W k st mb fr hb he hw => by
          have h := chtGet_any (E : Int) (BN : Int) (b : Int) T _ W (HS9.out.below hw).tf.tabs
          rw [(HTT.out.ls.getY hb).1, (HTT.out.ls.getY hb).2, he] at h
          exact h
        have hG2 : ∀ (b : Nat) (W : World) (k st mb fr : Int), b < BN → L.getD b EN.zero = ⟨k, st, mb, fr⟩ → Below w9.heap.size w9 W → Calls Tryd.prog 12 #[.int .i64 (E : Int), .agg #[.int .i64 (BN : Int), .slice ao T.length ap], .int .i64 (b : Int)] W fun e w' => e = .returned (.tuple #[.agg #[.int .u8 k, .int .i64 st, .int .i64 mb, .int .i64 fr], .int .i64 0]) ∧ Below W.heap.size W w' := fun b W k st mb fr hb he hw => by
          have h := chtGet_any (E : Int) (BN : Int) (b : Int) T _ W (HT9.out.below hw)
          rw [(HTT.out.ls.getY hb).1, (HTT.out.ls.getY hb).2, he] at h
          exact h
        have HG1 := Lib.hid hG1
        have HG2 := Lib.hid hG2
        have HCW : Hid (∀ W : World, Below w9.heap.size w9 W → W.cell? ⟨b9, 0, none⟩ = some (.int .i64 (BN : Int)) ∧ W.cell? ⟨b9, 1, none⟩ = some (.slice tA T.length tc) ∧ W.cell? ⟨wc.heap.size, 0, none⟩ = some (.int .i64 (BN : Int)) ∧ W.cell? ⟨wc.heap.size, 1, none⟩ = some (.slice ao T.length ap)) := Lib.hid (fun W hb => ⟨(HS9.out.below hb).b2.c0, (HS9.out.below hb).b2.c1, (HA9.out.below hb).x.c0, (HA9.out.below hb).x.c1⟩)
        clear hG1 hG2 hE0 hlt hj
        go_wp2_with fail
        go_loopw [16, 142] (fun mx ix wr => ∃ b : Nat, b ≤ BN ∧ ix = .int .i64 (b : Int) ∧ mx = .int .i64 (cntH L b : Nat) ∧ Below w9.heap.size w9 wr) (fun _ ix _ => BN - idxOf ix)
        case atStart => exact ⟨0, Nat.zero_le _, rfl, rfl, Below.refl _ _⟩
        case round =>
          obtain ⟨b, hb, rfl, rfl, hbw⟩ := hrel
          have HB := Lib.hid hbw
          clear hbw
          by_cases hlt : b < BN
          · obtain ⟨z0, z1, z2, z3⟩ := HCW.out wr HB.out
            obtain ⟨k, st, mb, fr, hx⟩ : ∃ k st mb fr, L.getD b EN.zero = ⟨k, st, mb, fr⟩ := ⟨_, _, _, _, rfl⟩
            have HF1 : Hid (k ≠ 0 → cntH L (b + 1) = cntH L b + 1) := Lib.hid (fun h => cntH_y (by rw [hx]; unfold fullB; simpa using h))
            have HF2 : Hid (k = 0 → cntH L (b + 1) = cntH L b) := Lib.hid (fun h => cntH_n (by rw [hx]; unfold fullB; simp [h]))
            have hcl := cntH_le L b
            generalize cntH L b = c at HF1 HF2 hcl ⊢
            have hi0 : (0 : Int) ≤ (b : Int) := by omega
            have hi1 : (b : Int) < (BN : Int) := by omega
            have HJ : Hid (b + 1 ≤ BN ∧ BN - (b + 1) < BN - b) := Lib.hid ⟨hlt, by omega⟩
            have HW1 := Lib.hid (wrap_sm b (by omega))
            have HW2 := Lib.hid (wrap_sm c (by omega))
            have hw1 := HW1.out
            have hw2 := HW2.out
            have HG1' := HG1.out b wr k st mb fr hlt hx HB.out
            have HG2' := fun W hw => HG2.out b W k st mb fr hlt hx hw
            clear hx hcl hi0 hB0 hb
            go_upto_region 34 with (first
              | (go_at_call 12; (with_reducible refine HG1'.mono ?_); rintro e w10 ⟨rfl, hb10⟩; have HB10 := Lib.hid (HB.out.trans (hb10.mono HB.out.size)); have HX1 := Lib.hid (HB10.out.alloc HB10.out.size (.cells #[.int .u8 k, .int .i64 st, .int .i64 mb, .int .i64 fr] 38)); obtain ⟨p0, p1, p2, p3⟩ := HCW.out _ HX1.out; clear hb10)
              | (go_at_call 12; (with_reducible refine (HG2' _ HX1.out).mono ?_); rintro e w11 ⟨rfl, hb11⟩; have HB11 := Lib.hid (HX1.out.trans (hb11.mono HX1.out.size)); have HBX11 := Lib.hid hb11; clear hb11))
            have hx1 := heap_alloc_new w10 (.cells #[.int .u8 k, .int .i64 st, .int .i64 mb, .int .i64 fr] 38)
            have hx2 := heap_alloc_new w11 (.cells #[.int .u8 k, .int .i64 st, .int .i64 mb, .int .i64 fr] 38)
            have hb12 := below_new w11 (.cells #[.int .u8 k, .int .i64 st, .int .i64 mb, .int .i64 fr] 38)
            have hs10 : w10.heap.size < (w10.alloc (.cells #[.int .u8 k, .int .i64 st, .int .i64 mb, .int .i64 fr] 38)).heap.size := by simp
            have hx3 := (hb12.block w10.heap.size (Nat.lt_of_lt_of_le hs10 HBX11.out.size)).trans ((HBX11.out.block w10.heap.size hs10).trans hx1)
            have HB12 := Lib.hid (HB11.out.trans (hb12.mono HB11.out.size))
            generalize w11.alloc (.cells #[.int .u8 k, .int .i64 st, .int .i64 mb, .int .i64 fr] 38) = w12 at hx2 hx3 HB12 ⊢
            have a0 : w12.cell? ⟨w10.heap.size, 0, none⟩ = some (.int .u8 k) := by rw [cell_of_row _ _ _ _ _ (0, 0) hx3]; rfl
            have a1 : w12.cell? ⟨w10.heap.size, 1, none⟩ = some (.int .i64 st) := by rw [cell_of_row _ _ _ _ _ (0, 0) hx3]; rfl
            have a2 : w12.cell? ⟨w10.heap.size, 2, none⟩ = some (.int .i64 mb) := by rw [cell_of_row _ _ _ _ _ (0, 0) hx3]; rfl
            have a3 : w12.cell? ⟨w10.heap.size, 3, none⟩ = some (.int .i64 fr) := by rw [cell_of_row _ _ _ _ _ (0, 0) hx3]; rfl
            have c0 : w12.cell? ⟨w11.heap.size, 0, none⟩ = some (.int .u8 k) := by rw [cell_of_row _ _ _ _ _ (0, 0) hx2]; rfl
            have c1 : w12.cell? ⟨w11.heap.size, 1, none⟩ = some (.int .i64 st) := by rw [cell_of_row _ _ _ _ _ (0, 0) hx2]; rfl
            have c2 : w12.cell? ⟨w11.heap.size, 2, none⟩ = some (.int .i64 mb) := by rw [cell_of_row _ _ _ _ _ (0, 0) hx2]; rfl
            have c3 : w12.cell? ⟨w11.heap.size, 3, none⟩ = some (.int .i64 fr) := by rw [cell_of_row _ _ _ _ _ (0, 0) hx2]; rfl
            clear hx1 hx2 hx3 hb12 hs10 p0 p1 p2 p3 z0 z1 z2 z3 HG1' HG2' hlt hi1
            by_cases hk0 : k = 0
            · have HE := Lib.hid (HF2.out hk0)
              subst hk0
              go_wp2_with fail
              go_roundw
              case rel => exact ⟨b + 1, HJ.out.1, by go_num, by rw [HE.out], HB12.out⟩
              case measure => have h := HJ.out.2; clear hw1 hw2; simp only [idxOf, HW1.out]; omega
            · have HE := Lib.hid (HF1.out hk0)
              have hkb : (k == 0) = false := by rw [beq_eq_false_iff_ne]; exact hk0
              go_wp2_with fail
              go_roundw
              case rel => exact ⟨b + 1, HJ.out.1, by go_num, by rw [HE.out]; go_num, HB12.out⟩
              case measure => have h := HJ.out.2; clear hw1 hw2; simp only [idxOf, HW1.out]; omega
          · obtain rfl : b = BN := by omega
            have hno : ¬ ((b : Int) < (b : Int)) := by omega
            obtain ⟨z0, z1, z2, z3⟩ := HCW.out wr HB.out
            have hAl := chtAll_any (E : Int) (b : Int) T (.slice ao T.length ap) wr (HT9.out.below HB.out)
            unfold allErr at hAl
            rw [if_pos HTT.out.ls.okB] at hAl
            have HLA := Lib.hid HTT.out.ls.all
            generalize atC (E : Int) ⟨(b : Int), T⟩ = AT at hAl HLA
            have HBB := Lib.hid ((HTT.out.bl.trans (HAG.out.bl.mono HTT.out.bl.size)).trans ((HB9.out.trans (HB.out.mono HB9.out.size)).mono (HTT.out.bl.trans (HAG.out.bl.mono HTT.out.bl.size)).size))
            generalize cntH L b = cc at HLA ⊢
            clear hb hlt hB0
            go_wp2_with (go_at_call 13; (with_reducible refine hAl.mono ?_); rintro e w13 ⟨av, bv, rfl, hia, hib, hb13⟩; obtain ⟨iA, ic, rfl, -⟩ := hia; obtain ⟨jA, jc, rfl, -⟩ := hib; rw [HLA.out]; have HB13 := Lib.hid hb13; clear hb13)
            go_ret
            exact ⟨rfl, HBB.out.trans (HB13.out.mono HBB.out.size)⟩
end Go.Proofs.YtngkbcaflkinhaaDoor
