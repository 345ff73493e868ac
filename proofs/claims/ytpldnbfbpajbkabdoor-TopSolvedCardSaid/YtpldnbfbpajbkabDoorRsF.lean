/- The contract of rs.there. The contracts of rs.back and rs.Decode. The contract of rs.Decode. What rs.Decode answers, in all cases. -/
import Derived.Test.YtpldnbfbpajbkabDoorRsC
namespace Go.Proofs.YtpldnbfbpajbkabDoor
open Go.RowKit

/-- A slice of pieces: whether each is there, and its bytes. -/
def PiecesS (w : World) (v : Value) (P : List (Bool × ByteArray)) : Prop :=
  ∃ A cap, v = .slice A P.length cap ∧ (A = none → cap = 0) ∧ P.length ≤ cap ∧ cap ≤ maxLen ∧ (∀ p, p ∈ P → p.2.size ≤ maxLen) ∧ (P = [] ∨ ∃ b off, A = some ⟨b, off, none⟩ ∧ b < w.heap.size ∧ ∀ j, j < P.length → w.cell? ⟨b, off + j * 2, none⟩ = some (.bool (P.getD j (false, ByteArray.empty)).1) ∧ w.cell? ⟨b, off + j * 2 + 1, none⟩ = some (.string (P.getD j (false, ByteArray.empty)).2))
theorem PiecesS.below {w w' : World} {v : Value} {P : List (Bool × ByteArray)} (h : PiecesS w v P) (hb : Below w.heap.size w w') : PiecesS w' v P := by
  obtain ⟨A, cap, rfl, h1, h2, h3, h4, h5⟩ := h
  refine ⟨A, cap, rfl, h1, h2, h3, h4, ?_⟩
  rcases h5 with h5 | ⟨b, off, rfl, hlt, hc⟩
  · exact .inl h5
  · exact .inr ⟨b, off, rfl, Nat.lt_of_lt_of_le hlt hb.size, fun j hj => ⟨(hb.cell (p := ⟨b, off + j * 2, none⟩) hlt).trans (hc j hj).1, (hb.cell (p := ⟨b, off + j * 2 + 1, none⟩) hlt).trans (hc j hj).2⟩⟩
theorem PiecesS.opened {w : World} {v : Value} {P : List (Bool × ByteArray)} (h : PiecesS w v P) : ∃ A c, v = .slice A P.length c ∧ P.length ≤ c ∧ c ≤ 9223372036854775807 := by
  obtain ⟨A, c, rfl, _, h2, h3, _⟩ := h
  unfold maxLen at h3
  exact ⟨A, c, rfl, h2, h3⟩
theorem infoInt : (Tryd.prog.info? 3).map (fun i => (i.zero, i.size, i.bytes)) = some (some (.int .i64 0), 1, 8) := by kernel_rfl
theorem infoString : (Tryd.prog.info? 9).map (fun i => (i.zero, i.size, i.bytes)) = some (some (.string ByteArray.empty), 1, 16) := by kernel_rfl
/-- The places of those that are there, among the first k. -/
def thAt (q : Nat → Bool) (k : Nat) : List Nat := (List.range k).filter q
theorem thAt_succ (q : Nat → Bool) (k : Nat) : thAt q (k + 1) = thAt q k ++ (if q k then [k] else []) := by
  unfold thAt
  rw [List.range_succ, List.filter_append]
  congr 1
  cases h : q k <;> simp [h]
theorem thAt_len (q : Nat → Bool) (k : Nat) : (thAt q k).length ≤ k := by
  have := List.length_filter_le q (List.range k)
  rw [List.length_range] at this
  exact this
def atV (l : List Nat) : List Value := l.map fun i : Nat => .int .i64 (i : Int)
def leftV (d : Nat → ByteArray) (l : List Nat) : List Value := l.map fun i => .string (d i)
/-- Both lists, owned, apart from one another. -/
def ThereO (w : World) (B : Nat) (va vl : Value) (d : Nat → ByteArray) (l : List Nat) : Prop :=
  w.ownsRow B 3 1 va l.length (atV l) ∧ w.ownsRow B 9 1 vl l.length (leftV d l) ∧ (va.ownBlock = none ∨ va.ownBlock ≠ vl.ownBlock)
theorem own_below {w w' : World} {B size n : Nat} {t : TypeId} {v : Value} {xs : List Value} (h : w.ownsRow B t size v n xs) (hb : Below w.heap.size w w') : w'.ownsRow B t size v n xs := by
  refine ⟨h.1, ?_⟩
  rcases h.2 with q | ⟨g, cap, cur, rfl, q1, q2, q3⟩
  · exact .inl q
  · exact .inr ⟨g, cap, cur, rfl, q1, (hb.block g (Array.getElem?_eq_some_iff.1 q2).1).trans q2, q3⟩
theorem ThereO.below {w w' : World} {B : Nat} {va vl : Value} {d : Nat → ByteArray} {l : List Nat} (h : ThereO w B va vl d l) (hb : Below w.heap.size w w') : ThereO w' B va vl d l :=
  ⟨own_below h.1 hb, own_below h.2.1 hb, h.2.2⟩
theorem atV_snoc (l : List Nat) (k : Nat) : atV (l ++ [k]) = atV l ++ [.int .i64 (k : Int)] := by simp [atV]
theorem leftV_snoc (d : Nat → ByteArray) (l : List Nat) (k : Nat) : leftV d (l ++ [k]) = leftV d l ++ [.string (d k)] := by simp [leftV]
set_option maxRecDepth 10000 in
set_option maxHeartbeats 2000000 in
theorem there_any {w : World} {v : Value} {P : List (Bool × ByteArray)} (h : PiecesS w v P) (hmax : P.length ≤ 1000000000000) :
    Calls Tryd.prog 20 #[v] w fun e w' => ∃ va vl, e = .returned (.tuple #[va, vl]) ∧ ThereO w' w.heap.size va vl (fun i => (P.getD i (false, ByteArray.empty)).2) (thAt (fun i => (P.getD i (false, ByteArray.empty)).1) P.length) ∧ Below w.heap.size w w' := by
  obtain ⟨q, hq⟩ : ∃ q : Nat → Bool, q = fun i => (P.getD i (false, ByteArray.empty)).1 := ⟨_, rfl⟩
  obtain ⟨d, hd⟩ : ∃ d : Nat → ByteArray, d = fun i => (P.getD i (false, ByteArray.empty)).2 := ⟨_, rfl⟩
  rw [← hq, ← hd]
  have HC : Hid (∀ k, k < P.length → ∃ b off c, v = .slice (some ⟨b, off, none⟩) P.length c ∧ ∀ W, Below w.heap.size w W → W.cell? ⟨b, off + k * 2, none⟩ = some (.bool (q k)) ∧ W.cell? ⟨b, off + k * 2 + 1, none⟩ = some (.string (d k))) := Lib.hid (fun k hk => by
    obtain ⟨A, cap, rfl, h1, h2, h3, h4, h5⟩ := h
    rcases h5 with h5 | ⟨b, off, rfl, hlt, hc⟩
    · rw [h5] at hk; simp at hk
    · refine ⟨b, off, cap, rfl, fun W hW => ?_⟩
      rw [hW.cell (p := ⟨b, off + k * 2, none⟩) hlt, hW.cell (p := ⟨b, off + k * 2 + 1, none⟩) hlt, hq, hd]
      exact hc k hk)
  obtain ⟨A, cap, rfl, hlc, hcm⟩ := h.opened
  obtain ⟨n, hn⟩ : ∃ n, n = P.length := ⟨_, rfl⟩
  rw [← hn] at HC hlc hmax ⊢
  obtain ⟨i0, hi0, hz0, hz1, hz2⟩ := info_parts infoInt
  obtain ⟨i1, hi1, hz3, hz4, hz5⟩ := info_parts infoString
  clear h hq hd hn
  go_enter Tryd.func20, Tryd.ntmps20
  go_wp2
  go_loopw [4, 5, 10] (fun za zl i wr => ∃ (k : Nat) (va vl : Value), k ≤ n ∧ i = .int .i64 k ∧ va = za ∧ vl = zl ∧ ThereO wr w.heap.size va vl d (thAt q k) ∧ Below w.heap.size w wr) (fun _ _ i _ => n - (intOf i).toNat)
  case atStart => exact ⟨0, .slice none 0 0, .slice none 0 0, by omega, rfl, rfl, rfl, (show ThereO w w.heap.size _ _ d [] from ⟨World.ownsRow_nil _ _ _ _, World.ownsRow_nil _ _ _ _, .inl rfl⟩), Below.refl _ _⟩
  case round =>
    obtain ⟨k, va, vl, hk, rfl, rfl, rfl, hth, hbe⟩ := hrel
    have HTH := Lib.hid hth
    have HBE := Lib.hid hbe
    clear hth hbe
    by_cases hlt : k < n
    · obtain ⟨b, off, c, hv, hW⟩ := HC.out k hlt
      injection hv with hv1 hv2 hv3
      subst hv1; subst hv3
      obtain ⟨hc1, hc2⟩ := hW wr HBE.out
      have hs1 := HBE.out.size
      have hbl := World.block_lt_of_cell? wr _ hc1
      clear hW
      cases hqk : q k with
      | false =>
        rw [hqk] at hc1
        have hth2 : thAt q (k + 1) = thAt q k := by rw [thAt_succ, hqk]; simp
        have HT2 := Lib.hid hth2
        clear hqk hth2
        have HT3 := Lib.hid (HTH.out.below (below_alloc wr (.cells #[.bool false, .string (d k)] 36)))
        have HB3 := Lib.hid (HBE.out.alloc hs1 (.cells #[.bool false, .string (d k)] 36))
        go_wp2
        go_roundw
        case rel => exact ⟨k + 1, va, vl, by omega, by go_num, rfl, rfl, by rw [HT2.out]; exact HT3.out, HB3.out⟩
        case measure => simp [intOf]; omega
      | true =>
        rw [hqk] at hc1
        have hth2 : thAt q (k + 1) = thAt q k ++ [k] := by rw [thAt_succ, hqk]; simp
        have HT2 := Lib.hid hth2
        have hlen := thAt_len q k
        obtain ⟨m, hm⟩ : ∃ m, m = (thAt q k).length := ⟨_, rfl⟩
        rw [← hm] at hlen
        have HM := Lib.hid hm
        have hbe0 : Below wr.heap.size wr ((wr.alloc (.cells #[.bool true, .string (d k)] 36)).alloc (.cells #[.int .i64 (k : Int)] 3)) := ((Below.refl _ wr).alloc (Nat.le_refl _) _).alloc (by simp) _
        have HBE0 := Lib.hid hbe0
        have ho1 := (HTH.out.below hbe0).1
        rw [← hm] at ho1
        have HO1 := Lib.hid ho1
        have hcn := cell_one_new (wr.alloc (.cells #[.bool true, .string (d k)] 36)) (.int .i64 (k : Int)) 3
        rw [World.size_alloc] at hcn
        have HCN := Lib.hid hcn
        have HBOX : Hid (∀ w1 : World, ((wr.alloc (.cells #[.bool true, .string (d k)] 36)).alloc (.cells #[.int .i64 (k : Int)] 3)).grownBy w1 va.ownBlock → w1.cell? ⟨wr.heap.size, 1, none⟩ = some (.string (d k))) := Lib.hid (fun w1 hg => by
          refine hg.cell (a := ⟨wr.heap.size, 1, none⟩) ?_ (fun e => absurd (World.ownsRow.lt HTH.out.1 _ e.symm).2 (Nat.lt_irrefl _))
          rw [World.cell?_alloc_past _ _ _ (by simp), World.cell?_alloc_at _ _ _ _ rfl]; rfl)
        clear hqk hth2 hm hbe0 ho1 hcn
        go_wp2_with (first
          | (at_builtin
             (with_reducible refine wpList_append_own_at _ ?g0 (.tmp 17) (.tmp 19) 33 ?g1 w.heap.size 3 i0 (.int .i64 0) 1 8 Tryd.underlying33 hi0 hz0 hz1 hz2 ?g2 (by decide) va m (atV (thAt q k)) ?g3 HO1.out ⟨wr.heap.size + 1, 0, none⟩ 1 1 [.int .i64 (k : Int)] ?g4 ?g5 ?c1 ?c2 ?c3 ?c4 ?c5 ?_)
             case g0 => rfl
             case g1 => rfl
             case g2 => rfl
             case g3 => rfl
             case g4 => rfl
             case g5 => rfl
             case c1 => exact HCN.out
             case c2 => simp [Value.oneCell']
             case c3 => unfold maxLen; omega
             case c4 => omega
             case c5 => simp; omega
             intro va' w1 hown1 hgrow1 _ hat1
             have hbox := HBOX.out w1 hgrow1
             have hsz1 := hgrow1.size
             simp only [World.size_alloc] at hsz1
             have HOWN1 := Lib.hid hown1
             have HGR1 := Lib.hid hgrow1
             have HAT1 := Lib.hid hat1
             have hol : w1.ownsRow w.heap.size 9 1 vl m (leftV d (thAt q k)) := by
               have h0 := own_below HTH.out.2.1 HBE0.out
               rw [← HM.out] at h0
               refine h0.kept hgrow1 ?_
               rcases HTH.out.2.2 with e | e
               · cases hv : vl.ownBlock with
                 | none => exact .inl rfl
                 | some g => right; rw [e]; simp
               · exact .inr (Ne.symm e)
             have HOL := Lib.hid (World.ownsRow.alloc hol (.cells #[.string (d k)] 9))
             have HOL0 := Lib.hid hol
             clear hown1 hgrow1 hat1 hol)
          | (at_builtin
             (with_reducible refine wpList_append_own_at _ ?hg0 (.tmp 21) (.tmp 24) 22 ?hg1 w.heap.size 9 i1 (.string ByteArray.empty) 1 16 Tryd.underlying22 hi1 hz3 hz4 hz5 ?hg2 (by decide) vl m (leftV d (thAt q k)) ?hg3 HOL.out ⟨w1.heap.size, 0, none⟩ 1 1 [.string (d k)] ?hg4 ?hg5 ?hc1 ?hc2 ?hc3 ?hc4 ?hc5 ?_)
             case hg0 => rfl
             case hg1 => rfl
             case hg2 => rfl
             case hg3 => rfl
             case hg4 => rfl
             case hg5 => rfl
             case hc1 => exact cell_one_new _ _ _
             case hc2 => simp [Value.oneCell']
             case hc3 => unfold maxLen; omega
             case hc4 => omega
             case hc5 => simp; omega
             intro vl' w2 hown2 hgrow2 _ hat2))
        have HT3 : Hid (ThereO w2 w.heap.size va' vl' d (thAt q (k + 1))) := Lib.hid (by
          rw [HT2.out]
          have hl2 : (thAt q k ++ [k]).length = m + 1 := by rw [List.length_append, ← HM.out]; rfl
          have hva1 : va'.ownBlock ≠ none → ∀ g, va'.ownBlock = some g → g < w1.heap.size := fun _ g hg => (World.ownsRow.lt HOWN1.out g hg).2
          have hne : va'.ownBlock = none ∨ va'.ownBlock ≠ vl.ownBlock := by
            rcases HAT1.out with e | e
            · rw [e]; exact HTH.out.2.2
            · right
              rw [e]
              intro e2
              have := (World.ownsRow.lt HTH.out.2.1 _ e2.symm).2
              simp at this
              omega
          refine ⟨?_, ?_, ?_⟩
          · rw [hl2, atV_snoc]
            have h1 := World.ownsRow.alloc HOWN1.out (.cells #[.string (d k)] 9)
            refine h1.kept hgrow2 ?_
            rcases hne with e | e
            · exact .inl e
            · exact .inr e
          · rw [hl2, leftV_snoc]; exact hown2
          · rcases hat2 with e | e
            · rw [e]; exact hne
            · cases hv : va'.ownBlock with
              | none => exact .inl rfl
              | some g =>
                right
                rw [e]
                intro e2
                injection e2 with e2
                have := (World.ownsRow.lt HOWN1.out g hv).2
                simp at e2
                omega)
        have HB3 : Hid (Below w.heap.size w w2) := Lib.hid (by
          have h1 : Below w.heap.size w w1 := (HBE.out.trans (HBE0.out.mono hs1)).grown HGR1.out (by simp; omega) (fun g hg => (World.ownsRow.lt HTH.out.1 g hg).1)
          exact (h1.alloc h1.size _).grown hgrow2 (by simp; omega) (fun g hg => (World.ownsRow.lt HOL0.out g hg).1))
        clear hown2 hgrow2 hat2 hbox
        go_roundw
        case rel => exact ⟨k + 1, va', vl', by omega, by go_num, rfl, rfl, HT3.out, HB3.out⟩
        case measure => simp [intOf]; omega
    · obtain rfl : k = n := by omega
      go_wp2
      go_ret2
      exact ⟨_, _, rfl, HTH.out, HBE.out⟩
end Go.Proofs.YtpldnbfbpajbkabDoor
namespace Go.Proofs.YtpldnbfbpajbkabDoor
open Go.RowKit
open Caulk.Lin (Fn2 sx stack invM any_inv)

theorem own_ints {w : World} {B : Nat} {va : Value} {l : List Nat} (h : w.ownsRow B 3 1 va l.length (atV l)) (hsm : ∀ x, x ∈ l → x ≤ 1000) (k : Nat) (hk : k ≤ l.length) (hk1 : 1 ≤ k) :
    ∃ g c, va = .slice (some ⟨g, 0, none⟩) l.length c ∧ l.length ≤ c ∧ c ≤ maxLen ∧ IntsV w w.heap.size (.slice (some ⟨g, 0, none⟩) k c) ((l.take k).map fun i : Nat => (i : Int)) := by
  rcases h.2 with ⟨_, e⟩ | ⟨g, c, cur, rfl, hb, hh, hn, hm, hs, ht⟩
  · omega
  · have hlen : ((l.take k).map fun i : Nat => (i : Int)).length = k := by simp; omega
    refine ⟨g, c, rfl, hn, hm, some ⟨g, 0, none⟩, c, by rw [hlen], by rw [hlen]; omega, hm, fun x hx => ?_, .inr ⟨g, 0, rfl, (Array.getElem?_eq_some_iff.1 hh).1, fun j hj => ?_⟩⟩
    · obtain ⟨i, hi, rfl⟩ := List.mem_map.1 hx
      have := hsm i (List.mem_of_mem_take hi)
      omega
    · rw [hlen] at hj
      have hjl : j < l.length := by omega
      have hc := World.ownsRow.cells h (g := g) rfl j (.int .i64 ((l.getD j 0 : Nat) : Int)) (by simp [atV, List.getD, hjl])
      rw [show (⟨g, 0, none⟩ : Addr).add j = ⟨g, 0 + j, none⟩ by unfold Addr.add; split <;> simp_all] at hc
      rw [hc]
      congr 2
      simp [List.getD, hj, hjl]
theorem own_strs {w : World} {B : Nat} {vl : Value} {d : Nat → ByteArray} {l : List Nat} (h : w.ownsRow B 9 1 vl l.length (leftV d l)) (hd : ∀ i, i ∈ l → (d i).size ≤ maxLen) : StrsS w vl (l.map d) := by
  have hlen : (l.map d).length = l.length := by simp
  rcases h.2 with ⟨rfl, e⟩ | ⟨g, c, cur, rfl, hb, hh, hn, hm, hs, ht⟩
  · rw [List.eq_nil_of_length_eq_zero e]; exact strsS_nil _
  · refine ⟨some ⟨g, 0, none⟩, c, by rw [hlen], by simp, by rw [hlen]; exact hn, hm, fun s hs => ?_, .inr ⟨g, 0, rfl, (Array.getElem?_eq_some_iff.1 hh).1, fun j hj => ?_⟩⟩
    · obtain ⟨i, hi, rfl⟩ := List.mem_map.1 hs
      exact hd i hi
    · rw [hlen] at hj
      have hc := World.ownsRow.cells h (g := g) rfl j (.string (d (l.getD j 0))) (by simp [leftV, List.getD, hj])
      rw [show (⟨g, 0, none⟩ : Addr).add j = ⟨g, 0 + j, none⟩ by unfold Addr.add; split <;> simp_all] at hc
      rw [hc]
      congr 2
      simp [List.getD, hj]
theorem nodup_get {l : List Nat} (h : l.Nodup) {i j : Nat} (hi : i < l.length) (hj : j < l.length) (he : l[i] = l[j]) : i = j := by
  have hp := List.pairwise_iff_getElem.1 h
  rcases Nat.lt_trichotomy i j with g | g | g
  · exact absurd he (hp i j hi hj g)
  · exact g
  · exact absurd he.symm (hp j i hj hi g)
/-- The places' rows have an inverse. -/
theorem pick_inv {k n : Nat} (hn : n ≤ 255) {l : List Nat} (hnd : l.Nodup) (hlt : ∀ x, x ∈ l → x < n) (hkl : k ≤ l.length) (hkn : k ≤ n) : ∃ X, invM k (pickF (stack k) ((l.take k).map fun i : Nat => (i : Int))) = some X := by
  have hget : ∀ i, i < k → ((l.take k).map fun i : Nat => (i : Int)).getD i 0 = ((l.getD i 0 : Nat) : Int) := fun i hi => by
    have : i < l.length := by omega
    simp [List.getD, hi, this]
  obtain ⟨X, hX⟩ := any_inv (k := k) (n := n) hn (pick := fun i => l.getD i 0) (fun i hi => hlt _ (by rw [List.getD, List.getElem?_eq_getElem (by omega)]; exact List.getElem_mem _)) hkn (fun i hi j hj h => by
    have hi' : i < l.length := by omega
    have hj' : j < l.length := by omega
    simp only [List.getD, List.getElem?_eq_getElem hi', List.getElem?_eq_getElem hj', Option.getD_some] at h
    exact nodup_get hnd hi' hj' h)
  refine Caulk.Lin.inv_of_ker (fun v hv => Caulk.Lin.inv_ker hX (fun r hr => ?_))
  rw [← hv r hr]
  refine Caulk.Lin.vec_congrM (fun i hi j _ => ?_) v r hr
  unfold pickF
  rw [hget i hi, Int.toNat_natCast]
set_option maxHeartbeats 1000000 in
theorem back_any {w : World} {vr va : Value} {k n : Nat} {R : List Int} {X : Fn2} (hn : n ≤ 255) (hk1 : 1 ≤ k) (hkn : k ≤ n) (hR : MatS w vr (rowsL n k (stack k))) (hA : IntsV w w.heap.size va R) (hl : R.length = k) (hin : InRows n R) (hX : invM k (pickF (stack k) R) = some X) :
    Calls Tryd.prog 21 #[vr, va] w fun e w' => ∃ v, e = .returned (.tuple #[v, .int .i64 0]) ∧ MatS w' v (rowsL k k X) ∧ Below w.heap.size w w' := by
  have h1 := rows_any hR (Nat.le_refl _) (by omega) hn hk1 (by omega) hA (Nat.le_refl _) (by omega) (by omega)
  have H1 := Lib.hid h1
  have HIN := Lib.hid hin
  have HX := Lib.hid hX
  have HL := Lib.hid hl
  clear h1 hR hA hin hX hl
  go_enter Tryd.func21, Tryd.ntmps21
  go_wp2_with fail
  refine H1.out.mono ?_
  rintro e w1 ⟨hyes, _⟩
  obtain ⟨v1, rfl, hg, hb⟩ := hyes HIN.out
  have hm := hg.mat
  rw [HL.out] at hm
  have h2 := invert_any (F := pickF (stack k) R) hm (Nat.le_refl _) hk1 (by omega)
  have H2 := Lib.hid h2
  have HB := Lib.hid hb
  clear hyes hg hb hm h2
  go_wp2_with fail
  refine H2.out.mono ?_
  rintro e w2 ⟨hyes, _⟩
  obtain ⟨v2, rfl, hg, hb⟩ := hyes X HX.out
  have HM := Lib.hid hg.mat
  have HB2 : Hid (Below w.heap.size w w2) := Lib.hid (HB.out.trans (hb.mono HB.out.size))
  clear hyes hg hb
  go_wp2
  go_ret2
  exact ⟨_, rfl, HM.out, HB2.out⟩
end Go.Proofs.YtpldnbfbpajbkabDoor
namespace Go.Proofs.YtpldnbfbpajbkabDoor
open Go.RowKit
open Caulk.Lin (Fn2 sx stack invM any_inv)

def thQ (P : List (Bool × ByteArray)) : Nat → Bool := fun i => (P.getD i (false, ByteArray.empty)).1
def thD (P : List (Bool × ByteArray)) : Nat → ByteArray := fun i => (P.getD i (false, ByteArray.empty)).2
/-- The places of the pieces that are there. -/
def thL (P : List (Bool × ByteArray)) : List Nat := thAt (thQ P) P.length
/-- Their bytes. -/
def thS (P : List (Bool × ByteArray)) : List ByteArray := (thL P).map (thD P)
theorem thL_lt (P : List (Bool × ByteArray)) : ∀ x, x ∈ thL P → x < P.length := fun x hx => by
  unfold thL thAt at hx
  exact List.mem_range.1 (List.mem_filter.1 hx).1
theorem thL_nodup (P : List (Bool × ByteArray)) : (thL P).Nodup := (List.nodup_range).filter _
/-- What comes back. -/
def decData (k : Nat) (X : Fn2) (T : List ByteArray) : List ByteArray := weaveL k k (T.getD 0 ByteArray.empty).size X (T.take k)
def decAll (k m : Nat) (X : Fn2) (T : List ByteArray) : List ByteArray := decData k X T ++ weaveL m k (T.getD 0 ByteArray.empty).size (cauF k) (decData k X T)
theorem new_app {w2 : World} {B B2 k m : Nat} {v1 v2 : Value} {S T : List ByteArray} (h1 : NewStrs w2 B v1 S) (h2 : NewStrs w2 B2 v2 T) (hk : S.length = k) (hm : T.length = m) :
    ∃ xs ys b2 c2, v2 = .slice (some ⟨b2, 0, none⟩) m c2 ∧ m ≤ c2 ∧ c2 ≤ maxLen ∧ w2.ownsRow B 9 1 v1 k xs ∧ ys.length = m * 1 ∧ (∀ j u, ys[j]? = some u → w2.cell? ((⟨b2, 0, none⟩ : Addr).add j) = some u) ∧ (∀ u, u ∈ ys → u.oneCell' = true) ∧
      ∀ (w3 : World) (v' : Value), w3.ownsRow B 9 1 v' (k + m) (xs ++ ys) → StrsS w3 v' (S ++ T) := by
  obtain ⟨b1, c1, hf1, rfl, g1, g2, g3, g4, g5, g6⟩ := h1
  obtain ⟨b2, c2, hf2, rfl, f1, f2, f3, f4, f5, f6⟩ := h2
  subst hk; subst hm
  refine ⟨(List.range S.length).map hf1, (List.range T.length).map hf2, b2, c2, rfl, f3, f4, ownsRow_of_row g1 g3 g4 g2, by simp, fun j u hu => ?_, fun u hu => ?_, fun w3 v' ho => ?_⟩
  · have hj : j < T.length := by have := (List.getElem?_eq_some_iff.1 hu).1; simpa using this
    simp [hj] at hu
    rw [show (⟨b2, 0, none⟩ : Addr).add j = ⟨b2, j, none⟩ by unfold Addr.add; split <;> simp_all, f2.cell (by omega), hu]
  · obtain ⟨i, hi, rfl⟩ := List.mem_map.1 hu
    rw [f6 i (List.mem_range.1 hi)]; rfl
  · have hget : ∀ j, j < S.length + T.length → ((List.range S.length).map hf1 ++ (List.range T.length).map hf2)[j]? = some (.string ((S ++ T).getD j ByteArray.empty)) := fun j hj => by
      by_cases e : j < S.length
      · rw [List.getElem?_append_left (by simpa using e)]
        have := g6 j e
        simp [e, List.getElem?_append_left e]
        rw [this]; simp [List.getD, e]
      · rw [List.getElem?_append_right (by simp; omega)]
        have := f6 (j - S.length) (by omega)
        have hlt : j - S.length < T.length := by omega
        simp [hlt, List.getElem?_append_right (show S.length ≤ j by omega)]
        rw [this]; simp [List.getD, hlt]
    rcases ho.2 with ⟨rfl, e⟩ | ⟨g, c, cur, rfl, hb, hh, hn, hm, hs, ht⟩
    · have : S ++ T = [] := List.eq_nil_of_length_eq_zero (by rw [List.length_append]; exact e)
      rw [this]; exact strsS_nil _
    · refine ⟨some ⟨g, 0, none⟩, c, by rw [List.length_append], by simp, by rw [List.length_append]; exact hn, hm, fun s hs => ?_, .inr ⟨g, 0, rfl, (Array.getElem?_eq_some_iff.1 hh).1, fun j hj => ?_⟩⟩
      · rcases List.mem_append.1 hs with hs | hs
        · exact g5 s hs
        · exact f5 s hs
      · rw [List.length_append] at hj
        have hc := World.ownsRow.cells ho (g := g) rfl j _ (hget j hj)
        rw [show (⟨g, 0, none⟩ : Addr).add j = ⟨g, 0 + j, none⟩ by unfold Addr.add; split <;> simp_all] at hc
        exact hc
set_option maxRecDepth 10000 in
set_option maxHeartbeats 2000000 in
theorem decode_ok {w : World} {vp : Value} {k m : Nat} {P : List (Bool × ByteArray)} (hk : 1 ≤ k) (hkm : k + m ≤ 255) (hP : PiecesS w vp P) (hl : P.length = k + m) (hal : Alike (thS P)) (hle : k ≤ (thL P).length) {X : Fn2} (hX : invM k (pickF (stack k) (((thL P).take k).map fun i : Nat => (i : Int))) = some X) :
    Calls Tryd.prog 8 #[.int .i64 (k : Int), .int .i64 (m : Int), vp] w (StrRes w (decAll k m X (thS P)) 0) := by
  have hck := rsCheck_any (k : Int) (m : Int) (by omega) (by omega) w
  rw [show rsE (k : Int) (m : Int) = 0 from if_pos (by omega)] at hck
  have HCK := Lib.hid hck
  have HTH := Lib.hid (there_any hP (by omega))
  have hmax : ∀ i, i ∈ thL P → (thD P i).size ≤ maxLen := fun i hi => by
    obtain ⟨_, _, _, _, _, _, hs, _⟩ := hP
    have hlt := thL_lt P i hi
    exact hs _ (by rw [List.getD, List.getElem?_eq_getElem hlt]; exact List.getElem_mem hlt)
  have HMAX := Lib.hid hmax
  obtain ⟨A, c, rfl, hlc, hcm⟩ := hP.opened
  have hsl : (thS P).length = (thL P).length := by simp [thS]
  have HSL := Lib.hid hsl
  have HAL := Lib.hid (alikeB_true hal)
  have HAL2 := Lib.hid hal
  have HX := Lib.hid hX
  have HPL := Lib.hid hl
  obtain ⟨n, hn⟩ : ∃ n, n = ((thS P).getD 0 ByteArray.empty).size := ⟨_, rfl⟩
  have HN := Lib.hid hn
  have hn2 : n ≤ 65536 := by rw [hn]; exact (hal 0 (by omega)).2
  have hkm2 : (k : Int) + (m : Int) = ((k + m : Nat) : Int) := by omega
  obtain ⟨R, hR⟩ : ∃ R, R = k + m := ⟨_, rfl⟩
  rw [← hR] at hkm hkm2
  have HRR := Lib.hid hR
  have hz1 : ((P.length : Int) == (R : Int)) = true := by rw [hl, hR]; simp
  have hz2 : ((P.length : Int) != (R : Int)) = false := by rw [hl, hR]; simp
  obtain ⟨q, hq⟩ : ∃ q, q = (thL P).length := ⟨_, rfl⟩
  rw [← hq] at hle
  have HQ := Lib.hid hq
  have hd1 : decide ((q : Int) < (k : Int)) = false := by simp; omega
  have hkR : k ≤ R := by omega
  have hqR : q ≤ R := by rw [hq]; have := thAt_len (thQ P) P.length; unfold thL; omega
  clear hck hP hl hsl hal hX hn hR hq hmax
  go_enter Tryd.func8, Tryd.ntmps8
  go_wp2_with fail
  refine HCK.out.mono ?_
  rintro e w' ⟨rfl, rfl⟩
  go_wp2_with fail
  (with_reducible refine HTH.out.mono ?_)
  rintro e w1 ⟨va, vl, rfl, hth, hb⟩
  have ho1 : w1.ownsRow w.heap.size 3 1 va (thL P).length (atV (thL P)) := hth.1
  have hss : StrsS w1 vl (thS P) := own_strs (d := thD P) (l := thL P) hth.2.1 HMAX.out
  obtain ⟨ga, ca, rfl, hca, hcam, hints⟩ := own_ints ho1 (fun x hx => by have := thL_lt P x hx; have := HPL.out; have := HRR.out; omega) k (by rw [← HQ.out]; exact hle) hk
  obtain ⟨bl, ol, cl, rfl, hcl, hclm, _⟩ := hss.reads (by rw [HSL.out, ← HQ.out]; omega)
  have hak := alike_any hss
  rw [HAL.out] at hak
  rw [HSL.out, ← HQ.out] at hcl hss hak
  rw [← HQ.out] at hca
  have HSS := Lib.hid hss
  have HAK := Lib.hid hak
  have HINT := Lib.hid hints
  have HB := Lib.hid hb
  unfold maxLen at hcam
  rw [HSL.out, ← HQ.out]
  clear hth ho1 hss hak hints hb HTH HCK
  go_wp2_with fail
  (with_reducible refine HAK.out.mono ?_)
  rintro e w' ⟨rfl, rfl⟩
  go_wp2_with fail
  (with_reducible refine (stripe_any k m hk (by have := HRR.out; omega) _).mono ?_)
  rintro e w2 ⟨vr, rfl, hs, hb⟩
  obtain ⟨br, orr, cr, rfl, hrc, hrm, _⟩ := MatV.reads hs (Nat.le_refl _) (by omega) hk
  have HS := Lib.hid hs
  have HDR : Hid (MatS w2 (.slice (some ⟨br, orr + k, none⟩) m (cr - k)) (rowsL m k (fun i => stack k (k + i)))) := Lib.hid (MatS.drop hs hk hk hrc hrm)
  replace HSS := Lib.hid (HSS.out.below hb)
  have hI2 : IntsV w2 w2.heap.size (.slice (some ⟨ga, 0, none⟩) k ca) (((thL P).take k).map fun i : Nat => (i : Int)) := by
    obtain ⟨A', c', e, i1, i2, i3, i4⟩ := IntsV.below HINT.out hb (Nat.le_refl _)
    refine ⟨A', c', e, i1, i2, i3, ?_⟩
    rcases i4 with i4 | ⟨b, off, e2, hlt, hc⟩
    · exact .inl i4
    · exact .inr ⟨b, off, e2, Nat.lt_of_lt_of_le hlt hb.size, hc⟩
  replace HB := Lib.hid (HB.out.trans (hb.mono HB.out.size))
  have hlt5 : (((thL P).take k).map fun i : Nat => (i : Int)).length = k := by simp; have := HQ.out; omega
  have hin : InRows (k + m) (((thL P).take k).map fun i : Nat => (i : Int)) := fun i hi => by
    rw [hlt5] at hi
    have hi2 : i < (thL P).length := by have := HQ.out; omega
    have hg : (((thL P).take k).map fun i : Nat => (i : Int)).getD i 0 = ((thL P)[i] : Int) := by simp [List.getD, hi, hi2]
    rw [hg]
    have := thL_lt P _ (List.getElem_mem hi2)
    rw [HPL.out] at this
    omega
  have hbk := back_any (n := k + m) (by have := HRR.out; omega) hk (by omega) hs hI2 hlt5 hin HX.out
  rw [← HRR.out] at hbk
  have HBK := Lib.hid hbk
  unfold maxLen at hrm
  rw [← HRR.out] at hrc ⊢
  have hqc : k ≤ ca := by omega
  have hqc2 : k ≤ cl := by omega
  clear hs hb hI2 hlt5 hin hbk hd1 hz1 hz2 hkm2 HAK
  go_wp2_with fail
  (with_reducible refine HBK.out.mono ?_)
  rintro e w3 ⟨vi, rfl, hmi, hb⟩
  replace HSS := Lib.hid (HSS.out.below hb)
  replace HDR := Lib.hid (HDR.out.below hb)
  replace HB := Lib.hid (HB.out.trans (hb.mono HB.out.size))
  have htk := HSS.out.take k hle
  have htl : ((thS P).take k).length = k := by simp; rw [HSL.out, ← HQ.out]; omega
  have hgd : ∀ j, j < k → (((thS P).take k).getD j ByteArray.empty).size = n := fun j hj => by
    have hj2 : j < (thS P).length := by rw [HSL.out, ← HQ.out]; omega
    have e : ((thS P).take k).getD j ByteArray.empty = (thS P).getD j ByteArray.empty := by simp [List.getD, hj]
    rw [e, HN.out]
    exact (HAL2.out j hj2).1
  have hwv := weave_any hmi (by omega) hk (by omega) htk htl hgd hn2
  have HWV := Lib.hid hwv
  have HW3 := Lib.hid HB.out.size
  clear hmi hb htk htl hgd hwv HBK HINT
  go_wp2_with fail
  (with_reducible refine HWV.out.mono ?_)
  rintro e w4 ⟨vd, rfl, hnd, hb⟩
  replace HDR := Lib.hid (HDR.out.below hb)
  replace HB := Lib.hid (HB.out.trans (hb.mono HB.out.size))
  have hdata : weaveL k k n X ((thS P).take k) = decData k X (thS P) := by unfold decData; rw [HN.out]
  rw [hdata] at hnd
  have hdl : (decData k X (thS P)).length = k := by unfold decData; rw [weaveL_len]
  have hgd : ∀ j, j < k → ((decData k X (thS P)).getD j ByteArray.empty).size = n := fun j hj => by
    unfold decData
    rw [weaveL_getD _ _ hj, weaveS_size, HN.out]
  have HND := Lib.hid hnd
  have HDL := Lib.hid hdl
  have HGD := Lib.hid hgd
  obtain ⟨bd, cd, hfd, hvd, _⟩ := hnd
  rw [hdl] at hvd
  obtain rfl := hvd
  have HFIN : Hid (decAll k m X (thS P) = decData k X (thS P) ++ weaveL m k n (cauF k) (decData k X (thS P))) := Lib.hid (by unfold decAll; rw [HN.out])
  try rw [HFIN.out]
  generalize decData k X (thS P) = DD at *
  have hsz4 := hb.size
  clear hb hdata hdl hgd HWV HSS HX HN HMAX
  have hbw := HB.out.size
  have HMR : Hid (∃ vx, (cr = k ∧ m = 0 ∧ vx = .slice (some ⟨br, orr, none⟩) 0 0 ∨ cr ≠ k ∧ vx = .slice (some ⟨br, orr + k, none⟩) m (cr - k)) ∧ MatS w4 vx (rowsL m k (cauF k))) := Lib.hid (by
    by_cases hcap : cr = k
    · have hm0 : m = 0 := by have := HRR.out; omega
      refine ⟨_, .inl ⟨hcap, hm0, rfl⟩, ?_⟩
      subst hm0
      rw [show rowsL 0 k (cauF k) = [] from List.eq_nil_of_length_eq_zero (rowsL_len _ _ _)]; exact matS_none
    · refine ⟨_, .inr ⟨hcap, rfl⟩, ?_⟩
      have := HDR.out
      rw [rowsL_congr (g := cauF k) (fun i hi j hj => stack_cau hj (by have := HRR.out; omega))] at this
      exact this)
  obtain ⟨i1, hi1, hz3, hz4, hz5⟩ := info_parts infoString
  obtain ⟨vx, hvx, hmx⟩ := HMR.out
  have hwv2 := weave_any hmx (by have := HRR.out; omega) hk (by omega) HND.out.strs HDL.out HGD.out hn2
  have HWV := Lib.hid hwv2
  have HPOST : Hid (∀ (w5 : World) (ve : Value), NewStrs w5 w4.heap.size ve (weaveL m k n (cauF k) DD) → Below w4.heap.size w4 w5 →
      ∃ xs ys b2 c2, ve = .slice (some ⟨b2, 0, none⟩) m c2 ∧ m ≤ c2 ∧ c2 ≤ maxLen ∧ w5.ownsRow w3.heap.size 9 1 (.slice (some ⟨bd, 0, none⟩) k cd) k xs ∧ ys.length = m * 1 ∧ (∀ j u, ys[j]? = some u → w5.cell? ((⟨b2, 0, none⟩ : Addr).add j) = some u) ∧ (∀ u, u ∈ ys → u.oneCell' = true) ∧
        ∀ (w6 : World) (v' : Value), w6.ownsRow w3.heap.size 9 1 v' (k + m) (xs ++ ys) → StrsS w6 v' (DD ++ weaveL m k n (cauF k) DD)) := Lib.hid (fun w5 ve hne hb => by
    exact new_app (HND.out.below hb) hne HDL.out (weaveL_len _ _ _ _ _))
  clear hwv2 hmx HMR
  have hwb := HW3.out
  rcases hvx with ⟨hc1, hc2, rfl⟩ | ⟨hc1, rfl⟩
  · subst hc2
    obtain rfl : cr = k := hc1
    have hRk : R = cr := HRR.out
    have hm5 : (0 : Nat) ≤ 255 := by omega
    subst hRk
    go_wp2_with fail
    (with_reducible refine HWV.out.mono ?_)
    rintro e w5 ⟨ve, rfl, hne, hb⟩
    obtain ⟨xs, ys, b2, c2, rfl, f1, f2, f3, f4, f5, f6, f7⟩ := HPOST.out w5 ve hne hb
    replace HB := Lib.hid (HB.out.trans (hb.mono HB.out.size))
    have hs5 := hb.size
    have F3 := Lib.hid f3
    have F4 := Lib.hid f4
    have F5 := Lib.hid f5
    have F6 := Lib.hid f6
    have F7 := Lib.hid f7
    unfold maxLen at f2
    clear hne hb f3 f4 f5 f6 f7 HPOST HWV
    go_wp2_with (at_builtin; (with_reducible refine wpList_append_own_at _ ?g0 (.tmp 66) (.tmp 71) 22 ?g1 w3.heap.size 9 i1 (.string ByteArray.empty) 1 16 Tryd.underlying22 hi1 hz3 hz4 hz5 ?g2 (by decide) (.slice (some ⟨bd, 0, none⟩) R cd) R xs ?g3 F3.out ⟨b2, 0, none⟩ 0 c2 ys ?g4 ?g5 ?c1 ?c2 ?c3 ?c4 ?c5 ?_)
                 case g0 => rfl
                 case g1 => rfl
                 case g2 => rfl
                 case g3 => rfl
                 case g4 => rfl
                 case g5 => exact F4.out
                 case c1 => exact F5.out
                 case c2 => exact F6.out
                 case c3 => unfold maxLen; omega
                 case c4 => omega
                 case c5 => omega
                 intro v6 w6 hown6 hgrow6 _ _)
    have HST := Lib.hid (F7.out w6 v6 hown6)
    have HB6 : Hid (Below w.heap.size w w6) := Lib.hid (HB.out.grown hgrow6 (by omega) (fun g hg => by have := (World.ownsRow.lt F3.out g hg).1; omega))
    clear hown6 hgrow6
    go_ret2
    exact ⟨_, rfl, (by rw [HFIN.out]; exact HST.out), HB6.out⟩
  · have hRk : R - k = m := by have := HRR.out; omega
    have hcap2 : ¬ cr - k = 0 := by omega
    have hm5 : m ≤ 255 := by have := HRR.out; omega
    go_wp2_with fail
    (with_reducible refine HWV.out.mono ?_)
    rintro e w5 ⟨ve, rfl, hne, hb⟩
    obtain ⟨xs, ys, b2, c2, rfl, f1, f2, f3, f4, f5, f6, f7⟩ := HPOST.out w5 ve hne hb
    replace HB := Lib.hid (HB.out.trans (hb.mono HB.out.size))
    have hs5 := hb.size
    have F3 := Lib.hid f3
    have F4 := Lib.hid f4
    have F5 := Lib.hid f5
    have F6 := Lib.hid f6
    have F7 := Lib.hid f7
    unfold maxLen at f2
    clear hne hb f3 f4 f5 f6 f7 HPOST HWV
    go_wp2_with (at_builtin; (with_reducible refine wpList_append_own_at _ ?h0 (.tmp 66) (.tmp 71) 22 ?h1 w3.heap.size 9 i1 (.string ByteArray.empty) 1 16 Tryd.underlying22 hi1 hz3 hz4 hz5 ?h2 (by decide) (.slice (some ⟨bd, 0, none⟩) k cd) k xs ?h3 F3.out ⟨b2, 0, none⟩ m c2 ys ?h4 ?h5 ?d1 ?d2 ?d3 ?d4 ?d5 ?_)
                 case h0 => rfl
                 case h1 => rfl
                 case h2 => rfl
                 case h3 => rfl
                 case h4 => rfl
                 case h5 => exact F4.out
                 case d1 => exact F5.out
                 case d2 => exact F6.out
                 case d3 => unfold maxLen; omega
                 case d4 => omega
                 case d5 => omega
                 intro v6 w6 hown6 hgrow6 _ _)
    have HST := Lib.hid (F7.out w6 v6 hown6)
    have HB6 : Hid (Below w.heap.size w w6) := Lib.hid (HB.out.grown hgrow6 (by omega) (fun g hg => by have := (World.ownsRow.lt F3.out g hg).1; omega))
    clear hown6 hgrow6
    go_ret2
    exact ⟨_, rfl, (by rw [HFIN.out]; exact HST.out), HB6.out⟩
end Go.Proofs.YtpldnbfbpajbkabDoor
namespace Go.Proofs.YtpldnbfbpajbkabDoor
open Go.RowKit
open Caulk.Lin (Fn2 sx stack invM any_inv)

theorem decode_one {w : World} {vp : Value} {k m : Int} {P : List (Bool × ByteArray)} (hP : PiecesS w vp P) (hkw : -9223372036854775808 ≤ k ∧ k ≤ 9223372036854775807) (hmw : -9223372036854775808 ≤ m ∧ m ≤ 9223372036854775807) (h : rsE k m ≠ 0) :
    Calls Tryd.prog 8 #[.int .i64 k, .int .i64 m, vp] w fun e w' => e = .returned (.tuple #[.slice none 0 0, .int .i64 1]) ∧ w = w' := by
  have hck := rsCheck_any k m hkw hmw w
  rw [show rsE k m = 1 by unfold rsE at h ⊢; split at h <;> simp_all] at hck
  obtain ⟨A, c, rfl, hlc, hcm⟩ := hP.opened
  have HCK := Lib.hid hck
  clear hck h hP
  go_enter Tryd.func8, Tryd.ntmps8
  go_wp2_with fail
  refine HCK.out.mono ?_
  rintro e w' ⟨rfl, rfl⟩
  go_wp2
  go_ret2
  exact ⟨rfl, rfl⟩
/-- A slice of strings, behind there. -/
theorem there_left {w1 : World} {P : List (Bool × ByteArray)} {va vl : Value} {B : Nat} (hmax : ∀ p, p ∈ P → p.2.size ≤ maxLen) (hth : ThereO w1 B va vl (thD P) (thL P)) : StrsS w1 vl (thS P) :=
  own_strs (d := thD P) (l := thL P) hth.2.1 (fun i hi => by
    have hlt := thL_lt P i hi
    unfold thD
    exact hmax _ (by rw [List.getD, List.getElem?_eq_getElem hlt]; exact List.getElem_mem hlt))
theorem own_open {w : World} {B : Nat} {t : TypeId} {v : Value} {n : Nat} {xs : List Value} (h : w.ownsRow B t 1 v n xs) : ∃ A c, v = .slice A n c ∧ n ≤ c ∧ c ≤ 9223372036854775807 := by
  rcases h.2 with ⟨rfl, e⟩ | ⟨g, c, cur, rfl, hb, hh, hn, hm, hs, ht⟩
  · subst e; exact ⟨none, 0, rfl, Nat.le_refl _, by omega⟩
  · unfold maxLen at hm; exact ⟨_, c, rfl, hn, hm⟩
set_option maxRecDepth 10000 in
set_option maxHeartbeats 1000000 in
theorem decode_two {w : World} {vp : Value} {k m : Nat} {P : List (Bool × ByteArray)} (hk : 1 ≤ k) (hkm : k + m ≤ 255) (hP : PiecesS w vp P) (hmax : P.length ≤ 1000000000000) (h : ¬ (P.length = k + m ∧ alikeB (thS P) = true)) :
    Calls Tryd.prog 8 #[.int .i64 (k : Int), .int .i64 (m : Int), vp] w fun e w' => e = .returned (.tuple #[.slice none 0 0, .int .i64 2]) ∧ Below w.heap.size w w' := by
  have hck := rsCheck_any (k : Int) (m : Int) (by omega) (by omega) w
  rw [show rsE (k : Int) (m : Int) = 0 from if_pos (by omega)] at hck
  have HCK := Lib.hid hck
  have HTH := Lib.hid (there_any hP hmax)
  have HMAX : Hid (∀ p, p ∈ P → p.2.size ≤ maxLen) := Lib.hid (by obtain ⟨_, _, _, _, _, _, hs, _⟩ := hP; exact hs)
  obtain ⟨A, c, rfl, hlc, hcm⟩ := hP.opened
  obtain ⟨R, hR⟩ : ∃ R, R = k + m := ⟨_, rfl⟩
  have hkm2 : (k : Int) + (m : Int) = (R : Int) := by omega
  rw [← hR] at hkm h
  obtain ⟨q, hq⟩ : ∃ q, q = (thL P).length := ⟨_, rfl⟩
  have HQ := Lib.hid hq
  by_cases hl : P.length = R
  · have hal : alikeB (thS P) = false := by
      cases hh : alikeB (thS P) with
      | false => rfl
      | true => exact absurd ⟨hl, hh⟩ h
    have HAL := Lib.hid hal
    have hz1 : ((P.length : Int) == (R : Int)) = true := by rw [hl]; simp
    have hz2 : ((P.length : Int) != (R : Int)) = false := by rw [hl]; simp
    clear hck hP hl hal hR h hmax hq
    go_enter Tryd.func8, Tryd.ntmps8
    go_wp2_with fail
    refine HCK.out.mono ?_
    rintro e w' ⟨rfl, rfl⟩
    go_wp2_with fail
    (with_reducible refine HTH.out.mono ?_)
    rintro e w1 ⟨va, vl, rfl, hth, hb⟩
    have hss : StrsS w1 vl (thS P) := there_left HMAX.out hth
    have hak := alike_any hss
    rw [HAL.out] at hak
    have HAK := Lib.hid hak
    have HB := Lib.hid hb
    obtain ⟨Aa, ca, rfl, hca, hcam⟩ := own_open hth.1
    obtain ⟨Al, cl, rfl, hcl, hclm⟩ := own_open hth.2.1
    rw [show (thAt (fun i => (P.getD i (false, ByteArray.empty)).1) P.length).length = q from HQ.out.symm] at hca hcl HAK ⊢
    clear hth hss hak hb HTH HCK
    go_wp2_with fail
    (with_reducible refine HAK.out.mono ?_)
    rintro e w' ⟨rfl, rfl⟩
    go_wp2
    go_ret2
    exact ⟨rfl, HB.out⟩
  · have hz1 : ((P.length : Int) == (R : Int)) = false := by simp; omega
    have hz2 : ((P.length : Int) != (R : Int)) = true := by simp; omega
    clear hck hP hl hR h hmax hq
    go_enter Tryd.func8, Tryd.ntmps8
    go_wp2_with fail
    refine HCK.out.mono ?_
    rintro e w' ⟨rfl, rfl⟩
    go_wp2_with fail
    (with_reducible refine HTH.out.mono ?_)
    rintro e w1 ⟨va, vl, rfl, hth, hb⟩
    have HB := Lib.hid hb
    obtain ⟨Aa, ca, rfl, hca, hcam⟩ := own_open hth.1
    obtain ⟨Al, cl, rfl, hcl, hclm⟩ := own_open hth.2.1
    rw [show (thAt (fun i => (P.getD i (false, ByteArray.empty)).1) P.length).length = q from HQ.out.symm] at hca hcl ⊢
    clear hth hb HTH HCK
    go_wp2
    go_ret2
    exact ⟨rfl, HB.out⟩
set_option maxRecDepth 10000 in
set_option maxHeartbeats 1000000 in
theorem decode_ten {w : World} {vp : Value} {k m : Nat} {P : List (Bool × ByteArray)} (hk : 1 ≤ k) (hkm : k + m ≤ 255) (hP : PiecesS w vp P) (hl : P.length = k + m) (hal : alikeB (thS P) = true) (hle : (thL P).length < k) :
    Calls Tryd.prog 8 #[.int .i64 (k : Int), .int .i64 (m : Int), vp] w fun e w' => e = .returned (.tuple #[.slice none 0 0, .int .i64 10]) ∧ Below w.heap.size w w' := by
  have hck := rsCheck_any (k : Int) (m : Int) (by omega) (by omega) w
  rw [show rsE (k : Int) (m : Int) = 0 from if_pos (by omega)] at hck
  have HCK := Lib.hid hck
  have HTH := Lib.hid (there_any hP (by omega))
  have HMAX : Hid (∀ p, p ∈ P → p.2.size ≤ maxLen) := Lib.hid (by obtain ⟨_, _, _, _, _, _, hs, _⟩ := hP; exact hs)
  obtain ⟨A, c, rfl, hlc, hcm⟩ := hP.opened
  obtain ⟨R, hR⟩ : ∃ R, R = k + m := ⟨_, rfl⟩
  have hkm2 : (k : Int) + (m : Int) = (R : Int) := by omega
  rw [← hR] at hkm hl
  obtain ⟨q, hq⟩ : ∃ q, q = (thL P).length := ⟨_, rfl⟩
  have HQ := Lib.hid hq
  rw [← hq] at hle
  have hd1 : decide ((q : Int) < (k : Int)) = true := by simp; omega
  have hqR : q ≤ 255 := by omega
  have HAL := Lib.hid hal
  have hz1 : ((P.length : Int) == (R : Int)) = true := by rw [hl]; simp
  have hz2 : ((P.length : Int) != (R : Int)) = false := by rw [hl]; simp
  have hsl : (thS P).length = (thL P).length := by simp [thS]
  rw [← hq] at hsl
  clear hck hP hl hal hR hq
  go_enter Tryd.func8, Tryd.ntmps8
  go_wp2_with fail
  refine HCK.out.mono ?_
  rintro e w' ⟨rfl, rfl⟩
  go_wp2_with fail
  (with_reducible refine HTH.out.mono ?_)
  rintro e w1 ⟨va, vl, rfl, hth, hb⟩
  have hss : StrsS w1 vl (thS P) := there_left HMAX.out hth
  have hak := alike_any hss
  rw [HAL.out] at hak
  have HAK := Lib.hid hak
  have HB := Lib.hid hb
  obtain ⟨Aa, ca, rfl, hca, hcam⟩ := own_open hth.1
  obtain ⟨Al, cl, rfl, hcl, hclm⟩ := own_open hth.2.1
  rw [show (thAt (fun i => (P.getD i (false, ByteArray.empty)).1) P.length).length = q from HQ.out.symm] at hca hcl HAK ⊢
  clear hth hss hak hb HTH HCK hsl
  go_wp2_with fail
  (with_reducible refine HAK.out.mono ?_)
  rintro e w' ⟨rfl, rfl⟩
  go_wp2
  go_ret2
  exact ⟨rfl, HB.out⟩
/-- Why nothing comes back. -/
noncomputable def decE (k m : Int) (P : List (Bool × ByteArray)) : Int := if rsE k m = 0 then (if (P.length : Int) = k + m ∧ alikeB (thS P) = true then (if ((thL P).length : Int) < k then 10 else 0) else 2) else 1
/-- What does. -/
noncomputable def backX (k : Nat) (P : List (Bool × ByteArray)) : Fn2 := (invM k (pickF (stack k) (((thL P).take k).map fun i : Nat => (i : Int)))).getD (fun _ _ => 0)
noncomputable def decL (k m : Int) (P : List (Bool × ByteArray)) : List ByteArray := if decE k m P = 0 then decAll k.toNat m.toNat (backX k.toNat P) (thS P) else []
theorem back_X {k m : Nat} (hkm : k + m ≤ 255) {P : List (Bool × ByteArray)} (hl : P.length = k + m) (hle : k ≤ (thL P).length) :
    invM k (pickF (stack k) (((thL P).take k).map fun i : Nat => (i : Int))) = some (backX k P) := by
  obtain ⟨X, hX⟩ := pick_inv (k := k) hkm (thL_nodup P) (fun x hx => by have := thL_lt P x hx; omega) hle (by omega)
  unfold backX
  rw [hX]
  rfl
theorem decode_res {w : World} {vp : Value} {k m : Int} {P : List (Bool × ByteArray)} (hP : PiecesS w vp P) (hmax : P.length ≤ 1000000000000) (hkw : -9223372036854775808 ≤ k ∧ k ≤ 9223372036854775807) (hmw : -9223372036854775808 ≤ m ∧ m ≤ 9223372036854775807) :
    Calls Tryd.prog 8 #[.int .i64 k, .int .i64 m, vp] w (StrRes w (decL k m P) (decE k m P)) := by
  by_cases h0 : rsE k m = 0
  · have hb : 1 ≤ k ∧ 0 ≤ m ∧ k + m ≤ 255 := by
      unfold rsE at h0
      by_cases hh : 1 ≤ k ∧ 0 ≤ m ∧ k + m ≤ 255
      · exact hh
      · rw [if_neg hh] at h0; simp at h0
    obtain ⟨kn, rfl⟩ : ∃ n : Nat, k = (n : Int) := ⟨k.toNat, by omega⟩
    obtain ⟨mn, rfl⟩ : ∃ n : Nat, m = (n : Int) := ⟨m.toNat, by omega⟩
    by_cases h1 : (P.length : Int) = (kn : Int) + (mn : Int) ∧ alikeB (thS P) = true
    · have hl : P.length = kn + mn := by have := h1.1; omega
      by_cases h2 : ((thL P).length : Int) < (kn : Int)
      · have e1 : decE (kn : Int) (mn : Int) P = 10 := by unfold decE; rw [if_pos h0, if_pos h1, if_pos h2]
        unfold decL
        rw [e1, if_neg (by decide)]
        exact (decode_ten (by omega) (by omega) hP hl h1.2 (by omega)).mono fun _ _ ⟨a, b⟩ => ⟨_, a, strsS_nil _, b⟩
      · have e1 : decE (kn : Int) (mn : Int) P = 0 := by unfold decE; rw [if_pos h0, if_pos h1, if_neg h2]
        unfold decL
        rw [e1, if_pos rfl, Int.toNat_natCast, Int.toNat_natCast]
        exact decode_ok (by omega) (by omega) hP hl (alikeB_iff.1 h1.2) (by omega) (back_X (by omega) hl (by omega))
    · have e1 : decE (kn : Int) (mn : Int) P = 2 := by unfold decE; rw [if_pos h0, if_neg h1]
      unfold decL
      rw [e1, if_neg (by decide)]
      refine (decode_two (by omega) (by omega) hP hmax (fun h => h1 ⟨by have := h.1; omega, h.2⟩)).mono fun _ _ ⟨a, b⟩ => ⟨_, a, strsS_nil _, b⟩
  · have e1 : decE k m P = 1 := by unfold decE; rw [if_neg h0]
    unfold decL
    rw [e1, if_neg (by decide)]
    exact (decode_one hP hkw hmw h0).mono fun _ _ ⟨a, b⟩ => by subst b; exact ⟨_, a, strsS_nil _, Below.refl _ _⟩
end Go.Proofs.YtpldnbfbpajbkabDoor
