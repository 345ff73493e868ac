/- The contract of rs.there. -/
import Derived.Test.YtpldnbfbpajbkabRsE
namespace Go.Proofs.Ytpldnbfbpajbkab
open Go.RowKit

/-- A slice of pieces: whether each is there, and its bytes. -/
def PiecesS (w : World) (v : Value) (P : List (Bool × ByteArray)) : Prop :=
  ∃ A cap, v = .slice A P.length cap ∧ (A = none → cap = 0) ∧ P.length ≤ cap ∧ cap ≤ maxLen ∧ (∀ p, p ∈ P → p.2.size ≤ maxLen) ∧ (P = [] ∨ ∃ b off, A = some ⟨b, off, none⟩ ∧ b < w.heap.size ∧ ∀ j, j < P.length → w.cell? ⟨b, off + j * 2, none⟩ = some (.bool (P.getD j (false, ByteArray.empty)).1) ∧ w.cell? ⟨b, off + j * 2 + 1, none⟩ = some (.string (P.getD j (false, ByteArray.empty)).2))
theorem PiecesS.below {w w' : World} {v : Value} {P : List (Bool × ByteArray)} (h : PiecesS w v P) (hb : Below w.heap.size w w') : PiecesS w' v P := by
  obtain ⟨A, cap, rfl, h1, h2, h3, h4, h5⟩ := h
  refine ⟨A, cap, rfl, h1, h2, h3, h4, ?_⟩
  rcases h5 with h5 | ⟨b, off, rfl, hlt, hc⟩
  · exact .inl h5
  · exact .inr ⟨b, off, rfl, Nat.lt_of_lt_of_le hlt hb.size, fun j hj => ⟨(hb.cell (p := ⟨b, off + j * 2, none⟩) hlt).trans (hc j hj).1, (hb.cell (p := ⟨b, off + j * 2 + 1, none⟩) hlt).trans (hc j hj).2⟩⟩
theorem PiecesS.opened {w : World} {v : Value} {P : List (Bool × ByteArray)} (h : PiecesS w v P) : ∃ A c, v = .slice A P.length c ∧ P.length ≤ c ∧ c ≤ 9223372036854775807 := by
  obtain ⟨A, c, rfl, _, h2, h3, _⟩ := h
  unfold maxLen at h3
  exact ⟨A, c, rfl, h2, h3⟩
theorem infoInt : (Try.prog.info? 3).map (fun i => (i.zero, i.size, i.bytes)) = some (some (.int .i64 0), 1, 8) := by kernel_rfl
theorem infoString : (Try.prog.info? 9).map (fun i => (i.zero, i.size, i.bytes)) = some (some (.string ByteArray.empty), 1, 16) := by kernel_rfl
/-- The places of those that are there, among the first k. -/
def thAt (q : Nat → Bool) (k : Nat) : List Nat := (List.range k).filter q
theorem thAt_succ (q : Nat → Bool) (k : Nat) : thAt q (k + 1) = thAt q k ++ (if q k then [k] else []) := by
  unfold thAt
  rw [List.range_succ, List.filter_append]
  congr 1
  cases h : q k <;> simp [h]
theorem thAt_len (q : Nat → Bool) (k : Nat) : (thAt q k).length ≤ k := by
  have := List.length_filter_le q (List.range k)
  rw [List.length_range] at this
  exact this
def atV (l : List Nat) : List Value := l.map fun i : Nat => .int .i64 (i : Int)
def leftV (d : Nat → ByteArray) (l : List Nat) : List Value := l.map fun i => .string (d i)
/-- Both lists, owned, apart from one another. -/
def ThereO (w : World) (B : Nat) (va vl : Value) (d : Nat → ByteArray) (l : List Nat) : Prop :=
  w.ownsRow B 3 1 va l.length (atV l) ∧ w.ownsRow B 9 1 vl l.length (leftV d l) ∧ (va.ownBlock = none ∨ va.ownBlock ≠ vl.ownBlock)
theorem own_below {w w' : World} {B size n : Nat} {t : TypeId} {v : Value} {xs : List Value} (h : w.ownsRow B t size v n xs) (hb : Below w.heap.size w w') : w'.ownsRow B t size v n xs := by
  refine ⟨h.1, ?_⟩
  rcases h.2 with q | ⟨g, cap, cur, rfl, q1, q2, q3⟩
  · exact .inl q
  · exact .inr ⟨g, cap, cur, rfl, q1, (hb.block g (Array.getElem?_eq_some_iff.1 q2).1).trans q2, q3⟩
theorem ThereO.below {w w' : World} {B : Nat} {va vl : Value} {d : Nat → ByteArray} {l : List Nat} (h : ThereO w B va vl d l) (hb : Below w.heap.size w w') : ThereO w' B va vl d l :=
  ⟨own_below h.1 hb, own_below h.2.1 hb, h.2.2⟩
theorem atV_snoc (l : List Nat) (k : Nat) : atV (l ++ [k]) = atV l ++ [.int .i64 (k : Int)] := by simp [atV]
theorem leftV_snoc (d : Nat → ByteArray) (l : List Nat) (k : Nat) : leftV d (l ++ [k]) = leftV d l ++ [.string (d k)] := by simp [leftV]
set_option maxRecDepth 10000 in
set_option maxHeartbeats 2000000 in
theorem there_any {w : World} {v : Value} {P : List (Bool × ByteArray)} (h : PiecesS w v P) (hmax : P.length ≤ 1000000000000) :
    Calls Try.prog 17 #[v] w fun e w' => ∃ va vl, e = .returned (.tuple #[va, vl]) ∧ ThereO w' w.heap.size va vl (fun i => (P.getD i (false, ByteArray.empty)).2) (thAt (fun i => (P.getD i (false, ByteArray.empty)).1) P.length) ∧ Below w.heap.size w w' := by
  obtain ⟨q, hq⟩ : ∃ q : Nat → Bool, q = fun i => (P.getD i (false, ByteArray.empty)).1 := ⟨_, rfl⟩
  obtain ⟨d, hd⟩ : ∃ d : Nat → ByteArray, d = fun i => (P.getD i (false, ByteArray.empty)).2 := ⟨_, rfl⟩
  rw [← hq, ← hd]
  have HC : Hid (∀ k, k < P.length → ∃ b off c, v = .slice (some ⟨b, off, none⟩) P.length c ∧ ∀ W, Below w.heap.size w W → W.cell? ⟨b, off + k * 2, none⟩ = some (.bool (q k)) ∧ W.cell? ⟨b, off + k * 2 + 1, none⟩ = some (.string (d k))) := Lib.hid (fun k hk => by
    obtain ⟨A, cap, rfl, h1, h2, h3, h4, h5⟩ := h
    rcases h5 with h5 | ⟨b, off, rfl, hlt, hc⟩
    · rw [h5] at hk; simp at hk
    · refine ⟨b, off, cap, rfl, fun W hW => ?_⟩
      rw [hW.cell (p := ⟨b, off + k * 2, none⟩) hlt, hW.cell (p := ⟨b, off + k * 2 + 1, none⟩) hlt, hq, hd]
      exact hc k hk)
  obtain ⟨A, cap, rfl, hlc, hcm⟩ := h.opened
  obtain ⟨n, hn⟩ : ∃ n, n = P.length := ⟨_, rfl⟩
  rw [← hn] at HC hlc hmax ⊢
  obtain ⟨i0, hi0, hz0, hz1, hz2⟩ := info_parts infoInt
  obtain ⟨i1, hi1, hz3, hz4, hz5⟩ := info_parts infoString
  clear h hq hd hn
  go_enter Try.func17, Try.ntmps17
  go_wp2
  go_loopw [4, 5, 10] (fun za zl i wr => ∃ (k : Nat) (va vl : Value), k ≤ n ∧ i = .int .i64 k ∧ va = za ∧ vl = zl ∧ ThereO wr w.heap.size va vl d (thAt q k) ∧ Below w.heap.size w wr) (fun _ _ i _ => n - (intOf i).toNat)
  case atStart => exact ⟨0, .slice none 0 0, .slice none 0 0, by omega, rfl, rfl, rfl, (show ThereO w w.heap.size _ _ d [] from ⟨World.ownsRow_nil _ _ _ _, World.ownsRow_nil _ _ _ _, .inl rfl⟩), Below.refl _ _⟩
  case round =>
    obtain ⟨k, va, vl, hk, rfl, rfl, rfl, hth, hbe⟩ := hrel
    have HTH := Lib.hid hth
    have HBE := Lib.hid hbe
    clear hth hbe
    by_cases hlt : k < n
    · obtain ⟨b, off, c, hv, hW⟩ := HC.out k hlt
      injection hv with hv1 hv2 hv3
      subst hv1; subst hv3
      obtain ⟨hc1, hc2⟩ := hW wr HBE.out
      have hs1 := HBE.out.size
      have hbl := World.block_lt_of_cell? wr _ hc1
      clear hW
      cases hqk : q k with
      | false =>
        rw [hqk] at hc1
        have hth2 : thAt q (k + 1) = thAt q k := by rw [thAt_succ, hqk]; simp
        have HT2 := Lib.hid hth2
        clear hqk hth2
        have HT3 := Lib.hid (HTH.out.below (below_alloc wr (.cells #[.bool false, .string (d k)] 31)))
        have HB3 := Lib.hid (HBE.out.alloc hs1 (.cells #[.bool false, .string (d k)] 31))
        go_wp2
        go_roundw
        case rel => exact ⟨k + 1, va, vl, by omega, by go_num, rfl, rfl, by rw [HT2.out]; exact HT3.out, HB3.out⟩
        case measure => simp [intOf]; omega
      | true =>
        rw [hqk] at hc1
        have hth2 : thAt q (k + 1) = thAt q k ++ [k] := by rw [thAt_succ, hqk]; simp
        have HT2 := Lib.hid hth2
        have hlen := thAt_len q k
        obtain ⟨m, hm⟩ : ∃ m, m = (thAt q k).length := ⟨_, rfl⟩
        rw [← hm] at hlen
        have HM := Lib.hid hm
        have hbe0 : Below wr.heap.size wr ((wr.alloc (.cells #[.bool true, .string (d k)] 31)).alloc (.cells #[.int .i64 (k : Int)] 3)) := ((Below.refl _ wr).alloc (Nat.le_refl _) _).alloc (by simp) _
        have HBE0 := Lib.hid hbe0
        have ho1 := (HTH.out.below hbe0).1
        rw [← hm] at ho1
        have HO1 := Lib.hid ho1
        have hcn := cell_one_new (wr.alloc (.cells #[.bool true, .string (d k)] 31)) (.int .i64 (k : Int)) 3
        rw [World.size_alloc] at hcn
        have HCN := Lib.hid hcn
        have HBOX : Hid (∀ w1 : World, ((wr.alloc (.cells #[.bool true, .string (d k)] 31)).alloc (.cells #[.int .i64 (k : Int)] 3)).grownBy w1 va.ownBlock → w1.cell? ⟨wr.heap.size, 1, none⟩ = some (.string (d k))) := Lib.hid (fun w1 hg => by
          refine hg.cell (a := ⟨wr.heap.size, 1, none⟩) ?_ (fun e => absurd (World.ownsRow.lt HTH.out.1 _ e.symm).2 (Nat.lt_irrefl _))
          rw [World.cell?_alloc_past _ _ _ (by simp), World.cell?_alloc_at _ _ _ _ rfl]; rfl)
        clear hqk hth2 hm hbe0 ho1 hcn
        go_wp2_with (first
          | (at_builtin
             (with_reducible refine wpList_append_own_at _ ?g0 (.tmp 17) (.tmp 19) 47 ?g1 w.heap.size 3 i0 (.int .i64 0) 1 8 Try.underlying47 hi0 hz0 hz1 hz2 ?g2 (by decide) va m (atV (thAt q k)) ?g3 HO1.out ⟨wr.heap.size + 1, 0, none⟩ 1 1 [.int .i64 (k : Int)] ?g4 ?g5 ?c1 ?c2 ?c3 ?c4 ?c5 ?_)
             case g0 => rfl
             case g1 => rfl
             case g2 => rfl
             case g3 => rfl
             case g4 => rfl
             case g5 => rfl
             case c1 => exact HCN.out
             case c2 => simp [Value.oneCell']
             case c3 => unfold maxLen; omega
             case c4 => omega
             case c5 => simp; omega
             intro va' w1 hown1 hgrow1 _ hat1
             have hbox := HBOX.out w1 hgrow1
             have hsz1 := hgrow1.size
             simp only [World.size_alloc] at hsz1
             have HOWN1 := Lib.hid hown1
             have HGR1 := Lib.hid hgrow1
             have HAT1 := Lib.hid hat1
             have hol : w1.ownsRow w.heap.size 9 1 vl m (leftV d (thAt q k)) := by
               have h0 := own_below HTH.out.2.1 HBE0.out
               rw [← HM.out] at h0
               refine h0.kept hgrow1 ?_
               rcases HTH.out.2.2 with e | e
               · cases hv : vl.ownBlock with
                 | none => exact .inl rfl
                 | some g => right; rw [e]; simp
               · exact .inr (Ne.symm e)
             have HOL := Lib.hid (World.ownsRow.alloc hol (.cells #[.string (d k)] 9))
             have HOL0 := Lib.hid hol
             clear hown1 hgrow1 hat1 hol)
          | (at_builtin
             (with_reducible refine wpList_append_own_at _ ?hg0 (.tmp 21) (.tmp 24) 22 ?hg1 w.heap.size 9 i1 (.string ByteArray.empty) 1 16 Try.underlying22 hi1 hz3 hz4 hz5 ?hg2 (by decide) vl m (leftV d (thAt q k)) ?hg3 HOL.out ⟨w1.heap.size, 0, none⟩ 1 1 [.string (d k)] ?hg4 ?hg5 ?hc1 ?hc2 ?hc3 ?hc4 ?hc5 ?_)
             case hg0 => rfl
             case hg1 => rfl
             case hg2 => rfl
             case hg3 => rfl
             case hg4 => rfl
             case hg5 => rfl
             case hc1 => exact cell_one_new _ _ _
             case hc2 => simp [Value.oneCell']
             case hc3 => unfold maxLen; omega
             case hc4 => omega
             case hc5 => simp; omega
             intro vl' w2 hown2 hgrow2 _ hat2))
        have HT3 : Hid (ThereO w2 w.heap.size va' vl' d (thAt q (k + 1))) := Lib.hid (by
          rw [HT2.out]
          have hl2 : (thAt q k ++ [k]).length = m + 1 := by rw [List.length_append, ← HM.out]; rfl
          have hva1 : va'.ownBlock ≠ none → ∀ g, va'.ownBlock = some g → g < w1.heap.size := fun _ g hg => (World.ownsRow.lt HOWN1.out g hg).2
          have hne : va'.ownBlock = none ∨ va'.ownBlock ≠ vl.ownBlock := by
            rcases HAT1.out with e | e
            · rw [e]; exact HTH.out.2.2
            · right
              rw [e]
              intro e2
              have := (World.ownsRow.lt HTH.out.2.1 _ e2.symm).2
              simp at this
              omega
          refine ⟨?_, ?_, ?_⟩
          · rw [hl2, atV_snoc]
            have h1 := World.ownsRow.alloc HOWN1.out (.cells #[.string (d k)] 9)
            refine h1.kept hgrow2 ?_
            rcases hne with e | e
            · exact .inl e
            · exact .inr e
          · rw [hl2, leftV_snoc]; exact hown2
          · rcases hat2 with e | e
            · rw [e]; exact hne
            · cases hv : va'.ownBlock with
              | none => exact .inl rfl
              | some g =>
                right
                rw [e]
                intro e2
                injection e2 with e2
                have := (World.ownsRow.lt HOWN1.out g hv).2
                simp at e2
                omega)
        have HB3 : Hid (Below w.heap.size w w2) := Lib.hid (by
          have h1 : Below w.heap.size w w1 := (HBE.out.trans (HBE0.out.mono hs1)).grown HGR1.out (by simp; omega) (fun g hg => (World.ownsRow.lt HTH.out.1 g hg).1)
          exact (h1.alloc h1.size _).grown hgrow2 (by simp; omega) (fun g hg => (World.ownsRow.lt HOL0.out g hg).1))
        clear hown2 hgrow2 hat2 hbox
        go_roundw
        case rel => exact ⟨k + 1, va', vl', by omega, by go_num, rfl, rfl, HT3.out, HB3.out⟩
        case measure => simp [intOf]; omega
    · obtain rfl : k = n := by omega
      go_wp2
      go_ret2
      exact ⟨_, _, rfl, HTH.out, HBE.out⟩
end Go.Proofs.Ytpldnbfbpajbkab
