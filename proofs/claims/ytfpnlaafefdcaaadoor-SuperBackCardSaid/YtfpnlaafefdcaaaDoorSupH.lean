/- Superblocks: what stands in the slots, told by the number of the round. Superblocks: the contract of Heal. -/
import Derived.Test.YtfpnlaafefdcaaaDoorSupD
import Derived.Test.YtfpnlaafefdcaaaDoorRangeI
import Derived.Test.YtfpnlaafefdcaaaDoorSupE
namespace Go.Proofs.YtfpnlaafefdcaaaDoor
open Go.RowKit Go.Shelf
attribute [local go_sem] Oper.semAt_some

def encsS (M : DM) (k : Nat) : Array Value := #[.int .i64 (k : Int), .string ⟨(readV M (k : Int)).toArray⟩]
/-- What the closure reads in round k. -/
def RDs (h : DH) (M : DM) (B0 : Nat) (k : Nat) (A : World) : Prop := A.heap[B0]? = some (boxD h.b) ∧ ∃ N, DevAt A h N ∧ (k < 2 → readV N (k : Int) = readV M (k : Int) ∧ readE N (k : Int) = readE M (k : Int))
set_option maxRecDepth 100000 in
set_option maxHeartbeats 2000000 in
theorem stand_tells (F : Fence) (n : Nat) (hf : F.fn 125) (hfR : F.fn 126) (hro : F.round = none) (hn : 1 ≤ n) (hRd : ∀ (W : World) (h : DH) (M : DM) (a : Int), DevAt W h M → CallsIn F (n - 1) Tryd.prog 126 #[.pointer (some ⟨h.b, 0, none⟩), .int .i64 a] W fun e w' => e = .returned (.tuple #[.string ⟨(readV M a).toArray⟩, .int .i64 (readE M a)]) ∧ Below W.heap.size W w')
    (B0 : Nat) (h : DH) (M : DM) (w : World) : TellsI F n Tryd.prog 125 #[.pointer (some ⟨B0, 0, none⟩)] (encsS M) 2 (RDs h M B0) w := by
  intro l J Jx W hW hJb hJd hY h0
  refine callsIn_of_wp Tryd.func125 rfl hf ?_ hro
  simp only [Tryd.ntmps125, List.size_toArray, List.length_cons, List.length_nil, Nat.reduceAdd, Nat.reduceSub, Array.replicate_succ, Array.replicate_zero, List.push_toArray, List.append_toArray, List.nil_append, List.cons_append]
  gi_wp2
  gi_loopw [6] (fun i wr => ∃ k : Nat, k ≤ 2 ∧ i = .int .i64 (k : Int) ∧ J k wr)
    (fun i _ => 2 - secNo i)
  case atStart => exact ⟨0, Nat.zero_le _, rfl, h0⟩
  case round =>
    obtain ⟨k, hk, rfl, hJs⟩ := hrel
    obtain ⟨hox, N, hdN, hrd⟩ := hJd _ _ hJs
    have hcx := boxD_cell hox
    have HOX := Lib.hid hox
    clear hox
    by_cases hlt : k < 2
    · obtain ⟨hv, he⟩ := hrd hlt
      have hR := hRd wr h N (k : Int) hdN
      rw [hv, he] at hR
      have hYk := Lib.hid (fun (W2 : World) (hb : Below wr.heap.size wr W2) => hY k W2 (hJb _ _ _ hJs hb) hlt)
      have HLT := Lib.hid hlt
      have d0 : decide ((k : Int) < 2) = true := decide_eq_true (by omega)
      have hw1 : wrap64 ((k : Int) + 1) = (k : Int) + 1 := by unfold wrap64; omega
      have hw2 : IntKind.i64.wrap ((k : Int) + 1) = (k : Int) + 1 := by rw [IntKind.wrap_i64]; omega
      have HE : Hid (readE M (k : Int) ≠ 0 → (⟨(readV M (k : Int)).toArray⟩ : ByteArray) = ⟨#[]⟩) := Lib.hid (fun h => by rw [readV_no h])
      unfold encsS at hYk
      generalize (⟨(readV M (k : Int)).toArray⟩ : ByteArray) = X at hR hYk HE
      generalize readE M (k : Int) = z at hR HE
      clear hdN hv he hJs hrd
      by_cases hz : z = 0
      · subst hz
        gi_wp2_with (gi_at_call 126; refine hR.mono ?_; rintro e w2 ⟨rfl, hb2⟩; have HB2 := Lib.hid hb2; clear hb2; obtain ⟨fn, tmps, assign, body, hy, hRR⟩ := hYk.out w2 HB2.out)
        refine hRR.mono ?_
        rintro e W3 (⟨rfl, hJ3⟩ | ⟨rfl, hJx3⟩)
        · have HJ3 := Lib.hid hJ3
          clear hJ3
          gi_wp2
          go_roundw
          case rel => exact ⟨k + 1, by have := HLT.out; omega, by simp, HJ3.out⟩
          case measure => simp [secNo]; have := HLT.out; omega
        · gi_wp2
          refine bodyPost_ret (results_none rfl _ _ _) rfl ?_
          exact ⟨⟨_, rfl⟩, .inr ⟨k, HLT.out, hJx3⟩⟩
      · have hX := HE.out hz
        subst hX
        have d2 : (z == 0) = false := by simpa using hz
        have d3 : (z != 0) = true := by simpa using hz
        clear HE hz
        gi_wp2_with (gi_at_call 126; refine hR.mono ?_; rintro e w2 ⟨rfl, hb2⟩; have HB2 := Lib.hid hb2; clear hb2; obtain ⟨fn, tmps, assign, body, hy, hRR⟩ := hYk.out w2 HB2.out)
        refine hRR.mono ?_
        rintro e W3 (⟨rfl, hJ3⟩ | ⟨rfl, hJx3⟩)
        · have HJ3 := Lib.hid hJ3
          clear hJ3
          gi_wp2
          go_roundw
          case rel => exact ⟨k + 1, by have := HLT.out; omega, by simp, HJ3.out⟩
          case measure => simp [secNo]; have := HLT.out; omega
        · gi_wp2
          refine bodyPost_ret (results_none rfl _ _ _) rfl ?_
          exact ⟨⟨_, rfl⟩, .inr ⟨k, HLT.out, hJx3⟩⟩
    · obtain rfl : k = 2 := by omega
      gi_wp2
      go_end0
      exact ⟨⟨_, rfl⟩, .inl hJs⟩
end Go.Proofs.YtfpnlaafefdcaaaDoor
namespace Go.Proofs.YtfpnlaafefdcaaaDoor
open Go.RowKit Go.Shelf
attribute [local go_sem] Oper.semAt_some

/-- What was written to the slot 0 leaves the slot 1. -/
theorem swM_other {M : DM} {p : SP} (h : swE M 0 p = 0) : readV (swM M 0 p) 1 = readV M 1 ∧ readE (swM M 0 p) 1 = readE M 1 := by
  have hS : SupOk p := by
    unfold swE at h
    rw [if_neg (by omega)] at h
    by_cases g : SupOk p
    · exact g
    · rw [if_neg g] at h; omega
  unfold swE at h
  rw [if_neg (by omega), if_pos hS] at h
  have e : swM M 0 p = writeM M 0 ⟨(supL p).toArray⟩ := by unfold swM; rw [if_neg (by omega), if_pos hS]
  rw [e]
  have e2 : writeM M 0 ⟨(supL p).toArray⟩ = { burnM M with fresh := upd M.fresh 0 (some (supL p)), writes := M.writes + 1 } := by unfold writeM; rw [if_pos h]; rfl
  rw [e2]
  have hdn : M.down = false := by
    cases hd : M.down
    · rfl
    · unfold writeE at h; rw [hd, if_pos rfl] at h; omega
  have hb0 : burnE M = 0 := by
    unfold writeE at h
    rw [hdn, if_neg (by simp)] at h
    split at h
    · omega
    · split at h
      · omega
      · exact h
  obtain ⟨b1, b2, b3, b4, b5⟩ := burnM_fresh M
  have hbd : (burnM M).down = false := by
    unfold burnM; unfold burnE at hb0
    split
    · rename_i g; rw [if_pos g] at hb0; omega
    · split <;> exact hdn
  have hE : readE { burnM M with fresh := upd M.fresh 0 (some (supL p)), writes := M.writes + 1 } 1 = readE M 1 := by
    unfold readE
    simp only [hbd, hdn, b2, b5]
    rw [upd_ne _ _ (by decide)]
  refine ⟨?_, hE⟩
  unfold readV
  rw [hE]
  simp only [b4]
  rw [upd_ne _ _ (by decide)]
theorem hd_snoc (l : List Int) (a : Int) : hd (l ++ [a]) = hd l ++ [(a, true)] := by unfold hd; rw [List.map_append]; rfl
theorem hd_len (l : List Int) : (hd l).length = l.length := by unfold hd; rw [List.length_map]
def rH (M : DM) (p : SP) (k : Nat) : DM × List Int × Int := healF M p (List.range k)
theorem rH_succ (M : DM) (p : SP) (k : Nat) : rH M p (k + 1) = healStep M p (rH M p k) k := by unfold rH; rw [List.range_succ, healF_snoc]
/-- An error stored. -/
theorem HT.err {w W : World} {h : DH} {N : DM} {p : SP} {x6 x8 : Nat} {X : ByteArray} {e : Int} {L : List (Int × Bool)} (k : HT w W h N p x6 x8 X e L) (e' : Int) :
    HT w ((W.setCell ⟨w.heap.size + 2, 0, none⟩ (.slice none 0 0)).setCell ⟨w.heap.size + 3, 0, none⟩ (.int .i64 e')) h N p x6 x8 X e' L := by
  have g6 := k.g6
  have g8 := k.g8
  have a : Ap (fun q => q = w.heap.size + 2 ∨ q = w.heap.size + 3) W ((W.setCell ⟨w.heap.size + 2, 0, none⟩ (.slice none 0 0)).setCell ⟨w.heap.size + 3, 0, none⟩ (.int .i64 e')) := ((Ap.refl W).setCell (.inl (.inl rfl)) _).setCell (.inl (.inr rfl)) _
  obtain ⟨v, hv, hr⟩ := k.row
  have hb4 : Boxed (W.setCell ⟨w.heap.size + 2, 0, none⟩ (.slice none 0 0)) (w.heap.size + 2) 48 (.slice none 0 0) := k.b4.set _
  have hb5 : Boxed (W.setCell ⟨w.heap.size + 2, 0, none⟩ (.slice none 0 0)) (w.heap.size + 3) 26 (.int .i64 e) := k.b5.kept (grownBy_setCell' _ _ _) (by intro e; injection e with e; omega)
  have hs2 := k.b4.lt
  have hs3 := k.b5.lt
  refine ⟨k.d.ap a (fun q hq e => by have := k.lt q hq; omega), k.lt, ⟨a.os.trans k.ap.os, a.tape.trans k.ap.tape, a.output.trans k.ap.output, Nat.le_trans k.ap.size a.size, fun q hq hnn => (a.block q (by omega) (by omega)).trans (k.ap.block q hq hnn)⟩, g6, g8, boxed_ap k.b2 a (by omega), boxP_ap k.b3 a (by omega), hb4.kept (grownBy_setCell' _ _ _) (by intro e; injection e with e; omega), hb5.set _, boxed_ap k.b6 a (by omega), v, boxed_ap hv a (by omega), ?_⟩
  refine (hr.kept (grownBy_setCell' W (w.heap.size + 2) (.slice none 0 0)) (.inr (k.b4.not_row (by decide) hr).symm)).kept (grownBy_setCell' _ _ _) (.inr ?_)
  exact (hb5.not_row (by decide) (hr.kept (grownBy_setCell' W (w.heap.size + 2) (.slice none 0 0)) (.inr (k.b4.not_row (by decide) hr).symm))).symm
/-- The end of Heal. -/
theorem HT.fin {w W : World} {h : DH} {N : DM} {p : SP} {x6 x8 D : Nat} {X : ByteArray} {e : Int} {L L2 : List (Int × Bool)} {v : Value} (k : HT w W h N p x6 x8 X e L) (hrow : W.ownsRow w.heap.size 89 2 v L2.length (cpCells L2)) (e' : Int)
    (hK : W.heap[D]? = some (.deferred (some []))) (hD : x8 < D) :
    ((W.setCell ⟨w.heap.size + 2, 0, none⟩ v).setCell ⟨w.heap.size + 3, 0, none⟩ (.int .i64 e')).heap[D]? = some (.deferred (some [])) ∧
    (((W.setCell ⟨w.heap.size + 2, 0, none⟩ v).setCell ⟨w.heap.size + 3, 0, none⟩ (.int .i64 e')).putObj D (.deferred none)).cell? ⟨w.heap.size + 2, 0, none⟩ = some v ∧
    (((W.setCell ⟨w.heap.size + 2, 0, none⟩ v).setCell ⟨w.heap.size + 3, 0, none⟩ (.int .i64 e')).putObj D (.deferred none)).cell? ⟨w.heap.size + 3, 0, none⟩ = some (.int .i64 e') ∧
    (((W.setCell ⟨w.heap.size + 2, 0, none⟩ v).setCell ⟨w.heap.size + 3, 0, none⟩ (.int .i64 e')).putObj D (.deferred none)).ownsRow w.heap.size 89 2 v L2.length (cpCells L2) ∧
    DevAt (((W.setCell ⟨w.heap.size + 2, 0, none⟩ v).setCell ⟨w.heap.size + 3, 0, none⟩ (.int .i64 e')).putObj D (.deferred none)) h N ∧
    Ap h.S w (((W.setCell ⟨w.heap.size + 2, 0, none⟩ v).setCell ⟨w.heap.size + 3, 0, none⟩ (.int .i64 e')).putObj D (.deferred none)) := by
  have g6 := k.g6
  have g8 := k.g8
  have hs2 := k.b4.lt
  have hs3 := k.b5.lt
  have hb4 : Boxed (W.setCell ⟨w.heap.size + 2, 0, none⟩ v) (w.heap.size + 2) 48 v := k.b4.set _
  have hb5 : Boxed (W.setCell ⟨w.heap.size + 2, 0, none⟩ v) (w.heap.size + 3) 26 (.int .i64 e) := k.b5.kept (grownBy_setCell' _ _ _) (by intro e; injection e with e; omega)
  have h1 : (W.setCell ⟨w.heap.size + 2, 0, none⟩ v).heap[D]? = some (.deferred (some [])) := (KeepsOthers.setCell _ _ _).same D _ hK rfl
  have h2 := (KeepsOthers.setCell (W.setCell ⟨w.heap.size + 2, 0, none⟩ v) ⟨w.heap.size + 3, 0, none⟩ (.int .i64 e')).same D _ h1 rfl
  have hr1 := hrow.kept (grownBy_setCell' W (w.heap.size + 2) v) (.inr (k.b4.not_row (by decide) hrow).symm)
  have hr2 := hr1.kept (grownBy_setCell' _ (w.heap.size + 3) (.int .i64 e')) (.inr (hb5.not_row (by decide) hr1).symm)
  have a : Ap (fun q => q = w.heap.size + 2 ∨ q = w.heap.size + 3 ∨ q = D) W (((W.setCell ⟨w.heap.size + 2, 0, none⟩ v).setCell ⟨w.heap.size + 3, 0, none⟩ (.int .i64 e')).putObj D (.deferred none)) :=
    (((Ap.refl W).setCell (.inl (.inl rfl)) _).setCell (.inl (.inr (.inl rfl))) _).grown (grownBy_putObj' _ D _) (fun q e => .inl (.inr (.inr (by injection e with e; exact e.symm))))
  have e4 : Boxed ((W.setCell ⟨w.heap.size + 2, 0, none⟩ v).setCell ⟨w.heap.size + 3, 0, none⟩ (.int .i64 e')) (w.heap.size + 2) 48 v := hb4.kept (grownBy_setCell' _ _ _) (by intro e; injection e with e; omega)
  have e5 : Boxed ((W.setCell ⟨w.heap.size + 2, 0, none⟩ v).setCell ⟨w.heap.size + 3, 0, none⟩ (.int .i64 e')) (w.heap.size + 3) 26 (.int .i64 e') := hb5.set _
  refine ⟨h2, (e4.kept (grownBy_putObj' _ D _) (by intro e; injection e with e; omega)).cell, (e5.kept (grownBy_putObj' _ D _) (by intro e; injection e with e; omega)).cell, ownsRow_putObj hr2 _ h2 rfl, k.d.ap a (fun q hq e => by have := k.lt q hq; omega),
    ⟨a.os.trans k.ap.os, a.tape.trans k.ap.tape, a.output.trans k.ap.output, Nat.le_trans k.ap.size a.size, fun q hq hnn => (a.block q (by omega) (by omega)).trans (k.ap.block q hq hnn)⟩⟩
/-- The start of Heal: four boxes. -/
theorem heal_start (w : World) (h : DH) (p : SP) :
    ∃ W, (((w.alloc (.cells #[.pointer (some ⟨h.b, 0, none⟩)] 39)).alloc (.cells #[.int .i64 p.gen, .int .i64 p.s, .int .i64 p.k, .int .i64 p.m, .int .i64 p.c, .int .i64 p.len, .int .i64 p.a, .int .i64 p.b, .int .u32 (p.sum : Int)] 53)).alloc (.cells #[.slice none 0 0] 48)).alloc (.cells #[.int .i64 0] 26) = W ∧ W.heap.size = w.heap.size + 4 ∧ Below w.heap.size w W ∧
      Boxed W w.heap.size 39 (.pointer (some ⟨h.b, 0, none⟩)) ∧ W.heap[w.heap.size + 1]? = some (boxP p) ∧ Boxed W (w.heap.size + 2) 48 (.slice none 0 0) ∧ Boxed W (w.heap.size + 3) 26 (.int .i64 0) := by
  refine ⟨_, rfl, by simp, ((((Below.refl _ _).alloc (Nat.le_refl _) _).alloc (by simp) _).alloc (by simp; omega) _).alloc (by simp; omega) _, (((Boxed.new w _ _).alloc _).alloc _).alloc _, ?_, ?_, ?_⟩
  · have h1 := World.alloc_heap_new (w.alloc (.cells #[.pointer (some ⟨h.b, 0, none⟩)] 39)) (boxP p)
    rw [World.size_alloc] at h1
    exact (Below.heap_alloc _ _ _ (by simp)).trans ((Below.heap_alloc _ _ _ (by simp)).trans h1)
  · have h1 := (Boxed.new ((w.alloc (.cells #[.pointer (some ⟨h.b, 0, none⟩)] 39)).alloc (.cells #[.int .i64 p.gen, .int .i64 p.s, .int .i64 p.k, .int .i64 p.m, .int .i64 p.c, .int .i64 p.len, .int .i64 p.a, .int .i64 p.b, .int .u32 (p.sum : Int)] 53)) 48 (.slice none 0 0)).alloc (.cells #[.int .i64 0] 26)
    rw [World.size_alloc, World.size_alloc] at h1
    exact h1
  · have h1 := Boxed.new (((w.alloc (.cells #[.pointer (some ⟨h.b, 0, none⟩)] 39)).alloc (.cells #[.int .i64 p.gen, .int .i64 p.s, .int .i64 p.k, .int .i64 p.m, .int .i64 p.c, .int .i64 p.len, .int .i64 p.a, .int .i64 p.b, .int .u32 (p.sum : Int)] 53)).alloc (.cells #[.slice none 0 0] 48)) 26 (.int .i64 0)
    rw [World.size_alloc, World.size_alloc, World.size_alloc] at h1
    exact h1
set_option maxRecDepth 100000 in
set_option maxHeartbeats 4000000 in
theorem supHeal_yes {w : World} {h : DH} {M : DM} (d : DevAt w h M) (p : SP) (hp : p.In) (hO : SupOk p) (hTab : ∀ W', Ap h.S w W' → Tab W') (hwr : M.writes < 1000000000) :
    Calls Tryd.prog 35 #[.pointer (some ⟨h.b, 0, none⟩), p.v] w fun e w' => ∃ v, e = .returned (.tuple #[v, .int .i64 (hlE M p)]) ∧ w'.ownsRow w.heap.size 89 2 v (hlL M p).length (cpCells (hd (hlL M p))) ∧ DevAt w' h (hlM M p) ∧ Ap h.S w w' := by
  have hBy := fun W hW => supBytes_any p hp W hW
  rw [show supE p = 0 from if_pos hO] at hBy
  have HD := Lib.hid d
  have hlt := devS_lt d
  have HTB := Lib.hid hTab
  have HE0 : Hid (hlE M p = (healF M p [0, 1]).2.2) := Lib.hid (if_pos hO)
  have HM0 : Hid (hlM M p = (healF M p [0, 1]).1) := Lib.hid (if_pos hO)
  have HL0 : Hid ((healF M p [0, 1]).2.2 = 0 → hlL M p = (healF M p [0, 1]).2.1) := Lib.hid (fun g => if_pos ⟨hO, g⟩)
  have HL1 : Hid ((healF M p [0, 1]).2.2 ≠ 0 → hlL M p = []) := Lib.hid (fun g => if_neg (fun k => g k.2))
  have hWr := fun (W : World) (N : DM) (j : Int) (d : DevAt W h N) (hT : Tab W) (hw : N.writes < 2000000000) k => CallsIn.inRound (F := Fence.wide) k ((callsIn_wide (n := 4)).2 (supWrite_any d j p hp hT (by omega)))
  obtain ⟨W0, hW0, hs0, hb0, hv2, hv3, hv4, hv5⟩ := heal_start w h p
  have HX0 := Lib.hid (boxP_sb hv3)
  have HB0 := Lib.hid hb0
  have HB2 := Lib.hid hv2
  have HB3 := Lib.hid hv3
  have HB4 := Lib.hid hv4
  have HB5 := Lib.hid hv5
  have HS0 := Lib.hid hs0
  have HST : Hid (∀ W, Below w.heap.size w W → Tab W) := Lib.hid (fun W hb => hTab W (Ap.of_below hb))
  have hBy' := fun W hW j => (callsIn_wide (n := j)).2 (hBy W hW)
  have hSt := fun (W : World) j => (callsIn_wide (n := j)).2 (supStanding_any h.b W)
  unfold SP.v at hBy' ⊢
  clear d hTab hBy hv2 hv3 hv4 hv5 hb0 hs0
  refine (callsIn_wide (n := 8)).1 ?_
  have hf0 : Fence.wide.fn 35 := trivial
  have hf1 : Fence.wide.fn 23 := trivial
  have hf2 : Fence.wide.fn 90 := trivial
  refine callsIn_of_wp_marks Tryd.func35 rfl hf0 ?_ rfl
  simp only [Tryd.ntmps35, List.size_toArray, List.length_cons, List.length_nil, Nat.reduceAdd, Nat.reduceSub, Array.replicate_succ, Array.replicate_zero, List.push_toArray, List.append_toArray, List.nil_append, List.cons_append]
  obtain ⟨_, c0, c1, c2, c3, c4, c5, c6, c7, c8⟩ := HX0.out
  gi_wp2_with (first
    | (gi_at_call 23; (refine (hBy' _ (HST.out _ HB0.out) _).mono ?_; rintro e W1 ⟨rfl, hb1⟩; have HB1 := Lib.hid hb1; have hq2 := (hb1.cell (p := ⟨w.heap.size, 0, none⟩) HB2.out.lt).trans HB2.out.cell; have hl2 : w.heap.size < W1.heap.size := Nat.lt_of_lt_of_le HB2.out.lt hb1.size; clear hb1))
    | (gi_at_call 90; refine (hSt _ _).mono ?_; rintro e W3 ⟨rfl, hW3⟩; have HW3 := Lib.hid hW3; clear hW3))
  obtain ⟨X, hX⟩ : ∃ X : ByteArray, X = ⟨(supL p).toArray⟩ := ⟨_, rfl⟩
  have hHT : HT w W3 h M p W1.heap.size (W1.heap.size + 1) X 0 [] ∧ W3.heap[W1.heap.size + 1 + 1]? = some (boxD h.b) ∧ W3.heap.size = W1.heap.size + 3 := by
    rw [HW3.out, ← hX]
    have a1 : Ap (fun _ => False) W0 W1 := Ap.of_below HB1.out
    have hsz := HB1.out.size
    have hs0 := HS0.out
    have hbW : Below w.heap.size w W1 := HB0.out.trans (HB1.out.mono HB0.out.size)
    have hb3 : Below w.heap.size w (((W1.alloc (.cells #[.string X] 9)).alloc (.cells #[.slice none 0 0] 48)).alloc (.cells #[.pointer (some ⟨h.b, 0, none⟩)] 39)) := ((hbW.alloc hbW.size _).alloc (by have := hbW.size; simp; omega) _).alloc (by have := hbW.size; simp; omega) _
    have e8 := (Boxed.new (W1.alloc (.cells #[.string X] 9)) 48 (.slice none 0 0)).alloc (.cells #[.pointer (some ⟨h.b, 0, none⟩)] 39)
    rw [World.size_alloc] at e8
    have e9 := World.alloc_heap_new ((W1.alloc (.cells #[.string X] 9)).alloc (.cells #[.slice none 0 0] 48)) (boxD h.b)
    rw [World.size_alloc, World.size_alloc] at e9
    have hP1 : W1.heap[w.heap.size + 1]? = some (boxP p) := boxP_ap HB3.out a1 id
    have hl1 := (Array.getElem?_eq_some_iff.1 hP1).1
    exact ⟨⟨HD.out.below hb3, hlt, Ap.of_below hb3, by omega, Nat.lt_succ_self _, (((boxed_ap HB2.out a1 id).alloc _).alloc _).alloc _,
      (Below.heap_alloc _ _ _ (by simp; omega)).trans ((Below.heap_alloc _ _ _ (by simp; omega)).trans ((Below.heap_alloc _ _ _ hl1).trans hP1)), (((boxed_ap HB4.out a1 id).alloc _).alloc _).alloc _, (((boxed_ap HB5.out a1 id).alloc _).alloc _).alloc _, ((Boxed.new W1 _ _).alloc _).alloc _, _, e8, World.ownsRow_nil _ _ _ _⟩, e9, by simp⟩
  obtain ⟨hHT, hB9, hsz3⟩ := hHT
  have HX := Lib.hid hX
  rw [← hX]
  generalize W1.heap.size = x6 at hHT hB9 hsz3 ⊢
  have HHT := Lib.hid hHT
  have HB9 := Lib.hid hB9
  have HSZ := Lib.hid hsz3
  clear HW3 HX0 HB0 HB1 HB2 HB3 HB4 HB5 HS0 HST c0 c1 c2 c3 c4 c5 c6 c7 c8 hq2 hl2 hBy' hSt hHT hB9 hsz3 hW0 hX
  refine wpIn_range_ix rfl (by omega) (gf := 125) (lb := #[.pointer (some ⟨x6 + 1 + 1, 0, none⟩)]) rfl trivial (enters_of Tryd.func125 (by kernel_rfl) rfl) (encs := encsS M) (fun _ => rfl)
    (stand_tells Fence.wide _ trivial trivial rfl (by omega) (fun W h' M' a d => callsIn_wide.2 (devRead_any d a)) (x6 + 1 + 1) h M W3)
    (fun k W => HT w W h (rH M p k).1 p x6 (x6 + 1) X 0 (hd (rH M p k).2.1) ∧ (rH M p k).2.2 = 0 ∧ W.heap[x6 + 1 + 1]? = some (boxD h.b))
    (fun k W => HT w W h (rH M p (k + 1)).1 p x6 (x6 + 1) X (rH M p (k + 1)).2.2 (hd (rH M p (k + 1)).2.1) ∧ (rH M p (k + 1)).2.2 ≠ 0)
    (fun k A C row hs hg hr => ⟨hs.1.own (B := W3.heap.size) (by have := HSZ.out; omega) hg hr, hs.2.1, (hg.block _ (Array.getElem?_eq_some_iff.1 hs.2.2).1 (fun e => by have := (hr _ e.symm).1; have := HSZ.out; omega)).trans hs.2.2⟩)
    (fun k A C row hs hg hr => ⟨hs.1.own (B := W3.heap.size) (by have := HSZ.out; omega) hg hr, hs.2⟩)
    (fun k A hs => ⟨hs.2.2, _, hs.1.d, fun hk => ?hrd⟩)
    ⟨HHT.out, rfl, HB9.out⟩ ?a1 ?assign ?body ?done ?stop
  case hrd =>
    have hkk : k = 0 ∨ k = 1 := by omega
    rcases hkk with rfl | rfl
    · exact ⟨rfl, rfl⟩
    · have h2 := hs.2.1
      have e : rH M p 1 = healStep M p (M, [], 0) 0 := rfl
      rw [e] at h2 ⊢
      unfold healStep at h2 ⊢
      rw [if_pos rfl] at h2 ⊢
      by_cases g : readV M ((0 : Nat) : Int) = supL p
      · rw [if_pos g]; exact ⟨rfl, rfl⟩
      · rw [if_neg g] at h2 ⊢; exact swM_other h2
  case assign =>
    intro l k W K hK
    unfold encsS
    gi_wp2
    exact hK
  case body =>
    rintro l k W ⟨ht, he, hb9⟩ hk
    have hstep := rH_succ M p k
    have hwb := healF_w M p (List.range k) (M, [], 0)
    rw [List.length_range] at hwb
    change (rH M p k).1.writes ≤ M.writes + k ∧ (rH M p k).2.1.length ≤ 0 + k at hwb
    generalize rH M p k = r at ht he hstep hwb
    obtain ⟨N, L, z⟩ := r
    dsimp only at ht he hwb
    subst he
    have hbx := boxP_sb ht.b3
    have h6c := ht.b6.cell
    have h2c := ht.b2.cell
    have HHT2 := Lib.hid ht
    have HB92 := Lib.hid hb9
    by_cases g : readV M (k : Int) = supL p
    · have hr' : rH M p (k + 1) = (N, L, 0) := by rw [hstep]; unfold healStep; rw [if_pos rfl, if_pos g]
      have HR := Lib.hid hr'
      rw [g, ← HX.out]
      clear ht hb9 hstep hwb g hbx hr'
      gi_wp2
      refine ⟨KeepsFrom.refl _ _, ?_⟩
      dsimp only
      rw [HR.out]
      exact ⟨HHT2.out, rfl, HB92.out⟩
    · have hr' : rH M p (k + 1) = (swM N (k : Int) p, (if swE N (k : Int) p = 0 then L ++ [(k : Int)] else L), swE N (k : Int) p) := by rw [hstep]; unfold healStep; rw [if_pos rfl, if_neg g]
      have hne : (⟨(readV M (k : Int)).toArray⟩ : ByteArray) ≠ X := fun e => g (by rw [HX.out] at e; have := congrArg (fun b : ByteArray => b.data.toList) e; simpa using this)
      generalize (⟨(readV M (k : Int)).toArray⟩ : ByteArray) = Y at hne ⊢
      have d0 : (Y.toList == X.toList) = false := by rw [beq_eq_false_iff_ne]; intro e; rw [Lib.toList_data, Lib.toList_data] at e; exact hne (ByteArray.ext (Array.ext' e))
      have HW := Lib.hid (fun j => CallsIn.inRound l ((callsIn_wide (n := j)).2 (supWrite_any ht.d (k : Int) p hp (HTB.out W ht.ap) (by omega))))
      have HR := Lib.hid hr'
      have HLb : Hid (L.length ≤ 2) := Lib.hid (by omega)
      unfold SP.v at HW
      generalize swM N (k : Int) p = N' at HW HR
      generalize swE N (k : Int) p = z at HW HR
      obtain ⟨_, c0, c1, c2, c3, c4, c5, c6, c7, c8⟩ := hbx
      have hfW : Fence.wide.fn 31 := trivial
      clear ht hb9 hstep hwb g hne hr' hWr
      by_cases hz : z = 0
      · subst hz
        obtain ⟨i0, hi, hzz0, hzz1, hzz2⟩ := info_parts copyInfo
        gi_wp2_with (first
          | (gi_at_call 31; refine (HW.out _).mono ?_; rintro e W4 ⟨rfl, hd4, ha4⟩; have HT4 := Lib.hid (HHT2.out.dev hd4 ha4); have HA4 := Lib.hid ha4; obtain ⟨v, hv, hrow⟩ := HT4.out.row; have hvc := hv.cell; have hvf := hv.frozen; have HV := Lib.hid hv; have HRW := Lib.hid hrow; have hsz4 := HT4.out.ap.size; clear hd4 ha4 hv hrow)
          | (gi_at_builtin; refine wpListIn_append_own _ rfl _ _ 48 rfl w.heap.size 89 i0 _ 2 16 Tryd.underlying48 hi hzz0 hzz1 hzz2 rfl (by decide) _ _ _ rfl (HRW.out.alloc _) ⟨W4.heap.size, 0, none⟩ 1 1 [.int .i64 (k : Int), .bool true] rfl rfl (cp_cells W4 (k : Int) true _) (fun u hu => by simp only [List.mem_cons, List.not_mem_nil, or_false] at hu; rcases hu with rfl | rfl <;> rfl) (by rw [hd_len]; have := HLb.out; unfold maxLen; omega) (by rw [hd_len]; have := HLb.out; omega) (by simp; omega) ?_; intro v' w1 hown' hgrow _; obtain ⟨g', cap', rfl⟩ := ownsRow_succ hown'; have HAP := Lib.hid (HT4.out.app (M0 := M) (B0 := x6 + 1 + 1) (c := ((k : Int), true)) HV.out HRW.out hown' hgrow (by omega)); have hv1 := (HV.out.alloc _).kept hgrow (HV.out.not_row (by decide) HRW.out); have hc1 := hv1.cell; have hf1 := hv1.frozen; clear hown' hgrow hv1))
        have hk4 : KeepsFrom W3.heap.size W W4 := apK_from HA4.out (fun q hq => by have := hlt q hq; have := HHT.out.ap.size; omega)
        have hb4 : W4.heap[x6 + 1 + 1]? = some (boxD h.b) := (HA4.out.block _ (Array.getElem?_eq_some_iff.1 HB92.out).1 (fun q => by have := hlt _ q; have := HHT2.out.g6; omega)).trans HB92.out
        refine ⟨hk4.trans (HAP.out.2.1.from _), ?_⟩
        dsimp only
        rw [HR.out]
        dsimp only
        rw [if_pos trivial, hd_snoc]
        exact ⟨HAP.out.1, rfl, HAP.out.2.2.1 hb4⟩
      · have q0 : (z == 0) = false := by simpa using hz
        have q1 : (z != 0) = true := by simpa using hz
        have HZ := Lib.hid hz
        clear hz
        gi_wp2_with (gi_at_call 31; refine (HW.out _).mono ?_; rintro e W4 ⟨rfl, hd4, ha4⟩; have HT4 := Lib.hid (HHT2.out.dev hd4 ha4); have HA4 := Lib.hid ha4; have h4c := HT4.out.b4.cell; have h4f := HT4.out.b4.frozen; have h5c := HT4.out.b5.cell; have h5f := HT4.out.b5.frozen; clear hd4 ha4)
        have hk4 : KeepsFrom W3.heap.size W W4 := apK_from HA4.out (fun q hq => by have := hlt q hq; have := HHT.out.ap.size; omega)
        refine ⟨(hk4.trans ((KeepsOthers.setCell _ _ _).from _)).trans ((KeepsOthers.setCell _ _ _).from _), ?_⟩
        dsimp only
        rw [HR.out]
        dsimp only
        rw [if_neg HZ.out]
        exact ⟨HT4.out.err z, HZ.out⟩
  case done =>
    rintro D W hD ⟨ht, he, hb9⟩ hK
    have e2 : rH M p 2 = healF M p [0, 1] := rfl
    rw [e2] at ht he
    have hDx : x6 + 1 < D := by have := HSZ.out; omega
    obtain ⟨v, hv, hrow⟩ := ht.row
    have hvv : (v = .slice none 0 0) ∨ ∃ g cap, v = .slice (some ⟨g, 0, none⟩) (hd (healF M p [0, 1]).2.1).length cap := by
      rcases hrow.2 with ⟨h, _⟩ | ⟨g, cap, _, h, _⟩
      · exact .inl h
      · exact .inr ⟨g, cap, h⟩
    have HF := Lib.hid (ht.fin hrow 0 hK hDx)
    have h8c := hv.cell
    have h8f := hv.frozen
    have h4c := ht.b4.cell
    have h4f := ht.b4.frozen
    have h5c := ht.b5.cell
    have h5f := ht.b5.frozen
    have HLL := Lib.hid (HL0.out he)
    have HEE := Lib.hid (HE0.out.trans he)
    clear ht hb9 hK hv hrow hWr
    rcases hvv with rfl | ⟨g, cap, rfl⟩
    all_goals gi_wp2
    all_goals obtain ⟨hK', hc4, hc5, hro, hdd, hap⟩ := HF.out
    all_goals refine ⟨by simp, .inl ⟨_, _, rfl, run_takeDeferred hK', ?_⟩⟩
    · refine ⟨.tuple #[.slice none 0 0, .int .i64 0], ?_, .slice none 0 0, by rw [HEE.out], by rw [HLL.out, ← hd_len]; exact hro, by rw [HM0.out]; exact hdd, hap⟩
      simp [results, Tryd.f35, go_sem, hc4, hc5]
    · refine ⟨.tuple #[.slice (some ⟨g, 0, none⟩) (hd (healF M p [0, 1]).2.1).length cap, .int .i64 0], ?_, _, by rw [HEE.out], by rw [HLL.out, ← hd_len]; exact hro, by rw [HM0.out]; exact hdd, hap⟩
      simp [results, Tryd.f35, go_sem, hc4, hc5]
  case stop =>
    rintro D k W hD hk ⟨ht, he⟩ hK
    have e2 : rH M p (k + 1) = healF M p [0, 1] := by
      have hkk : k = 0 ∨ k = 1 := by omega
      rcases hkk with rfl | rfl
      · have h2 : rH M p 2 = healStep M p (rH M p 1) 1 := rH_succ M p 1
        rw [healStep_stop he] at h2
        exact h2.symm
      · rfl
    rw [e2] at ht he
    have hDx : x6 + 1 < D := by have := HSZ.out; omega
    have h4c := ht.b4.cell
    have h5c := ht.b5.cell
    have HT4 := Lib.hid ht
    have HLL := Lib.hid (HL1.out he)
    have HKD := Lib.hid hK
    clear ht hK hWr
    gi_wp2
    have hc4 := cell_kept h4c (grownBy_putObj' _ D (.deferred none)) (fun r e => by cases e; exact ⟨_, HKD.out, rfl⟩)
    have hc5 := cell_kept h5c (grownBy_putObj' _ D (.deferred none)) (fun r e => by cases e; exact ⟨_, HKD.out, rfl⟩)
    have HC6 := HT4.out.own (B := D) hDx (grownBy_putObj' _ D (.deferred none)) (fun r e => by cases e; exact ⟨Nat.le_refl _, _, HKD.out, rfl⟩)
    refine ⟨by simp, .inl ⟨_, _, rfl, run_takeDeferred HKD.out, ?_⟩⟩
    refine ⟨.tuple #[.slice none 0 0, .int .i64 (healF M p [0, 1]).2.2], ?_, .slice none 0 0, by rw [HE0.out], by rw [HLL.out]; exact World.ownsRow_nil _ _ _ _, by rw [HM0.out]; exact HC6.d, HC6.ap⟩
    simp [results, Tryd.f35, go_sem, hc4, hc5]
end Go.Proofs.YtfpnlaafefdcaaaDoor
