/- Superblocks: the contract of Write; what stands in the slots, told one by one. -/
import Derived.Test.YtfpnlaafefdcaaaDoorSupA
import Derived.Test.YtfpnlaafefdcaaaDoorCluA
namespace Go.Proofs.YtfpnlaafefdcaaaDoor
open Go.RowKit Go.Shelf
attribute [local go_sem] Oper.semAt_some

def swE (M : DM) (j : Int) (p : SP) : Int := if j < 0 ∨ 2 ≤ j then 1 else if SupOk p then writeE M j ⟨(supL p).toArray⟩ else 2
def swM (M : DM) (j : Int) (p : SP) : DM := if j < 0 ∨ 2 ≤ j then M else if SupOk p then writeM M j ⟨(supL p).toArray⟩ else M
set_option maxRecDepth 100000 in
set_option maxHeartbeats 2000000 in
theorem supWrite_any {w : World} {h : DH} {M : DM} (d : DevAt w h M) (j : Int) (p : SP) (hp : p.In) (hT : Tab w) (hwr : M.writes < 4611686018427387904) :
    Calls Tryd.prog 31 #[.pointer (some ⟨h.b, 0, none⟩), .int .i64 j, p.v] w fun e w' => e = .returned (.int .i64 (swE M j p)) ∧ DevAt w' h (swM M j p) ∧ Ap h.S w w' := by
  have HX0 := Lib.hid (SBox.new w p 53)
  have HB0 : Hid (Below w.heap.size w (w.alloc (.cells #[.int .i64 p.gen, .int .i64 p.s, .int .i64 p.k, .int .i64 p.m, .int .i64 p.c, .int .i64 p.len, .int .i64 p.a, .int .i64 p.b, .int .u32 (p.sum : Int)] 53))) := Lib.hid (below1 _ _)
  have HT := Lib.hid hT
  have HD := Lib.hid d
  have hB := fun W hW => supBytes_any p hp W hW
  unfold swE swM
  unfold SP.v at hB ⊢
  by_cases h1 : j < 0
  · rw [if_pos (.inl h1), if_pos (.inl h1)]
    have d0 : decide (j < 0) = true := decide_eq_true h1
    clear d hT hwr hp h1
    go_enter Tryd.func31, Tryd.ntmps31
    go_upto_region 1 with fail
    generalize w.alloc (.cells #[.int .i64 p.gen, .int .i64 p.s, .int .i64 p.k, .int .i64 p.m, .int .i64 p.c, .int .i64 p.len, .int .i64 p.a, .int .i64 p.b, .int .u32 (p.sum : Int)] 53) = w0 at HX0 HB0 ⊢
    go_wp2
    go_ret
    exact ⟨rfl, HD.out.below HB0.out, Ap.of_below HB0.out⟩
  have d0 : decide (j < 0) = false := decide_eq_false h1
  by_cases h2 : 2 ≤ j
  · rw [if_pos (.inr h2), if_pos (.inr h2)]
    have d1 : decide (2 ≤ j) = true := decide_eq_true h2
    clear d hT hwr hp h1 h2
    go_enter Tryd.func31, Tryd.ntmps31
    go_upto_region 1 with fail
    generalize w.alloc (.cells #[.int .i64 p.gen, .int .i64 p.s, .int .i64 p.k, .int .i64 p.m, .int .i64 p.c, .int .i64 p.len, .int .i64 p.a, .int .i64 p.b, .int .u32 (p.sum : Int)] 53) = w0 at HX0 HB0 ⊢
    go_wp2
    go_ret
    exact ⟨rfl, HD.out.below HB0.out, Ap.of_below HB0.out⟩
  have d1 : decide (2 ≤ j) = false := decide_eq_false h2
  have hno : ¬ (j < 0 ∨ 2 ≤ j) := by omega
  rw [if_neg hno, if_neg hno]
  clear hno
  by_cases hO : SupOk p
  · rw [if_pos hO, if_pos hO]
    rw [show supE p = 0 from if_pos hO] at hB
    generalize (⟨(supL p).toArray⟩ : ByteArray) = X at hB ⊢
    have hW := fun (W : World) (hb : Below w.heap.size w W) => devWrite_any (d.below hb) j X hwr
    clear d hT hwr hp h1 h2 hO
    go_enter Tryd.func31, Tryd.ntmps31
    go_upto_region 1 with fail
    generalize w.alloc (.cells #[.int .i64 p.gen, .int .i64 p.s, .int .i64 p.k, .int .i64 p.m, .int .i64 p.c, .int .i64 p.len, .int .i64 p.a, .int .i64 p.b, .int .u32 (p.sum : Int)] 53) = w0 at HX0 HB0 ⊢
    obtain ⟨_, x0, x1, x2, x3, x4, x5, x6, x7, x8⟩ := HX0.out
    go_wp2_with (first
      | (go_at_call 23; refine (hB _ (HT.out.below HB0.out (Nat.le_refl _))).mono ?_; rintro e w1 ⟨rfl, hb1⟩; have HB1 := Lib.hid (HB0.out.trans (hb1.mono HB0.out.size)); clear hb1)
      | (go_at_call 82; refine (hW _ HB1.out).mono ?_; rintro e w2 ⟨rfl, hd2, ha2⟩; have HD2 := Lib.hid hd2; have HA2 := Lib.hid ha2; clear hd2 ha2))
    go_ret
    exact ⟨rfl, HD2.out, (Ap.of_below HB1.out).trans HA2.out⟩
  · rw [if_neg hO, if_neg hO]
    rw [show supE p = 2 from if_neg hO] at hB
    generalize (⟨(supL p).toArray⟩ : ByteArray) = X at hB
    clear d hT hwr hp h1 h2 hO
    go_enter Tryd.func31, Tryd.ntmps31
    go_upto_region 1 with fail
    generalize w.alloc (.cells #[.int .i64 p.gen, .int .i64 p.s, .int .i64 p.k, .int .i64 p.m, .int .i64 p.c, .int .i64 p.len, .int .i64 p.a, .int .i64 p.b, .int .u32 (p.sum : Int)] 53) = w0 at HX0 HB0 ⊢
    obtain ⟨_, x0, x1, x2, x3, x4, x5, x6, x7, x8⟩ := HX0.out
    go_wp2_with (go_at_call 23; refine (hB _ (HT.out.below HB0.out (Nat.le_refl _))).mono ?_; rintro e w1 ⟨rfl, hb1⟩; have HB1 := Lib.hid (HB0.out.trans (hb1.mono HB0.out.size)); clear hb1)
    go_ret
    exact ⟨rfl, HD.out.below HB1.out, Ap.of_below HB1.out⟩
/-! ### what stands in the slots -/
/-- The box of the device's address. -/
def boxD (b : Nat) : Obj := .cells #[.pointer (some ⟨b, 0, none⟩)] 39 (0, 0)
theorem boxD_cell {W : World} {B b : Nat} (h : W.heap[B]? = some (boxD b)) : W.cell? ⟨B, 0, none⟩ = some (.pointer (some ⟨b, 0, none⟩)) := by
  rw [cell_of_row W B 0 #[.pointer (some ⟨b, 0, none⟩)] 39 (0, 0) h]; rfl
theorem supStanding_any (b : Nat) (w : World) : Calls Tryd.prog 90 #[.pointer (some ⟨b, 0, none⟩)] w fun e w' => e = .returned (.func (.func 125) #[] #[.pointer (some ⟨w.heap.size, 0, none⟩)]) ∧ w' = w.alloc (.cells #[.pointer (some ⟨b, 0, none⟩)] 39) := by
  go_enter Tryd.func90, Tryd.ntmps90
  go_wp2
  go_ret
  exact ⟨rfl, rfl⟩
/-- The device still tells of the slot 1 what it told. -/
def DG1 (h : DH) (M : DM) (W : World) : Prop := ∃ M', DevAt W h M' ∧ readV M' 1 = readV M 1 ∧ readE M' 1 = readE M 1
def kpD (h : DH) (M : DM) (B0 : Nat) (X Y : World) : Prop := (X.heap[B0]? = some (boxD h.b) → Y.heap[B0]? = some (boxD h.b)) ∧ (DG1 h M X → DG1 h M Y)
theorem kpD_t {h : DH} {M : DM} {B0 : Nat} {X Y Z : World} (a : kpD h M B0 X Y) (b : kpD h M B0 Y Z) : kpD h M B0 X Z := ⟨fun g => b.1 (a.1 g), fun g => b.2 (a.2 g)⟩
theorem kpD_b {h : DH} {M : DM} {B0 n : Nat} (hS : ∀ q, h.S q → q < n) (W : World) (l : Nat) (o o' : Obj) (hl0 : n ≤ l) (hl : W.heap[l]? = some o) (ho : o.isCells = false) (_ : o.isWalk = false) : kpD h M B0 W (W.putObj l o') := by
  have hg := grownBy_putObj' W l o'
  refine ⟨fun k => (hg.block B0 (Array.getElem?_eq_some_iff.1 k).1 (fun e => by injection e with e; subst e; rw [hl] at k; injection k with k; subst k; cases ho)).trans k, ?_⟩
  rintro ⟨M', d, h1, h2⟩
  have a : Ap (fun q => n ≤ q) W (W.putObj l o') := (Ap.refl W).grown hg (fun q hq => .inl (by injection hq with hq; omega))
  exact ⟨M', d.ap a (fun q hq => by have := hS q hq; omega), h1, h2⟩
theorem kpD_below {h : DH} {M : DM} {B0 : Nat} {X Y : World} (a : Below X.heap.size X Y) : kpD h M B0 X Y :=
  ⟨fun k => (a.block B0 (Array.getElem?_eq_some_iff.1 k).1).trans k, fun ⟨M', d, h1, h2⟩ => ⟨M', d.below a, h1, h2⟩⟩
theorem below_grown {X Y : World} (a : Below X.heap.size X Y) : X.grownBy Y none := ⟨a.os, a.tape, a.output, a.size, fun k hk _ => a.block k hk⟩
def slotE (M : DM) (x : Fin 2) : Array Value := #[.int .i64 ((x.1 : Nat) : Int), .string ⟨(readV M ((x.1 : Nat) : Int)).toArray⟩]
theorem readV_no {M : DM} {a : Int} (h : readE M a ≠ 0) : readV M a = [] := by unfold readV; rw [if_neg h]
set_option maxRecDepth 100000 in
set_option maxHeartbeats 2000000 in
theorem standIter_in (F : Fence) (n : Nat) (hf : F.fn 125) (hfR : F.fn 126) (hro : F.round = none) (hn : 1 ≤ n) (hRd : ∀ (W : World) (h : DH) (M : DM) (a : Int), DevAt W h M → CallsIn F (n - 1) Tryd.prog 126 #[.pointer (some ⟨h.b, 0, none⟩), .int .i64 a] W fun e w' => e = .returned (.tuple #[.string ⟨(readV M a).toArray⟩, .int .i64 (readE M a)]) ∧ Below W.heap.size W w')
    (l B0 : Nat) (h : DH) (M : DM) (Kp : World → World → Prop) (hKp : ∀ X Y, Kp X Y → kpD h M B0 X Y) (J Jx : List (Fin 2) → World → Prop) (hJb : ∀ pre X Y, J pre X → Below X.heap.size X Y → J pre Y)
    (hY : ∀ pre x W, J pre W → pre.length < 2 → YieldAt F (n - 1) Tryd.prog l (slotE M x) W fun e W' =>
      (e = .returned (.bool true) ∧ J (pre ++ [x]) W' ∧ Kp W W') ∨ (e = .returned (.bool false) ∧ Jx (pre ++ [x]) W'))
    (W : World) (hc0 : W.heap[B0]? = some (boxD h.b)) (d : DevAt W h M) (h0 : J [] W) :
    CallsIn F n Tryd.prog 125 #[.func (.yield l) #[] #[], .pointer (some ⟨B0, 0, none⟩)] W fun e W' => (∃ v, e = .returned v) ∧
      ((∃ ys, ys.map (fun x : Fin 2 => x.1) = List.range 2 ∧ J ys W') ∨ (∃ pre, (∃ k, k ≤ 2 ∧ pre.map (fun x : Fin 2 => x.1) = List.range k) ∧ Jx pre W')) := by
  refine callsIn_of_wp Tryd.func125 rfl hf ?_ hro
  simp only [Tryd.ntmps125, List.size_toArray, List.length_cons, List.length_nil, Nat.reduceAdd, Nat.reduceSub, Array.replicate_succ, Array.replicate_zero, List.push_toArray, List.append_toArray, List.nil_append, List.cons_append]
  have HC00 := Lib.hid hc0
  have HD := Lib.hid d
  clear hc0 d
  gi_wp2
  gi_loopw [6] (fun i wr => ∃ k : Nat, k ≤ 2 ∧ i = .int .i64 (k : Int) ∧ J (uptoF 2 k) wr ∧ wr.heap[B0]? = some (boxD h.b) ∧ (k = 0 → DevAt wr h M) ∧ DG1 h M wr)
    (fun i _ => 2 - secNo i)
  case atStart => exact ⟨0, Nat.zero_le _, rfl, h0, HC00.out, fun _ => HD.out, ⟨M, HD.out, rfl, rfl⟩⟩
  case round =>
    obtain ⟨k, hk, rfl, hJs, hox, hdk, hd1⟩ := hrel
    have hcx := boxD_cell hox
    have HOX := Lib.hid hox
    have HD1 := Lib.hid hd1
    clear hox
    by_cases hlt : k < 2
    · obtain ⟨M', hd', hv, he⟩ : ∃ M', DevAt wr h M' ∧ readV M' (k : Int) = readV M (k : Int) ∧ readE M' (k : Int) = readE M (k : Int) := by
        by_cases h0 : k = 0
        · exact ⟨M, hdk h0, rfl, rfl⟩
        · obtain rfl : k = 1 := by omega
          exact hd1
      have hR := hRd wr h M' (k : Int) hd'
      rw [hv, he] at hR
      have hYk := Lib.hid (fun (W2 : World) (hb : Below wr.heap.size wr W2) => hY _ ⟨k, hlt⟩ W2 (hJb _ _ _ hJs hb) (by rw [uptoF_len hk]; exact hlt))
      have HLT := Lib.hid hlt
      have d0 : decide ((k : Int) < 2) = true := decide_eq_true (by omega)
      have hw1 : wrap64 ((k : Int) + 1) = (k : Int) + 1 := by unfold wrap64; omega
      have hw2 : IntKind.i64.wrap ((k : Int) + 1) = (k : Int) + 1 := by rw [IntKind.wrap_i64]; omega
      have HE : Hid (readE M (k : Int) ≠ 0 → (⟨(readV M (k : Int)).toArray⟩ : ByteArray) = ⟨#[]⟩) := Lib.hid (fun h => by rw [readV_no h])
      unfold slotE at hYk
      dsimp only at hYk
      generalize (⟨(readV M (k : Int)).toArray⟩ : ByteArray) = X at hR hYk HE
      generalize readE M (k : Int) = z at hR HE
      clear hdk hd1 hd' hv he hJs HC00 HD
      by_cases hz : z = 0
      · subst hz
        gi_wp2_with (gi_at_call 126; refine hR.mono ?_; rintro e w2 ⟨rfl, hb2⟩; have HB2 := Lib.hid hb2; clear hb2; obtain ⟨fn, tmps, assign, body, hy, hRR⟩ := hYk.out w2 HB2.out)
        refine hRR.mono ?_
        rintro e W3 (⟨rfl, hJ3, hk3⟩ | ⟨rfl, hJx3⟩)
        · have hc3 := Lib.hid (kpD_t (kpD_below HB2.out) (hKp _ _ hk3))
          have HJ3 := Lib.hid hJ3
          clear hJ3 hk3
          gi_wp2
          go_roundw
          case rel => exact ⟨k + 1, by have := HLT.out; omega, by simp, by rw [uptoF_succ HLT.out]; exact HJ3.out, hc3.out.1 HOX.out, fun h => by omega, hc3.out.2 HD1.out⟩
          case measure => simp [secNo]; have := HLT.out; omega
        · gi_wp2
          refine bodyPost_ret (results_none rfl _ _ _) rfl ?_
          exact ⟨⟨_, rfl⟩, .inr ⟨_, ⟨k + 1, by have := HLT.out; omega, by rw [← uptoF_succ HLT.out]; exact uptoF_map _ HLT.out⟩, hJx3⟩⟩
      · have hX := HE.out hz
        subst hX
        have d2 : (z == 0) = false := by simpa using hz
        have d3 : (z != 0) = true := by simpa using hz
        clear HE hz
        gi_wp2_with (gi_at_call 126; refine hR.mono ?_; rintro e w2 ⟨rfl, hb2⟩; have HB2 := Lib.hid hb2; clear hb2; obtain ⟨fn, tmps, assign, body, hy, hRR⟩ := hYk.out w2 HB2.out)
        refine hRR.mono ?_
        rintro e W3 (⟨rfl, hJ3, hk3⟩ | ⟨rfl, hJx3⟩)
        · have hc3 := Lib.hid (kpD_t (kpD_below HB2.out) (hKp _ _ hk3))
          have HJ3 := Lib.hid hJ3
          clear hJ3 hk3
          gi_wp2
          go_roundw
          case rel => exact ⟨k + 1, by have := HLT.out; omega, by simp, by rw [uptoF_succ HLT.out]; exact HJ3.out, hc3.out.1 HOX.out, fun h => by omega, hc3.out.2 HD1.out⟩
          case measure => simp [secNo]; have := HLT.out; omega
        · gi_wp2
          refine bodyPost_ret (results_none rfl _ _ _) rfl ?_
          exact ⟨⟨_, rfl⟩, .inr ⟨_, ⟨k + 1, by have := HLT.out; omega, by rw [← uptoF_succ HLT.out]; exact uptoF_map _ HLT.out⟩, hJx3⟩⟩
    · obtain rfl : k = 2 := by omega
      gi_wp2
      go_end0
      exact ⟨⟨_, rfl⟩, .inl ⟨_, uptoF_map _ (Nat.le_refl _), hJs⟩⟩
theorem stand_stops (F : Fence) (n : Nat) (hf : F.fn 125) (hfR : F.fn 126) (hro : F.round = none) (hn : 1 ≤ n) (hRd : ∀ (W : World) (h : DH) (M : DM) (a : Int), DevAt W h M → CallsIn F (n - 1) Tryd.prog 126 #[.pointer (some ⟨h.b, 0, none⟩), .int .i64 a] W fun e w' => e = .returned (.tuple #[.string ⟨(readV M a).toArray⟩, .int .i64 (readE M a)]) ∧ Below W.heap.size W w')
    (B0 : Nat) (h : DH) (M : DM) (w : World) (l0 : B0 < w.heap.size) (hc0 : w.heap[B0]? = some (boxD h.b)) (d : DevAt w h M) :
    SeqStopsK F n Tryd.prog 125 #[.pointer (some ⟨B0, 0, none⟩)] (slotE M) (kpD h M B0)
      (fun ys => ys.map (fun x : Fin 2 => x.1) = List.range 2) (fun pre => ∃ k, k ≤ 2 ∧ pre.map (fun x : Fin 2 => x.1) = List.range k) 2 w :=
  fun l J Jx W hW hJ _ hY h0 => standIter_in F n hf hfR hro hn hRd l B0 h M (kpD h M B0) (fun _ _ h => h) J Jx (fun pre X Y hs hb => hJ pre X Y none hs (below_grown hb) (fun _ e => by cases e)) hY W ((hW.block B0 l0).trans hc0) (d.below hW) h0
end Go.Proofs.YtfpnlaafefdcaaaDoor
