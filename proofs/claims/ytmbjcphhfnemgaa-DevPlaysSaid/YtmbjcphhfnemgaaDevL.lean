/- strings.Builder, written and read; and the contract of a device's Bytes. -/
import Derived.Test.YtmbjcphhfnemgaaDevK
import Derived.Test.YtmbjcphhfnemgaaShelfB
namespace Go.Proofs.Ytmbjcphhfnemgaa
open Go.RowKit Go.Shelf Go.Maps
attribute [local go_sem] Oper.semAt_some

/-- A builder in block b that was written, and holds these bytes. -/
def BufAt (B b : Nat) (l : List UInt8) (w : World) : Prop := Lib.BuilderAt 93 5 B b (.pointer (some ⟨b, 0, none⟩)) (U8s l) w
set_option maxRecDepth 100000 in
theorem bCheck_any {B b : Nat} {l : List UInt8} {w : World} (h : BufAt B b l w) :
    Calls Try.prog 79 #[.pointer (some ⟨b, 0, none⟩)] w fun e w' => e = .returned (.tuple #[]) ∧ w = w' := by
  obtain ⟨hB, v, hbk, _⟩ := h
  have c0 : w.cell? ⟨b, 0, none⟩ = some (.pointer (some ⟨b, 0, none⟩)) := by rw [Lib.cell_of_heap hbk]; rfl
  obtain ⟨j, hj, _⟩ := Option.map_eq_some_iff.1 Try.Builder_Extra_169.sizeBuilder
  have hcmp := Lib.run_neq_ptr_same (P := Try.prog) w (⟨b, 0, none⟩ : Addr) Try.underlying91 (show Try.prog.info? 93 = some j from hj)
  clear hj
  clear hbk
  go_enter Try.func79, Try.ntmps79
  go_wp2
  go_end0
  exact ⟨rfl, rfl⟩
theorem infoU8x : ∃ i, Try.prog.info? 5 = some i ∧ i.zero = some (.int .u8 0) ∧ i.size = 1 ∧ i.bytes = 1 := by
  have h := infoU8
  cases hq : Try.prog.info? 5 with
  | none => rw [hq] at h; cases h
  | some i => rw [hq] at h; simp only [Option.map_some, Option.some.injEq, Prod.mk.injEq] at h; exact ⟨i, rfl, h.1, h.2.1, h.2.2⟩
theorem keeps_grown {W W' : World} {base e n : Nat} {v : Value} {xs : List Value} (ho : W.ownsRow base e 1 v n xs) (hg : W.grownBy W' v.ownBlock) : KeepsOthers W W' := by
  refine ⟨hg.size, fun k o hk hc => (hg.block k (Array.getElem?_eq_some_iff.1 hk).1 (fun e' => ?_)).trans hk⟩
  rcases ho.2 with ⟨rfl, _⟩ | ⟨g, cap, cur, rfl, _, hh, _⟩
  · cases e'
  · have : k = g := by have e2 : some k = some g := e'; injection e2
    subst this
    rw [hh] at hk; cases hk; cases hc
theorem own_sl {w : World} {base e n : Nat} {v : Value} {xs : List Value} (ho : w.ownsRow base e 1 v n xs) : ∃ ao cp, v = .slice ao n cp := by
  rcases ho.2 with ⟨rfl, h⟩ | ⟨g, cap, cur, rfl, _⟩
  · subst h; exact ⟨_, _, rfl⟩
  · exact ⟨_, _, rfl⟩
set_option maxRecDepth 100000 in
set_option maxHeartbeats 1000000 in
theorem bWrite_any {B b : Nat} {l : List UInt8} {w : World} (h : BufAt B b l w) (hBw : B ≤ w.heap.size) {bx cap : Nat} {r : List UInt8} (hr : Row8 w bx 0 r) (hlen : l.length + r.length ≤ 140737488355328) :
    Calls Try.prog 63 #[.pointer (some ⟨b, 0, none⟩), .slice (some ⟨bx, 0, none⟩) r.length cap] w fun e w' => e = .returned (.tuple #[.int .i64 (r.length : Int), .nilIface]) ∧ BufAt B b (l ++ r) w' ∧ Below B w w' ∧ KeepsOthers w w' := by
  have hC := bCheck_any h
  obtain ⟨hB, v, hbk, hown, hne⟩ := h
  obtain ⟨i0, hi, hz0, hz1, hz2⟩ := infoU8x
  have c1 : w.cell? ⟨b, 1, none⟩ = some v := by rw [Lib.cell_of_heap hbk]; rfl
  have HN : Hid (∀ j u, (U8s r)[j]? = some u → w.cell? ((⟨bx, 0, none⟩ : Addr).add j) = some u) := Lib.hid (fun j u hu => by
    rw [Addr.add_mid]; exact hr.range j u hu)
  have HBK := Lib.hid hbk
  have HNE := Lib.hid hne
  have hbl : b < w.heap.size := (Array.getElem?_eq_some_iff.1 hbk).1
  clear hbk hne hr
  go_enter Try.func63, Try.ntmps63
  have hll : (U8s l).length = l.length := u8s_len l
  have hrr : (U8s r).length = r.length := u8s_len r
  rw [hll] at hown
  obtain ⟨ao, cp, rfl⟩ := own_sl hown
  have HO := Lib.hid hown
  have HLR := Lib.hid hrr
  have HLL := Lib.hid hll
  clear hown hrr hll
  go_wp2_with (first
    | (go_at_call 79; refine hC.mono ?_; rintro e w' ⟨rfl, rfl⟩)
    | (at_builtin; (with_reducible refine wpList_append_own_at _ ?g0 (.tmp 12) (.tmp 13) 73 ?g1 B 5 i0 (.int .u8 0) 1 1 Try.underlying73 hi hz0 hz1 hz2 ?g2 (by decide) (.slice ao l.length cp) l.length (U8s l) ?g3 HO.out ⟨bx, 0, none⟩ r.length cap (U8s r) ?g4 ?g5 HN.out ?g7 ?g8 ?g9 hBw ?_); (case g0 => rfl); (case g1 => rfl); (case g2 => rfl); (case g3 => rfl); (case g4 => rfl); (case g5 => rw [HLR.out, Nat.mul_one]); (case g7 => exact u8s_one r); (case g8 => unfold maxLen; omega); (case g9 => omega)
       intro v' w2 hown' hg _ _
       obtain ⟨ao2, cp2, rfl⟩ := own_sl hown'
       have hb2 : w2.heap[b]? = some (.cells #[.pointer (some ⟨b, 0, none⟩), .slice ao l.length cp] 93 (0, 0)) := by
         rw [hg.block b hbl (fun e => HNE.out e.symm)]; exact HBK.out
       have d1 : w2.cell? ⟨b, 1, none⟩ = some (.slice ao l.length cp) := by rw [Lib.cell_of_heap hb2]; rfl
       have f1 : w2.frozen? ⟨b, 1, none⟩ = false := Lib.frozen_of_heap hb2 1
       have HP : Hid (BufAt B b (l ++ r) (w2.setCell ⟨b, 1, none⟩ (.slice ao2 (l.length + r.length) cp2))) := Lib.hid (by
         have e1 : U8s (l ++ r) = U8s l ++ U8s r := by unfold U8s; exact List.map_append
         refine Lib.BuilderAt.put hB hb2 ?_ (by decide)
         rw [e1, List.length_append, HLL.out, HLR.out]; exact hown')
       have HBB : Hid (Below B w (w2.setCell ⟨b, 1, none⟩ (.slice ao2 (l.length + r.length) cp2))) := Lib.hid (((Below.refl B w).grown hg hBw (fun k hk => (HO.out.lt k hk).1)).setCell (p := ⟨b, 1, none⟩) hB _)
       have HKK : Hid (KeepsOthers w (w2.setCell ⟨b, 1, none⟩ (.slice ao2 (l.length + r.length) cp2))) := Lib.hid ((keeps_grown HO.out hg).trans (KeepsOthers.setCell _ _ _))
       clear hown' hg hb2))
  go_ret2
  exact ⟨rfl, HP.out, HBB.out, HKK.out⟩
theorem devString_any {B b : Nat} {l : List UInt8} {w : World} (h : BufAt B b l w) (h0 : l ≠ []) :
    Calls Try.prog 64 #[.pointer (some ⟨b, 0, none⟩)] w fun e w' => e = .returned (.string ⟨l.toArray⟩) ∧ Below B w w' ∧ (∀ k : Nat, w.heap[k]? = some (Obj.deferred (some [])) → w'.heap[k]? = some (Obj.deferred (some []))) := by
  have hbk : ∀ k : Nat, w.heap[k]? = some (Obj.deferred (some [])) → k ≠ b := by
    rintro k hk rfl
    obtain ⟨_, v, hb, _⟩ := h
    rw [hb] at hk; cases hk
  refine (Any.Builder_String_k Try.lays169 Try.Builder_Extra_169 B b l w (.inr (Lib.BuilderAtF.of h)) h0).mono ?_
  rintro e w' ⟨he, _, hb, ho⟩
  exact ⟨he, hb, fun k hk => ho k _ hk (fun e => hbk k hk (by injection e)) (fun c fz e => by cases e)⟩
theorem devGrow_any {B n : Nat} {w : World} (b : Nat) (hB : B ≤ b) (hbk : w.heap[b]? = some (.cells #[.pointer none, .slice none 0 0] 93 (0, 0))) (hBw : B ≤ w.heap.size) (hn : n ≤ 281474976710656) :
    Calls Try.prog 61 #[.pointer (some ⟨b, 0, none⟩), .int .i64 n] w fun e w' => e = .returned (.tuple #[]) ∧ BufAt B b [] w' ∧ Below B w w' :=
  Any.Builder_Grow_fresh Try.lays165 Try.Builder_Extra_165 B b n w hB hbk hBw hn
/-- All sure bytes of the first k sectors. -/
def preB (M : DM) (k : Nat) : List UInt8 := (List.range k).flatMap (toldB M)
theorem preB_succ (M : DM) (k : Nat) : preB M (k + 1) = preB M k ++ toldB M k := by unfold preB; rw [List.range_succ, List.flatMap_append]; simp
theorem preB_len {w : World} {h : DH} {M : DM} (d : DevAt w h M) : ∀ k, k ≤ M.n → (preB M k).length = k * 512
  | 0, _ => rfl
  | k + 1, hk => by rw [preB_succ, List.length_append, preB_len d k (by omega), toldB_len d (by omega)]; omega
theorem cells_of_cell {w : World} {b o : Nat} {v : Value} (h : w.cell? ⟨b, o, none⟩ = some v) : ∃ x, w.heap[b]? = some x ∧ x.isCells = true := by
  unfold World.cell? at h
  cases hq : w.heap[b]? with
  | none => simp [hq] at h
  | some x => cases x <;> simp [hq] at h <;> exact ⟨_, rfl, rfl⟩
theorem Row8.keptC {B : Nat} {A C : World} {b off : Nat} {l : List UInt8} (h : Row8 A b off l) (k : KeepsCells B A C) (h0 : 0 < l.length) : Row8 C b off l := by
  obtain ⟨x, hx, hc⟩ := cells_of_cell (h.2 0 h0).1
  have hb : C.heap[b]? = A.heap[b]? := (k.same b x hx (.inl hc)).trans hx.symm
  exact ⟨Nat.lt_of_lt_of_le h.1 k.size, fun j hj => ⟨by have := (h.2 j hj).1; simp only [World.cell?, hb] at this ⊢; exact this, by have := (h.2 j hj).2; simp only [World.frozen?, hb] at this ⊢; exact this⟩⟩
theorem BufAt.keptC {B n₀ b : Nat} {A C : World} {l : List UInt8} (h : BufAt n₀ b l A) (k : KeepsCells B A C) : BufAt n₀ b l C := by
  obtain ⟨hB, v, hbk, hown, hne⟩ := h
  refine ⟨hB, v, k.same b _ hbk (.inl rfl), ⟨hown.1, ?_⟩, hne⟩
  rcases hown.2 with hn | ⟨g, cap, cur, hv, hb, hh, r⟩
  · exact .inl hn
  · exact .inr ⟨g, cap, cur, hv, hb, k.same g _ hh (.inl rfl), r⟩
set_option maxRecDepth 100000 in
set_option maxHeartbeats 2000000 in
theorem devBytes_any {w : World} {h : DH} {M : DM} (d : DevAt w h M) :
    Calls Try.prog 20 #[.pointer (some ⟨h.b, 0, none⟩)] w fun e w' => e = .returned (.string ⟨(preB M M.n).toArray⟩) ∧ Below w.heap.size w w' := by
  have hSec := fun (W : World) (hb : Below w.heap.size w W) k => (callsIn_wide (n := k)).2 (devSectors_any (d.below hb))
  have hn1 := d.n1
  have hn2 := d.n2
  have HD := Lib.hid d
  have hSlt : Hid (∀ k, h.S k → k < w.heap.size) := Lib.hid (by
    have h1 := d.ltb; have h2 := d.ltbs; have h3 := d.wait.lt; have h4 := d.badm.lt
    rintro k (rfl | rfl | rfl | rfl) <;> assumption)
  clear d
  refine (callsIn_wide (n := 8)).1 ?_
  have hfB : Fence.wide.fn 20 := trivial
  have hfS : Fence.wide.fn 22 := trivial
  have hfG : Fence.wide.fn 61 := trivial
  have hfW : Fence.wide.fn 63 := trivial
  have hfT : Fence.wide.fn 64 := trivial
  have HS0 := Lib.hid (hSec _ ((Below.refl w.heap.size w).alloc (Nat.le_refl _) (.cells #[.pointer none, .slice none 0 0] 93)))
  obtain ⟨g, hg⟩ : ∃ g : Nat, g = M.n * 512 := ⟨_, rfl⟩
  have HG0 : Hid (∀ k, CallsIn Fence.wide k Try.prog 61 #[.pointer (some ⟨w.heap.size, 0, none⟩), .int .i64 (g : Int)] (w.alloc (.cells #[.pointer none, .slice none 0 0] 93)) fun e w' => e = .returned (.tuple #[]) ∧ BufAt w.heap.size w.heap.size [] w' ∧ Below w.heap.size (w.alloc (.cells #[.pointer none, .slice none 0 0] 93)) w') :=
    Lib.hid (fun k => (callsIn_wide (n := k)).2 (devGrow_any w.heap.size (Nat.le_refl _) (heap_alloc_new w _) (by simp) (by omega)))
  have hmul : (M.n : Int) * 512 = (g : Int) := by omega
  have hg2 : g ≤ 16777216 := by omega
  clear hg
  refine callsIn_of_wp_marks Try.func20 rfl hfB ?_ rfl
  simp only [Try.ntmps20, List.size_toArray, List.length_cons, List.length_nil, Nat.reduceAdd, Nat.reduceSub, Array.replicate_succ, Array.replicate_zero, List.push_toArray, List.append_toArray, List.nil_append, List.cons_append]
  gi_wp2_with (first
    | (gi_at_call 22; refine (HS0.out _).mono ?_; rintro e w' ⟨rfl, rfl⟩)
    | (gi_at_call 61; refine (HG0.out _).mono ?_; rintro e w2 ⟨rfl, hbuf, hb2⟩))
  have hw2 : w.heap.size ≤ w2.heap.size := by have := hb2.size; simp at this; omega
  have hbel2 : Below w.heap.size w w2 := ((Below.refl w.heap.size w).alloc (Nat.le_refl _) _).trans hb2
  have hd2 : DevAt w2 h M := HD.out.old hSlt.out hbel2
  refine wpIn_range_told (N := M.n) (n₀ := w.heap.size) (gf := 62) (x0 := .pointer (some ⟨h.b, 0, none⟩)) (encs := fun k => #[.agg (U8s (toldB M k)).toArray]) rfl (by omega) rfl trivial (enters_of Try.func62 (by kernel_rfl) rfl) (fun _ => rfl) hw2 (told_tells 7 hd2 hSlt.out hw2 (by omega))
    (fun k W => BufAt w.heap.size w.heap.size (preB M k) W ∧ Below w.heap.size w W)
    (fun k A C hA hk => ⟨hA.1.keptC hk, hA.2.trans (hk.below hw2 hA.2.size)⟩)
    ⟨hbuf, hbel2⟩
    (fun k a' W => (BufAt w.heap.size w.heap.size (preB M k) W ∧ Below w.heap.size w W) ∧ (toldB M k).length = 512 ∧ ∃ Bx, Row8 W Bx 0 (toldB M k) ∧
      a' = { tmps := #[.pointer (some ⟨h.b, 0, none⟩), undef, .string ⟨#[]⟩, .pointer (some ⟨w.heap.size, 0, none⟩), .pointer (some ⟨Bx, 0, none⟩), .pointer (some ⟨h.b, 0, none⟩), .int .i64 (M.n : Int), .int .i64 (g : Int), .tuple #[], .pointer (some ⟨h.b, 0, none⟩), .func (.func 62) #[.pointer (some ⟨h.b, 0, none⟩)] #[], .agg (U8s (toldB M k)).toArray, undef, undef, undef], defers := [] })
    (fun k a' A C hA hk => ⟨⟨hA.1.1.keptC hk, hA.1.2.trans (hk.below hw2 hA.1.2.size)⟩, hA.2.1, by obtain ⟨Bx, hr, ha⟩ := hA.2.2; exact ⟨Bx, hr.keptC hk (by rw [hA.2.1]; omega), ha⟩⟩)
    ?assign ?body ?done
  case assign =>
    rintro l k W K ⟨hI1, hI2⟩ hk hK
    have hdW : DevAt W h M := HD.out.old hSlt.out hI2
    have hlen := toldB_len hdW hk
    obtain ⟨W3, hW3, hd3, hb3, hr3⟩ := var_facts hdW hlen
    have hIk : BufAt w.heap.size w.heap.size (preB M k) W3 ∧ Below w.heap.size w W3 := ⟨hI1.keptC (KeepsCells.of_below (B := 0) hb3), hI2.trans (hb3.mono hI2.size)⟩
    have HKO : Hid (KeepsOthers W W3) := Lib.hid ⟨hb3.size, fun j o hj _ => (hb3.block j (Array.getElem?_eq_some_iff.1 hj).1).trans hj⟩
    have HBB : Hid (Below w.heap.size W W3) := Lib.hid (hb3.mono hI2.size)
    generalize toldB M k = r at hlen hr3 hW3 hK ⊢
    have HK := fun a' hh => hK a' W3 HKO.out HBB.out ⟨hIk, hlen, W.heap.size, hr3, hh⟩
    have HT : Hid ((W.alloc (.cells Try.zeroCells85 85)).there W.heap.size 0 (U8s r).toArray.size) := Lib.hid (by rw [u8a_size, hlen]; exact zc_there W)
    have HII : Hid ((Try.prog.info? 85).map (·.size) = some (U8s r).toArray.size) := Lib.hid (by rw [secSize, u8a_size, hlen])
    have H1 : Hid ((U8s r).toArray.all (·.oneCell') = true) := Lib.hid (all_oneCell_toArray (u8s_one r))
    rw [hW3] at HK
    have HKH := Lib.hid HK
    clear HK hK hd3 hb3 hr3 hIk hI1 hI2 hdW HKO HBB hW3
    gi_wp2_with (with_reducible refine wpListIn_store_mid rfl 85 (.tmp 4) (.tmp 11) rfl W.heap.size 0 (U8s r).toArray rfl rfl HT.out HII.out H1.out ?_)
    exact HKH.out _ rfl
  case body =>
    rintro l k a' W ⟨⟨hI1, hI2⟩, hlen, Bx, hrow, rfl⟩ hk
    have hdW : DevAt W h M := HD.out.old hSlt.out hI2
    have hpl := preB_len hdW k (by omega)
    have hW := bWrite_any (cap := 512) hI1 hI2.size hrow (by rw [hpl, hlen]; omega)
    rw [hlen, ← preB_succ] at hW
    have hWi := fun j => CallsIn.inRound l ((callsIn_wide (n := j)).2 hW)
    have HI2 := Lib.hid hI2
    have hfW' : (Fence.wide.inRound l).fn 63 := trivial
    clear hW hrow hI1 hI2 hdW hpl hlen
    gi_wp2_with (gi_at_call 63; refine (hWi _).mono ?_; rintro e W3 ⟨rfl, hbf, hbw, hko⟩)
    exact ⟨hko, hbw, hbf, HI2.out.trans hbw⟩
  case done =>
    rintro D W hD ⟨hI1, hI2⟩ hK
    have hdW : DevAt W h M := HD.out.old hSlt.out hI2
    have hne : preB M M.n ≠ [] := by
      intro e
      have := preB_len hdW M.n (Nat.le_refl _)
      rw [e] at this; simp at this; omega
    have hSt := fun j => (callsIn_wide (n := j)).2 (devString_any hI1 hne)
    have HI2 := Lib.hid hI2
    have HKD := Lib.hid hK
    have HST := Lib.hid hSt
    clear hdW hK
    gi_wp2_with (gi_at_call 64; refine (HST.out _).mono ?_; rintro e W4 ⟨rfl, hb4, hk4⟩)
    have hK4 := hk4 D HKD.out
    refine ⟨by simp, .inl ⟨_, _, rfl, run_takeDeferred hK4, ?_⟩⟩
    exact ⟨_, results_tmp rfl _ _ _, rfl, (HI2.out.trans hb4).trans (belowK_b (w := w) (Nat.le_refl _) W4 D _ _ (Nat.le_trans hw2 hD) hK4 rfl rfl)⟩
end Go.Proofs.Ytmbjcphhfnemgaa
