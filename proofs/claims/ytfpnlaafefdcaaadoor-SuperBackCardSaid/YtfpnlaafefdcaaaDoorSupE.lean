/- Superblocks: the contract of Find. Superblocks: the contract of Heal. -/
import Derived.Test.YtfpnlaafefdcaaaDoorSort2
import Derived.Test.YtfpnlaafefdcaaaDoorRegR
import Derived.RangeFuncBox
import Derived.Maps.AppendAt
import Derived.BigQuiet
namespace Go.Proofs.YtfpnlaafefdcaaaDoor
open Go.RowKit Go.Shelf
attribute [local go_sem] Oper.semAt_some

/-- Is there a superblock in the slot that the device has room for? -/
def SupFnd (M : DM) (j : Nat) : Prop := SupIs (readV M (j : Int)) ∧ geoSec (supP (readV M (j : Int))).s (supP (readV M (j : Int))).k (supP (readV M (j : Int))).m (supP (readV M (j : Int))).c ≤ (M.n : Int)
instance (M : DM) (j : Nat) : Decidable (SupFnd M j) := by unfold SupFnd; infer_instance
def fndOne (M : DM) (j : Nat) : List SL := if SupFnd M j then [⟨(j : Int), supP (readV M (j : Int))⟩] else []
def fndP (M : DM) (l : List Nat) : List SL := l.flatMap (fndOne M)
/-- What Find answers. -/
def findL (M : DM) : List SL := if M.down = true then [] else srtL (fndP M [0, 1])
def findE (M : DM) : Int := if M.down = true then 12 else 0
theorem fndP_snoc (M : DM) (l : List Nat) (j : Nat) : fndP M (l ++ [j]) = fndP M l ++ fndOne M j := by unfold fndP; rw [List.flatMap_append]; simp
theorem fndOne_len (M : DM) (j : Nat) : (fndOne M j).length ≤ 1 := by unfold fndOne; split <;> simp
theorem fndP_len (M : DM) (l : List Nat) : (fndP M l).length ≤ l.length := by
  induction l with
  | nil => exact Nat.le_refl _
  | cons j r ih => unfold fndP at *; rw [List.flatMap_cons, List.length_append, List.length_cons]; have := fndOne_len M j; omega
theorem slCells_append (a b : List SL) : slCells (a ++ b) = slCells a ++ slCells b := by unfold slCells; rw [List.flatMap_append]
theorem devS_lt {w : World} {h : DH} {M : DM} (d : DevAt w h M) : ∀ q, h.S q → q < w.heap.size := by
  rintro q (rfl | rfl | rfl | rfl)
  · exact d.ltb
  · exact d.ltbs
  · exact d.wait.lt
  · exact d.badm.lt
/-- Where Find has come to. -/
structure FS (w W : World) (h : DH) (M : DM) (L : List SL) : Prop where
  be : Below w.heap.size w W
  d : DevAt W h M
  lt : ∀ q, h.S q → q < w.heap.size
  bd : Boxed W w.heap.size 39 (.pointer (some ⟨h.b, 0, none⟩))
  row : ∃ v, Boxed W (w.heap.size + 1) 73 v ∧ W.ownsRow w.heap.size 85 10 v L.length (slCells L)
section
variable {w W W' : World} {h : DH} {M : DM} {L : List SL}
theorem FS.below (k : FS w W h M L) (hb : Below W.heap.size W W') : FS w W' h M L := by
  obtain ⟨v, hv, hr⟩ := k.row
  exact ⟨k.be.trans (hb.mono k.be.size), k.d.below hb, k.lt, k.bd.kept (below_grown hb) (by simp), v, hv.kept (below_grown hb) (by simp), hr.kept (below_grown hb) (by
    cases v.ownBlock with
    | none => exact .inl rfl
    | some b => exact .inr (fun e => by cases e))⟩
theorem FS.own {B : Nat} (k : FS w W h M L) (hB : w.heap.size + 2 ≤ B) {row : Option Nat} (hg : W.grownBy W' row) (hr : ∀ r, row = some r → B ≤ r ∧ ∃ o : Obj, W.heap[r]? = some o ∧ o.isCells = false) : FS w W' h M L := by
  obtain ⟨v, hv, hrw⟩ := k.row
  have a : Ap (fun q => B ≤ q) W W' := (Ap.refl W).grown hg (fun q hq => .inl (hr q hq).1)
  refine ⟨k.be.trans (a.below (by have := k.be.size; omega) (fun q (hq : B ≤ q) => by omega)), k.d.ap a (fun q hq hB' => by have := k.lt q hq; omega), k.lt, k.bd.kept hg (fun e => by have := (hr _ e.symm).1; omega), v, hv.kept hg (fun e => by have := (hr _ e.symm).1; omega), hrw.kept hg ?_⟩
  rcases hrw.2 with ⟨rfl, _⟩ | ⟨g, cap, cur, rfl, _, hgb, _⟩
  · exact .inl rfl
  · refine .inr fun e' => ?_
    obtain ⟨_, o, ho, hc⟩ := hr g (by simpa [Value.ownBlock] using e'.symm)
    rw [hgb] at ho; cases ho; cases hc
theorem slot_cells (W : World) (x : SL) (t : TypeId) : ∀ j u, x.cells[j]? = some u → (W.alloc (.cells x.cells.toArray t)).cell? ((⟨W.heap.size, 0, none⟩ : Addr).add j) = some u := by
  intro j u hj
  rw [Addr.add_mid, Nat.zero_add, cell_of_row _ _ _ x.cells.toArray t (0, 0) (heap_alloc_new W _)]
  simpa using hj
end
/-- A round of Find: a superblock of its own. -/
structure BQ (w W W2 : World) (h : DH) (M : DM) (L : List SL) (b7 : Nat) (q : SP) : Prop where
  fs : FS w W2 h M L
  bx : SBox W2 b7 q
  be : Below W.heap.size W W2
theorem BQ.below {w W W2 W4 : World} {h : DH} {M : DM} {L : List SL} {b7 : Nat} {q : SP} (k : BQ w W W2 h M L b7 q) (hb : Below W2.heap.size W2 W4) : BQ w W W4 h M L b7 q :=
  ⟨k.fs.below hb, k.bx.below hb, k.be.trans (hb.mono k.be.size)⟩
theorem keepsF_below {B : Nat} {W W2 : World} (a : Below W.heap.size W W2) : KeepsFrom B W W2 :=
  ⟨a.size, fun k _ _ hk _ => (a.block k (Array.getElem?_eq_some_iff.1 hk).1).trans hk⟩
/-- A slot that is appended. -/
theorem FS.app {w W w1 : World} {h : DH} {M M0 : DM} {L : List SL} {v v' : Value} {x : SL} {tmp : Obj} (k : FS w W h M L) (hv : Boxed W (w.heap.size + 1) 73 v) (hrow : W.ownsRow w.heap.size 85 10 v L.length (slCells L))
    (hown' : w1.ownsRow w.heap.size 85 10 v' (L.length + 1) (slCells L ++ x.cells)) (hgrow : (W.alloc tmp).grownBy w1 v.ownBlock) :
    FS w (w1.setCell ⟨w.heap.size + 1, 0, none⟩ v') h M (L ++ [x]) ∧ KeepsOthers W (w1.setCell ⟨w.heap.size + 1, 0, none⟩ v') ∧ kpD h M0 (w.heap.size + 1 + 1) W (w1.setCell ⟨w.heap.size + 1, 0, none⟩ v') := by
  obtain ⟨hv1, hv2, hr2, hk2, hb2⟩ := hv.appended (by decide) hrow k.be.size (Nat.le_succ _) hown' hgrow
  have a : Ap (fun q => w.heap.size ≤ q) W (w1.setCell ⟨w.heap.size + 1, 0, none⟩ v') := ⟨hb2.os, hb2.tape, hb2.output, hb2.size, fun q hq hn => hb2.block q (by omega)⟩
  have hbox : ∀ (B : Nat) (u : Value), B ≠ w.heap.size + 1 → Boxed W B 39 u → Boxed (w1.setCell ⟨w.heap.size + 1, 0, none⟩ v') B 39 u := fun B u hB hb =>
    ((hb.alloc tmp).kept hgrow (hb.not_row (by decide) hrow)).kept (grownBy_setCell' w1 (w.heap.size + 1) v') (fun e => hB (by injection e))
  have hd : ∀ M', DevAt W h M' → DevAt (w1.setCell ⟨w.heap.size + 1, 0, none⟩ v') h M' := fun M' d => d.ap a (fun q hq hB => by have := k.lt q hq; omega)
  refine ⟨⟨k.be.trans hb2, hd _ k.d, k.lt, hbox _ _ (by omega) k.bd, v', hv2, ?_⟩, hk2, fun g => hbox _ _ (by omega) g, fun ⟨M', d, h1, h2⟩ => ⟨M', hd _ d, h1, h2⟩⟩
  rw [slCells_append, List.length_append]
  have e : slCells [x] = x.cells := by unfold slCells; simp
  rw [e]
  exact hr2
theorem sl_one (x : SL) : ∀ u ∈ x.cells, u.oneCell' = true := by
  intro u hu
  unfold SL.cells at hu
  simp only [List.mem_cons, List.not_mem_nil, or_false] at hu
  rcases hu with rfl | rfl | rfl | rfl | rfl | rfl | rfl | rfl | rfl | rfl <;> rfl
theorem slotInfo : (Tryd.prog.info? 85).map (fun i => (i.zero, i.size, i.bytes)) = some (some (.agg #[.int .i64 0, .int .i64 0, .int .i64 0, .int .i64 0, .int .i64 0, .int .i64 0, .int .i64 0, .int .i64 0, .int .i64 0, .int .u32 0]), 10, 80) := by kernel_rfl
set_option maxRecDepth 100000 in
set_option maxHeartbeats 4000000 in
theorem supFind_up {w : World} {h : DH} {M : DM} (d : DevAt w h M) (hdn : M.down = false) (hT : Tab w) :
    Calls Tryd.prog 33 #[.pointer (some ⟨h.b, 0, none⟩)] w fun e w' => ∃ v, e = .returned (.tuple #[v, .int .i64 0]) ∧ w'.ownsRow w.heap.size 85 10 v (findL M).length (slCells (findL M)) ∧ DevAt w' h M ∧ Below w.heap.size w w' := by
  have hDn := fun (W : World) (hb : Below w.heap.size w W) j => (callsIn_wide (n := j)).2 (devDown_any (d.below hb))
  rw [hdn] at hDn
  have HD := Lib.hid d
  have HT := Lib.hid hT
  have HF : Hid (findL M = srtL (fndP M [0, 1])) := Lib.hid (by unfold findL; rw [hdn]; rfl)
  have hlt := devS_lt d
  clear d hT hdn
  refine (callsIn_wide (n := 8)).1 ?_
  have hf0 : Fence.wide.fn 33 := trivial
  have hf1 : Fence.wide.fn 89 := trivial
  have hf2 : Fence.wide.fn 90 := trivial
  have hSt := fun (W : World) j => (callsIn_wide (n := j)).2 (supStanding_any h.b W)
  refine callsIn_of_wp_marks Tryd.func33 rfl hf0 ?_ rfl
  simp only [Tryd.ntmps33, List.size_toArray, List.length_cons, List.length_nil, Nat.reduceAdd, Nat.reduceSub, Array.replicate_succ, Array.replicate_zero, List.push_toArray, List.append_toArray, List.nil_append, List.cons_append]
  gi_wp2_with (first
    | (gi_at_call 89; refine (hDn _ (below1 _ _) _).mono ?_; rintro e W1 ⟨rfl, rfl⟩)
    | (gi_at_call 90; refine (hSt _ _).mono ?_; rintro e W3 ⟨rfl, hW3⟩; have HW3 := Lib.hid hW3; clear hW3))
  have hsz : W3.heap.size = w.heap.size + 3 := by rw [HW3.out]; simp
  have hS3 : ∀ q, h.S q → q < W3.heap.size := fun q hq => by have := hlt q hq; omega
  have hFS : FS w W3 h M [] := by
    rw [HW3.out]
    have b1 := below1 w (.cells #[.pointer (some ⟨h.b, 0, none⟩)] 39)
    have b2 := below1 (w.alloc (.cells #[.pointer (some ⟨h.b, 0, none⟩)] 39)) (.cells #[.slice none 0 0] 73)
    have b3 := below1 ((w.alloc (.cells #[.pointer (some ⟨h.b, 0, none⟩)] 39)).alloc (.cells #[.slice none 0 0] 73)) (.cells #[.pointer (some ⟨h.b, 0, none⟩)] 39)
    refine ⟨(b1.trans (b2.mono b1.size)).trans (b3.mono (by simp; omega)), ((HD.out.below b1).below b2).below b3, hlt, ((Boxed.new w _ _).alloc _).alloc _, .slice none 0 0, ?_, World.ownsRow_nil _ _ _ _⟩
    have := (Boxed.new (w.alloc (.cells #[.pointer (some ⟨h.b, 0, none⟩)] 39)) 73 (.slice none 0 0)).alloc (.cells #[.pointer (some ⟨h.b, 0, none⟩)] 39)
    rw [World.size_alloc] at this
    exact this
  have hc0 : W3.heap[w.heap.size + 1 + 1]? = some (boxD h.b) := by
    rw [HW3.out]
    have := World.alloc_heap_new ((w.alloc (.cells #[.pointer (some ⟨h.b, 0, none⟩)] 39)).alloc (.cells #[.slice none 0 0] 73)) (.cells #[.pointer (some ⟨h.b, 0, none⟩)] 39)
    rw [World.size_alloc, World.size_alloc] at this
    exact this
  clear HW3
  have HFS := Lib.hid hFS
  clear hFS
  refine wpIn_rangeFunc_ownG (α := Fin 2) (Kp := kpD h M (w.heap.size + 1 + 1)) rfl (by omega) (gf := 125) (lb := #[.pointer (some ⟨w.heap.size + 1 + 1, 0, none⟩)]) rfl trivial (enters_of Tryd.func125 (by kernel_rfl) rfl)
    (stand_stops Fence.wide _ trivial trivial rfl (by omega) (fun W h' M' a d => (callsIn_wide).2 (devRead_any d a)) (w.heap.size + 1 + 1) h M W3 (by omega) hc0 HFS.out.d)
    kpD_t (kpD_b hS3) (Below.refl _ _) (fun _ => rfl)
    (fun pre W => FS w W h M (fndP M (pre.map (fun x : Fin 2 => x.1))))
    (fun _ _ _ => False)
    (fun s A B row hs hg hr => hs.own (by omega) hg hr)
    (fun _ _ _ _ _ hs _ _ => hs)
    HFS.out ?a1 ?assign ?body ?done ?stop
  case assign =>
    intro l x W K hK
    unfold slotE
    gi_wp2
    exact hK
  case body =>
    rintro l pre x W hfs hlen
    have HFW := Lib.hid hfs
    have hfl : (fndP M (pre.map (fun x : Fin 2 => x.1))).length ≤ 2 := by have := fndP_len M (pre.map (fun x : Fin 2 => x.1)); rw [List.length_map] at this; omega
    have hsn : fndP M ((pre ++ [x]).map (fun x : Fin 2 => x.1)) = fndP M (pre.map (fun x : Fin 2 => x.1)) ++ fndOne M x.1 := by rw [List.map_append]; exact fndP_snoc M _ _
    have HSN := Lib.hid hsn
    have hPa := supParse_any (⟨(readV M ((x.1 : Nat) : Int)).toArray⟩ : ByteArray) W (HT.out.below hfs.be (Nat.le_refl _))
    rw [toList_mk] at hPa
    have HO : Hid (fndOne M x.1 = if SupFnd M x.1 then [⟨((x.1 : Nat) : Int), supP (readV M ((x.1 : Nat) : Int))⟩] else []) := Lib.hid rfl
    have HFD : Hid (SupFnd M x.1 ↔ supPE (readV M ((x.1 : Nat) : Int)) = 0 ∧ geoSec (supP (readV M ((x.1 : Nat) : Int))).s (supP (readV M ((x.1 : Nat) : Int))).k (supP (readV M ((x.1 : Nat) : Int))).m (supP (readV M ((x.1 : Nat) : Int))).c ≤ (M.n : Int)) := Lib.hid (by
      unfold SupFnd supPE
      constructor
      · rintro ⟨h1, h2⟩; exact ⟨if_pos h1, h2⟩
      · rintro ⟨h1, h2⟩
        refine ⟨?_, h2⟩
        by_cases g : SupIs (readV M ((x.1 : Nat) : Int))
        · exact g
        · rw [if_neg g] at h1; omega)
    have hin := supP_in (readV M ((x.1 : Nat) : Int))
    generalize fndP M (pre.map (fun x : Fin 2 => x.1)) = L at HSN HFW hfl
    generalize supPE (readV M ((x.1 : Nat) : Int)) = z at hPa HFD
    generalize supP (readV M ((x.1 : Nat) : Int)) = q at hPa HFD HO hin
    generalize (⟨(readV M ((x.1 : Nat) : Int)).toArray⟩ : ByteArray) = X at hPa ⊢
    unfold SP.v at hPa
    have HPA := Lib.hid (fun j => CallsIn.inRound l ((callsIn_wide (n := j)).2 hPa))
    have hGS := fun W => geoSectors_any q.s q.k q.m q.c hin.k hin.m hin.c W
    unfold geoV at hGS
    generalize geoSec q.s q.k q.m q.c = ge at hGS HFD
    have hfP : Fence.wide.fn 25 := trivial
    clear hfs hsn hPa
    by_cases hz : z = 0
    · subst hz
      gi_wp2_with (gi_at_call 25; refine (HPA.out _).mono ?_; rintro e W1 ⟨rfl, hb1⟩; have HF1 := Lib.hid (HFW.out.below hb1); have HB1 := Lib.hid hb1; clear hb1)
      have HQ : Hid (BQ w W (W1.alloc (.cells #[.int .i64 q.gen, .int .i64 q.s, .int .i64 q.k, .int .i64 q.m, .int .i64 q.c, .int .i64 q.len, .int .i64 q.a, .int .i64 q.b, .int .u32 (q.sum : Int)] 53)) h M L W1.heap.size q) := Lib.hid ⟨HF1.out.below (below1 _ _), SBox.new W1 q _, HB1.out.trans ((below1 _ _).mono HB1.out.size)⟩
      clear HF1 HB1 HFW HPA
      generalize W1.heap.size = b7 at HQ ⊢
      generalize W1.alloc (.cells #[.int .i64 q.gen, .int .i64 q.s, .int .i64 q.k, .int .i64 q.m, .int .i64 q.c, .int .i64 q.len, .int .i64 q.a, .int .i64 q.b, .int .u32 (q.sum : Int)] 53) = W2 at HQ ⊢
      have hDS := fun (W : World) (d : DevAt W h M) => devSectors_any d
      clear hDn hSt hlen hS3 hc0 hsz hlt hfP HFS
      have gd := HQ.out.below ((Below.refl _ _).drew)
      have z0 : ∀ p : Wk (fun W2 => BQ w W W2 h M L b7 q), p.W.cell? ⟨w.heap.size, 0, none⟩ = some (.pointer (some ⟨h.b, 0, none⟩)) := fun p => p.h.fs.bd.cell
      have z1 : ∀ p : Wk (fun W2 => BQ w W W2 h M L b7 q), p.W.cell? ⟨b7, 1, none⟩ = some (.int .i64 q.s) := fun p => p.h.bx.c1
      have z2 : ∀ p : Wk (fun W2 => BQ w W W2 h M L b7 q), p.W.cell? ⟨b7, 2, none⟩ = some (.int .i64 q.k) := fun p => p.h.bx.c2
      have z3 : ∀ p : Wk (fun W2 => BQ w W W2 h M L b7 q), p.W.cell? ⟨b7, 3, none⟩ = some (.int .i64 q.m) := fun p => p.h.bx.c3
      have z4 : ∀ p : Wk (fun W2 => BQ w W W2 h M L b7 q), p.W.cell? ⟨b7, 4, none⟩ = some (.int .i64 q.c) := fun p => p.h.bx.c4
      refine wpIn_region_wk_round (fun W2 => BQ w W W2 h M L b7 q) (by kernel_rfl) (by kernel_rfl) (by kernel_rfl) gd ?_
      have ne : Nonempty (Wk (fun W2 => BQ w W W2 h M L b7 q)) := ⟨⟨_, gd⟩⟩
      clear gd
      repeat (refine wpQuiet_step (fun K hK => ?_); go_simp; first
        | (refine hK _ ?_; clear hK K)
        | (apply Exists.intro
           refine ⟨fun p => ?_, hK _ ?_⟩
           (first
             | (go_at_call 14; exact (hGS _).mono fun _ _ h => ⟨h.1, ⟨_, BQ.below p.h h.2⟩, rfl⟩)
             | (go_at_call 91; exact (hDS _ p.h.fs.d).mono fun _ _ h => ⟨h.1, ⟨p.W, p.h⟩, h.2.symm⟩))
           clear hK K))
      refine wpQuiet_nil ?_
      intro p
      have HQ2 : Hid (BQ w W p.W h M L b7 q) := Lib.hid p.h
      generalize p.W = W4 at HQ2 ⊢
      clear z0 z1 z2 z3 z4 ne p hDS hGS
      obtain ⟨bb, hbb⟩ : ∃ bb, bb = decide (ge ≤ (M.n : Int)) := ⟨_, rfl⟩
      rw [← hbb]
      cases bb
      rotate_left
      · have hge : ge ≤ (M.n : Int) := of_decide_eq_true hbb.symm
        have HL2 : Hid (fndP M ((pre ++ [x]).map (fun x : Fin 2 => x.1)) = L ++ [⟨((x.1 : Nat) : Int), q⟩]) := Lib.hid (by rw [HSN.out, HO.out, if_pos (HFD.out.2 ⟨by trivial, hge⟩)])
        obtain ⟨v, hv, hrow⟩ := HQ2.out.fs.row
        obtain ⟨i0, hi, hzz0, hzz1, hzz2⟩ := info_parts slotInfo
        have hsz4 := HQ2.out.fs.be.size
        have hvc := hv.cell
        have hvf := hv.frozen
        obtain ⟨_, c0, c1, c2, c3, c4, c5, c6, c7, c8⟩ := HQ2.out.bx
        have HV := Lib.hid hv
        have HRW := Lib.hid hrow
        clear hge hv hrow hbb
        gi_wp2_with (gi_at_builtin; refine wpListIn_append_own _ rfl _ _ 73 rfl w.heap.size 85 i0 _ 10 80 Tryd.underlying73 hi hzz0 hzz1 hzz2 rfl (by decide) _ _ _ rfl (HRW.out.alloc _) ⟨W4.heap.size, 0, none⟩ 1 1 (SL.cells ⟨((x.1 : Nat) : Int), q⟩) rfl rfl (slot_cells W4 ⟨((x.1 : Nat) : Int), q⟩ _) (sl_one _) (by unfold maxLen; omega) (by omega) (by simp; omega) ?_; intro v' w1 hown' hgrow _; obtain ⟨g', cap', rfl⟩ := ownsRow_succ hown'; have HAP := Lib.hid (HQ2.out.fs.app (M0 := M) HV.out HRW.out hown' hgrow); have hv1 := (HV.out.alloc _).kept hgrow (HV.out.not_row (by decide) HRW.out); have hc1 := hv1.cell; have hf1 := hv1.frozen; clear hown' hgrow hv1)
        exact ⟨(keepsF_below HQ2.out.be).trans (HAP.out.2.1.from _), kpD_t (kpD_below HQ2.out.be) HAP.out.2.2, by dsimp only; rw [HL2.out]; exact HAP.out.1⟩
      · have hge : ¬ ge ≤ (M.n : Int) := of_decide_eq_false hbb.symm
        have HL2 : Hid (fndP M ((pre ++ [x]).map (fun x : Fin 2 => x.1)) = L) := Lib.hid (by rw [HSN.out, HO.out, if_neg (fun h => hge (HFD.out.1 h).2), List.append_nil])
        clear hge hbb
        gi_wp2
        exact ⟨keepsF_below HQ2.out.be, kpD_below HQ2.out.be, by dsimp only; rw [HL2.out]; exact HQ2.out.fs⟩
    · have HL2 : Hid (fndP M ((pre ++ [x]).map (fun x : Fin 2 => x.1)) = L) := Lib.hid (by rw [HSN.out, HO.out, if_neg (fun h => hz (HFD.out.1 h).1), List.append_nil])
      have q0 : (z == 0) = false := by simpa using hz
      have q1 : (z != 0) = true := by simpa using hz
      clear hz
      gi_wp2_with (gi_at_call 25; refine (HPA.out _).mono ?_; rintro e W1 ⟨rfl, hb1⟩; have HF1 := Lib.hid (HFW.out.below hb1); have HB1 := Lib.hid hb1; clear hb1)
      have HQ : Hid (BQ w W (W1.alloc (.cells #[.int .i64 q.gen, .int .i64 q.s, .int .i64 q.k, .int .i64 q.m, .int .i64 q.c, .int .i64 q.len, .int .i64 q.a, .int .i64 q.b, .int .u32 (q.sum : Int)] 53)) h M L W1.heap.size q) := Lib.hid ⟨HF1.out.below (below1 _ _), SBox.new W1 q _, HB1.out.trans ((below1 _ _).mono HB1.out.size)⟩
      clear HF1 HB1 HFW HPA
      generalize W1.heap.size = b7 at HQ ⊢
      generalize W1.alloc (.cells #[.int .i64 q.gen, .int .i64 q.s, .int .i64 q.k, .int .i64 q.m, .int .i64 q.c, .int .i64 q.len, .int .i64 q.a, .int .i64 q.b, .int .u32 (q.sum : Int)] 53) = W2 at HQ ⊢
      clear hDn hSt hlen hS3 hc0 hsz hlt hfP HFS hGS
      have gd := HQ.out.below ((Below.refl _ _).drew)
      refine wpIn_region_wk_round (fun W2 => BQ w W W2 h M L b7 q) (by kernel_rfl) (by kernel_rfl) (by kernel_rfl) gd ?_
      have ne : Nonempty (Wk (fun W2 => BQ w W W2 h M L b7 q)) := ⟨⟨_, gd⟩⟩
      clear gd
      iterate 2 (refine wpQuiet_step (fun K hK => ?_); go_simp; (refine hK _ ?_; clear hK K))
      refine BigFrame.wpQuiet_want rfl (fun K hK => BigFrame.quiet_move _ rfl (hK _ ?_))
      clear hK K
      change wpQuiet _ _ _ _ _ (Act.put _ (some 22) (Value.bool false))
      try simp only [Act.put, List.setIfInBounds_toArray, List.set_cons_zero, List.set_cons_succ]
      iterate 6 (refine BigFrame.wpQuiet_skip rfl ?_; try simp only [Act.put, List.setIfInBounds_toArray, List.set_cons_zero, List.set_cons_succ])
      refine wpQuiet_step (fun K hK => ?_)
      go_simp
      refine hK _ ?_
      clear hK K
      refine wpQuiet_nil ?_
      intro p
      have HQ2 : Hid (BQ w W p.W h M L b7 q) := Lib.hid p.h
      generalize p.W = W4 at HQ2 ⊢
      clear ne p
      gi_wp2
      exact ⟨keepsF_below HQ2.out.be, kpD_below HQ2.out.be, by dsimp only; rw [HL2.out]; exact HQ2.out.fs⟩
  case done =>
    rintro D ys W hD hys hfs hK
    rw [hys] at hfs
    have hsz := hfs.be.size
    obtain ⟨v, hv, hrow⟩ := hfs.row
    have hln := fndP_len M (List.range 2)
    have hS := sortSlots_any (fndP M (List.range 2)) (by simpa using hln) hsz hrow
    have HS := Lib.hid (fun j => (callsIn_wide (n := j)).2 hS)
    have hvc := hv.cell
    have HFS2 := Lib.hid hfs
    have HV := Lib.hid hv
    have HRW := Lib.hid hrow
    have HKD := Lib.hid hK
    have hfS : Fence.wide.fn 92 := trivial
    clear hfs hv hrow hK hln hS hDn hSt hc0 hS3 HFS
    gi_wp2_with (gi_at_call 92; refine (HS.out _).mono ?_; rintro e W5 ⟨rfl, hr5, ha5⟩; have HR5 := Lib.hid hr5; have HA5 := Lib.hid ha5; have hvc5 := (HA5.out.cell HV.out.lt (fun e => HV.out.not_row (by decide) HRW.out e.symm) 0).trans hvc; clear hr5 ha5)
    have hneD : ∀ k, v.ownBlock = some k → k ≠ D := by
      rintro k hk rfl
      rcases HRW.out.2 with ⟨e, _⟩ | ⟨g, cap, cur, e, _, hgb, _⟩
      · rw [e] at hk; simp [Value.ownBlock] at hk
      · rw [e] at hk
        obtain rfl : g = k := by simpa [Value.ownBlock] using hk
        rw [hgb] at HKD; have := HKD.out; cases this
    have hK5 : W5.heap[D]? = some (.deferred (some [])) := (HA5.out.block D (Array.getElem?_eq_some_iff.1 HKD.out).1 (fun e => hneD D e rfl)).trans HKD.out
    have a1 : Ap (fun q => w.heap.size ≤ q) W W5 := HA5.out.weak (fun k hk => (HRW.out.lt k hk).1)
    have a2 : Ap (fun q => w.heap.size ≤ q) W5 (W5.putObj D (.deferred none)) := (Ap.refl W5).grown (grownBy_putObj' _ D _) (fun k e => .inl (by cases e; omega))
    have hFL : findL M = srtL (fndP M (List.range 2)) := HF.out
    have hLL : (findL M).length = (fndP M (List.range 2)).length := by rw [hFL, srtL_len]
    refine ⟨by simp, .inl ⟨_, _, rfl, run_takeDeferred hK5, ?_⟩⟩
    refine ⟨.tuple #[v, .int .i64 0], ?_, v, rfl, ?_, HFS2.out.d.ap (a1.trans a2) (fun q hq hB => by have := hlt q hq; omega), HFS2.out.be.trans ((a1.trans a2).below hsz (fun k hk => hk))⟩
    · simp [results, Tryd.f33, go_sem]
    · rw [hLL, hFL]
      exact ownsRow_putObj HR5.out _ hK5 rfl
  case stop =>
    rintro D c' pre W hD _ h' hK
    exact h'.elim
set_option maxRecDepth 100000 in
set_option maxHeartbeats 1000000 in
theorem supFind_down {w : World} {h : DH} {M : DM} (d : DevAt w h M) (hdn : M.down = true) :
    Calls Tryd.prog 33 #[.pointer (some ⟨h.b, 0, none⟩)] w fun e w' => e = .returned (.tuple #[.slice none 0 0, .int .i64 12]) ∧ Below w.heap.size w w' := by
  have hDn := fun (W : World) (hb : Below w.heap.size w W) j => (callsIn_wide (n := j)).2 (devDown_any (d.below hb))
  rw [hdn] at hDn
  clear d hdn
  refine (callsIn_wide (n := 8)).1 ?_
  have hf0 : Fence.wide.fn 33 := trivial
  have hf1 : Fence.wide.fn 89 := trivial
  refine callsIn_of_wp_marks Tryd.func33 rfl hf0 ?_ rfl
  simp only [Tryd.ntmps33, List.size_toArray, List.length_cons, List.length_nil, Nat.reduceAdd, Nat.reduceSub, Array.replicate_succ, Array.replicate_zero, List.push_toArray, List.append_toArray, List.nil_append, List.cons_append]
  gi_wp2_with (gi_at_call 89; refine (hDn _ (below1 _ _) _).mono ?_; rintro e W1 ⟨rfl, rfl⟩)
  refine ⟨.tuple #[.slice none 0 0, .int .i64 12], ?_, rfl, below1 _ _⟩
  simp [results, Tryd.f33, go_sem]
theorem supFind_any {w : World} {h : DH} {M : DM} (d : DevAt w h M) (hT : Tab w) :
    Calls Tryd.prog 33 #[.pointer (some ⟨h.b, 0, none⟩)] w fun e w' => ∃ v, e = .returned (.tuple #[v, .int .i64 (findE M)]) ∧ w'.ownsRow w.heap.size 85 10 v (findL M).length (slCells (findL M)) ∧ DevAt w' h M ∧ Below w.heap.size w w' := by
  cases hdn : M.down
  · have e : findE M = 0 := by unfold findE; rw [hdn]; rfl
    rw [e]
    exact supFind_up d hdn hT
  · have e : findE M = 12 := by unfold findE; rw [hdn]; rfl
    have e2 : findL M = [] := by unfold findL; rw [hdn]; rfl
    rw [e, e2]
    exact (supFind_down d hdn).mono fun e w' h => ⟨_, h.1, World.ownsRow_nil _ _ _ _, d.below h.2, h.2⟩
end Go.Proofs.YtfpnlaafefdcaaaDoor
namespace Go.Proofs.YtfpnlaafefdcaaaDoor
open Go.RowKit Go.Shelf
attribute [local go_sem] Oper.semAt_some

/-- One slot: written, if it has not what it must have. -/
def healStep (M : DM) (p : SP) (r : DM × List Int × Int) (j : Nat) : DM × List Int × Int :=
  if r.2.2 = 0 then (if readV M (j : Int) = supL p then r else (swM r.1 (j : Int) p, (if swE r.1 (j : Int) p = 0 then r.2.1 ++ [(j : Int)] else r.2.1), swE r.1 (j : Int) p)) else r
def healF (M : DM) (p : SP) (l : List Nat) : DM × List Int × Int := l.foldl (healStep M p) (M, [], 0)
theorem healF_snoc (M : DM) (p : SP) (l : List Nat) (j : Nat) : healF M p (l ++ [j]) = healStep M p (healF M p l) j := by unfold healF; rw [List.foldl_append]; rfl
theorem healStep_stop {M : DM} {p : SP} {r : DM × List Int × Int} (h : r.2.2 ≠ 0) (j : Nat) : healStep M p r j = r := if_neg h
theorem healF_stop {M : DM} {p : SP} : ∀ (l : List Nat) {r : DM × List Int × Int}, r.2.2 ≠ 0 → l.foldl (healStep M p) r = r
  | [], _, _ => rfl
  | j :: l, r, h => by rw [List.foldl_cons, healStep_stop h]; exact healF_stop l h
theorem healStep_w (M : DM) (p : SP) (r : DM × List Int × Int) (j : Nat) : (healStep M p r j).1.writes ≤ r.1.writes + 1 ∧ (healStep M p r j).2.1.length ≤ r.2.1.length + 1 := by
  unfold healStep
  split
  · split
    · exact ⟨Nat.le_succ _, Nat.le_succ _⟩
    · refine ⟨?_, ?_⟩
      · dsimp only
        unfold swM writeM
        have hb := (burnM_fresh r.1).2.2.1
        split
        · omega
        · split
          · split
            · exact Nat.le_of_eq rfl
            · split
              · omega
              · rw [hb]; omega
          · omega
      · dsimp only; split
        · simp
        · omega
  · exact ⟨Nat.le_succ _, Nat.le_succ _⟩
theorem healF_w (M : DM) (p : SP) : ∀ (l : List Nat) (r : DM × List Int × Int), (l.foldl (healStep M p) r).1.writes ≤ r.1.writes + l.length ∧ (l.foldl (healStep M p) r).2.1.length ≤ r.2.1.length + l.length
  | [], r => ⟨Nat.le_refl _, Nat.le_refl _⟩
  | j :: l, r => by
    have h := healF_w M p l (healStep M p r j)
    have h2 := healStep_w M p r j
    rw [List.foldl_cons, List.length_cons]
    omega
/-- What Heal answers. -/
def hlM (M : DM) (p : SP) : DM := if SupOk p then (healF M p [0, 1]).1 else M
def hlE (M : DM) (p : SP) : Int := if SupOk p then (healF M p [0, 1]).2.2 else 2
def hlL (M : DM) (p : SP) : List Int := if SupOk p ∧ (healF M p [0, 1]).2.2 = 0 then (healF M p [0, 1]).2.1 else []
def cpCells (l : List (Int × Bool)) : List Value := l.flatMap fun c => [.int .i64 c.1, .bool c.2]
def hd (l : List Int) : List (Int × Bool) := l.map fun a => (a, true)
theorem cpCells_append (a b : List (Int × Bool)) : cpCells (a ++ b) = cpCells a ++ cpCells b := by unfold cpCells; rw [List.flatMap_append]
/-- The box of the superblock. -/
def boxP (p : SP) : Obj := .cells #[.int .i64 p.gen, .int .i64 p.s, .int .i64 p.k, .int .i64 p.m, .int .i64 p.c, .int .i64 p.len, .int .i64 p.a, .int .i64 p.b, .int .u32 (p.sum : Int)] 53 (0, 0)
theorem boxP_sb {W : World} {b : Nat} {p : SP} (h : W.heap[b]? = some (boxP p)) : SBox W b p := by
  have hc : ∀ o, W.cell? ⟨b, o, none⟩ = _ := fun o => cell_of_row W b o _ 53 (0, 0) h
  refine ⟨(Array.getElem?_eq_some_iff.1 h).1, ?_, ?_, ?_, ?_, ?_, ?_, ?_, ?_, ?_⟩ <;> (rw [hc]; rfl)
theorem boxP_ap {S : Nat → Prop} {W W' : World} {b : Nat} {p : SP} (h : W.heap[b]? = some (boxP p)) (a : Ap S W W') (hn : ¬ S b) : W'.heap[b]? = some (boxP p) := (a.block b (Array.getElem?_eq_some_iff.1 h).1 hn).trans h
/-- Where Heal has come to. -/
structure HT (w W : World) (h : DH) (N : DM) (p : SP) (x6 x8 : Nat) (X : ByteArray) (e : Int) (L : List (Int × Bool)) : Prop where
  d : DevAt W h N
  lt : ∀ q, h.S q → q < w.heap.size
  ap : Ap h.S w W
  g6 : w.heap.size + 4 ≤ x6
  g8 : x6 < x8
  b2 : Boxed W w.heap.size 39 (.pointer (some ⟨h.b, 0, none⟩))
  b3 : W.heap[w.heap.size + 1]? = some (boxP p)
  b4 : Boxed W (w.heap.size + 2) 48 (.slice none 0 0)
  b5 : Boxed W (w.heap.size + 3) 26 (.int .i64 e)
  b6 : Boxed W x6 9 (.string X)
  row : ∃ v, Boxed W x8 48 v ∧ W.ownsRow w.heap.size 89 2 v L.length (cpCells L)
section
variable {w W W' : World} {h : DH} {N N' : DM} {p : SP} {x6 x8 : Nat} {X : ByteArray} {e : Int} {L : List (Int × Bool)}
theorem boxed_ap {S : Nat → Prop} {B : Nat} {t : TypeId} {v : Value} (b : Boxed W B t v) (a : Ap S W W') (hn : ¬ S B) : Boxed W' B t v := (a.block B b.lt hn).trans b
/-- Whatever leaves our blocks alone. -/
theorem HT.move {S : Nat → Prop} (k : HT w W h N p x6 x8 X e L) (d' : DevAt W' h N') (a : Ap S W W') (hS : ∀ q, S q → h.S q ∨ (W.heap.size ≤ q)) : HT w W' h N' p x6 x8 X e L := by
  have hn : ∀ q, w.heap.size ≤ q → q < W.heap.size → ¬ S q := fun q h1 h2 hq => by
    rcases hS q hq with h3 | h3
    · have := k.lt q h3; omega
    · omega
  have hs := k.ap.size
  obtain ⟨v, hv, hr⟩ := k.row
  have h8 := hv.lt
  have b4l := k.b4.lt
  have b5l := k.b5.lt
  have b3l := (Array.getElem?_eq_some_iff.1 k.b3).1
  have g6 := k.g6
  have g8 := k.g8
  refine ⟨d', k.lt, ⟨a.os.trans k.ap.os, a.tape.trans k.ap.tape, a.output.trans k.ap.output, Nat.le_trans hs a.size, fun q hq hnn => (a.block q (by omega) (fun hq' => by rcases hS q hq' with h3 | h3; exact hnn h3; omega)).trans (k.ap.block q hq hnn)⟩, g6, g8,
    boxed_ap k.b2 a (hn _ (Nat.le_refl _) k.b2.lt), boxP_ap k.b3 a (hn _ (by omega) b3l), boxed_ap k.b4 a (hn _ (by omega) b4l), boxed_ap k.b5 a (hn _ (by omega) b5l), boxed_ap k.b6 a (hn _ (by omega) k.b6.lt), v, boxed_ap hv a (hn _ (by omega) h8), ?_⟩
  have hg : W.ownsRow w.heap.size 89 2 v L.length (cpCells L) := hr
  refine ⟨hg.1, ?_⟩
  rcases hg.2 with h | ⟨g, cap, cur, q1, q2, q3, q4⟩
  · exact .inl h
  · exact .inr ⟨g, cap, cur, q1, q2, (a.block g (Array.getElem?_eq_some_iff.1 q3).1 (hn g q2 (Array.getElem?_eq_some_iff.1 q3).1)).trans q3, q4⟩
theorem HT.below (k : HT w W h N p x6 x8 X e L) (hb : Below W.heap.size W W') : HT w W' h N p x6 x8 X e L := k.move (S := fun _ => False) (k.d.below hb) (Ap.of_below hb) (fun _ h => h.elim)
theorem HT.dev (k : HT w W h N p x6 x8 X e L) (d' : DevAt W' h N') (a : Ap h.S W W') : HT w W' h N' p x6 x8 X e L := k.move d' a (fun _ hq => .inl hq)
theorem HT.own {B : Nat} (k : HT w W h N p x6 x8 X e L) (hB : x8 < B) {row : Option Nat} (hg : W.grownBy W' row) (hr : ∀ r, row = some r → B ≤ r ∧ ∃ o : Obj, W.heap[r]? = some o ∧ o.isCells = false) : HT w W' h N p x6 x8 X e L := by
  have g6 := k.g6
  have g8 := k.g8
  have a : Ap (fun q => row = some q) W W' := ⟨hg.os, hg.tape, hg.output, hg.size, fun q hq hn => hg.block q hq (fun e => hn e.symm)⟩
  obtain ⟨v, hv, hrw⟩ := k.row
  have hn : ∀ q t u, q < B → Boxed W q t u → Boxed W' q t u := fun q t u hq hb => boxed_ap hb a (fun e => by have := (hr q e).1; omega)
  refine ⟨k.d.ap a (fun q hq e => by have := k.lt q hq; have := (hr q e).1; omega), k.lt, ⟨a.os.trans k.ap.os, a.tape.trans k.ap.tape, a.output.trans k.ap.output, Nat.le_trans k.ap.size a.size, fun q hq hnn => (a.block q (by have := k.ap.size; omega) (fun e => by have := (hr q e).1; have := k.b2.lt; omega)).trans (k.ap.block q hq hnn)⟩, g6, g8, hn _ _ _ (by omega) k.b2, boxP_ap k.b3 a (fun e => by have := (hr _ e).1; omega), hn _ _ _ (by omega) k.b4, hn _ _ _ (by omega) k.b5, hn _ _ _ (by omega) k.b6, v, hn _ _ _ hB hv, hrw.kept hg ?_⟩
  rcases hrw.2 with ⟨rfl, _⟩ | ⟨g, cap, cur, rfl, _, hgb, _⟩
  · exact .inl rfl
  · refine .inr fun e' => ?_
    obtain ⟨_, o, ho, hc⟩ := hr g (by simpa [Value.ownBlock] using e'.symm)
    rw [hgb] at ho; cases ho; cases hc
end
theorem cp_cells (W : World) (a : Int) (b : Bool) (t : TypeId) : ∀ j u, ([.int .i64 a, .bool b] : List Value)[j]? = some u → (W.alloc (.cells #[.int .i64 a, .bool b] t)).cell? ((⟨W.heap.size, 0, none⟩ : Addr).add j) = some u := by
  intro j u hj
  rw [Addr.add_mid, Nat.zero_add, cell_of_row _ _ _ #[.int .i64 a, .bool b] t (0, 0) (heap_alloc_new W _)]
  simpa using hj
theorem copyInfo : (Tryd.prog.info? 89).map (fun i => (i.zero, i.size, i.bytes)) = some (some (.agg #[.int .i64 0, .bool false]), 2, 16) := by kernel_rfl
/-- A copy that is appended. -/
theorem HT.app {w W w1 : World} {h : DH} {N M0 : DM} {p : SP} {x6 x8 B0 : Nat} {X : ByteArray} {e : Int} {L : List (Int × Bool)} {v v' : Value} {c : Int × Bool} {tmp : Obj} (k : HT w W h N p x6 x8 X e L) (hv : Boxed W x8 48 v) (hrow : W.ownsRow w.heap.size 89 2 v L.length (cpCells L))
    (hown' : w1.ownsRow w.heap.size 89 2 v' (L.length + 1) (cpCells L ++ [.int .i64 c.1, .bool c.2])) (hgrow : (W.alloc tmp).grownBy w1 v.ownBlock) (hB0 : x8 < B0) :
    HT w (w1.setCell ⟨x8, 0, none⟩ v') h N p x6 x8 X e (L ++ [c]) ∧ KeepsOthers W (w1.setCell ⟨x8, 0, none⟩ v') ∧ kpD h M0 B0 W (w1.setCell ⟨x8, 0, none⟩ v') := by
  have g6 := k.g6
  have g8 := k.g8
  obtain ⟨hv1, hv2, hr2, hk2, hb2⟩ := hv.appended (by decide) hrow k.ap.size (by omega) hown' hgrow
  have a : Ap (fun q => w.heap.size ≤ q) W (w1.setCell ⟨x8, 0, none⟩ v') := ⟨hb2.os, hb2.tape, hb2.output, hb2.size, fun q hq hn => hb2.block q (by omega)⟩
  have hbox : ∀ (B : Nat) (t : TypeId) (u : Value), B ≠ x8 → t ≠ 89 → Boxed W B t u → Boxed (w1.setCell ⟨x8, 0, none⟩ v') B t u := fun B t u hB ht hb =>
    ((hb.alloc tmp).kept hgrow (hb.not_row ht hrow)).kept (grownBy_setCell' w1 x8 v') (fun e => hB (by injection e))
  have hdd : ∀ M', DevAt W h M' → DevAt (w1.setCell ⟨x8, 0, none⟩ v') h M' := fun M' d => d.ap a (fun q hq hB => by have := k.lt q hq; omega)
  have hP : (w1.setCell ⟨x8, 0, none⟩ v').heap[w.heap.size + 1]? = some (boxP p) := by
    have hlt := (Array.getElem?_eq_some_iff.1 k.b3).1
    have hne : some (w.heap.size + 1) ≠ v.ownBlock := by
      rcases hrow.2 with ⟨rfl, _⟩ | ⟨g, cap, cur, rfl, _, hgb, _⟩
      · simp [Value.ownBlock]
      · intro e'
        obtain rfl : w.heap.size + 1 = g := by simpa [Value.ownBlock] using e'
        have := k.b3.symm.trans hgb
        simp [boxP] at this
    have h1 : w1.heap[w.heap.size + 1]? = some (boxP p) := (hgrow.block _ (by simp; omega) hne).trans ((Below.heap_alloc W tmp _ hlt).trans k.b3)
    exact ((grownBy_setCell' w1 x8 v').block _ (Array.getElem?_eq_some_iff.1 h1).1 (fun e => by injection e; omega)).trans h1
  refine ⟨⟨hdd _ k.d, k.lt, ⟨a.os.trans k.ap.os, a.tape.trans k.ap.tape, a.output.trans k.ap.output, Nat.le_trans k.ap.size a.size, fun q hq hnn => (a.block q (by have := k.ap.size; omega) (by omega)).trans (k.ap.block q hq hnn)⟩, g6, g8, hbox _ _ _ (by omega) (by decide) k.b2, hP, hbox _ _ _ (by omega) (by decide) k.b4, hbox _ _ _ (by omega) (by decide) k.b5, hbox _ _ _ (by omega) (by decide) k.b6, v', hv2, ?_⟩, hk2, fun g => hbox _ _ _ (by omega) (by decide) g, fun ⟨M', d, h1, h2⟩ => ⟨M', hdd _ d, h1, h2⟩⟩
  rw [cpCells_append, List.length_append]
  have e : cpCells [c] = [.int .i64 c.1, .bool c.2] := by unfold cpCells; simp
  rw [e]
  exact hr2
end Go.Proofs.YtfpnlaafefdcaaaDoor
