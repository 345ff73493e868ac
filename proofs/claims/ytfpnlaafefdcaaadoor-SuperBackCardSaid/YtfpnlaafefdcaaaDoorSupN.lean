/- Superblocks: what is asked of the law (lives): the facts. Superblocks: what is asked of the law (lives): the walk. -/
import Derived.Test.YtfpnlaafefdcaaaDoorSupH
import Derived.Test.YtfpnlaafefdcaaaDoorCrcC
import Derived.Test.YtfpnlaafefdcaaaDoorCluA
import Derived.RegionTactic
import Derived.Deep.Cut
namespace Go.Proofs.YtfpnlaafefdcaaaDoor
open Go.RowKit Go.Shelf

/-- A write to a device that is up. -/
theorem sw_good {M : DM} {j : Nat} {p : SP} (hd : M.down = false) (hl : M.left < 0) (hn : 2 ≤ M.n) (hj : j < 2) (hO : SupOk p) (hs : p.sum < 4294967296) :
    swE M (j : Int) p = 0 ∧ (swM M (j : Int) p).down = false ∧ (swM M (j : Int) p).left = M.left ∧ (swM M (j : Int) p).n = M.n ∧ (swM M (j : Int) p).writes = M.writes + 1 ∧ readV (swM M (j : Int) p) (j : Int) = supL p ∧ ∀ i : Nat, i ≠ j → readV (swM M (j : Int) p) (i : Int) = readV M (i : Int) := by
  have hsz : (⟨(supL p).toArray⟩ : ByteArray).size = 512 := supL_len hs hO
  have hb : burnE M = 0 := by unfold burnE; rw [if_neg (by omega)]
  have hbm : burnM M = M := by unfold burnM; rw [if_neg (by omega), if_neg (by omega)]
  have hE : writeE M (j : Int) ⟨(supL p).toArray⟩ = 0 := by
    unfold writeE
    rw [if_neg (by simp [hd]), if_neg (by unfold hasB; rw [decide_eq_false_iff_not]; omega), if_neg (by omega), hb]
  have hw : swM M (j : Int) p = { M with fresh := upd M.fresh j (some (supL p)), writes := M.writes + 1 } := by
    unfold swM
    rw [if_neg (by omega), if_pos hO]
    unfold writeM
    rw [if_pos hE, hbm, Int.toNat_natCast]
  have hn0 : j < M.n := by omega
  refine ⟨by unfold swE; rw [if_neg (by omega), if_pos hO, hE], by rw [hw]; exact hd, by rw [hw], by rw [hw], by rw [hw], ?_, fun i hi => ?_⟩
  · rw [hw]
    have e0 : readE { M with fresh := upd M.fresh j (some (supL p)), writes := M.writes + 1 } (j : Int) = 0 := by
      unfold readE
      rw [if_neg (by simp [hd]), if_neg (by unfold hasB; rw [decide_eq_false_iff_not]; simp only; omega)]
      simp only [Int.toNat_natCast]
      rw [upd_same]
    unfold readV
    rw [if_pos e0]
    simp only [Int.toNat_natCast]
    rw [upd_same]
  · rw [hw]
    have e1 : readE { M with fresh := upd M.fresh j (some (supL p)), writes := M.writes + 1 } (i : Int) = readE M (i : Int) := by
      unfold readE
      simp only [Int.toNat_natCast]
      rw [upd_ne _ _ hi]
    unfold readV
    rw [e1]
    simp only [Int.toNat_natCast]
    rw [upd_ne _ _ hi]
theorem blank_not : ¬ SupIs blankB := by
  intro h
  obtain ⟨r, hr⟩ := supIs_magic h
  have h2 := congrArg (fun l : List UInt8 => l.getD 0 0) hr
  rw [blankB_at 0 (by omega)] at h2
  simp [magicL] at h2
def p3 : SP := ⟨3, 1, 2, 1, 8, 5, 2, 3, 4⟩
def p4 : SP := ⟨4, 1, 2, 1, 8, 5, 2, 3, 4⟩
theorem p3_ok : SupOk p3 := by unfold SupOk GeoOk rsE tw p3; decide
theorem p4_ok : SupOk p4 := by unfold SupOk GeoOk rsE tw p4; decide
theorem p3_in : p3.In := by refine ⟨?_, ?_, ?_, ?_, ?_, ?_, ?_, ?_, ?_⟩ <;> simp [p3, W64]
theorem p4_in : p4.In := by refine ⟨?_, ?_, ?_, ?_, ?_, ?_, ?_, ?_, ?_⟩ <;> simp [p4, W64]
theorem zero_no : ¬ SupOk SP.zero := by unfold SupOk SP.zero; intro h; have := h.1.1; simp at this
theorem zero_in : SP.zero.In := by refine ⟨?_, ?_, ?_, ?_, ?_, ?_, ?_, ?_, ?_⟩ <;> simp [SP.zero, W64]
theorem sec3 : geoSec 1 2 1 8 = 16 := by unfold geoSec; rw [if_pos (by unfold GeoOk rsE tw; decide)]; rfl
def m1 : DM := swM (newM 16) ((1 : Nat) : Int) p3
def m2 : DM := swM m1 ((0 : Nat) : Int) p3
def m3 : DM := swM m2 ((1 : Nat) : Int) p4
theorem heal_two (M : DM) (p : SP) : healF M p [0, 1] = healStep M p (healStep M p (M, [], 0) 0) 1 := rfl
theorem m_facts : swE (newM 16) 1 p3 = 0 ∧ findL m1 = [⟨1, p3⟩] ∧ findE m1 = 0 ∧ hlE m1 p3 = 0 ∧ hlL m1 p3 = [0] ∧ hlM m1 p3 = m2 ∧ swE m2 1 p4 = 0 ∧ findL m3 = [⟨1, p4⟩, ⟨0, p3⟩] ∧ findE m3 = 0 ∧ swE m3 2 p4 = 1 ∧ swM m3 2 p4 = m3 ∧ m1.writes = 1 ∧ m2.writes = 2 ∧ m3.writes = 3 := by
  obtain ⟨a1, a2, a3, a4, a5, a6, a7⟩ := sw_good (M := newM 16) (j := 1) (p := p3) rfl (by show (-1 : Int) < 0; omega) (by show 2 ≤ 16; omega) (by omega) p3_ok p3_in.sum
  obtain ⟨b1, b2, b3, b4, b5, b6, b7⟩ := sw_good (M := m1) (j := 0) (p := p3) a2 (by show (swM _ _ _).left < 0; rw [a3]; show (-1 : Int) < 0; omega) (by show 2 ≤ (swM _ _ _).n; rw [a4]; show 2 ≤ 16; omega) (by omega) p3_ok p3_in.sum
  obtain ⟨c1, c2, c3, c4, c5, c6, c7⟩ := sw_good (M := m2) (j := 1) (p := p4) b2 (by show (swM _ _ _).left < 0; rw [b3]; show (swM _ _ _).left < 0; rw [a3]; show (-1 : Int) < 0; omega) (by show 2 ≤ (swM _ _ _).n; rw [b4]; show 2 ≤ (swM _ _ _).n; rw [a4]; show 2 ≤ 16; omega) (by omega) p4_ok p4_in.sum
  have r0 : readV (newM 16) ((0 : Nat) : Int) = blankB := by unfold readV readE; rfl
  have r10 : readV m1 ((0 : Nat) : Int) = blankB := (a7 0 (by omega)).trans r0
  have r11 : readV m1 ((1 : Nat) : Int) = supL p3 := a6
  have r20 : readV m2 ((0 : Nat) : Int) = supL p3 := b6
  have r30 : readV m3 ((0 : Nat) : Int) = supL p3 := (c7 0 (by omega)).trans r20
  have r31 : readV m3 ((1 : Nat) : Int) = supL p4 := c6
  have n1 : m1.n = 16 := a4
  have n3 : m3.n = 16 := c4.trans (b4.trans a4)
  obtain ⟨q3, q3'⟩ := supP_of p3_in p3_ok
  obtain ⟨q4, q4'⟩ := supP_of p4_in p4_ok
  have hne : ¬ readV m1 ((0 : Nat) : Int) = supL p3 := fun e => by rw [r10] at e; rw [← e] at q3; exact blank_not q3
  have hF : healF m1 p3 [0, 1] = (m2, [0], 0) := by
    rw [heal_two]
    have s0 : healStep m1 p3 (m1, [], 0) 0 = (m2, [0], 0) := by
      unfold healStep
      rw [if_pos rfl, if_neg hne]
      dsimp only
      rw [if_pos b1, b1, show swM m1 ((0 : Nat) : Int) p3 = m2 from rfl]
      simp
    rw [s0]
    unfold healStep
    rw [if_pos rfl, if_pos r11]
  have f10 : fndOne m1 0 = [] := by unfold fndOne; rw [if_neg (fun h : SupFnd m1 0 => by have := h.1; rw [r10] at this; exact blank_not this)]
  have f11 : fndOne m1 1 = [⟨1, p3⟩] := by
    have g : SupFnd m1 1 := by unfold SupFnd; rw [r11, q3']; exact ⟨q3, by rw [n1]; show geoSec 1 2 1 8 ≤ _; rw [sec3]; decide⟩
    unfold fndOne; rw [if_pos g, r11, q3']; rfl
  have f30 : fndOne m3 0 = [⟨0, p3⟩] := by
    have g : SupFnd m3 0 := by unfold SupFnd; rw [r30, q3']; exact ⟨q3, by rw [n3]; show geoSec 1 2 1 8 ≤ _; rw [sec3]; decide⟩
    unfold fndOne; rw [if_pos g, r30, q3']; rfl
  have f31 : fndOne m3 1 = [⟨1, p4⟩] := by
    have g : SupFnd m3 1 := by unfold SupFnd; rw [r31, q4']; exact ⟨q4, by rw [n3]; show geoSec 1 2 1 8 ≤ _; rw [sec3]; decide⟩
    unfold fndOne; rw [if_pos g, r31, q4']; rfl
  refine ⟨a1, ?_, ?_, ?_, ?_, ?_, c1, ?_, ?_, ?_, ?_, a5, by show (swM _ _ _).writes = 2; rw [b5]; show (swM _ _ _).writes + 1 = 2; rw [a5]; rfl, by show (swM _ _ _).writes = 3; rw [c5]; show (swM _ _ _).writes + 1 = 3; rw [b5]; show (swM _ _ _).writes + 1 + 1 = 3; rw [a5]; rfl⟩
  · unfold findL; rw [if_neg (by rw [show m1.down = false from a2]; simp)]; unfold fndP; simp only [List.flatMap_cons, List.flatMap_nil, f10, f11]; rfl
  · unfold findE; rw [if_neg (by rw [show m1.down = false from a2]; simp)]
  · unfold hlE; rw [if_pos p3_ok, hF]
  · unfold hlL; rw [if_pos ⟨p3_ok, by rw [hF]⟩, hF]
  · unfold hlM; rw [if_pos p3_ok, hF]
  · unfold findL; rw [if_neg (by rw [show m3.down = false from c2]; simp)]; unfold fndP; simp only [List.flatMap_cons, List.flatMap_nil, f30, f31]; rfl
  · unfold findE; rw [if_neg (by rw [show m3.down = false from c2]; simp)]
  · unfold swE; rw [if_pos (by omega)]
  · unfold swM; rw [if_pos (by omega)]
end Go.Proofs.YtfpnlaafefdcaaaDoor
namespace Go.Proofs.YtfpnlaafefdcaaaDoor
open Go.RowKit Go.Shelf

theorem liNew (n : Nat) (h1 : 1 ≤ n) (h2 : n ≤ 32768) (w : World) :
    Calls Tryd.prog 15 #[.int .i64 (n : Int)] w fun e w' => ∃ h : DH, e = .returned (.tuple #[.pointer (some ⟨h.b, 0, none⟩), .int .i64 0]) ∧ DevAt w' h (newM n) ∧ h.above w.heap.size ∧ Below w.heap.size w w' := by
  refine (devNew_ok n h1 h2 w).mono ?_
  rintro e w' ⟨he, hd, hb⟩
  exact ⟨newH w n, he, hd, ⟨by simp only [newH]; omega, by simp only [newH]; omega, by simp only [newH]; omega, by simp only [newH]; omega⟩, hb⟩
set_option maxRecDepth 100000 in
set_option maxHeartbeats 1000000 in
/-- Two lists of one copy that are one. -/
theorem cpSame_one {w : World} {b1 o1 c1 b2 o2 c2 : Nat} (a : Int) (t : Bool) (k0 : w.cell? ⟨b1, o1, none⟩ = some (.int .i64 a)) (k1 : w.cell? ⟨b1, o1 + 1, none⟩ = some (.bool t)) (l0 : w.cell? ⟨b2, o2, none⟩ = some (.int .i64 a)) (l1 : w.cell? ⟨b2, o2 + 1, none⟩ = some (.bool t)) :
    Calls Tryd.prog 38 #[.slice (some ⟨b1, o1, none⟩) 1 c1, .slice (some ⟨b2, o2, none⟩) 1 c2] w fun e w' => e = .returned (.bool true) ∧ Below w.heap.size w w' := by
  have HK := Lib.hid (And.intro (And.intro k0 k1) (And.intro l0 l1))
  clear k0 k1 l0 l1
  go_enter Tryd.func38, Tryd.ntmps38
  go_wp2_with fail
  go_loopw [13] (fun ix wr => ∃ j : Nat, j ≤ 1 ∧ ix = .int .i64 (j : Int) ∧ (∀ p, wr.cell? p = w.cell? p) ∧ Below w.heap.size w wr) (fun ix _ => 1 - secNo ix)
  case atStart => exact ⟨0, Nat.zero_le _, rfl, (fun _ => rfl), Below.refl _ _⟩
  case round =>
    obtain ⟨j, hj, rfl, hc, hb⟩ := hrel
    have HC := Lib.hid hc
    have HB := Lib.hid hb
    have hjj : j = 0 ∨ j = 1 := by omega
    clear hc hb hj
    rcases hjj with rfl | rfl
    · have k0 := (HC.out _).trans HK.out.1.1
      have k1 := (HC.out _).trans HK.out.1.2
      have l0 := (HC.out _).trans HK.out.2.1
      have l1 := (HC.out _).trans HK.out.2.2
      go_wp2_with fail
      go_region
      all_goals go_wp2
      all_goals go_roundw
      case rel => exact ⟨1, by omega, by go_num, HC.out, HB.out.drew⟩
      case measure => simp [secNo]
    · go_wp2
      go_ret
      exact ⟨rfl, HB.out⟩
/-- A device behind a boxed superblock, both of the call's own. -/
structure LV (w W : World) (h : DH) (M : DM) (b : Nat) (p : SP) : Prop where
  k : B9 w W b p
  d : DevAt W h M
  ab : ∀ q, h.S q → b < q
  lt : ∀ q, h.S q → q < W.heap.size
def LS (h : DH) (b q : Nat) : Prop := h.S q ∨ q = b
section
variable {w W W' : World} {h : DH} {M M' : DM} {b : Nat} {p : SP}
theorem B9.ap {S : Nat → Prop} (k : B9 w W b p) (hS : ∀ q, S q → w.heap.size ≤ q) (a : Ap S W W') (hn : ¬ S b) : B9 w W' b p :=
  ⟨k.be.trans (a.below k.be.size hS), k.hb, k.bx.ap a hn, (a.frozen k.bx.lt hn _).trans k.f0, (a.frozen k.bx.lt hn _).trans k.f1, (a.frozen k.bx.lt hn _).trans k.f2, (a.frozen k.bx.lt hn _).trans k.f3, (a.frozen k.bx.lt hn _).trans k.f4, (a.frozen k.bx.lt hn _).trans k.f5, (a.frozen k.bx.lt hn _).trans k.f6, (a.frozen k.bx.lt hn _).trans k.f7, (a.frozen k.bx.lt hn _).trans k.f8⟩
theorem LV.below (z : LV w W h M b p) (hb : Below W.heap.size W W') : LV w W' h M b p := ⟨z.k.below hb, z.d.below hb, z.ab, fun q hq => Nat.lt_of_lt_of_le (z.lt q hq) hb.size⟩
theorem LV.dev (z : LV w W h M b p) (d' : DevAt W' h M') (a : Ap h.S W W') : LV w W' h M' b p :=
  ⟨z.k.ap (fun q hq => by have := z.ab q hq; have := z.k.hb; omega) a (fun g => by have := z.ab b g; omega), d', z.ab, fun q hq => Nat.lt_of_lt_of_le (z.lt q hq) a.size⟩
theorem LV.all (z : LV w W h M b p) (q : Nat) (hq : h.S q ∨ q = b) : q < W.heap.size := by
  rcases hq with hq | rfl
  · exact z.lt q hq
  · exact z.k.bx.lt
theorem LV.set4 (z : LV w W h M b p3) : LV w (W.setCell ⟨b, 0, none⟩ (.int .i64 4)) h M b p4 := by
  have a : Ap (fun q => q = b) W (W.setCell ⟨b, 0, none⟩ (.int .i64 4)) := Ap.setCell (S := fun q => q = b) (Ap.refl W) (p := ⟨b, 0, none⟩) (.inl rfl) _
  have hc (o : Nat) (ho : o ≠ 0) : (W.setCell ⟨b, 0, none⟩ (.int .i64 4)).cell? ⟨b, o, none⟩ = W.cell? ⟨b, o, none⟩ := World.cell?_setCell_other _ _ _ _ (by intro e; injection e with _ e; omega)
  have hf (o : Nat) : (W.setCell ⟨b, 0, none⟩ (.int .i64 4)).frozen? ⟨b, o, none⟩ = W.frozen? ⟨b, o, none⟩ := World.frozen?_setCell _ _ _ _
  have k := z.k
  have x := k.bx
  refine ⟨⟨k.be.setCell (p := ⟨b, 0, none⟩) k.hb _, k.hb, ⟨by rw [World.size_setCell]; exact x.lt, World.cell?_setCell_same' _ _ _ (by rw [x.c0]; rfl), (hc 1 (by omega)).trans x.c1, (hc 2 (by omega)).trans x.c2, (hc 3 (by omega)).trans x.c3, (hc 4 (by omega)).trans x.c4, (hc 5 (by omega)).trans x.c5, (hc 6 (by omega)).trans x.c6, (hc 7 (by omega)).trans x.c7, (hc 8 (by omega)).trans x.c8⟩, (hf 0).trans k.f0, (hf 1).trans k.f1, (hf 2).trans k.f2, (hf 3).trans k.f3, (hf 4).trans k.f4, (hf 5).trans k.f5, (hf 6).trans k.f6, (hf 7).trans k.f7, (hf 8).trans k.f8⟩, z.d.ap a (fun q hq e => by have := z.ab q hq; omega), z.ab, fun q hq => by rw [World.size_setCell]; exact z.lt q hq⟩
theorem row_ap {S : Nat → Prop} {base : Nat} {e : TypeId} {size : Nat} {v : Value} {n : Nat} {xs : List Value} (hr : W.ownsRow base e size v n xs) (a : Ap S W W') (hn : ∀ q, v.ownBlock = some q → ¬ S q) : W'.ownsRow base e size v n xs := by
  refine ⟨hr.1, ?_⟩
  rcases hr.2 with h | ⟨g, cap, cur, rfl, q2, q3, q4⟩
  · exact .inl h
  · exact .inr ⟨g, cap, cur, rfl, q2, (a.block g (Array.getElem?_eq_some_iff.1 q3).1 (hn g rfl)).trans q3, q4⟩
end
theorem p3_begins : (⟨(supL p3).toArray⟩ : ByteArray).extract 0 9 = ⟨#[99, 97, 117, 108, 107, 32, 48, 49, 3]⟩ := by
  apply ByteArray.ext
  apply Array.ext'
  rw [ByteArray.data_extract, Array.toList_extract, List.extract_eq_take_drop]
  rw [show supL p3 = _ from if_pos p3_ok]
  unfold supBody
  rw [(joinE_ok (sup_join p3_ok)).2.2]
  rfl
theorem row_ap2 {W W' : World} {S : Nat → Prop} {base n : Nat} {e : TypeId} {size : Nat} {v : Value} {xs : List Value} (hr : W.ownsRow base e size v n xs) (a : Ap S W W') (hn : ∀ q, S q → q < base) : W'.ownsRow base e size v n xs :=
  row_ap hr a (fun q hq hs => by have := (hr.lt q hq).1; have := hn q hs; omega)
set_option maxRecDepth 100000 in
set_option maxHeartbeats 8000000 in
theorem supLives_any (w : World) (hT : Tab w) : Calls Tryd.prog 22 #[] w fun e w' => e = .returned (.bool true) ∧ Below w.heap.size w w' := by
  obtain ⟨e1, e2, e3, e4, e5, e6, e7, e8, e9, e10, e11, e12, e13, e14⟩ := m_facts
  obtain ⟨q3, q3'⟩ := supP_of p3_in p3_ok
  have hTb : ∀ W, Below w.heap.size w W → Tab W := fun W hb => hT.below hb (Nat.le_refl _)
  have hNew := fun W => liNew 16 (by omega) (by omega) W
  have hXs : (⟨(supL p3).toArray⟩ : ByteArray).size = 512 := supL_len p3_in.sum p3_ok
  have hX9 := p3_begins
  have hB : ∀ W, Tab W → Calls Tryd.prog 23 #[.agg #[.int .i64 3, .int .i64 1, .int .i64 2, .int .i64 1, .int .i64 8, .int .i64 5, .int .i64 2, .int .i64 3, .int .u32 4]] W fun e w' => e = .returned (.tuple #[.string ⟨(supL p3).toArray⟩, .int .i64 0]) ∧ Below W.heap.size W w' := fun W hW => by
    have := supBytes_any p3 p3_in W hW
    rw [show supE p3 = 0 from if_pos p3_ok] at this; exact this
  have hP1 : ∀ W, Tab W → Calls Tryd.prog 25 #[.string ⟨(supL p3).toArray⟩] W fun e w' => e = .returned (.tuple #[.agg #[.int .i64 3, .int .i64 1, .int .i64 2, .int .i64 1, .int .i64 8, .int .i64 5, .int .i64 2, .int .i64 3, .int .u32 4], .int .i64 0]) ∧ Below W.heap.size W w' := fun W hW => by
    have := supParse_any ⟨(supL p3).toArray⟩ W hW
    rw [toList_mk, q3', show supPE (supL p3) = 0 from if_pos q3] at this; exact this
  have hP2 : ∀ W, Tab W → Calls Tryd.prog 25 #[.string ((⟨(supL p3).toArray⟩ : ByteArray).extract 1 512)] W fun e w' => e = .returned (.tuple #[.agg #[.int .i64 0, .int .i64 0, .int .i64 0, .int .i64 0, .int .i64 0, .int .i64 0, .int .i64 0, .int .i64 0, .int .u32 0], .int .i64 6]) ∧ Below W.heap.size W w' := fun W hW => by
    have hn : ¬ SupIs ((⟨(supL p3).toArray⟩ : ByteArray).extract 1 512).data.toList := fun hi => by
      have h1 := supIs_len hi
      rw [size_toList, ByteArray.size_extract, hXs] at h1
      omega
    have := supParse_any ((⟨(supL p3).toArray⟩ : ByteArray).extract 1 512) W hW
    rw [show supPE _ = 6 from if_neg hn, show supP _ = SP.zero from if_neg hn] at this; exact this
  have hW1 : ∀ W h, DevAt W h (newM 16) → Tab W → Calls Tryd.prog 31 #[.pointer (some ⟨h.b, 0, none⟩), .int .i64 1, .agg #[.int .i64 3, .int .i64 1, .int .i64 2, .int .i64 1, .int .i64 8, .int .i64 5, .int .i64 2, .int .i64 3, .int .u32 4]] W fun e w' => e = .returned (.int .i64 0) ∧ DevAt w' h m1 ∧ Ap h.S W w' := fun W h d hW => by
    have := supWrite_any d 1 p3 p3_in hW (by show 0 < _; omega)
    rw [e1] at this; exact this
  have hF1 : ∀ W h, DevAt W h m1 → Tab W → Calls Tryd.prog 33 #[.pointer (some ⟨h.b, 0, none⟩)] W fun e w' => ∃ v, e = .returned (.tuple #[v, .int .i64 0]) ∧ w'.ownsRow W.heap.size 85 10 v 1 (slCells [⟨1, p3⟩]) ∧ DevAt w' h m1 ∧ Below W.heap.size W w' := fun W h d hW => by
    have := supFind_any d hW
    rw [e2, e3] at this; exact this
  have hH : ∀ W h, DevAt W h m1 → (∀ W', Ap h.S W W' → Tab W') → Calls Tryd.prog 35 #[.pointer (some ⟨h.b, 0, none⟩), .agg #[.int .i64 3, .int .i64 1, .int .i64 2, .int .i64 1, .int .i64 8, .int .i64 5, .int .i64 2, .int .i64 3, .int .u32 4]] W fun e w' => ∃ v, e = .returned (.tuple #[v, .int .i64 0]) ∧ w'.ownsRow W.heap.size 89 2 v 1 (cpCells (hd [0])) ∧ DevAt w' h m2 ∧ Ap h.S W w' := fun W h d hW => by
    have := supHeal_yes d p3 p3_in p3_ok hW (by rw [e12]; omega)
    rw [e4, e5, e6] at this; exact this
  have hW2 : ∀ W h, DevAt W h m2 → Tab W → Calls Tryd.prog 31 #[.pointer (some ⟨h.b, 0, none⟩), .int .i64 1, .agg #[.int .i64 4, .int .i64 1, .int .i64 2, .int .i64 1, .int .i64 8, .int .i64 5, .int .i64 2, .int .i64 3, .int .u32 4]] W fun e w' => e = .returned (.int .i64 0) ∧ DevAt w' h m3 ∧ Ap h.S W w' := fun W h d hW => by
    have := supWrite_any d 1 p4 p4_in hW (by rw [e13]; omega)
    rw [e7] at this; exact this
  have hF2 : ∀ W h, DevAt W h m3 → Tab W → Calls Tryd.prog 33 #[.pointer (some ⟨h.b, 0, none⟩)] W fun e w' => ∃ v, e = .returned (.tuple #[v, .int .i64 0]) ∧ w'.ownsRow W.heap.size 85 10 v 2 (slCells [⟨1, p4⟩, ⟨0, p3⟩]) ∧ DevAt w' h m3 ∧ Below W.heap.size W w' := fun W h d hW => by
    have := supFind_any d hW
    rw [e8, e9] at this; exact this
  have hW3 : ∀ W h, DevAt W h m3 → Tab W → Calls Tryd.prog 31 #[.pointer (some ⟨h.b, 0, none⟩), .int .i64 2, .agg #[.int .i64 4, .int .i64 1, .int .i64 2, .int .i64 1, .int .i64 8, .int .i64 5, .int .i64 2, .int .i64 3, .int .u32 4]] W fun e w' => e = .returned (.int .i64 1) ∧ DevAt w' h m3 ∧ Ap h.S W w' := fun W h d hW => by
    have := supWrite_any d 2 p4 p4_in hW (by rw [e14]; omega)
    rw [e10, e11] at this; exact this
  have hC : ∀ W, Calls Tryd.prog 27 #[.agg #[.int .i64 0, .int .i64 0, .int .i64 0, .int .i64 0, .int .i64 0, .int .i64 0, .int .i64 0, .int .i64 0, .int .u32 0]] W fun e w' => e = .returned (.int .i64 2) ∧ Below W.heap.size W w' := fun W => by
    have := supCheck_any SP.zero zero_in W
    rw [show supE SP.zero = 2 from if_neg zero_no] at this; exact this
  generalize (⟨(supL p3).toArray⟩ : ByteArray) = X at *
  have HTB := Lib.hid hTb
  have HB0 : Hid (B9 w (w.alloc (.cells #[.int .i64 3, .int .i64 1, .int .i64 2, .int .i64 1, .int .i64 8, .int .i64 5, .int .i64 2, .int .i64 3, .int .u32 4] 53)) w.heap.size p3) := Lib.hid (B9.new w p3 _)
  clear e1 e2 e3 e4 e5 e6 e7 e8 e9 e10 e11 e12 e13 e14 q3 q3' hT hTb
  go_enter Tryd.func22, Tryd.ntmps22
  go_upto_region 2 with fail
  have hlt0 : w.heap.size < (w.alloc (.cells #[.int .i64 3, .int .i64 1, .int .i64 2, .int .i64 1, .int .i64 8, .int .i64 5, .int .i64 2, .int .i64 3, .int .u32 4] 53)).heap.size := by simp
  have HLT0 := Lib.hid hlt0
  clear hlt0
  generalize w.alloc (.cells #[.int .i64 3, .int .i64 1, .int .i64 2, .int .i64 1, .int .i64 8, .int .i64 5, .int .i64 2, .int .i64 3, .int .u32 4] 53) = W0 at HB0 HLT0 ⊢
  go_upto_region 3 with (go_at_call 15; refine (hNew _).mono ?_; rintro e W1 ⟨h, rfl, hd1, hab, hb1⟩; have HL1 : Hid (LV w W1 h (newM 16) w.heap.size p3) := Lib.hid ⟨HB0.out.below hb1, hd1, fun q hq => Nat.lt_of_lt_of_le HLT0.out (DH.above_S hab q hq), devS_lt hd1⟩; clear hd1 hab hb1)
  obtain ⟨_, _, ⟨_, c0, c1, c2, c3, c4, c5, c6, c7, c8⟩, f0, f1, f2, f3, f4, f5, f6, f7, f8⟩ := HL1.out.k
  go_upto_region 6 with (go_at_call 23; refine (hB _ (HTB.out _ HL1.out.k.be)).mono ?_; rintro e W2 ⟨rfl, hb2⟩; have HL2 := Lib.hid (HL1.out.below hb2); clear hb2)
  go_upto_region 7 with (go_at_call 25; refine (hP1 _ (HTB.out _ HL2.out.k.be)).mono ?_; rintro e W3 ⟨rfl, hb3⟩; have HL3 := Lib.hid (HL2.out.below hb3); clear hb3)
  have HX3 : Hid (SBox (W3.alloc (.cells #[.int .i64 3, .int .i64 1, .int .i64 2, .int .i64 1, .int .i64 8, .int .i64 5, .int .i64 2, .int .i64 3, .int .u32 4] 53)) W3.heap.size p3) := Lib.hid (B9.new W3 p3 _).bx
  have HY3 := Lib.hid (HL3.out.below (B9.new W3 p3 53).be)
  have HN6 := Lib.hid HL3.out.all
  have HY3' : Hid (LV w (W3.alloc (.cells #[.int .i64 3, .int .i64 1, .int .i64 2, .int .i64 1, .int .i64 8, .int .i64 5, .int .i64 2, .int .i64 3, .int .u32 4] 53)) h (newM 16) w.heap.size p3) := HY3
  clear HY3
  generalize W3.alloc (.cells #[.int .i64 3, .int .i64 1, .int .i64 2, .int .i64 1, .int .i64 8, .int .i64 5, .int .i64 2, .int .i64 3, .int .u32 4] 53) = W4 at HX3 HY3' ⊢
  generalize W3.heap.size = b6 at HX3 HN6 ⊢
  clear c0 c1 c2 c3 c4 c5 c6 c7 c8 f0 f1 f2 f3 f4 f5 f6 f7 f8
  go_upto_region 8 with (go_at_call 25; refine (hP2 _ (HTB.out _ HY3'.out.k.be)).mono ?_; rintro e W5 ⟨rfl, hb5⟩; have HL5 := Lib.hid (HY3'.out.below hb5); have HX5 := Lib.hid (HX3.out.below hb5); clear hb5)
  have HY5 : Hid (LV w (W5.alloc (.cells #[.int .i64 0, .int .i64 0, .int .i64 0, .int .i64 0, .int .i64 0, .int .i64 0, .int .i64 0, .int .i64 0, .int .u32 0] 53)) h (newM 16) w.heap.size p3) := Lib.hid (HL5.out.below (B9.new W5 SP.zero 53).be)
  have HX5' : Hid (SBox (W5.alloc (.cells #[.int .i64 0, .int .i64 0, .int .i64 0, .int .i64 0, .int .i64 0, .int .i64 0, .int .i64 0, .int .i64 0, .int .u32 0] 53)) b6 p3) := Lib.hid (HX5.out.below (B9.new W5 SP.zero 53).be)
  generalize W5.alloc (.cells #[.int .i64 0, .int .i64 0, .int .i64 0, .int .i64 0, .int .i64 0, .int .i64 0, .int .i64 0, .int .i64 0, .int .u32 0] 53) = W6 at HX5' HY5 ⊢
  generalize W5.heap.size = b8
  clear HX3 HY3' HX5 HL5 HL3 HL2 HL1
  obtain ⟨_, _, ⟨_, c0, c1, c2, c3, c4, c5, c6, c7, c8⟩, f0, f1, f2, f3, f4, f5, f6, f7, f8⟩ := HY5.out.k
  go_upto_region 9 with (go_at_call 31; refine (hW1 _ h HY5.out.d (HTB.out _ HY5.out.k.be)).mono ?_; rintro e W7 ⟨rfl, hd7, ha7⟩; have HL7 := Lib.hid (HY5.out.dev hd7 ha7); have HX7 := Lib.hid (HX5'.out.ap ha7 (fun g => Nat.lt_irrefl _ (HN6.out _ (.inl g)))); clear hd7 ha7)
  clear c0 c1 c2 c3 c4 c5 c6 c7 c8 f0 f1 f2 f3 f4 f5 f6 f7 f8 HY5 HX5'
  go_upto_region 10 with (go_at_call 33; refine (hF1 _ h HL7.out.d (HTB.out _ HL7.out.k.be)).mono ?_; rintro e W8 ⟨v, rfl, ho8, hd8, hb8⟩; obtain ⟨g11, p11, rfl⟩ := ownsRow_succ ho8; have HR8 := Lib.hid ho8; have HN11 := Lib.hid HL7.out.all; have HL8 := Lib.hid (HL7.out.dev hd8 (Ap.of_below hb8)); have HX8 := Lib.hid (HX7.out.below hb8); clear hd8 hb8 ho8)
  generalize W7.heap.size = B11 at HR8 HN11
  clear HL7 HX7
  obtain ⟨_, _, ⟨_, c0, c1, c2, c3, c4, c5, c6, c7, c8⟩, f0, f1, f2, f3, f4, f5, f6, f7, f8⟩ := HL8.out.k
  have hhS : ∀ q, h.S q → w.heap.size ≤ q := fun q hq => by have := HL8.out.ab q hq; omega
  have HHS := Lib.hid hhS
  clear hhS
  go_upto_region 11 with (go_at_call 35; refine (hH _ h HL8.out.d (fun W' a => HTB.out _ (HL8.out.k.be.trans (a.below HL8.out.k.be.size HHS.out)))).mono ?_; rintro e W9 ⟨v, rfl, ho9, hd9, ha9⟩; obtain ⟨g13, p13, rfl⟩ := ownsRow_succ ho9; have HR9 := Lib.hid ho9; have HN13 := Lib.hid HL8.out.all; have HL9 := Lib.hid (HL8.out.dev hd9 ha9); have HX9 := Lib.hid (HX8.out.ap ha9 (fun g => Nat.lt_irrefl _ (HN6.out _ (.inl g)))); have HQ9 := Lib.hid (row_ap2 HR8.out ha9 (fun q hq => HN11.out q (.inl hq))); clear hd9 ha9 ho9)
  generalize W8.heap.size = B13 at HR9 HN13
  clear c0 c1 c2 c3 c4 c5 c6 c7 c8 f0 f1 f2 f3 f4 f5 f6 f7 f8 HL8 HX8 HR8
  obtain ⟨_, _, ⟨_, c0, c1, c2, c3, c4, c5, c6, c7, c8⟩, f0, f1, f2, f3, f4, f5, f6, f7, f8⟩ := HL9.out.k
  go_upto_region 12 with fail
  have HS9 : Hid (Ap (fun q => q = w.heap.size) W9 (W9.setCell ⟨w.heap.size, 0, none⟩ (.int .i64 4))) := Lib.hid (Ap.setCell (S := fun q => q = w.heap.size) (Ap.refl W9) (p := ⟨w.heap.size, 0, none⟩) (.inl rfl) _)
  have HL10 := Lib.hid HL9.out.set4
  have HX10 := Lib.hid (HX9.out.ap HS9.out (fun g => Nat.lt_irrefl _ (HN6.out _ (.inr g))))
  have HQ10 := Lib.hid (row_ap2 HQ9.out HS9.out (fun q hq => HN11.out q (.inr hq)))
  have HR10 := Lib.hid (row_ap2 HR9.out HS9.out (fun q hq => HN13.out q (.inr hq)))
  clear HS9
  generalize W9.setCell ⟨w.heap.size, 0, none⟩ (.int .i64 4) = W10 at HL10 HX10 HQ10 HR10 ⊢
  clear c0 c1 c2 c3 c4 c5 c6 c7 c8 f0 f1 f2 f3 f4 f5 f6 f7 f8 HL9 HX9 HR9 HQ9
  obtain ⟨_, _, ⟨_, c0, c1, c2, c3, c4, c5, c6, c7, c8⟩, f0, f1, f2, f3, f4, f5, f6, f7, f8⟩ := HL10.out.k
  go_upto_region 13 with (go_at_call 31; refine (hW2 _ h HL10.out.d (HTB.out _ HL10.out.k.be)).mono ?_; rintro e W11 ⟨rfl, hd11, ha11⟩; have HL11 := Lib.hid (HL10.out.dev hd11 ha11); have HX11 := Lib.hid (HX10.out.ap ha11 (fun g => Nat.lt_irrefl _ (HN6.out _ (.inl g)))); have HQ11 := Lib.hid (row_ap2 HQ10.out ha11 (fun q hq => HN11.out q (.inl hq))); have HR11 := Lib.hid (row_ap2 HR10.out ha11 (fun q hq => HN13.out q (.inl hq))); clear hd11 ha11)
  clear c0 c1 c2 c3 c4 c5 c6 c7 c8 f0 f1 f2 f3 f4 f5 f6 f7 f8 HL10 HX10 HR10 HQ10
  go_upto_region 14 with (go_at_call 33; refine (hF2 _ h HL11.out.d (HTB.out _ HL11.out.k.be)).mono ?_; rintro e W12 ⟨v, rfl, ho12, hd12, hb12⟩; obtain ⟨g16, p16, rfl⟩ := ownsRow_succ ho12; have HP12 := Lib.hid ho12; have HN16 := Lib.hid HL11.out.all; have HL12 := Lib.hid (HL11.out.dev hd12 (Ap.of_below hb12)); have HX12 := Lib.hid (HX11.out.below hb12); have HQ12 := Lib.hid (row_ap2 (S := fun _ => False) HQ11.out (Ap.of_below hb12) (fun _ hq => hq.elim)); have HR12 := Lib.hid (row_ap2 (S := fun _ => False) HR11.out (Ap.of_below hb12) (fun _ hq => hq.elim)); clear hd12 hb12 ho12)
  generalize W11.heap.size = B16 at HP12 HN16
  clear HL11 HX11 HR11 HQ11
  obtain ⟨_, _, ⟨_, c0, c1, c2, c3, c4, c5, c6, c7, c8⟩, f0, f1, f2, f3, f4, f5, f6, f7, f8⟩ := HL12.out.k
  go_wp2_with first
    | (go_at_call 31; refine (hW3 _ h HL12.out.d (HTB.out _ HL12.out.k.be)).mono ?_; rintro e W13 ⟨rfl, hd13, ha13⟩; have HL13 := Lib.hid (HL12.out.dev hd13 ha13); have HX13 := Lib.hid (HX12.out.ap ha13 (fun g => Nat.lt_irrefl _ (HN6.out _ (.inl g)))); have HQ13 := Lib.hid (row_ap2 HQ12.out ha13 (fun q hq => HN11.out q (.inl hq))); have HR13 := Lib.hid (row_ap2 HR12.out ha13 (fun q hq => HN13.out q (.inl hq))); have HP13 := Lib.hid (row_ap2 HP12.out ha13 (fun q hq => HN16.out q (.inl hq))); have s0 : W13.cell? ⟨b6, 0, none⟩ = some (.int .i64 3) := HX13.out.c0; have s8 : W13.cell? ⟨b6, 8, none⟩ = some (.int .u32 4) := HX13.out.c8; have q0 : W13.cell? ⟨g11, 0, none⟩ = some (.int .i64 1) := World.ownsRow.cells HQ13.out (g := g11) rfl 0 _ rfl; clear hd13 ha13 c0 c1 c2 c3 c4 c5 c6 c7 c8 f0 f1 f2 f3 f4 f5 f6 f7 f8)
  all_goals go_at_call 38
  all_goals refine (cpSame_one 0 true (World.ownsRow.cells (HR13.out.alloc _) (g := g13) rfl 0 _ rfl) (World.ownsRow.cells (HR13.out.alloc _) (g := g13) rfl 1 _ rfl) (cp_cells W13 0 true _ 0 _ rfl) (cp_cells W13 0 true _ 1 _ rfl)).mono ?_
  all_goals rintro e W14 ⟨rfl, hb14⟩
  all_goals have HB14 : Hid (Below W13.heap.size W13 W14) := Lib.hid (((Below.refl _ _).alloc (Nat.le_refl _) _).trans (hb14.mono (by simp)))
  all_goals have HP14 := Lib.hid (row_ap2 (S := fun _ => False) HP13.out (Ap.of_below HB14.out) (fun _ hq => hq.elim))
  all_goals have q1 : W14.cell? ⟨g16, 1, none⟩ = some (.int .i64 4) := World.ownsRow.cells HP14.out (g := g16) rfl 1 _ rfl
  all_goals have q2 : W14.cell? ⟨g16, 10, none⟩ = some (.int .i64 0) := World.ownsRow.cells HP14.out (g := g16) rfl 10 _ rfl
  all_goals clear hb14 s0 s8 q0
  go_wp2_with first
    | (go_at_call 27; refine (hC _).mono ?_; rintro e W15 ⟨rfl, hb15⟩; have HB15 := Lib.hid hb15; clear hb15)
  all_goals try go_ret
  all_goals exact ⟨rfl, HL13.out.k.be.trans ((HB14.out.trans (HB15.out.mono HB14.out.size)).mono HL13.out.k.be.size)⟩
end Go.Proofs.YtfpnlaafefdcaaaDoor
