/- The contracts of matrix.withUnit and matrix.pivot. -/
import Derived.Test.YtpldnbfbpajbkabDoorMatH
import Derived.Test.YtpldnbfbpajbkabDoorGfK
import Derived.StillTailTactics
namespace Go.Proofs.YtpldnbfbpajbkabDoor
open Go.RowKit
open Caulk.Lin (Fn2 sx swp scl elm pv stp gjN wide0 invM)
open Caulk.Gf (mul putL)

theorem size_rowL (k : Nat) (f : Nat → UInt8) : (ByteArray.mk (rowL k f).toArray).size = k := by
  show (rowL k f).toArray.size = k
  rw [List.size_toArray, rowL_len]
/-- copy of a row to the beginning of one that is no shorter. -/
theorem run_copy_part {w : World} {b off k cap b2 off2 n cap2 : Nat} {f g : Nat → UInt8} (h : Row8 w b off (rowL k f)) (hn : n ≤ k) (hs : ∀ j, j < n → w.cell? ⟨b2, off2 + j, none⟩ = some (.int .u8 ((g j).toNat : Int))) (ty : TypeId) :
    (Builtin.copy_ #[40, 40] ty #[.slice (some ⟨b, off, none⟩) k cap, .slice (some ⟨b2, off2, none⟩) n cap2]).run Tryd.prog w = .ok (goInt n) (w.setCells b off (U8s (rowL n g))) := by
  have hl : (U8s (rowL n g)).length = n := by rw [u8s_len, rowL_len]
  have := run_copy_cells (P := Tryd.prog) w 40 40 ty 5 b off k cap ⟨b2, off2, none⟩ n cap2 (U8s (rowL n g)) Tryd.underlying40 infoU8size (by rw [hl]; simp [Nat.min_def]; omega)
    (fun j v hv => by
      have hj : j < n := by have := (List.getElem?_eq_some_iff.1 hv).1; omega
      rw [u8s_at _ j (by rw [rowL_len]; exact hj), rowL_getD g hj] at hv
      injection hv with hv
      rw [show (⟨b2, off2, none⟩ : Addr).add j = ⟨b2, off2 + j, none⟩ by unfold Addr.add; split <;> simp_all, hs j hj, hv])
    (fun j hj => by rw [(h.2 j (by rw [rowL_len]; omega)).1]; rfl) (fun j hj => (h.2 j (by rw [rowL_len]; omega)).2) (u8s_one _)
  rw [hl] at this
  exact this
theorem Row8.setPart {w : World} {b off k n : Nat} {f g : Nat → UInt8} (h : Row8 w b off (rowL k f)) (hn : n ≤ k) : Row8 (w.setCells b off (U8s (rowL n g))) b off (rowL k (fun j => if j < n then g j else f j)) := by
  have ho := Only.setCells (b := b) (lo := off) (hi := off + (U8s (rowL n g)).length) (U8s (rowL n g)) off w (Nat.le_refl _) (Nat.le_refl _) h.1
  refine ⟨Nat.lt_of_lt_of_le h.1 ho.size, fun j hj => ?_⟩
  rw [rowL_len] at hj
  rw [rowL_getD _ hj]
  have hh := h.2 j (by rw [rowL_len]; exact hj)
  rw [rowL_getD _ hj] at hh
  by_cases e : j < n
  · rw [if_pos e]
    have hj' : j < (U8s (rowL n g)).length := by rw [u8s_len, rowL_len]; exact e
    refine ⟨?_, by rw [World.frozen?_setCells]; exact hh.2⟩
    rw [World.cell?_setCells_in b (U8s (rowL n g)) off w (fun i hi => by rw [u8s_len, rowL_len] at hi; rw [(h.2 i (by rw [rowL_len]; omega)).1]; rfl) j hj']
    have := u8s_at (rowL n g) j (by rw [rowL_len]; exact e)
    rw [List.getElem?_eq_getElem hj', rowL_getD g e] at this
    exact this
  · rw [if_neg e]
    have := ho.cell (off + j) (by rw [u8s_len, rowL_len]; omega)
    rw [this.1, this.2]; exact hh
/-- Two heads exchanged. -/
theorem Grid.swap {w : World} {B b n r k : Nat} {f : Fn2} (h : Grid w B (.slice (some ⟨b, 0, none⟩) r n) r k f) (i j : Nat) (hi : i < r) (hj : j < r) :
    ∃ x y, w.cell? ⟨b, i, none⟩ = some x ∧ w.frozen? ⟨b, i, none⟩ = false ∧ w.cell? ⟨b, j, none⟩ = some y ∧ w.frozen? ⟨b, j, none⟩ = false ∧ (∃ a1 c1, x = .slice (some a1) k c1) ∧ (∃ a2 c2, y = .slice (some a2) k c2) ∧ B ≤ b ∧ b < w.heap.size ∧
      ∀ w0 : World, w0.heap = w.heap → Grid ((w0.setCell ⟨b, i, none⟩ y).setCell ⟨b, j, none⟩ x) B (.slice (some ⟨b, 0, none⟩) r n) r k (swp f i j) := by
  obtain ⟨b2, n2, hf, e, h1, h2, h3, h4, pl, h5, h6⟩ := h
  injection e with e1 e2 e3
  have e1 : b = b2 := by simpa using e1
  subst e1; subst e3
  refine ⟨hf i, hf j, h2.cell (by omega), h2.frozen i, h2.cell (by omega), h2.frozen j, ⟨_, _, (h5 i hi).1⟩, ⟨_, _, (h5 j hj).1⟩, h1, h2.lt, fun w0 hw0 => ?_⟩
  have h20 : w0.rowIs b 40 n hf := by obtain ⟨c, c1, c2, c3⟩ := h2; exact ⟨c, by rw [hw0]; exact c1, c2, c3⟩
  have hr0 : ∀ x o l, Row8 w x o l → Row8 w0 x o l := fun x o l hx => ⟨by rw [hw0]; exact hx.1, fun j hj => ⟨(World.cell?_of_block (a := ⟨x, o + j, none⟩) (by rw [hw0])).trans (hx.2 j hj).1, (World.frozen?_of_block (a := ⟨x, o + j, none⟩) (by rw [hw0])).trans (hx.2 j hj).2⟩⟩
  refine ⟨b, n, _, rfl, h1, (h20.set i (hf j)).set j (hf i), h3, h4, fun x => pl (if x = i then j else if x = j then i else x), fun x hx => ?_, fun x y hx hy hne => ?_⟩
  · have hother : ∀ z, z < r → Row8 ((w0.setCell ⟨b, i, none⟩ (hf j)).setCell ⟨b, j, none⟩ (hf i)) (pl z).1 (pl z).2.1 (rowL k (f z)) := fun z hz =>
      ((hr0 _ _ _ (h5 z hz).2.2.2.2.2).other (a := ⟨b, i, none⟩) (Ne.symm (h5 z hz).2.2.1) _).other (a := ⟨b, j, none⟩) (Ne.symm (h5 z hz).2.2.1) _
    by_cases ei : x = i
    · subst ei
      simp only [swp, if_true]
      refine ⟨?_, (h5 j hj).2.1, (h5 j hj).2.2.1, (h5 j hj).2.2.2.1, (h5 j hj).2.2.2.2.1, hother j hj⟩
      by_cases ej : x = j
      · subst ej; rw [if_pos rfl, (h5 x hi).1]
      · rw [if_neg ej, (h5 j hj).1]
    · by_cases ej : x = j
      · subst ej
        simp only [swp, if_neg ei, if_true]
        exact ⟨(h5 i hi).1, (h5 i hi).2.1, (h5 i hi).2.2.1, (h5 i hi).2.2.2.1, (h5 i hi).2.2.2.2.1, hother i hi⟩
      · simp only [swp, if_neg ei, if_neg ej]
        exact ⟨(h5 x hx).1, (h5 x hx).2.1, (h5 x hx).2.2.1, (h5 x hx).2.2.2.1, (h5 x hx).2.2.2.2.1, hother x hx⟩
  · have hs : ∀ x, x < r → (if x = i then j else if x = j then i else x) < r := fun x hx => by split <;> (try split) <;> omega
    exact h6 _ _ (hs x hx) (hs y hy) (by split <;> split <;> (try split) <;> (try split) <;> omega)

set_option maxHeartbeats 1000000 in
theorem withUnit_any {w : World} {B n : Nat} {v : Value} {F : Fn2} (hM : MatV w B v (rowsL n n F)) (hB : B ≤ w.heap.size) (hn1 : 1 ≤ n) (hn2 : n ≤ 255) :
    Calls Tryd.prog 23 #[v] w (GotGrid w n (n + n) (wide0 n F)) := by
  obtain ⟨b1, off1, cap1, rfl, hrc1, hcm1, hread1⟩ := hM.reads hB hn1 hn1
  unfold maxLen at hcm1
  have HA := Lib.hid hread1
  clear hread1 hM
  have h2n : (2 : Int) * (n : Int) = ((n + n : Nat) : Int) := by omega
  go_enter Tryd.func23, Tryd.ntmps23
  go_wp2_with fail
  refine (blank_any n (n + n) hn2 (by omega) (by omega) _).mono ?_
  rintro e w1 ⟨vg, rfl, hg, hb⟩
  obtain ⟨bg, cg, rfl, hnc, hcgm, hbb⟩ := hg.shape
  have HGR := Lib.hid hg
  have HB := Lib.hid hb
  clear hg hb h2n
  unfold maxLen at hcgm
  go_wp2
  go_loopw [14] (fun i wr => ∃ p : Nat, p ≤ n ∧ i = .int .i64 p ∧ Grid wr w.heap.size (.slice (some ⟨bg, 0, none⟩) n cg) n (n + n) (fun i j => if i < p then wide0 n F i j else 0) ∧ Below w.heap.size w wr) (fun i _ => n - (intOf i).toNat)
  case atStart => exact ⟨0, by omega, rfl, HGR.out.congr (fun i _ j _ => by rw [if_neg (by omega)]), HB.out⟩
  case round =>
    clear HGR HB
    obtain ⟨p, hp, rfl, hgr, hbe⟩ := hrel
    have HGR := Lib.hid hgr
    have HBE := Lib.hid hbe
    clear hgr hbe
    by_cases hlt : p < n
    · obtain ⟨b3, off3, cap3, h3, _, hc3, hcm3, hby⟩ := HA.out wr HBE.out p hlt
      obtain ⟨b4, off4, cap4, h4, hf4, hc4, hcm4, hBb, hnb, hrow, hset⟩ := HGR.out.at p hlt
      have hcp := fun ty => run_copy_part (w := wr.drew) (cap := cap4) (cap2 := cap3) hrow.drew (Nat.le_add_right n n) hby ty
      have hon : Only wr (wr.drew.setCells b4 off4 (U8s (rowL n (F p)))) b4 off4 (off4 + (n + n)) := (Only.of_below (Below.refl _ wr).drew hrow.1 _ _).trans (Only.setCells _ _ _ (Nat.le_refl _) (by rw [u8s_len, rowL_len]; omega) hrow.1)
      have hgs := hset _ _ hon (hrow.drew.setPart (Nat.le_add_right n n))
      have hbs : Below w.heap.size w (wr.drew.setCells b4 off4 (U8s (rowL n (F p)))) := HBE.out.trans (hon.below hBb HBE.out.size)
      obtain ⟨W, hW⟩ : ∃ W, W = wr.drew.setCells b4 off4 (U8s (rowL n (F p))) := ⟨_, rfl⟩
      rw [← hW] at hcp hgs hbs
      have HGS := Lib.hid hgs
      have HBS := Lib.hid hbs
      clear hW hset hrow hon hgs hby hbs
      go_wp2_with fail
      go_region
      obtain ⟨m, hm⟩ : ∃ m, m = n + p := ⟨_, rfl⟩
      obtain ⟨b5, off5, cap5, hh5, hx5, hz5, hB5, hl5, hn5, hset5⟩ := HGS.out.byte p m hlt (by omega)
      have HS5 : Hid (Grid (W.setCell ⟨b5, off5 + m, none⟩ (.int .u8 1)) w.heap.size (.slice (some ⟨bg, 0, none⟩) n cg) n (n + n) (fun i j => if i < p + 1 then wide0 n F i j else 0)) := Lib.hid ((hset5 1).congr (fun i hi j hj => by
        rcases Nat.lt_trichotomy i p with h | h | h
        · simp only [if_neg (show ¬ (i = p ∧ j = m) by omega), if_neg (show ¬ i = p by omega), if_pos h, if_pos (show i < p + 1 by omega)]
        · subst h
          simp only [true_and, if_true, if_pos (Nat.lt_succ_self i), if_neg (Nat.lt_irrefl i), wide0]
          by_cases e : j = m
          · subst e; rw [if_pos rfl, if_neg (by omega), if_pos hm]
          · rw [if_neg e]
            by_cases e2 : j < n
            · rw [if_pos e2, if_pos e2]
            · rw [if_neg e2, if_neg e2, if_neg (by omega)]
        · simp only [if_neg (show ¬ (i = p ∧ j = m) by omega), if_neg (show ¬ i = p by omega), if_neg (show ¬ i < p by omega), if_neg (show ¬ i < p + 1 by omega)]))
      have hnp : (n : Int) + (p : Int) = (m : Int) := by omega
      have hm2 : m < n + n := by omega
      clear hset5 hm
      go_wp2
      go_roundw
      case rel => exact ⟨p + 1, by omega, by go_num, HS5.out, HBS.out.setCell (p := ⟨b5, off5 + m, none⟩) hB5 _⟩
      case measure => simp [intOf]; omega
    · obtain rfl : p = n := by omega
      have HGN : Hid (Grid wr w.heap.size (.slice (some ⟨bg, 0, none⟩) p cg) p (p + p) (wide0 p F)) := Lib.hid (HGR.out.congr (fun i hi j _ => if_pos hi))
      go_wp2
      go_ret
      exact ⟨_, rfl, HGN.out, HBE.out⟩
end Go.Proofs.YtpldnbfbpajbkabDoor
