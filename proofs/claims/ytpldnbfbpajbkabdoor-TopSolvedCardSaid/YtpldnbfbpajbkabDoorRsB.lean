/- Slices of strings; rs.Check and rs.alike. The contracts of rs.stripe and rs.weave. The contract of rs.weave. -/
import Derived.Test.YtpldnbfbpajbkabDoorMatE
import Derived.Deep.OwnRows
import Derived.Test.YtpldnbfbpajbkabDoorLawA0
import Derived.Test.YtpldnbfbpajbkabDoorGfK
import Derived.Test.YtpldnbfbpajbkabDoorCau2
import Derived.Test.YtpldnbfbpajbkabDoorInvD
namespace Go.Proofs.YtpldnbfbpajbkabDoor
open Go.RowKit

/-- A slice that reads as these strings, all of it there. -/
def StrsS (w : World) (v : Value) (S : List ByteArray) : Prop :=
  ∃ A cap, v = .slice A S.length cap ∧ (A = none → cap = 0) ∧ S.length ≤ cap ∧ cap ≤ maxLen ∧ (∀ s, s ∈ S → s.size ≤ maxLen) ∧ (S = [] ∨ ∃ b off, A = some ⟨b, off, none⟩ ∧ b < w.heap.size ∧ ∀ j, j < S.length → w.cell? ⟨b, off + j, none⟩ = some (.string (S.getD j ByteArray.empty)))
theorem StrsS.below {w w' : World} {v : Value} {S : List ByteArray} (h : StrsS w v S) (hb : Below w.heap.size w w') : StrsS w' v S := by
  obtain ⟨A, cap, rfl, h1, h2, h3, h4, h5⟩ := h
  refine ⟨A, cap, rfl, h1, h2, h3, h4, ?_⟩
  rcases h5 with h5 | ⟨b, off, rfl, hlt, hc⟩
  · exact .inl h5
  · exact .inr ⟨b, off, rfl, Nat.lt_of_lt_of_le hlt hb.size, fun j hj => (hb.cell (p := ⟨b, off + j, none⟩) hlt).trans (hc j hj)⟩
theorem strsS_nil (w : World) : StrsS w (.slice none 0 0) [] := ⟨none, 0, rfl, fun _ => rfl, Nat.le_refl _, Nat.zero_le _, fun s hs => by simp at hs, .inl rfl⟩
theorem StrsS.opened {w : World} {v : Value} {S : List ByteArray} (h : StrsS w v S) : ∃ A c, v = .slice A S.length c ∧ S.length ≤ c ∧ c ≤ 9223372036854775807 := by
  obtain ⟨A, c, rfl, _, h2, h3, _⟩ := h
  unfold maxLen at h3
  exact ⟨A, c, rfl, h2, h3⟩
theorem StrsS.reads {w : World} {v : Value} {S : List ByteArray} (h : StrsS w v S) (hs : 0 < S.length) : ∃ b off c, v = .slice (some ⟨b, off, none⟩) S.length c ∧ S.length ≤ c ∧ c ≤ 9223372036854775807 ∧ ∀ W, Below w.heap.size w W → ∀ j, j < S.length → W.cell? ⟨b, off + j, none⟩ = some (.string (S.getD j ByteArray.empty)) ∧ (S.getD j ByteArray.empty).size ≤ 9223372036854775807 := by
  obtain ⟨A, c, rfl, _, h2, h3, h4, h5⟩ := h
  unfold maxLen at h3 h4
  rcases h5 with h5 | ⟨b, off, rfl, hlt, hc⟩
  · rw [h5] at hs; simp at hs
  · refine ⟨b, off, c, rfl, h2, h3, fun W hW j hj => ⟨(hW.cell (p := ⟨b, off + j, none⟩) hlt).trans (hc j hj), ?_⟩⟩
    apply h4
    rw [List.getD, List.getElem?_eq_getElem hj]; exact List.getElem_mem hj

/-- What Check answers. -/
def rsE (k m : Int) : Int := if 1 ≤ k ∧ 0 ≤ m ∧ k + m ≤ 255 then 0 else 1
theorem rsCheck_any (k m : Int) (hkw : -9223372036854775808 ≤ k ∧ k ≤ 9223372036854775807) (hmw : -9223372036854775808 ≤ m ∧ m ≤ 9223372036854775807) (w : World) :
    Calls Tryd.prog 14 #[.int .i64 k, .int .i64 m] w fun e w' => e = .returned (.int .i64 (rsE k m)) ∧ w = w' := by
  obtain ⟨hk1, hk2⟩ := hkw
  obtain ⟨hm1, hm2⟩ := hmw
  by_cases h0 : k < 1
  · have d0 : decide (k < 1) = true := decide_eq_true h0
    have he : rsE k m = 1 := if_neg (by omega)
    rw [he]
    clear he h0
    go_enter Tryd.func14, Tryd.ntmps14
    go_wp2
    go_ret
    exact ⟨rfl, rfl⟩
  · have d0 : decide (k < 1) = false := decide_eq_false h0
    by_cases h1 : m < 0
    · have d1 : decide (m < 0) = true := decide_eq_true h1
      have he : rsE k m = 1 := if_neg (by omega)
      rw [he]
      clear he h0 h1
      go_enter Tryd.func14, Tryd.ntmps14
      go_wp2
      go_ret
      exact ⟨rfl, rfl⟩
    · have d1 : decide (m < 0) = false := decide_eq_false h1
      by_cases h2 : 255 < k
      · have d2 : decide ((255 : Int) < k) = true := decide_eq_true h2
        have he : rsE k m = 1 := if_neg (by omega)
        rw [he]
        clear he h1 h2
        go_enter Tryd.func14, Tryd.ntmps14
        go_wp2
        go_ret
        exact ⟨rfl, rfl⟩
      · have d2 : decide ((255 : Int) < k) = false := decide_eq_false h2
        have hk3 : 1 ≤ k := by omega
        have hk4 : k ≤ 255 := by omega
        by_cases h3 : (255 : Int) - k < m
        · have d3 : decide ((255 : Int) - k < m) = true := decide_eq_true h3
          have he : rsE k m = 1 := if_neg (by omega)
          rw [he]
          clear he h0 h1 h2 h3
          go_enter Tryd.func14, Tryd.ntmps14
          go_wp2
          go_ret
          exact ⟨rfl, rfl⟩
        · have d3 : decide ((255 : Int) - k < m) = false := decide_eq_false h3
          have he : rsE k m = 0 := if_pos (by omega)
          rw [he]
          clear he h0 h1 h2 h3
          go_enter Tryd.func14, Tryd.ntmps14
          go_wp2
          go_ret
          exact ⟨rfl, rfl⟩
/-- All of one length, and not too long. -/
def Alike (S : List ByteArray) : Prop := ∀ j, j < S.length → (S.getD j ByteArray.empty).size = (S.getD 0 ByteArray.empty).size ∧ (S.getD j ByteArray.empty).size ≤ 65536
open Classical in
noncomputable def alikeB (S : List ByteArray) : Bool := decide (Alike S)
open Classical in
theorem alikeB_true {S : List ByteArray} (h : Alike S) : alikeB S = true := by unfold alikeB; exact decide_eq_true h
open Classical in
theorem alikeB_false {S : List ByteArray} (h : ¬ Alike S) : alikeB S = false := by unfold alikeB; exact decide_eq_false h
theorem alikeB_iff {S : List ByteArray} : alikeB S = true ↔ Alike S := by
  constructor
  · intro h
    by_cases g : Alike S
    · exact g
    · rw [alikeB_false g] at h; cases h
  · exact alikeB_true
set_option maxHeartbeats 1000000 in
theorem alike_any {w : World} {v : Value} {S : List ByteArray} (h : StrsS w v S) :
    Calls Tryd.prog 15 #[v] w fun e w' => e = .returned (.bool (alikeB S)) ∧ w = w' := by
  have HYES : Hid ((∀ j, j < S.length → (S.getD j ByteArray.empty).size = (S.getD 0 ByteArray.empty).size ∧ (S.getD j ByteArray.empty).size ≤ 65536) → alikeB S = true) := Lib.hid (fun h => alikeB_true h)
  have HNO : Hid (∀ j, j < S.length → ¬ ((S.getD j ByteArray.empty).size = (S.getD 0 ByteArray.empty).size ∧ (S.getD j ByteArray.empty).size ≤ 65536) → alikeB S = false) := Lib.hid (fun j hj hn => alikeB_false (fun h => hn (h j hj)))
  obtain ⟨E, hE⟩ : ∃ E, E = alikeB S := ⟨_, rfl⟩
  rw [← hE] at HYES HNO ⊢
  clear hE
  by_cases h0 : S.length = 0
  · obtain ⟨A, c, rfl, hl, hm⟩ := h.opened
    have hy := HYES.out (fun j hj => by omega)
    have hy2 := Lib.hid hy
    rw [h0]
    clear h hl HYES HNO hy h0
    go_enter Tryd.func15, Tryd.ntmps15
    go_wp2
    refine wp_loop_rounds 1 ?_
    rw [rounds_succ]
    go_wp2
    go_ret
    exact ⟨ret_bool hy2.out.symm, rfl⟩
  · obtain ⟨b, off, c, rfl, hl, hm, hr⟩ := h.reads (by omega)
    have HR := Lib.hid (hr w (Below.refl _ _))
    obtain ⟨sz, hsz⟩ : ∃ sz : Nat → ByteArray, sz = fun j => S.getD j ByteArray.empty := ⟨_, rfl⟩
    have e1 : ∀ j, S.getD j ByteArray.empty = sz j := fun j => by rw [hsz]
    simp only [e1] at HR HYES HNO
    clear h hr e1 hsz
    generalize S.length = n at *
    obtain ⟨hc0, hs0⟩ := HR.out 0 (by omega)
    rw [Nat.add_zero] at hc0
    go_enter Tryd.func15, Tryd.ntmps15
    go_wp2
    go_loop [7] (fun i => ∃ k : Nat, k ≤ n ∧ i = .int .i64 k ∧ ∀ j, j < k → (sz j).size = (sz 0).size ∧ (sz j).size ≤ 65536) (fun i => n - (intOf i).toNat)
    case atStart => exact ⟨0, by omega, rfl, fun j hj => by omega⟩
    case round =>
      obtain ⟨k, hk, rfl, hall⟩ := hrel
      have HALL := Lib.hid hall
      clear hall
      by_cases hlt : k < n
      · obtain ⟨hck, hsk⟩ := HR.out k hlt
        by_cases hsame : (sz k).size = (sz 0).size
        · have b1 : (((sz k).size : Int) == ((sz 0).size : Int)) = true := by rw [hsame]; simp
          have b2 : (((sz k).size : Int) != ((sz 0).size : Int)) = false := by rw [hsame]; simp
          by_cases hlong : 65536 < (sz k).size
          · have d1 : decide ((65536 : Int) < ((sz k).size : Int)) = true := by simp; omega
            have HN := Lib.hid (HNO.out k hlt (by omega))
            clear hsame hlong
            go_wp2
            go_ret
            exact ⟨ret_bool HN.out.symm, rfl⟩
          · have d1 : decide ((65536 : Int) < ((sz k).size : Int)) = false := by simp; omega
            have HS := Lib.hid hsame
            clear hsame
            go_wp2
            go_round
            case rel =>
              refine ⟨k + 1, by omega, by go_num, fun j hj => ?_⟩
              by_cases e : j = k
              · subst e; exact ⟨HS.out, by omega⟩
              · exact HALL.out j (by omega)
            case measure => simp [intOf]; omega
        · have b1 : (((sz k).size : Int) == ((sz 0).size : Int)) = false := by simp; omega
          have b2 : (((sz k).size : Int) != ((sz 0).size : Int)) = true := by simp; omega
          have HN := Lib.hid (HNO.out k hlt (by omega))
          clear hsame
          go_wp2
          go_ret
          exact ⟨ret_bool HN.out.symm, rfl⟩
      · obtain rfl : k = n := by omega
        have HY := Lib.hid (HYES.out HALL.out)
        go_wp2
        go_ret
        exact ⟨ret_bool HY.out.symm, rfl⟩
end Go.Proofs.YtpldnbfbpajbkabDoor
namespace Go.Proofs.YtpldnbfbpajbkabDoor
open Go.RowKit
open Caulk.Lin (Fn2 sx stack)
open Caulk.Gf (mul putL)

theorem stack_unit {k i j : Nat} (hi : i < k) : stack k i j = unitF i j := by unfold stack unitF; rw [if_pos hi]
theorem stack_cau {k i j : Nat} (hj : j < k) (hi : k + i < 256) : stack k (k + i) j = cauF k i j := by
  unfold stack cauF
  rw [if_neg (by omega)]
  have := cauX_ne (k := k) (i := i) hj hi
  unfold invB
  rw [if_neg this]; rfl
/-- A slice of heads that is owned, read as rows. -/
theorem own_mat {w : World} {B n : Nat} {v : Value} {xs : List Value} {M : List (List UInt8)} (h : w.ownsRow B 40 1 v n xs) (hl : M.length = n) (hr : ∀ i, i < M.length → ∃ u, xs[i]? = some u ∧ RowV w w.heap.size u (M.getD i [])) : MatS w v M := by
  rcases h.2 with ⟨rfl, e⟩ | ⟨g, cap, cur, rfl, hb, hh, hn, hm, hs, ht⟩
  · obtain rfl : M = [] := List.eq_nil_of_length_eq_zero (by omega)
    exact matV_nil _ _
  · subst hl
    refine ⟨_, cap, rfl, by simp, hn, hm, .inr ⟨g, 0, rfl, (Array.getElem?_eq_some_iff.1 hh).1, fun i hi => ?_⟩⟩
    obtain ⟨u, hu, hru⟩ := hr i hi
    refine ⟨u, ?_, hru⟩
    have := World.ownsRow.cells h (g := g) rfl i u hu
    rwa [show (⟨g, 0, none⟩ : Addr).add i = ⟨g, 0 + i, none⟩ by unfold Addr.add; split <;> simp_all] at this
/-- The unit's rows with parity's behind them. -/
theorem stack_mat {w1 w2 w3 : World} {B k m : Nat} {v v2 v' : Value} {pl pl2 : Nat → Nat × Nat × Nat} (hkm : k + m ≤ 255) (h1 : GridP w1 B v k k unitF pl) (hb : Below w1.heap.size w1 w2) (h2 : GridP w2 w1.heap.size v2 m k (cauF k) pl2)
    (hg : w2.grownBy w3 v.ownBlock) (ho : w3.ownsRow B 40 1 v' (k + m) (hdL k k pl ++ hdL m k pl2)) : MatS w3 v' (rowsL (k + m) k (stack k)) := by
  have hlt := World.ownsRow.lt h1.1
  refine own_mat ho (rowsL_len _ _ _) (fun i hi => ?_)
  rw [rowsL_len] at hi
  rw [rowsL_getD _ hi]
  by_cases e : i < k
  · obtain ⟨a1, a2, a3, a4, a5⟩ := (h1.below hb).2.1 i e
    refine ⟨_, by rw [List.getElem?_append_left (by rw [hdL_len]; exact e)]; exact hdL_at pl e, ?_⟩
    have hr3 := a5.grown hg a4
    rw [rowL_congr (g := unitF i) (fun j _ => stack_unit e)]
    exact ⟨_, _, by rw [rowL_len], by simp, by rw [rowL_len]; exact a2, a3, .inr ⟨_, _, rfl, hr3.1, fun j hj => (hr3.2 j hj).1⟩⟩
  · obtain ⟨a1, a2, a3, a4, a5⟩ := h2.2.1 (i - k) (by omega)
    refine ⟨_, by rw [List.getElem?_append_right (by rw [hdL_len]; omega), hdL_len]; exact hdL_at pl2 (by omega), ?_⟩
    have hr3 := a5.grown hg (fun e => by have := (hlt _ e.symm).2; omega)
    rw [rowL_congr (f := stack k i) (g := cauF k (i - k)) (fun j hj => by have := stack_cau (k := k) (i := i - k) hj (by omega); rwa [show k + (i - k) = i by omega] at this)]
    exact ⟨_, _, by rw [rowL_len], by simp, by rw [rowL_len]; exact a2, a3, .inr ⟨_, _, rfl, hr3.1, fun j hj => (hr3.2 j hj).1⟩⟩
set_option maxHeartbeats 1000000 in
theorem stripe_any (k m : Nat) (hk : 1 ≤ k) (hkm : k + m ≤ 255) (w : World) :
    Calls Tryd.prog 16 #[.int .i64 (k : Int), .int .i64 (m : Int)] w fun e w' => ∃ v, e = .returned (.tuple #[v, .int .i64 0]) ∧ MatS w' v (rowsL (k + m) k (stack k)) ∧ Below w.heap.size w w' := by
  by_cases hm : m = 0
  · subst hm
    go_enter Tryd.func16, Tryd.ntmps16
    go_wp2_with fail
    refine (unit_any k hk (by omega) _).mono ?_
    rintro e w1 ⟨v, rfl, hg, hb⟩
    have HM : Hid (MatS w1 v (rowsL (k + 0) k (stack k))) := Lib.hid (by
      have := hg.mat
      rw [rowsL_congr (g := stack k) (fun i hi j _ => (stack_unit hi).symm)] at this
      exact this)
    have HB := Lib.hid hb
    clear hg hb
    go_wp2
    go_ret2
    exact ⟨_, rfl, HM.out, HB.out⟩
  · have hm0 : ((m : Int) == 0) = false := by simp; omega
    go_enter Tryd.func16, Tryd.ntmps16
    go_wp2_with fail
    refine (unit_any k hk (by omega) _).mono ?_
    rintro e w1 ⟨v, rfl, hg, hb⟩
    have HG := Lib.hid hg
    have HB := Lib.hid hb
    clear hg hb
    go_wp2_with fail
    refine (cauchy_any k m hk (by omega) hkm _).mono ?_
    rintro e w2 ⟨v2, rfl, hg2, hb2⟩
    obtain ⟨pl, hp1⟩ := HG.out.own
    obtain ⟨b2, n2, rfl, hn2, hnm2, hbb2⟩ := hg2.shape
    obtain ⟨pl2, hp2⟩ := hg2.own
    have hp1' := GridP.below (pl := pl) hp1 hb2
    obtain ⟨i1, hi1, hz3, hz4, hz5⟩ := info_parts infoRow
    have HO := Lib.hid hp1'.1
    have HX2 : Hid (∀ j u, (hdL m k pl2)[j]? = some u → w2.cell? ((⟨b2, 0, none⟩ : Addr).add j) = some u) := Lib.hid (World.ownsRow.cells hp2.1 (g := b2) rfl)
    have HX3 : Hid (∀ u, u ∈ hdL m k pl2 → u.oneCell' = true) := Lib.hid (fun u hu => by obtain ⟨i, _, rfl⟩ := List.mem_map.1 hu; rfl)
    have HX1 : Hid ((hdL m k pl2).length = m * 1) := Lib.hid (by rw [hdL_len, Nat.mul_one])
    have HMAT : Hid (∀ (v' : Value) (w3 : World), w3.ownsRow w.heap.size 40 1 v' (k + m) (hdL k k pl ++ hdL m k pl2) → w2.grownBy w3 v.ownBlock → MatS w3 v' (rowsL (k + m) k (stack k))) := Lib.hid (fun v' w3 ho hg3 => stack_mat hkm hp1 hb2 hp2 hg3 ho)
    have HB2 := Lib.hid hb2
    have hs1 := HB.out.size
    have hs2 := hb2.size
    unfold maxLen at hnm2
    clear hg2 hb2 hp1 hp1' hp2
    go_wp2_with (at_builtin; (with_reducible refine wpList_append_own_at _ ?g0 (.tmp 31) (.tmp 32) 29 ?g1 w.heap.size 40 i1 (.slice none 0 0) 1 24 Tryd.underlying29 hi1 hz3 hz4 hz5 ?g2 (by decide) v k (hdL k k pl) ?g3 HO.out ⟨b2, 0, none⟩ m n2 (hdL m k pl2) ?g4 ?g5 ?c1 ?c2 ?c3 ?c4 ?c5 ?_)
                 case g0 => rfl
                 case g1 => rfl
                 case g2 => rfl
                 case g3 => rfl
                 case g4 => rfl
                 case g5 => exact HX1.out
                 case c1 => exact HX2.out
                 case c2 => exact HX3.out
                 case c3 => unfold maxLen; omega
                 case c4 => omega
                 case c5 => omega
                 intro v' w3 hown3 hgrow3 _ _)
    have HM3 := Lib.hid (HMAT.out v' w3 hown3 hgrow3)
    have HB3 : Hid (Below w.heap.size w w3) := Lib.hid ((HB.out.trans (HB2.out.mono hs1)).grown hgrow3 (by omega) (fun g hg => (World.ownsRow.lt HO.out g hg).1))
    clear hown3 hgrow3
    go_ret2
    exact ⟨_, rfl, HM3.out, HB3.out⟩
end Go.Proofs.YtpldnbfbpajbkabDoor
namespace Go.Proofs.YtpldnbfbpajbkabDoor
open Go.RowKit
open Caulk.Lin (Fn2 sx stack)
open Caulk.Gf (mul putL)

theorem infoStr : (Tryd.prog.info? 9).map (fun i => (i.zero, i.size, i.bytes)) = some (some (.string ByteArray.empty), 1, 16) := by kernel_rfl
def byteAt (s : ByteArray) (b : Nat) : UInt8 := s.data.toList.getD b 0
/-- A row's sum of its elements times the bytes. -/
def weaveF (k : Nat) (f : Fn2) (D : List ByteArray) (i : Nat) : Nat → UInt8 := fun b => sx k (fun j => mul (f i j) (byteAt (D.getD j ByteArray.empty) b))
def weaveS (k n : Nat) (f : Fn2) (D : List ByteArray) (i : Nat) : ByteArray := ⟨(rowL n (weaveF k f D i)).toArray⟩
def weaveL (r k n : Nat) (f : Fn2) (D : List ByteArray) : List ByteArray := (List.range r).map (weaveS k n f D)
/-- Strings in new memory are answered. -/
def NewStrs (w' : World) (B : Nat) (v : Value) (L : List ByteArray) : Prop :=
  ∃ b c hf, v = .slice (some ⟨b, 0, none⟩) L.length c ∧ B ≤ b ∧ w'.rowIs b 9 c hf ∧ L.length ≤ c ∧ c ≤ maxLen ∧ (∀ s, s ∈ L → s.size ≤ maxLen) ∧ ∀ i, i < L.length → hf i = .string (L.getD i ByteArray.empty)
theorem NewStrs.strs {w : World} {B : Nat} {v : Value} {L : List ByteArray} (h : NewStrs w B v L) : StrsS w v L := by
  obtain ⟨b, c, hf, rfl, h1, h2, h3, h4, h5, h6⟩ := h
  exact ⟨_, c, rfl, by simp, h3, h4, h5, .inr ⟨b, 0, rfl, h2.lt, fun j hj => by rw [Nat.zero_add, h2.cell (by omega), h6 j hj]⟩⟩
theorem NewStrs.below {w w' : World} {B : Nat} {v : Value} {L : List ByteArray} (h : NewStrs w B v L) (hb : Below w.heap.size w w') : NewStrs w' B v L := by
  obtain ⟨b, c, hf, rfl, h1, h2, h3, h4, h5, h6⟩ := h
  exact ⟨b, c, hf, rfl, h1, h2.of_block (hb.block b h2.lt), h3, h4, h5, h6⟩
def GotStrs (w : World) (L : List ByteArray) (e : Ending) (w' : World) : Prop := ∃ v, e = .returned v ∧ NewStrs w' w.heap.size v L ∧ Below w.heap.size w w'
theorem putL_str (c : UInt8) (n : Nat) (g : Nat → UInt8) (s : ByteArray) (h : s.size = n) : putL c (rowL n g) s.data.toList = rowL n (fun b => g b ^^^ mul c (byteAt s b)) := by
  have hl : s.data.toList.length = n := by simpa using h
  have e : s.data.toList = rowL n (byteAt s) := by
    have := list_rowL s.data.toList
    rw [hl] at this
    exact this.symm
  conv => lhs; rw [e]
  exact putL_rowL c n n g (byteAt s) (Nat.le_refl _)
theorem weaveL_len (r k n : Nat) (f : Fn2) (D : List ByteArray) : (weaveL r k n f D).length = r := by simp [weaveL]
theorem weaveL_getD {r k n i : Nat} (f : Fn2) (D : List ByteArray) (h : i < r) : (weaveL r k n f D).getD i ByteArray.empty = weaveS k n f D i := by simp [weaveL, List.getD, h]
theorem weaveS_size (k n : Nat) (f : Fn2) (D : List ByteArray) (i : Nat) : (weaveS k n f D i).size = n := by
  show (rowL n (weaveF k f D i)).toArray.size = n
  rw [List.size_toArray, rowL_len]
set_option maxHeartbeats 2000000 in
theorem weave_any {w : World} {vr vd : Value} {r k n : Nat} {f : Fn2} {D : List ByteArray} (hR : MatS w vr (rowsL r k f)) (hr : r ≤ 255) (hk1 : 1 ≤ k) (hk2 : k ≤ 255) (hD : StrsS w vd D) (hl : D.length = k) (hn : ∀ j, j < k → (D.getD j ByteArray.empty).size = n) (hn2 : n ≤ 65536) :
    Calls Tryd.prog 17 #[vr, vd] w (GotStrs w (weaveL r k n f D)) := by
  have hmk := run_make_row' (P := Tryd.prog) 22 9 (.string ByteArray.empty) 16 Tryd.underlying22 infoStr rfl .i64 .i64 r (by omega) (by omega)
  have hB0 := below_alloc w (.cells (madeCells #[.string ByteArray.empty] r) 9)
  have hL0 := World.rowIs_made w (.string ByteArray.empty) r 9
  have HSZ : Hid (∀ s, s ∈ weaveL r k n f D → s.size ≤ maxLen) := Lib.hid (fun s hs => by
    obtain ⟨i, _, rfl⟩ := List.mem_map.1 hs
    rw [weaveS_size]; unfold maxLen; omega)
  by_cases h0 : r = 0
  · subst h0
    obtain ⟨A, cap, rfl, _, hlc, hcm, _⟩ := hR
    rw [rowsL_len] at *
    unfold maxLen at hcm
    have HB := Lib.hid hB0
    have HL := Lib.hid hL0
    have hmk0 : ∀ w : World, (Instr.makeSlice 22 (.int .i64 0) (.int .i64 0)).run Tryd.prog w = .ok (.slice (some ⟨w.heap.size, 0, none⟩) 0 0) (w.alloc (.cells (madeCells #[.string ByteArray.empty] 0) 9)) := hmk
    clear hB0 hL0 hD hn hmk
    go_enter Tryd.func17, Tryd.ntmps17
    go_wp2
    refine wp_loop_rounds 1 ?_
    rw [rounds_succ]
    go_wp2
    go_ret
    exact ⟨_, rfl, ⟨w.heap.size, 0, _, rfl, Nat.le_refl _, HL.out, Nat.le_refl _, Nat.zero_le _, HSZ.out, fun i hi => by rw [weaveL_len] at hi; omega⟩, HB.out⟩
  · obtain ⟨b1, off1, cap1, rfl, hrc1, hcm1, hread1⟩ := MatV.reads hR (Nat.le_refl _) (by omega) hk1
    obtain ⟨b2, off2, cap2, rfl, hrc2, hcm2, hread2⟩ := hD.reads (by omega)
    rw [hl] at *
    unfold maxLen at hcm1
    obtain ⟨dd, hdd⟩ : ∃ dd : Nat → ByteArray, dd = fun j => D.getD j ByteArray.empty := ⟨_, rfl⟩
    have e1 : ∀ j, D.getD j ByteArray.empty = dd j := fun j => by rw [hdd]
    have HDD := Lib.hid e1
    simp only [e1] at hread2 hn
    have HA := Lib.hid hread1
    have HD := Lib.hid hread2
    have HN := Lib.hid hn
    clear hdd e1
    have HB0 := Lib.hid hB0
    have HL0 := Lib.hid hL0
    have hmk2 := run_make_row' (P := Tryd.prog) 40 5 (.int .u8 0) 1 Tryd.underlying40 infoU8 rfl .i64 .i64 n (by omega) (by omega)
    clear hread1 hread2 hn hR hD hB0 hL0 hl
    go_enter Tryd.func17, Tryd.ntmps17
    go_wp2
    go_loopw [16] (fun i wr => ∃ p : Nat, p ≤ r ∧ i = .int .i64 p ∧ wr.rowIs w.heap.size 9 r (fun i => if i < p then .string (weaveS k n f D i) else .string ByteArray.empty) ∧ Below w.heap.size w wr) (fun i _ => r - (intOf i).toNat)
    case atStart => exact ⟨0, by omega, rfl, HL0.out.congr (fun i _ => by rw [if_neg (by omega)]), HB0.out⟩
    case round =>
      clear HB0 HL0 hmk
      obtain ⟨p, hp, rfl, hrow, hbe⟩ := hrel
      have HROW := Lib.hid hrow
      have HBE := Lib.hid hbe
      clear hrow hbe
      by_cases hlt : p < r
      · obtain ⟨wo, rfl⟩ : ∃ wo : World, wo = wr := ⟨_, rfl⟩
        obtain ⟨b3, off3, cap3, h3, hb3B, hc3, hcm3, hby⟩ := HA.out wo HBE.out p hlt
        obtain ⟨hd0, hs0⟩ := HD.out wo HBE.out 0 hk1
        rw [Nat.add_zero] at hd0
        have hn0 := HN.out 0 hk1
        unfold maxLen at hcm3
        have hB1 := below_alloc wo (.cells (madeCells #[.int .u8 0] n) 5)
        have hR1 : Row8 (wo.alloc (.cells (madeCells #[.int .u8 0] n) 5)) wo.heap.size 0 (rowL n (fun _ => 0)) := by rw [rowL_zero]; exact row_made wo n 5
        have HB1 := Lib.hid hB1
        have HR1 := Lib.hid hR1
        have hwlt := World.block_lt_of_cell? wo _ h3
        have HBY : Hid (∀ W, Below wo.heap.size wo W → ∀ j, j < k → W.cell? ⟨b3, off3 + j, none⟩ = some (.int .u8 ((f p j).toNat : Int))) := Lib.hid (fun W hW j hj => by
          have hlt3 := World.block_lt_of_cell? wo _ (hby j hj)
          exact (hW.cell (p := ⟨b3, off3 + j, none⟩) hlt3).trans (hby j hj))
        clear hB1 hR1 hby hwlt
        go_wp2
        clear hd0 hs0 hn0 h3
        go_loopw [28] (fun i wr => ∃ q : Nat, q ≤ k ∧ i = .int .i64 q ∧ Row8 wr wo.heap.size 0 (rowL n (fun b => sx q (fun j => mul (f p j) (byteAt (D.getD j ByteArray.empty) b)))) ∧ Below wo.heap.size wo wr) (fun i _ => k - (intOf i).toNat)
        case atStart => exact ⟨0, by omega, rfl, HR1.out, HB1.out⟩
        case round =>
          clear HR1 HB1
          obtain ⟨q, hq, rfl, hrow8, hbe2⟩ := hrel
          have HR8 := Lib.hid hrow8
          have HBE2 := Lib.hid hbe2
          have HBW : Hid (Below w.heap.size w wr) := Lib.hid (HBE.out.trans (hbe2.mono HBE.out.size))
          clear hrow8 hbe2
          by_cases hlt2 : q < k
          · have hx := HBY.out wr HBE2.out q hlt2
            obtain ⟨x, hxe⟩ : ∃ x, x = f p q := ⟨_, rfl⟩
            rw [← hxe] at hx
            obtain ⟨e1, e2⟩ := byte_zero x
            by_cases hx0 : x = 0
            · rw [decide_eq_true hx0] at e1 e2
              have HRN : Hid (Row8 wr wo.heap.size 0 (rowL n (fun b => sx (q + 1) (fun j => mul (f p j) (byteAt (D.getD j ByteArray.empty) b))))) := Lib.hid (by
                rw [rowL_congr (g := fun b => sx q (fun j => mul (f p j) (byteAt (D.getD j ByteArray.empty) b))) (fun b _ => by
                  show sx q (fun j => mul (f p j) (byteAt (D.getD j ByteArray.empty) b)) ^^^ mul (f p q) (byteAt (D.getD q ByteArray.empty) b) = _
                  rw [← hxe, hx0, Caulk.Gf.mul_zeroL, UInt8.xor_zero])]
                exact HR8.out)
              clear hx0 hxe
              go_wp2
              go_roundw
              case rel => exact ⟨q + 1, by omega, by go_num, HRN.out, HBE2.out⟩
              case measure => simp [intOf]; omega
            · rw [decide_eq_false hx0] at e1 e2
              obtain ⟨hd, hsz⟩ := HD.out wr HBW.out q hlt2
              have hnq := HN.out q hlt2
              obtain ⟨s, hs⟩ : ∃ s, s = dd q := ⟨_, rfl⟩
              rw [← hs] at hd hsz hnq
              have hput := put_only wo.heap.size 0 n _ x s (by unfold maxLen; omega) wr HR8.out
              rw [rowL_len, putL_str _ _ _ _ hnq] at hput
              have HP := Lib.hid hput
              have HXE := Lib.hid hxe
              have HSE := Lib.hid hs
              clear hput hx0 hxe hs hnq
              go_wp2_with fail
              refine HP.out.mono ?_
              rintro e w2 ⟨rfl, hrow2, hon⟩
              have HRN : Hid (Row8 w2 wo.heap.size 0 (rowL n (fun b => sx (q + 1) (fun j => mul (f p j) (byteAt (D.getD j ByteArray.empty) b))))) := Lib.hid (by
                rw [rowL_congr (g := fun b => sx q (fun j => mul (f p j) (byteAt (D.getD j ByteArray.empty) b)) ^^^ mul x (byteAt s b)) (fun b _ => by
                  show sx q (fun j => mul (f p j) (byteAt (D.getD j ByteArray.empty) b)) ^^^ mul (f p q) (byteAt (D.getD q ByteArray.empty) b) = _
                  rw [HXE.out, HSE.out, ← HDD.out q])]
                exact hrow2)
              have HBN : Hid (Below wo.heap.size wo w2) := Lib.hid (HBE2.out.trans (hon.below (Nat.le_refl _) HBE2.out.size))
              clear hrow2 hon
              go_wp2
              go_roundw
              case rel => exact ⟨q + 1, by omega, by go_num, HRN.out, HBN.out⟩
              case measure => simp [intOf]; omega
          · obtain rfl : q = k := by omega
            have hcv := string_of_row (P := Tryd.prog) (cap := n) n (by rw [rowL_len]) HR8.out 40 9 5 Tryd.underlying40 Tryd.underlying5 Tryd.underlying9
            have hrw := HROW.out.of_block (HBE2.out.block w.heap.size HROW.out.lt)
            have hcell := hrw.cell (i := p) hlt
            have hfro := hrw.frozen p
            have HNEW : Hid ((wr.setCell ⟨w.heap.size, p, none⟩ (.string (weaveS q n f D p))).rowIs w.heap.size 9 r (fun i => if i < p + 1 then .string (weaveS q n f D i) else .string ByteArray.empty)) := Lib.hid ((hrw.set p _).congr (fun i _ => by
              by_cases e : i = p
              · subst e; rw [if_pos rfl, if_pos (by omega)]
              · rw [if_neg e]
                by_cases e2 : i < p
                · rw [if_pos e2, if_pos (by omega)]
                · rw [if_neg e2, if_neg (by omega)]))
            have HBN : Hid (Below w.heap.size w (wr.setCell ⟨w.heap.size, p, none⟩ (.string (weaveS q n f D p)))) := Lib.hid (HBW.out.setCell (p := ⟨w.heap.size, p, none⟩) (Nat.le_refl _) _)
            clear hrw
            obtain ⟨S, hS⟩ : ∃ S, S = weaveS q n f D p := ⟨_, rfl⟩
            rw [← hS] at HNEW HBN
            rw [show (ByteArray.mk (rowL n (fun b => sx q (fun j => mul (f p j) (byteAt (D.getD j ByteArray.empty) b)))).toArray) = S from hS.symm] at hcv
            clear hS
            go_wp2
            go_roundw
            case rel => exact ⟨p + 1, by omega, by go_num, HNEW.out, HBN.out⟩
            case measure => simp [intOf]; omega
      · obtain rfl : p = r := by omega
        go_wp2
        go_ret
        exact ⟨_, rfl, ⟨w.heap.size, p, _, by rw [weaveL_len]; rfl, Nat.le_refl _, HROW.out, by rw [weaveL_len]; exact Nat.le_refl _, by unfold maxLen; omega, HSZ.out, fun i hi => by rw [weaveL_len] at hi; rw [weaveL_getD f D hi, if_pos hi]⟩, HBE.out⟩
end Go.Proofs.YtpldnbfbpajbkabDoor
