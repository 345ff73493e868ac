/- Slices of strings; rs.Check and rs.alike. -/
import Derived.Test.YtpldnbfbpajbkabMatE
import Derived.Deep.OwnRows
namespace Go.Proofs.Ytpldnbfbpajbkab
open Go.RowKit

/-- A slice that reads as these strings, all of it there. -/
def StrsS (w : World) (v : Value) (S : List ByteArray) : Prop :=
  ∃ A cap, v = .slice A S.length cap ∧ (A = none → cap = 0) ∧ S.length ≤ cap ∧ cap ≤ maxLen ∧ (∀ s, s ∈ S → s.size ≤ maxLen) ∧ (S = [] ∨ ∃ b off, A = some ⟨b, off, none⟩ ∧ b < w.heap.size ∧ ∀ j, j < S.length → w.cell? ⟨b, off + j, none⟩ = some (.string (S.getD j ByteArray.empty)))
theorem StrsS.below {w w' : World} {v : Value} {S : List ByteArray} (h : StrsS w v S) (hb : Below w.heap.size w w') : StrsS w' v S := by
  obtain ⟨A, cap, rfl, h1, h2, h3, h4, h5⟩ := h
  refine ⟨A, cap, rfl, h1, h2, h3, h4, ?_⟩
  rcases h5 with h5 | ⟨b, off, rfl, hlt, hc⟩
  · exact .inl h5
  · exact .inr ⟨b, off, rfl, Nat.lt_of_lt_of_le hlt hb.size, fun j hj => (hb.cell (p := ⟨b, off + j, none⟩) hlt).trans (hc j hj)⟩
theorem strsS_nil (w : World) : StrsS w (.slice none 0 0) [] := ⟨none, 0, rfl, fun _ => rfl, Nat.le_refl _, Nat.zero_le _, fun s hs => by simp at hs, .inl rfl⟩
theorem StrsS.opened {w : World} {v : Value} {S : List ByteArray} (h : StrsS w v S) : ∃ A c, v = .slice A S.length c ∧ S.length ≤ c ∧ c ≤ 9223372036854775807 := by
  obtain ⟨A, c, rfl, _, h2, h3, _⟩ := h
  unfold maxLen at h3
  exact ⟨A, c, rfl, h2, h3⟩
theorem StrsS.reads {w : World} {v : Value} {S : List ByteArray} (h : StrsS w v S) (hs : 0 < S.length) : ∃ b off c, v = .slice (some ⟨b, off, none⟩) S.length c ∧ S.length ≤ c ∧ c ≤ 9223372036854775807 ∧ ∀ W, Below w.heap.size w W → ∀ j, j < S.length → W.cell? ⟨b, off + j, none⟩ = some (.string (S.getD j ByteArray.empty)) ∧ (S.getD j ByteArray.empty).size ≤ 9223372036854775807 := by
  obtain ⟨A, c, rfl, _, h2, h3, h4, h5⟩ := h
  unfold maxLen at h3 h4
  rcases h5 with h5 | ⟨b, off, rfl, hlt, hc⟩
  · rw [h5] at hs; simp at hs
  · refine ⟨b, off, c, rfl, h2, h3, fun W hW j hj => ⟨(hW.cell (p := ⟨b, off + j, none⟩) hlt).trans (hc j hj), ?_⟩⟩
    apply h4
    rw [List.getD, List.getElem?_eq_getElem hj]; exact List.getElem_mem hj

/-- What Check answers. -/
def rsE (k m : Int) : Int := if 1 ≤ k ∧ 0 ≤ m ∧ k + m ≤ 255 then 0 else 1
theorem rsCheck_any (k m : Int) (hkw : -9223372036854775808 ≤ k ∧ k ≤ 9223372036854775807) (hmw : -9223372036854775808 ≤ m ∧ m ≤ 9223372036854775807) (w : World) :
    Calls Try.prog 13 #[.int .i64 k, .int .i64 m] w fun e w' => e = .returned (.int .i64 (rsE k m)) ∧ w = w' := by
  obtain ⟨hk1, hk2⟩ := hkw
  obtain ⟨hm1, hm2⟩ := hmw
  by_cases h0 : k < 1
  · have d0 : decide (k < 1) = true := decide_eq_true h0
    have he : rsE k m = 1 := if_neg (by omega)
    rw [he]
    clear he h0
    go_enter Try.func13, Try.ntmps13
    go_wp2
    go_ret
    exact ⟨rfl, rfl⟩
  · have d0 : decide (k < 1) = false := decide_eq_false h0
    by_cases h1 : m < 0
    · have d1 : decide (m < 0) = true := decide_eq_true h1
      have he : rsE k m = 1 := if_neg (by omega)
      rw [he]
      clear he h0 h1
      go_enter Try.func13, Try.ntmps13
      go_wp2
      go_ret
      exact ⟨rfl, rfl⟩
    · have d1 : decide (m < 0) = false := decide_eq_false h1
      by_cases h2 : 255 < k
      · have d2 : decide ((255 : Int) < k) = true := decide_eq_true h2
        have he : rsE k m = 1 := if_neg (by omega)
        rw [he]
        clear he h1 h2
        go_enter Try.func13, Try.ntmps13
        go_wp2
        go_ret
        exact ⟨rfl, rfl⟩
      · have d2 : decide ((255 : Int) < k) = false := decide_eq_false h2
        have hk3 : 1 ≤ k := by omega
        have hk4 : k ≤ 255 := by omega
        by_cases h3 : (255 : Int) - k < m
        · have d3 : decide ((255 : Int) - k < m) = true := decide_eq_true h3
          have he : rsE k m = 1 := if_neg (by omega)
          rw [he]
          clear he h0 h1 h2 h3
          go_enter Try.func13, Try.ntmps13
          go_wp2
          go_ret
          exact ⟨rfl, rfl⟩
        · have d3 : decide ((255 : Int) - k < m) = false := decide_eq_false h3
          have he : rsE k m = 0 := if_pos (by omega)
          rw [he]
          clear he h0 h1 h2 h3
          go_enter Try.func13, Try.ntmps13
          go_wp2
          go_ret
          exact ⟨rfl, rfl⟩
/-- All of one length, and not too long. -/
def Alike (S : List ByteArray) : Prop := ∀ j, j < S.length → (S.getD j ByteArray.empty).size = (S.getD 0 ByteArray.empty).size ∧ (S.getD j ByteArray.empty).size ≤ 65536
open Classical in
noncomputable def alikeB (S : List ByteArray) : Bool := decide (Alike S)
open Classical in
theorem alikeB_true {S : List ByteArray} (h : Alike S) : alikeB S = true := by unfold alikeB; exact decide_eq_true h
open Classical in
theorem alikeB_false {S : List ByteArray} (h : ¬ Alike S) : alikeB S = false := by unfold alikeB; exact decide_eq_false h
theorem alikeB_iff {S : List ByteArray} : alikeB S = true ↔ Alike S := by
  constructor
  · intro h
    by_cases g : Alike S
    · exact g
    · rw [alikeB_false g] at h; cases h
  · exact alikeB_true
set_option maxHeartbeats 1000000 in
theorem alike_any {w : World} {v : Value} {S : List ByteArray} (h : StrsS w v S) :
    Calls Try.prog 14 #[v] w fun e w' => e = .returned (.bool (alikeB S)) ∧ w = w' := by
  have HYES : Hid ((∀ j, j < S.length → (S.getD j ByteArray.empty).size = (S.getD 0 ByteArray.empty).size ∧ (S.getD j ByteArray.empty).size ≤ 65536) → alikeB S = true) := Lib.hid (fun h => alikeB_true h)
  have HNO : Hid (∀ j, j < S.length → ¬ ((S.getD j ByteArray.empty).size = (S.getD 0 ByteArray.empty).size ∧ (S.getD j ByteArray.empty).size ≤ 65536) → alikeB S = false) := Lib.hid (fun j hj hn => alikeB_false (fun h => hn (h j hj)))
  obtain ⟨E, hE⟩ : ∃ E, E = alikeB S := ⟨_, rfl⟩
  rw [← hE] at HYES HNO ⊢
  clear hE
  by_cases h0 : S.length = 0
  · obtain ⟨A, c, rfl, hl, hm⟩ := h.opened
    have hy := HYES.out (fun j hj => by omega)
    have hy2 := Lib.hid hy
    rw [h0]
    clear h hl HYES HNO hy h0
    go_enter Try.func14, Try.ntmps14
    go_wp2
    refine wp_loop_rounds 1 ?_
    rw [rounds_succ]
    go_wp2
    go_ret
    exact ⟨ret_bool hy2.out.symm, rfl⟩
  · obtain ⟨b, off, c, rfl, hl, hm, hr⟩ := h.reads (by omega)
    have HR := Lib.hid (hr w (Below.refl _ _))
    obtain ⟨sz, hsz⟩ : ∃ sz : Nat → ByteArray, sz = fun j => S.getD j ByteArray.empty := ⟨_, rfl⟩
    have e1 : ∀ j, S.getD j ByteArray.empty = sz j := fun j => by rw [hsz]
    simp only [e1] at HR HYES HNO
    clear h hr e1 hsz
    generalize S.length = n at *
    obtain ⟨hc0, hs0⟩ := HR.out 0 (by omega)
    rw [Nat.add_zero] at hc0
    go_enter Try.func14, Try.ntmps14
    go_wp2
    go_loop [7] (fun i => ∃ k : Nat, k ≤ n ∧ i = .int .i64 k ∧ ∀ j, j < k → (sz j).size = (sz 0).size ∧ (sz j).size ≤ 65536) (fun i => n - (intOf i).toNat)
    case atStart => exact ⟨0, by omega, rfl, fun j hj => by omega⟩
    case round =>
      obtain ⟨k, hk, rfl, hall⟩ := hrel
      have HALL := Lib.hid hall
      clear hall
      by_cases hlt : k < n
      · obtain ⟨hck, hsk⟩ := HR.out k hlt
        by_cases hsame : (sz k).size = (sz 0).size
        · have b1 : (((sz k).size : Int) == ((sz 0).size : Int)) = true := by rw [hsame]; simp
          have b2 : (((sz k).size : Int) != ((sz 0).size : Int)) = false := by rw [hsame]; simp
          by_cases hlong : 65536 < (sz k).size
          · have d1 : decide ((65536 : Int) < ((sz k).size : Int)) = true := by simp; omega
            have HN := Lib.hid (HNO.out k hlt (by omega))
            clear hsame hlong
            go_wp2
            go_ret
            exact ⟨ret_bool HN.out.symm, rfl⟩
          · have d1 : decide ((65536 : Int) < ((sz k).size : Int)) = false := by simp; omega
            have HS := Lib.hid hsame
            clear hsame
            go_wp2
            go_round
            case rel =>
              refine ⟨k + 1, by omega, by go_num, fun j hj => ?_⟩
              by_cases e : j = k
              · subst e; exact ⟨HS.out, by omega⟩
              · exact HALL.out j (by omega)
            case measure => simp [intOf]; omega
        · have b1 : (((sz k).size : Int) == ((sz 0).size : Int)) = false := by simp; omega
          have b2 : (((sz k).size : Int) != ((sz 0).size : Int)) = true := by simp; omega
          have HN := Lib.hid (HNO.out k hlt (by omega))
          clear hsame
          go_wp2
          go_ret
          exact ⟨ret_bool HN.out.symm, rfl⟩
      · obtain rfl : k = n := by omega
        have HY := Lib.hid (HYES.out HALL.out)
        go_wp2
        go_ret
        exact ⟨ret_bool HY.out.symm, rfl⟩
end Go.Proofs.Ytpldnbfbpajbkab
