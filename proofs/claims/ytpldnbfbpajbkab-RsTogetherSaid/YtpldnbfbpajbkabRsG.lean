/- The contracts of rs.back and rs.Decode. -/
import Derived.Test.YtpldnbfbpajbkabRsF
namespace Go.Proofs.Ytpldnbfbpajbkab
open Go.RowKit
open Caulk.Lin (Fn2 sx stack invM any_inv)

theorem own_ints {w : World} {B : Nat} {va : Value} {l : List Nat} (h : w.ownsRow B 3 1 va l.length (atV l)) (hsm : ∀ x, x ∈ l → x ≤ 1000) (k : Nat) (hk : k ≤ l.length) (hk1 : 1 ≤ k) :
    ∃ g c, va = .slice (some ⟨g, 0, none⟩) l.length c ∧ l.length ≤ c ∧ c ≤ maxLen ∧ IntsV w w.heap.size (.slice (some ⟨g, 0, none⟩) k c) ((l.take k).map fun i : Nat => (i : Int)) := by
  rcases h.2 with ⟨_, e⟩ | ⟨g, c, cur, rfl, hb, hh, hn, hm, hs, ht⟩
  · omega
  · have hlen : ((l.take k).map fun i : Nat => (i : Int)).length = k := by simp; omega
    refine ⟨g, c, rfl, hn, hm, some ⟨g, 0, none⟩, c, by rw [hlen], by rw [hlen]; omega, hm, fun x hx => ?_, .inr ⟨g, 0, rfl, (Array.getElem?_eq_some_iff.1 hh).1, fun j hj => ?_⟩⟩
    · obtain ⟨i, hi, rfl⟩ := List.mem_map.1 hx
      have := hsm i (List.mem_of_mem_take hi)
      omega
    · rw [hlen] at hj
      have hjl : j < l.length := by omega
      have hc := World.ownsRow.cells h (g := g) rfl j (.int .i64 ((l.getD j 0 : Nat) : Int)) (by simp [atV, List.getD, hjl])
      rw [show (⟨g, 0, none⟩ : Addr).add j = ⟨g, 0 + j, none⟩ by unfold Addr.add; split <;> simp_all] at hc
      rw [hc]
      congr 2
      simp [List.getD, hj, hjl]
theorem own_strs {w : World} {B : Nat} {vl : Value} {d : Nat → ByteArray} {l : List Nat} (h : w.ownsRow B 9 1 vl l.length (leftV d l)) (hd : ∀ i, i ∈ l → (d i).size ≤ maxLen) : StrsS w vl (l.map d) := by
  have hlen : (l.map d).length = l.length := by simp
  rcases h.2 with ⟨rfl, e⟩ | ⟨g, c, cur, rfl, hb, hh, hn, hm, hs, ht⟩
  · rw [List.eq_nil_of_length_eq_zero e]; exact strsS_nil _
  · refine ⟨some ⟨g, 0, none⟩, c, by rw [hlen], by simp, by rw [hlen]; exact hn, hm, fun s hs => ?_, .inr ⟨g, 0, rfl, (Array.getElem?_eq_some_iff.1 hh).1, fun j hj => ?_⟩⟩
    · obtain ⟨i, hi, rfl⟩ := List.mem_map.1 hs
      exact hd i hi
    · rw [hlen] at hj
      have hc := World.ownsRow.cells h (g := g) rfl j (.string (d (l.getD j 0))) (by simp [leftV, List.getD, hj])
      rw [show (⟨g, 0, none⟩ : Addr).add j = ⟨g, 0 + j, none⟩ by unfold Addr.add; split <;> simp_all] at hc
      rw [hc]
      congr 2
      simp [List.getD, hj]
theorem nodup_get {l : List Nat} (h : l.Nodup) {i j : Nat} (hi : i < l.length) (hj : j < l.length) (he : l[i] = l[j]) : i = j := by
  have hp := List.pairwise_iff_getElem.1 h
  rcases Nat.lt_trichotomy i j with g | g | g
  · exact absurd he (hp i j hi hj g)
  · exact g
  · exact absurd he.symm (hp j i hj hi g)
/-- The places' rows have an inverse. -/
theorem pick_inv {k n : Nat} (hn : n ≤ 255) {l : List Nat} (hnd : l.Nodup) (hlt : ∀ x, x ∈ l → x < n) (hkl : k ≤ l.length) (hkn : k ≤ n) : ∃ X, invM k (pickF (stack k) ((l.take k).map fun i : Nat => (i : Int))) = some X := by
  have hget : ∀ i, i < k → ((l.take k).map fun i : Nat => (i : Int)).getD i 0 = ((l.getD i 0 : Nat) : Int) := fun i hi => by
    have : i < l.length := by omega
    simp [List.getD, hi, this]
  obtain ⟨X, hX⟩ := any_inv (k := k) (n := n) hn (pick := fun i => l.getD i 0) (fun i hi => hlt _ (by rw [List.getD, List.getElem?_eq_getElem (by omega)]; exact List.getElem_mem _)) hkn (fun i hi j hj h => by
    have hi' : i < l.length := by omega
    have hj' : j < l.length := by omega
    simp only [List.getD, List.getElem?_eq_getElem hi', List.getElem?_eq_getElem hj', Option.getD_some] at h
    exact nodup_get hnd hi' hj' h)
  refine Caulk.Lin.inv_of_ker (fun v hv => Caulk.Lin.inv_ker hX (fun r hr => ?_))
  rw [← hv r hr]
  refine Caulk.Lin.vec_congrM (fun i hi j _ => ?_) v r hr
  unfold pickF
  rw [hget i hi, Int.toNat_natCast]
set_option maxHeartbeats 1000000 in
theorem back_any {w : World} {vr va : Value} {k n : Nat} {R : List Int} {X : Fn2} (hn : n ≤ 255) (hk1 : 1 ≤ k) (hkn : k ≤ n) (hR : MatS w vr (rowsL n k (stack k))) (hA : IntsV w w.heap.size va R) (hl : R.length = k) (hin : InRows n R) (hX : invM k (pickF (stack k) R) = some X) :
    Calls Try.prog 18 #[vr, va] w fun e w' => ∃ v, e = .returned (.tuple #[v, .int .i64 0]) ∧ MatS w' v (rowsL k k X) ∧ Below w.heap.size w w' := by
  have h1 := rows_any hR (Nat.le_refl _) (by omega) hn hk1 (by omega) hA (Nat.le_refl _) (by omega) (by omega)
  have H1 := Lib.hid h1
  have HIN := Lib.hid hin
  have HX := Lib.hid hX
  have HL := Lib.hid hl
  clear h1 hR hA hin hX hl
  go_enter Try.func18, Try.ntmps18
  go_wp2_with fail
  refine H1.out.mono ?_
  rintro e w1 ⟨hyes, _⟩
  obtain ⟨v1, rfl, hg, hb⟩ := hyes HIN.out
  have hm := hg.mat
  rw [HL.out] at hm
  have h2 := invert_any (F := pickF (stack k) R) hm (Nat.le_refl _) hk1 (by omega)
  have H2 := Lib.hid h2
  have HB := Lib.hid hb
  clear hyes hg hb hm h2
  go_wp2_with fail
  refine H2.out.mono ?_
  rintro e w2 ⟨hyes, _⟩
  obtain ⟨v2, rfl, hg, hb⟩ := hyes X HX.out
  have HM := Lib.hid hg.mat
  have HB2 : Hid (Below w.heap.size w w2) := Lib.hid (HB.out.trans (hb.mono HB.out.size))
  clear hyes hg hb
  go_wp2
  go_ret2
  exact ⟨_, rfl, HM.out, HB2.out⟩
end Go.Proofs.Ytpldnbfbpajbkab
