/- Pools: Keep. -/
import Derived.Test.YtmnjcmpikbihaaaPoolB
namespace Go.Proofs.Ytmnjcmpikbihaaa
open Go.RowKit Go.Maps

set_option maxHeartbeats 1000000 in
set_option maxRecDepth 100000 in
theorem poolKeep_any {w : World} {b m n : Nat} {L : PL} (d : PoolAt w b m L n) (hn : n ≤ 1073741824) {v : Value} {K : List Int} (hv : IdxS w v K) (hwf : ∀ x ∈ K, -9223372036854775808 ≤ x ∧ x ≤ 9223372036854775807) :
    Calls Try.prog 11 #[.pointer (some ⟨b, 0, none⟩), v] w fun e w' => e = .returned (.int .i64 ((L.length - (keepP L K).length : Nat) : Int)) ∧ PoolAt w' b w.heap.size (keepP L K) n ∧ Ap (fun k => k = b) w w' := by
  have c0 := d.c0
  have hl := d.len
  have hkl := keep_len L K
  have hO := only_any d.map d.rise (by omega) hv hwf
  obtain ⟨A, c1, rfl, _⟩ := hv
  have hlt := d.lt
  have HD := Lib.hid d
  obtain ⟨D, ho, hh, _⟩ := d.map
  have hsz := sizeP ho intKP Try.underlying3 d.rise hh
  have h3 : (idsP L).length = L.length := by simp [idsP]
  rw [h3] at hsz
  obtain ⟨q, hq⟩ : ∃ q, q = (keepP L K).length := ⟨_, rfl⟩
  have HQ := Lib.hid hq
  rw [← hq] at hkl ⊢
  obtain ⟨R, hR⟩ : ∃ R, R = keepP L K := ⟨_, rfl⟩
  rw [← hR] at hO ⊢
  have HRR := Lib.hid hR
  obtain ⟨z, hz⟩ : ∃ z, z = L.length := ⟨_, rfl⟩
  rw [← hz] at hsz hl hkl ⊢
  have f0 := d.fz 0 (by omega)
  have hw1 : wrap64 ((z : Int) - (q : Int)) = ((z - q : Nat) : Int) := by unfold wrap64; omega
  have hw2 : IntKind.i64.wrap ((z : Int) - (q : Int)) = ((z - q : Nat) : Int) := by rw [IntKind.wrap_i64]; omega
  have HF : Hid (∀ w1 : World, Below w.heap.size w w1 → PMap w1 w.heap.size R → w1.cell? ⟨b, 0, none⟩ = some (.map (some m)) ∧ w1.frozen? ⟨b, 0, none⟩ = false ∧ (Builtin.len_ #[48] 3 #[.map (some w.heap.size)]).run Try.prog (w1.setCell ⟨b, 0, none⟩ (.map (some w.heap.size))) = .ok (.int .i64 (q : Int)) (w1.setCell ⟨b, 0, none⟩ (.map (some w.heap.size)))) := Lib.hid (fun w1 hb hp => by
    have d1 := HD.out.below hb
    have hp2 : PMap (w1.setCell ⟨b, 0, none⟩ (.map (some w.heap.size))) w.heap.size R := hp.ap (S := fun k => k = b) (Ap.setCell (S := fun k => k = b) (p := ⟨b, 0, none⟩) (Ap.refl w1) (.inl rfl) _) (by have := HD.out.lt; omega)
    obtain ⟨D1, ho1, hh1, _⟩ := hp2
    have e := sizeP ho1 intKP Try.underlying3 (l := idsP R) (by rw [HRR.out]; exact idsP_rise HD.out.rise _) hh1
    have e2 : Maps.size D1 = q := by rw [e, HQ.out, HRR.out]; simp [idsP]
    refine ⟨d1.c0, d1.fz 0 (by omega), ?_⟩
    have h := ho1.len Try.underlying48 3
    rw [e2] at h; exact h)
  have hln := ho.len Try.underlying48 3
  rw [hsz] at hln
  clear d hh hsz h3 hq hR hz hn hl hwf
  go_enter Try.func11, Try.ntmps11
  go_wp2_with (first
    | (go_at_call 19; refine hO.mono ?_; rintro e w1 ⟨rfl, hp1, hb1⟩; obtain ⟨z0, z1, hln1⟩ := HF.out w1 hb1 hp1; have HP1 := Lib.hid hp1; have HB1 := Lib.hid hb1; clear hp1 hb1))
  go_ret
  have hap : Ap (fun k => k = b) w1 (w1.setCell ⟨b, 0, none⟩ (.map (some w.heap.size))) := Ap.setCell (S := fun k => k = b) (p := ⟨b, 0, none⟩) (Ap.refl w1) (.inl rfl) _
  have d1 := HD.out.below HB1.out
  have e0 := d1.c0
  have e1 := d1.c1
  have hne : w.heap.size ≠ b := by have := HD.out.lt; omega
  refine ⟨rfl, ⟨?_, ?_, ?_, ?_, HP1.out.ap hap hne, ?_, ?_, Ne.symm hne⟩, (Ap.of_below HB1.out).trans hap⟩
  · rw [World.size_setCell]; exact d1.lt
  · go_cell
  · go_cell
  · intro o ho'
    rw [World.frozen?_setCell]; exact d1.fz o ho'
  · rw [HRR.out]; exact idsP_rise HD.out.rise _
  · intro x hx
    rw [HRR.out] at hx
    exact HD.out.rng x (idsP_keep.1 hx).1
end Go.Proofs.Ytmnjcmpikbihaaa
