/- Scripts: the program's text of a word. -/
import Derived.Test.YtfmpbohiahjafaaDoorScrC
import Derived.Test.YtfmpbohiahjafaaDoorRows8
import Derived.Deep.RegionHeld3
import Derived.Deep.DeepCutAuto
namespace Go.Proofs.YtfmpbohiahjafaaDoor
open Go.RowKit Go.Lib Go.Shelf Go.Sort

theorem unhex_app : ∀ (k : Nat) (p q : List UInt8), p.length = 2 * k → unhex (p ++ q) = match unhex p with | some P => (unhex q).map fun Q => P ++ Q | none => none
  | 0, p, q, h => by
    obtain rfl : p = [] := List.length_eq_zero_iff.1 (by omega)
    rw [List.nil_append]
    show unhex q = (unhex q).map fun Q => [] ++ Q
    cases unhex q <;> rfl
  | k + 1, [], q, h => by simp at h
  | k + 1, [a], q, h => by simp at h; omega
  | k + 1, a :: b :: r, q, h => by
    have ih := unhex_app k r q (by simp at h; omega)
    show unhex (a :: b :: (r ++ q)) = _
    rw [unhex, unhex, ih]
    by_cases hd : dgX a < 0 ∨ dgX b < 0
    · rw [if_pos hd, if_pos hd]
    · rw [if_neg hd, if_neg hd]
      cases unhex r with
      | none => rfl
      | some R => cases unhex q <;> rfl
theorem unhex_odd : ∀ (k : Nat) (p : List UInt8), p.length = 2 * k + 1 → unhex p = none
  | 0, p, h => by
    match p, h with
    | [a], _ => rfl
  | k + 1, [], h => by simp at h
  | k + 1, [a], h => by simp at h
  | k + 1, a :: b :: r, h => by
    rw [unhex, unhex_odd k r (by simp at h; omega)]
    split <;> rfl
theorem take_two {l : List UInt8} {i : Nat} (h : 2 * i + 1 < l.length) : l.take (2 * (i + 1)) = l.take (2 * i) ++ [l[2 * i], l[2 * i + 1]] := by
  rw [show 2 * (i + 1) = 2 * i + 1 + 1 by omega, List.take_succ_eq_append_getElem h, List.take_succ_eq_append_getElem (by omega), List.append_assoc]; rfl
theorem unhex_good {l : List UInt8} {i : Nat} {T : List UInt8} (h : 2 * i + 1 < l.length) (hu : unhex (l.take (2 * i)) = some T) (ha : ¬ dgX l[2 * i] < 0) (hb : ¬ dgX l[2 * i + 1] < 0) : unhex (l.take (2 * (i + 1))) = some (T ++ [UInt8.ofNat ((dgX l[2 * i]).toNat * 16 + (dgX l[2 * i + 1]).toNat)]) := by
  rw [take_two h, unhex_app i _ _ (by rw [List.length_take]; omega), hu]
  show (unhex [l[2 * i], l[2 * i + 1]]).map _ = _
  rw [unhex, if_neg (by omega)]
  rfl
theorem unhex_bad {l : List UInt8} {i : Nat} {T : List UInt8} (h : 2 * i + 1 < l.length) (hu : unhex (l.take (2 * i)) = some T) (hd : dgX l[2 * i] < 0 ∨ dgX l[2 * i + 1] < 0) : unhex l = none := by
  have e : l = l.take (2 * i) ++ (l[2 * i] :: l[2 * i + 1] :: l.drop (2 * i + 2)) := by
    conv => lhs; rw [← List.take_append_drop (2 * i) l]
    congr 1
    rw [List.drop_eq_getElem_cons (by omega), List.drop_eq_getElem_cons h]
  conv => lhs; rw [e]
  rw [unhex_app i _ _ (by rw [List.length_take]; omega), hu]
  show (unhex (l[2 * i] :: l[2 * i + 1] :: l.drop (2 * i + 2))).map _ = _
  rw [unhex, if_pos hd]
  rfl
theorem or16 : ∀ n : Nat, n < 16 → ∀ m : Nat, m < 16 → bits .or .i64 ((n : Int) * 16) (m : Int) = (n : Int) * 16 + (m : Int) ∧ IntKind.u8.wrap ((n : Int) * 16 + (m : Int)) = ((UInt8.ofNat (n * 16 + m)).toNat : Int) := by decide +kernel
theorem byteAt (l : List UInt8) {j : Nat} (h : j < (⟨l.toArray⟩ : ByteArray).size) {k : Nat} (e : j = k) (hk : k < l.length) : (⟨l.toArray⟩ : ByteArray)[j]'h = l[k] := by
  subst e
  simp [ByteArray.getElem_eq_getElem_data]
/-- What toText answers. -/
def TAns (s : List UInt8) (e : Ending) : Prop := (∃ v, texB s = some v ∧ e = .returned (.tuple #[Bs v, .bool true])) ∨ texB s = none ∧ e = .returned (.tuple #[Bs [], .bool false])
set_option maxHeartbeats 8000000 in
set_option maxRecDepth 100000 in
theorem toText_any {l : List UInt8} (hl : l.length ≤ 100000000) (w : World) :
    Calls Tryd.prog 41 #[.string ⟨l.toArray⟩] w fun e w' => TAns l e ∧ Below w.heap.size w w' := by
  by_cases h45 : l = [45]
  · subst h45
    go_enter Tryd.func41, Tryd.ntmps41
    go_wp2
    go_ret2
    exact ⟨.inl ⟨[], rfl, rfl⟩, Below.refl _ _⟩
  have k45 : (l == [45]) = false := by rw [beq_eq_false_iff_ne]; exact h45
  by_cases h0 : l = []
  · subst h0
    go_enter Tryd.func41, Tryd.ntmps41
    go_wp2
    go_ret2
    exact ⟨.inr ⟨rfl, rfl⟩, Below.refl _ _⟩
  have k0 : (l == []) = false := by rw [beq_eq_false_iff_ne]; exact h0
  have k0' : l.isEmpty = false := by cases l with | nil => exact absurd rfl h0 | cons a r => rfl
  have hsz2 := bsz l
  by_cases hodd : l.length % 2 = 1
  · have hno : texB l = none := by
      unfold texB
      rw [if_neg h45]
      split
      · rfl
      · exact unhex_odd (l.length / 2) l (by omega)
    have k1 : ((l.length : Int).tmod 2 != 0) = true := by rw [bne_iff_ne, Int.tmod_eq_emod_of_nonneg (by omega)]; omega
    have k2 : ((l.length : Int) % 2 != 0) = true := by rw [bne_iff_ne]; omega
    have k3 : ((l.length : Int) % 2 == 0) = false := by rw [beq_eq_false_iff_ne]; omega
    have HNO := Lib.hid hno
    clear hodd hno h0 h45 hl
    go_enter Tryd.func41, Tryd.ntmps41
    go_wp2
    go_ret2
    exact ⟨.inr ⟨HNO.out, rfl⟩, Below.refl _ _⟩
  have q1 : ((l.length : Int).tmod 2 != 0) = false := by rw [bne_eq_false_iff_eq, Int.tmod_eq_emod_of_nonneg (by omega)]; omega
  have q2 : ((l.length : Int) % 2 != 0) = false := by rw [bne_eq_false_iff_eq]; omega
  have q3 : ((l.length : Int) % 2 == 0) = true := by rw [beq_iff_eq]; omega
  by_cases hlong : 16384 < l.length
  · have hno : texB l = none := by
      unfold texB
      rw [if_neg h45, if_pos (.inr hlong)]
    have d1 : decide ((16384 : Int) < (l.length : Int)) = true := decide_eq_true (by omega)
    have HNO := Lib.hid hno
    clear hodd hno h0 h45 hl hlong
    go_enter Tryd.func41, Tryd.ntmps41
    go_wp2
    go_ret2
    exact ⟨.inr ⟨HNO.out, rfl⟩, Below.refl _ _⟩
  have d1 : decide ((16384 : Int) < (l.length : Int)) = false := decide_eq_false (by omega)
  have htx : texB l = unhex l := by
    unfold texB
    rw [if_neg h45, if_neg (by rintro (h | h); exact h0 h; exact hlong h)]
  have HTX := Lib.hid htx
  obtain ⟨m, hm⟩ : ∃ m, l.length = 2 * m := ⟨l.length / 2, by omega⟩
  obtain ⟨n, hn⟩ : ∃ n, n = l.length := ⟨_, rfl⟩
  have HM : Hid (l.length = 2 * m ∧ m ≤ 8192 ∧ n = l.length) := Lib.hid ⟨hm, by omega, hn⟩
  rw [← hn] at q1 q2 q3 d1 hsz2
  have q4 : (n : Int).tdiv 2 = (m : Int) := by rw [Int.tdiv_eq_ediv_of_nonneg (by omega)]; omega
  have q5 : (n : Int) / 2 = (m : Int) := by omega
  have q6 : wrap64 (m : Int) = (m : Int) := by unfold wrap64; omega
  have hnl : l.length = n := hn.symm
  obtain ⟨i0, hi0, hz0, hz1, hz2⟩ := u8Inf
  have hmk := run_make (P := Tryd.prog) w 62 5 i0 _ Tryd.underlying62 hi0 hz0 .i64 .i64 (m : Int) (m : Int) (by omega) (Int.le_refl _) (by rw [hz2]; omega) (by omega)
  obtain ⟨w1, hw1⟩ : ∃ w1, w1 = w.alloc (.cells (madeCells (Value.int .u8 0).cells ((m : Int).toNat * i0.size)) 5) := ⟨_, rfl⟩
  rw [← hw1, Int.toNat_natCast] at hmk
  have HB1 : Hid (Below w.heap.size w w1) := Lib.hid (by rw [hw1]; exact below_new w _)
  have HR1 : Hid (Row8 w1 w.heap.size 0 (List.replicate m 0)) := Lib.hid (by rw [hw1, hz1, Nat.mul_one, Int.toNat_natCast]; exact row_made w m _)
  clear hw1 hn hm hlong hodd h0 h45 hl htx
  go_enter Tryd.func41, Tryd.ntmps41
  go_upto_region 7 with fail
  clear hmk q1 q2 q3 q4 q5 q6 d1 k45 k0 k0'
  go_loopw [5, 6, 7, 29] (fun _ _ _ ix wr => ∃ (i : Nat) (V : List UInt8), ix = .int .i64 (i : Int) ∧ i ≤ m ∧ V.length = m ∧ unhex (l.take (2 * i)) = some (V.take i) ∧ Row8 wr w.heap.size 0 V ∧ Below w.heap.size w wr) (fun _ _ _ ix _ => m - (RowKit.intOf ix).toNat)
  case atStart => exact ⟨0, List.replicate m 0, rfl, Nat.zero_le _, List.length_replicate .., rfl, HR1.out, HB1.out⟩
  case round =>
    obtain ⟨i, V, rfl, hi, hVl, hu, hr, hb⟩ := hrel
    have HB := Lib.hid hb
    have HR := Lib.hid hr
    have HU := Lib.hid hu
    have HVL := Lib.hid hVl
    clear hb hr hu hVl
    by_cases hlt : i < m
    · have k1 : decide ((i : Int) < (m : Int)) = true := decide_eq_true (by omega)
      have k2 : (i : Int) < (m : Int) := by omega
      have h2 : 2 * i + 1 < l.length := by have := HM.out; omega
      have c0 : (0 : Int) ≤ 2 * (i : Int) := by omega
      have c1 : 2 * (i : Int) < (n : Int) := by have := HM.out; omega
      have c2 : (0 : Int) ≤ 2 * (i : Int) + 1 := by omega
      have c3 : 2 * (i : Int) + 1 < (n : Int) := by have := HM.out; omega
      have e1 : IntKind.i64.wrap (2 * (i : Int)) = 2 * (i : Int) := by have := HM.out; rw [IntKind.wrap_i64]; omega
      have e2 : IntKind.i64.wrap (2 * (i : Int) + 1) = 2 * (i : Int) + 1 := by have := HM.out; rw [IntKind.wrap_i64]; omega
      have z1 : (2 * (i : Int)).toNat < (⟨l.toArray⟩ : ByteArray).size := by rw [hsz2]; omega
      have z2 : (2 * (i : Int) + 1).toNat < (⟨l.toArray⟩ : ByteArray).size := by rw [hsz2]; omega
      have hne1 := byteAt l z1 (k := 2 * i) (by omega) (by omega)
      have hne2 := byteAt l z2 (k := 2 * i + 1) (by omega) (by omega)
      have HGO := fun ha hb => unhex_good h2 HU.out ha hb
      have HBA := fun hd => unhex_bad h2 HU.out hd
      generalize l[2 * i] = a at hne1 HGO HBA
      generalize l[2 * i + 1] = b at hne2 HGO HBA
      have hwi : wrap64 ((i : Int) + 1) = (i : Int) + 1 := by have := HM.out; unfold wrap64; omega
      have HWI := Lib.hid hwi
      clear hwi
      have hA := dgX_any a
      have hB := dgX_any b
      by_cases hd : dgX a < 0 ∨ dgX b < 0
      · have HNO : Hid (texB l = none) := Lib.hid (HTX.out.trans (HBA hd))
        obtain ⟨x, hx⟩ : ∃ x, x = dgX a := ⟨_, rfl⟩
        obtain ⟨y, hy⟩ : ∃ y, y = dgX b := ⟨_, rfl⟩
        rw [← hx] at hA hd
        rw [← hy] at hB hd
        clear HGO HBA hx hy
        go_upto_region 9 with fail
        go_cut [6, 7] (fun s6 s7 wx => s6 = .int .i64 x ∧ s7 = .int .i64 y ∧ Below w.heap.size w wx)
        case first =>
          go_region_held3 (fun _ => True) (exact trivial)
            (first
            | (go_at_call 57; (with_reducible refine (hA _).mono ?_); rintro e' w5 ⟨rfl, rfl⟩)
            | (go_at_call 57; (with_reducible refine (hB _).mono ?_); rintro e' w5 ⟨rfl, rfl⟩))
          all_goals go_wp2_with fail
          all_goals go_meet
          all_goals exact ⟨rfl, rfl, HB.out.drew⟩
        case rest =>
          obtain ⟨rfl, rfl, hbc⟩ := hcut
          have HBC := Lib.hid hbc
          clear hbc hA hB hne1 hne2 e1 e2 c0 c1 c2 c3 z1 z2 k2 h2
          by_cases hx0 : x < 0
          · have d1 : decide (x < 0) = true := decide_eq_true hx0
            go_wp2
            go_ret2
            exact ⟨.inr ⟨HNO.out, rfl⟩, HBC.out⟩
          · have d1 : decide (x < 0) = false := decide_eq_false hx0
            have hy0 : y < 0 := by omega
            have d2 : decide (y < 0) = true := decide_eq_true hy0
            go_wp2
            go_ret2
            exact ⟨.inr ⟨HNO.out, rfl⟩, HBC.out⟩
      · obtain ⟨x, hx16, hxe, -⟩ := dgX_is (c := a) (by omega)
        obtain ⟨y, hy16, hye, -⟩ := dgX_is (c := b) (by omega)
        have hg := HGO (by omega) (by omega)
        rw [hxe, hye, Int.toNat_natCast, Int.toNat_natCast] at hg
        obtain ⟨o1, o2⟩ := or16 x hx16 y hy16
        obtain ⟨bb, hbb⟩ : ∃ bb, bb = UInt8.ofNat (x * 16 + y) := ⟨_, rfl⟩
        rw [← hbb] at o2 hg
        have HG := Lib.hid hg
        rw [hxe] at hA
        rw [hye] at hB
        have o3 : wrap64 ((x : Int) * 16) = (x : Int) * 16 := by unfold wrap64; omega
        have o4 : IntKind.i64.wrap ((x : Int) * 16) = (x : Int) * 16 := by rw [IntKind.wrap_i64]; omega
        have HO : Hid (wrap64 ((x : Int) * 16) = (x : Int) * 16 ∧ IntKind.i64.wrap ((x : Int) * 16) = (x : Int) * 16 ∧ bits .or .i64 ((x : Int) * 16) (y : Int) = (x : Int) * 16 + (y : Int) ∧ IntKind.u8.wrap ((x : Int) * 16 + (y : Int)) = (bb.toNat : Int)) := Lib.hid ⟨o3, o4, o1, o2⟩
        have d1 : decide ((x : Int) < 0) = false := decide_eq_false (by omega)
        have d2 : decide ((y : Int) < 0) = false := decide_eq_false (by omega)
        have HIL : Hid (i < m) := Lib.hid hlt
        clear HGO HBA hg hbb o1 o2 o3 o4 hd hxe hye hx16 hy16
        go_upto_region 9 with fail
        go_cut [6, 7] (fun s6 s7 wx => s6 = .int .i64 (x : Int) ∧ s7 = .int .i64 (y : Int) ∧ wx = wr.drew)
        case first =>
          go_region_held3 (fun _ => True) (exact trivial)
            (first
            | (go_at_call 57; (with_reducible refine (hA _).mono ?_); rintro e' w5 ⟨rfl, rfl⟩)
            | (go_at_call 57; (with_reducible refine (hB _).mono ?_); rintro e' w5 ⟨rfl, rfl⟩))
          all_goals go_wp2_with fail
          all_goals go_meet
          all_goals exact ⟨rfl, rfl, rfl⟩
        case rest =>
          obtain ⟨rfl, rfl, rfl⟩ := hcut
          clear hA hB hne1 hne2 e1 e2 c0 c1 c2 c3 z1 z2 h2
          obtain ⟨y0, f0⟩ := HR.out.2 i (by rw [HVL.out]; exact HIL.out)
          rw [Nat.zero_add] at y0 f0
          obtain ⟨o3, o4, o1, o2⟩ := HO.out
          go_wp2
          (try rw [HWI.out])
          go_roundw
          case rel =>
            have hs := (HR.out.drew).set i (by rw [HVL.out]; exact HIL.out) bb
            rw [Nat.zero_add] at hs
            refine ⟨i + 1, V.set i bb, by go_num, HIL.out, by rw [List.length_set]; exact HVL.out, ?_, hs, below_set HB.out.drew (Nat.le_refl _)⟩
            rw [HG.out]
            have hv := HVL.out
            have hi2 := HIL.out
            rw [List.take_succ_eq_append_getElem (by rw [List.length_set, hv]; exact hi2), List.take_set_of_le (Nat.le_refl _), List.getElem_set_self]
          case measure => simp only [RowKit.intOf]; have := HIL.out; omega
    · have k1 : decide ((i : Int) < (m : Int)) = false := decide_eq_false (by omega)
      have k1n : ¬ (i : Int) < (m : Int) := by omega
      have him : i = m := by omega
      have hcv := fun W (h : Row8 W w.heap.size 0 V) => string_of_row (cap := m) m HVL.out.symm h 62 9 5 (P := Tryd.prog) Tryd.underlying62 Tryd.underlying5 Tryd.underlying9
      have hcv2 := hcv wr HR.out
      have HX : Hid (texB l = some V) := Lib.hid (by
        have h1 := HU.out
        have h3 := HM.out
        rw [him, List.take_of_length_le (by omega), List.take_of_length_le (by rw [HVL.out]; exact Nat.le_refl _)] at h1
        rw [HTX.out, h1])
      clear him hcv
      go_wp2
      go_ret2
      exact ⟨.inl ⟨V, HX.out, rfl⟩, HB.out⟩
end Go.Proofs.YtfmpbohiahjafaaDoor
