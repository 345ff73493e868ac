/- Reports of damage: the document's words of a line, and the number that digits are. -/
import Derived.Test.YtfmpbohiahjafaaGreatDoorDmgH
import Derived.OwnWalk
namespace Go.Proofs.YtfmpbohiahjafaaGreatDoor
open Go.RowKit Go.Lib

def encB (x : List UInt8) : List Value := [Bs x]
theorem encB_len (x : List UInt8) : (encB x).length = 1 := rfl
theorem encB_one (x : List UInt8) : ∀ u ∈ encB x, u.oneCell' = true := by
  intro u hu
  simp only [encB, List.mem_singleton] at hu
  rw [hu]; rfl
abbrev WsS (w : World) (v : Value) (L : List (List UInt8)) : Prop := StS 1 encB [] w v L
theorem strInf : ∃ i z, Tryz.prog.info? 9 = some i ∧ i.zero = some (.string z) ∧ i.size = 1 ∧ i.bytes = 16 := by
  have e : (Tryz.prog.info? 9).map (fun i => (i.zero, i.size, i.bytes)) = some (some (.string ByteArray.empty), 1, 16) := by kernel_rfl
  obtain ⟨i, hi, hz⟩ := Option.map_eq_some_iff.1 e
  simp only [Prod.mk.injEq] at hz
  exact ⟨i, _, hi, hz.1, hz.2.1, hz.2.2⟩
/-- A piece of a string. -/
theorem ext_piece (s : ByteArray) (a b : Nat) : s.extract a b = ⟨((s.data.toList.drop a).take (b - a)).toArray⟩ := by
  have h := Lib.extract_data s a b
  rw [← h, Array.toArray_toList]
/-- The walk over the bytes: pieces so far, the piece's begin, the place. -/
def WInv (c : UInt8) (l : List UInt8) (P : List (List UInt8)) (f i : Nat) : Prop :=
  (i ≤ l.length ∧ f ≤ i ∧ spl c l = P ++ spl c (l.drop f) ∧ c ∉ (l.drop f).take (i - f)) ∨ (i = l.length + 1 ∧ P = spl c l)
theorem winv_0 (c : UInt8) (l : List UInt8) : WInv c l [] 0 0 := .inl ⟨Nat.zero_le _, Nat.le_refl _, rfl, by simp⟩
theorem take_mid (l : List UInt8) {f i : Nat} (h1 : f ≤ i) (h2 : i < l.length) : l.drop f = (l.drop f).take (i - f) ++ l[i] :: l.drop (i + 1) := by
  have e : (l.drop f).drop (i - f) = l.drop i := by rw [List.drop_drop]; congr 1; omega
  have h := List.take_append_drop (i - f) (l.drop f)
  rw [e, List.drop_eq_getElem_cons h2] at h
  exact h.symm
theorem winv_cut {c : UInt8} {l : List UInt8} {P : List (List UInt8)} {f i : Nat} (h : WInv c l P f i) (hi : i < l.length) (hc : l[i] = c) : f ≤ i ∧ WInv c l (P ++ [(l.drop f).take (i - f)]) (i + 1) (i + 1) := by
  rcases h with ⟨_, h1, h2, h3⟩ | ⟨h, _⟩
  · refine ⟨h1, .inl ⟨hi, Nat.le_refl _, ?_, by simp⟩⟩
    rw [h2, List.append_assoc]
    congr 1
    conv => lhs; rw [take_mid l h1 hi, hc]
    rw [spl_app _ h3]; rfl
  · omega
theorem winv_end {c : UInt8} {l : List UInt8} {P : List (List UInt8)} {f : Nat} (h : WInv c l P f l.length) : f ≤ l.length ∧ WInv c l (P ++ [(l.drop f).take (l.length - f)]) (l.length + 1) (l.length + 1) := by
  rcases h with ⟨_, h1, h2, h3⟩ | ⟨h, _⟩
  · refine ⟨h1, .inr ⟨rfl, ?_⟩⟩
    have e : (l.drop f).take (l.length - f) = l.drop f := List.take_of_length_le (by simp)
    rw [e] at h3 ⊢
    rw [h2, spl_none h3]
  · omega
theorem winv_on {c : UInt8} {l : List UInt8} {P : List (List UInt8)} {f i : Nat} (h : WInv c l P f i) (hi : i < l.length) (hc : l[i] ≠ c) : WInv c l P f (i + 1) := by
  rcases h with ⟨_, h1, h2, h3⟩ | ⟨h, _⟩
  · refine .inl ⟨hi, by omega, h2, ?_⟩
    have e : (l.drop f).take (i + 1 - f) = (l.drop f).take (i - f) ++ [l[i]] := by
      have hlt : i - f < (l.drop f).length := by rw [List.length_drop]; omega
      rw [show i + 1 - f = (i - f) + 1 by omega, List.take_succ_eq_append_getElem hlt, List.getElem_drop]
      congr 3
      omega
    rw [e]
    intro hm
    rcases List.mem_append.1 hm with hm | hm
    · exact h3 hm
    · rw [List.mem_singleton] at hm; exact hc hm.symm
  · omega
theorem winv_len {c : UInt8} {l : List UInt8} {P : List (List UInt8)} {f i : Nat} (h : WInv c l P f i) : P.length ≤ l.length + 1 := by
  have h0 := spl_len_le c l
  rcases h with ⟨_, _, h2, _⟩ | ⟨_, rfl⟩
  · rw [h2, List.length_append] at h0; omega
  · exact h0
theorem one_str (s : ByteArray) : ∀ u ∈ ([.string s] : List Value), u.oneCell' = true := by
  intro u hu
  rw [List.mem_singleton] at hu
  rw [hu]; rfl
theorem flat_snocB (P : List (List UInt8)) (x : List UInt8) : (P ++ [x]).flatMap encB = P.flatMap encB ++ [Bs x] := flat_snoc P x
set_option maxHeartbeats 8000000 in
set_option maxRecDepth 100000 in
theorem refWords_any (s : ByteArray) (hs : s.size ≤ 1000000) (w : World) :
    Calls Tryz.prog 61 #[.string s] w fun e w' => ∃ r, e = .returned r ∧ w'.ownsRow w.heap.size 9 1 r (spl 32 s.data.toList).length ((spl 32 s.data.toList).flatMap encB) ∧ Below w.heap.size w w' := by
  obtain ⟨i0, z0, hi0, hz0, hz1, hz2⟩ := strInf
  obtain ⟨l, hl⟩ : ∃ l, l = s.data.toList := ⟨_, rfl⟩
  have hsz : s.size = l.length := by rw [hl]; simp
  have HS := Lib.hid hsz
  have HL := Lib.hid hl
  obtain ⟨n, hn⟩ : ∃ n, n = s.size := ⟨_, rfl⟩
  have HN := Lib.hid hn
  have hn1 : n ≤ 1000000 := by omega
  have HN1 := Lib.hid hn1
  have hsz2 : (s.size : Int) = (n : Int) := by rw [hn]
  rw [← hl]
  clear hl hsz hn hs
  go_enter Tryz.func61, Tryz.ntmps61
  go_wp2
  go_loopw [3, 4, 5] (fun vx fx ix wr => ∃ (P : List (List UInt8)) (z : Value) (f i : Nat), fx = .int .i64 (f : Int) ∧ ix = .int .i64 (i : Int) ∧ z = vx ∧ WInv 32 l P f i ∧ i ≤ n + 1 ∧ wr.ownsRow w.heap.size 9 1 z P.length (P.flatMap encB) ∧ Below w.heap.size w wr) (fun _ _ ix _ => n + 1 - (intOf ix).toNat)
  case atStart => exact ⟨[], _, 0, 0, rfl, rfl, rfl, winv_0 _ _, Nat.zero_le _, World.ownsRow_made w #[] 0 (Nat.le_refl _) (Nat.zero_le _) (by simp), below_new w _⟩
  case round =>
    obtain ⟨P, z, f, i, rfl, rfl, rfl, hinv, hin, hown, hb⟩ := hrel
    have HB := Lib.hid hb
    have HO := Lib.hid hown
    have HI := Lib.hid hinv
    have HIN := Lib.hid hin
    have hPl := winv_len hinv
    have HPL : Hid (P.length + 1 ≤ maxLen ∧ (P.length + 1) * 16 ≤ 140737488355328) := Lib.hid ⟨by have := HS.out; have := HN.out; unfold maxLen; omega, by have := HS.out; have := HN.out; omega⟩
    have hwi : wrap64 ((i : Int) + 1) = (i : Int) + 1 := by unfold wrap64; omega
    have HWI := Lib.hid hwi
    clear hb hown hinv hPl hwi
    by_cases hlt : i < n
    · have k1 : decide ((i : Int) ≤ (n : Int)) = true := decide_eq_true (by omega)
      have k2 : ((i : Int) == (n : Int)) = false := by rw [beq_eq_false_iff_ne]; omega
      have k3 : (i : Int) < (n : Int) := by omega
      clear hin
      have hsi : i < s.size := by have := HN.out; omega
      have hli : i < l.length := by rw [← HS.out]; exact hsi
      have hel : l[i] = s[i] := by
        have := HL.out
        subst this
        simp [ByteArray.getElem_eq_getElem_data]
      have HSZ : Hid (w.heap.size ≤ (wr.alloc (.cells #[.string (s.extract f i)] 9)).heap.size) := Lib.hid (by have := HB.out.size; simp; omega)
      have HO2 := Lib.hid (ownS_keep HO.out (below_new wr (.cells #[.string (s.extract f i)] 9)))
      by_cases hc : s[i] = 32
      · have k4 : (((s[i]).toNat : Int) == 32) = true := by rw [hc]; rfl
        obtain ⟨hf, hI2⟩ := winv_cut HI.out hli (hel.trans hc)
        have HI2 := Lib.hid hI2
        have k5 : (f : Int) ≤ (i : Int) := by omega
        have k6 : (i : Int) ≤ (s.size : Int) := by omega
        have k7 : (0 : Int) ≤ (f : Int) := by omega
        clear hel hc hI2 hf hli
        go_wp2_with (first
          | (at_builtin; (refine wpList_append_own _ rfl _ _ 89 rfl w.heap.size 9 i0 _ 1 16 Tryz.underlying89 hi0 hz0 hz1 hz2 rfl (by decide) _ _ _ rfl HO2.out ⟨wr.heap.size, 0, none⟩ 1 1 [.string (s.extract f i)] rfl rfl (new_cells wr [.string (s.extract f i)] _) (one_str _) HPL.out.1 HPL.out.2 HSZ.out ?_); intro v' w4 hown4 hgrow _; have HB4 : Hid (Below w.heap.size w w4) := Lib.hid ((HB.out.alloc HB.out.size _).grown hgrow HSZ.out (fun g hg => (World.ownsRow.lt HO2.out g hg).1)); have HO4 := Lib.hid hown4; clear hown4 hgrow))
        (try rw [HWI.out])
        (try rw [HWI.out])
        go_roundw
        case rel =>
          refine ⟨P ++ [(l.drop f).take (i - f)], _, i + 1, i + 1, by go_num, by go_num, rfl, HI2.out, by omega, ?_, HB4.out⟩
          rw [List.length_append, List.length_singleton, flat_snocB, HL.out, Bs, ← ext_piece]
          exact HO4.out
        case measure => simp only [intOf]; omega
      · have k4 : (((s[i]).toNat : Int) == 32) = false := by
          rw [beq_eq_false_iff_ne]; intro e; exact hc (UInt8.toNat_inj.1 (by have : (32 : UInt8).toNat = 32 := rfl; omega))
        have HI2 := Lib.hid (winv_on HI.out hli (fun e => hc (hel.symm.trans e)))
        clear hel hc hli HO2 HSZ
        go_wp2
        (try rw [HWI.out])
        go_roundw
        case rel => exact ⟨P, _, f, i + 1, rfl, by go_num, rfl, HI2.out, by omega, HO.out, HB.out⟩
        case measure => simp only [intOf]; omega
    · by_cases he : i = n
      · have k1 : decide ((i : Int) ≤ (n : Int)) = true := decide_eq_true (by omega)
        have k2 : ((i : Int) == (n : Int)) = true := by rw [beq_iff_eq]; omega
        have HSZ : Hid (w.heap.size ≤ (wr.alloc (.cells #[.string (s.extract f i)] 9)).heap.size) := Lib.hid (by have := HB.out.size; simp; omega)
        have HO2 := Lib.hid (ownS_keep HO.out (below_new wr (.cells #[.string (s.extract f i)] 9)))
        have hil : i = l.length := by rw [he, HN.out, HS.out]
        have hx := HI.out
        rw [hil] at hx
        obtain ⟨hf, hI2⟩ := winv_end hx
        rw [← hil] at hf hI2
        have HI2 := Lib.hid hI2
        have k5 : (f : Int) ≤ (i : Int) := by omega
        have k6 : (i : Int) ≤ (s.size : Int) := by have := HS.out; omega
        have k7 : (0 : Int) ≤ (f : Int) := by omega
        have HE := Lib.hid he
        clear hI2 hf hx hil hlt he
        go_wp2_with (first
          | (at_builtin; (refine wpList_append_own _ rfl _ _ 89 rfl w.heap.size 9 i0 _ 1 16 Tryz.underlying89 hi0 hz0 hz1 hz2 rfl (by decide) _ _ _ rfl HO2.out ⟨wr.heap.size, 0, none⟩ 1 1 [.string (s.extract f i)] rfl rfl (new_cells wr [.string (s.extract f i)] _) (one_str _) HPL.out.1 HPL.out.2 HSZ.out ?_); intro v' w4 hown4 hgrow _; have HB4 : Hid (Below w.heap.size w w4) := Lib.hid ((HB.out.alloc HB.out.size _).grown hgrow HSZ.out (fun g hg => (World.ownsRow.lt HO2.out g hg).1)); have HO4 := Lib.hid hown4; clear hown4 hgrow))
        (try rw [HWI.out])
        (try rw [HWI.out])
        go_roundw
        case rel =>
          refine ⟨P ++ [(l.drop f).take (i - f)], _, i + 1, i + 1, by go_num, by go_num, rfl, HI2.out, by have := HE.out; omega, ?_, HB4.out⟩
          rw [List.length_append, List.length_singleton, flat_snocB, HL.out, Bs, ← ext_piece]
          exact HO4.out
        case measure => have := HE.out; simp only [intOf]; omega
      · have k1 : decide ((i : Int) ≤ (n : Int)) = false := decide_eq_false (by omega)
        have hP : P = spl 32 l := by
          rcases HI.out with ⟨h1, _⟩ | ⟨_, h2⟩
          · have := HS.out; have := HN.out; omega
          · exact h2
        subst hP
        have k1' : ¬ i ≤ n := by omega
        clear hlt he
        go_wp2
        go_ret
        exact ⟨_, rfl, HO.out, HB.out⟩
theorem vlA_app (a b : List UInt8) : ∀ acc, vlA (a ++ b) acc = vlA b (vlA a acc) := by
  induction a with
  | nil => intro acc; rfl
  | cons x a ih => intro acc; exact ih _
theorem dg8_lt (b : UInt8) : dg8 b < 10 := by unfold dg8; omega
theorem vlA_bound : ∀ (a : List UInt8) (acc k : Nat), acc < 10 ^ k → vlA a acc < 10 ^ (k + a.length)
  | [], acc, k, h => h
  | x :: a, acc, k, h => by
    have hd := dg8_lt x
    have h1 : 10 * acc + dg8 x < 10 ^ (k + 1) := by rw [Nat.pow_succ]; omega
    have := vlA_bound a _ (k + 1) h1
    rw [List.length_cons, show k + (a.length + 1) = k + 1 + a.length by omega]
    exact this
theorem vlA_step {l : List UInt8} {i : Nat} (h : i < l.length) : vlA (l.take (i + 1)) 0 = 10 * vlA (l.take i) 0 + dg8 l[i] := by
  rw [List.take_succ_eq_append_getElem h, vlA_app]; rfl
theorem w64_a {a : Nat} (h : a < 1000000000000) : wrap64 (10 * (a : Int)) = 10 * (a : Int) := by unfold wrap64; omega
theorem w64_b {a d : Nat} (h : a < 1000000000000) (hd : d < 10) : wrap64 (10 * (a : Int) + (d : Int)) = 10 * (a : Int) + (d : Int) := by unfold wrap64; omega
theorem w64_c {i : Nat} (h : i < 12) : wrap64 ((i : Int) + 1) = (i : Int) + 1 := by unfold wrap64; omega
theorem u8_sub48 (b : UInt8) : IntKind.u8.wrap ((b.toNat : Int) - 48) = (((b.toNat + 208) % 256 : Nat) : Int) := by
  have := b.toNat_lt
  rw [IntKind.wrap_u8']; omega
set_option maxHeartbeats 8000000 in
set_option maxRecDepth 100000 in
theorem refValue_any (s : ByteArray) (hs : s.size ≤ 1000000) (w : World) :
    Calls Tryz.prog 62 #[.string s] w fun e w' => e = .returned (.int .i64 (refV s.data.toList)) ∧ w' = w := by
  obtain ⟨l, hl⟩ : ∃ l, l = s.data.toList := ⟨_, rfl⟩
  have hsz : s.size = l.length := by rw [hl]; simp
  have HS := Lib.hid hsz
  have HL := Lib.hid hl
  obtain ⟨n, hn⟩ : ∃ n, n = s.size := ⟨_, rfl⟩
  have HN := Lib.hid hn
  have hsz2 : (s.size : Int) = (n : Int) := by rw [hn]
  rw [← hl]
  have HN1 : Hid (n ≤ 1000000) := Lib.hid (by omega)
  clear hl hsz hn hs
  go_enter Tryz.func62, Tryz.ntmps62
  go_wp2
  go_loopw [3, 4] (fun vx ix wr => ∃ (i : Nat), ix = .int .i64 (i : Int) ∧ vx = .int .i64 ((vlA (l.take i) 0 : Nat) : Int) ∧ i ≤ n ∧ i ≤ 12 ∧ wr = w) (fun _ ix _ => n - (intOf ix).toNat)
  case atStart => exact ⟨0, rfl, rfl, Nat.zero_le _, Nat.zero_le _, rfl⟩
  case round =>
    obtain ⟨i, rfl, rfl, hin, hi12, rfl⟩ := hrel
    have HIN := Lib.hid hin
    have HI12 := Lib.hid hi12
    by_cases hlt : i < n ∧ i < 12
    · obtain ⟨hlt, hl12⟩ := hlt
      have hsi : i < s.size := by have := HN.out; omega
      have hli : i < l.length := by rw [← HS.out]; exact hsi
      have hel : l[i] = s[i] := by
        have := HL.out
        subst this
        simp [ByteArray.getElem_eq_getElem_data]
      have hst := vlA_step hli
      rw [hel] at hst
      have hbd := vlA_bound (l.take i) 0 0 (by decide)
      rw [List.length_take, Nat.zero_add] at hbd
      have hacc : vlA (l.take i) 0 < 1000000000000 := by
        have h1 : 10 ^ (min i l.length) ≤ 10 ^ 12 := Nat.pow_le_pow_right (by decide) (by omega)
        have h2 : (10 : Nat) ^ 12 = 1000000000000 := by decide
        omega
      have hk := u8_sub48 s[i]
      have hz : (s[i].toNat + 208) % 256 < 256 := Nat.mod_lt _ (by decide)
      have hd : dg8 s[i] = (s[i].toNat + 208) % 256 % 10 := rfl
      have k1 : i < n := hlt
      have k2 : i < 12 := hl12
      generalize (s[i].toNat + 208) % 256 = z at hk hz hd
      have hd2 : dg8 s[i] < 10 := dg8_lt _
      rw [hd] at hst hd2
      generalize vlA (l.take i) 0 = acc at hst hacc ⊢
      have h1 : ((z : Nat) : Int).tmod 10 = ((z % 10 : Nat) : Int) := by rw [Int.tmod_eq_emod_of_nonneg (by omega)]; omega
      have HW0 : Hid (IntKind.i64.wrap (z : Int) = (z : Int)) := Lib.hid (wrap_few (by omega))
      obtain ⟨d, hdd⟩ : ∃ d, d = z % 10 := ⟨_, rfl⟩
      rw [← hdd] at h1 hst hd2
      have HST : Hid (((vlA (l.take (i + 1)) 0 : Nat) : Int) = 10 * (acc : Int) + (d : Int)) := Lib.hid (by omega)
      have HW2 : Hid (wrap64 (10 * (acc : Int)) = 10 * (acc : Int)) := Lib.hid (w64_a hacc)
      have HW3 : Hid (wrap64 (10 * (acc : Int) + (d : Int)) = 10 * (acc : Int) + (d : Int)) := Lib.hid (w64_b hacc hd2)
      have HW4 : Hid (wrap64 ((i : Int) + 1) = (i : Int) + 1) := Lib.hid (w64_c hl12)
      have HW5 : Hid (IntKind.i64.wrap (d : Int) = (d : Int)) := Lib.hid (wrap_few (by omega))
      have HRR : Hid (i + 1 ≤ n ∧ i + 1 ≤ 12 ∧ n - (i + 1) < n - i) := Lib.hid ⟨by omega, by omega, by omega⟩
      clear hst hacc hbd hd hel hin hi12 hz hd2 hdd hli
      have e0 := HW0.out
      have k3 : decide ((i : Int) < 12) = true := decide_eq_true (by omega)
      go_wp2
      rw [HW2.out, HW3.out]
      go_roundw
      case rel => clear e0 h1 hk; exact ⟨i + 1, by go_num, by rw [HST.out], HRR.out.1, HRR.out.2.1, by first | rfl | trivial⟩
      case measure => clear e0 h1 hk; have := HRR.out.2.2; simp only [intOf]; omega
    · have hfin : refV l = ((vlA (l.take i) 0 : Nat) : Int) := by
        unfold refV
        congr 2
        by_cases h12 : i = 12
        · rw [h12]
        · have : i = n := by omega
          have := HN.out
          have := HS.out
          rw [List.take_of_length_le (by omega), List.take_of_length_le (by omega)]
      have HF := Lib.hid hfin
      generalize vlA (l.take i) 0 = acc at HF ⊢
      clear hfin
      by_cases h12 : i < n
      · have k2 : decide ((i : Int) < 12) = false := decide_eq_false (by omega)
        clear hlt
        go_wp2
        go_ret
        exact ⟨by rw [HF.out]; rfl, rfl⟩
      · clear hlt
        go_wp2
        go_ret
        exact ⟨by rw [HF.out]; rfl, rfl⟩
end Go.Proofs.YtfmpbohiahjafaaGreatDoor
