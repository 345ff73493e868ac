/- Spans: Over, the program's and the document's. -/
import Derived.Test.YtdcpgjkaimekbaaSpnK
namespace Go.Proofs.Ytdcpgjkaimekbaa
open Go.RowKit

def ovE (was : ByteArray) (x : SP) (part : ByteArray) : Int := if fitB (was.size : Int) x part.size = true then 0 else 2
def ovP (was : ByteArray) (x : SP) (part : ByteArray) : List ByteArray := [was.extract 0 x.f.toNat, part, was.extract x.t.toNat was.size]
def ovL (was : ByteArray) (x : SP) (part : ByteArray) : List UInt8 := if fitB (was.size : Int) x part.size = true then catL (ovP was x part) else []
theorem ov_no {was part : ByteArray} {x : SP} (h : fitB (was.size : Int) x part.size = false) : ovE was x part = 2 ∧ ovL was x part = [] :=
  ⟨if_neg (by rw [h]; decide), if_neg (by rw [h]; decide)⟩
theorem ov_yes {was part : ByteArray} {x : SP} (h : fitB (was.size : Int) x part.size = true) : ovE was x part = 0 ∧ ovL was x part = catL (ovP was x part) := ⟨if_pos h, if_pos h⟩
theorem ov_len {was part : ByteArray} {x : SP} (h : fitB (was.size : Int) x part.size = true) : catN (ovP was x part) = was.size := by
  obtain ⟨h1, h2, h3, h4⟩ := (fitB_iff _ _ _).1 h
  unfold catN ovP
  simp only [List.map_cons, List.map_nil, List.sum_cons, List.sum_nil, ByteArray.size_extract]
  omega
theorem three_str (W : World) (a b c : ByteArray) (t : TypeId) : StrL (W.alloc (.cells #[.string a, .string b, .string c] t)) (.slice (some ⟨W.heap.size, 0, none⟩) 3 3) [a, b, c] := by
  refine ⟨_, 3, rfl, Nat.le_refl _, by unfold maxLen; decide, .inr ⟨W.heap.size, 0, rfl, by simp, fun j hj q u hu => ?_⟩⟩
  have hn := new_cells W [.string a, .string b, .string c] t
  have e : ∀ i u, ([.string a, .string b, .string c] : List Value)[i]? = some u → (W.alloc (.cells #[.string a, .string b, .string c] t)).cell? ⟨W.heap.size, i, none⟩ = some u := fun i u h => by have := hn i u h; rwa [add_mid0] at this
  have hq : q = 0 := by
    have := (List.getElem?_eq_some_iff.1 hu).1
    rw [sEnc_len] at this; omega
  subst hq
  rw [Nat.zero_add, Nat.mul_one, Nat.add_zero]
  match j, hj with
  | 0, _ => injection hu with hu; rw [← hu]; exact e 0 _ rfl
  | 1, _ => injection hu with hu; rw [← hu]; exact e 1 _ rfl
  | 2, _ => injection hu with hu; rw [← hu]; exact e 2 _ rfl
set_option maxRecDepth 100000 in
set_option maxHeartbeats 4000000 in
theorem spanOver_any (was part : ByteArray) (x : SP) (w : World) (hr : was.size ≤ 140737488351232) :
    Calls Try.prog 33 #[.string was, spV x, .string part] w fun e w' => e = .returned (.tuple #[.string ⟨(ovL was x part).toArray⟩, .int .i64 (ovE was x part)]) ∧ Below w.heap.size w w' := by
  have hF := fits_any (was.size : Int) x part
  have HK := Lib.hid (Sp3.new w x 63)
  have HBX := Lib.hid (below_new w (.cells #[.int .i64 x.b, .int .i64 x.f, .int .i64 x.t] 63))
  have hsz : (was.size : Int) ≤ 9223372036854775807 := by omega
  cases hf : fitB (was.size : Int) x part.size
  · have HE := Lib.hid (ov_no hf)
    rw [hf] at hF
    clear hf
    obtain ⟨pb, pf, pt⟩ := x
    unfold spV at hF ⊢
    dsimp only at hF HK HBX ⊢
    obtain ⟨_, x0, x1, x2⟩ := HK.out
    go_enter Try.func33, Try.ntmps33
    go_wp2_with (go_at_call 46; refine (hF _ hsz).mono ?_; rintro e w5 ⟨rfl, hb5⟩; have HB5 := Lib.hid (HBX.out.trans (hb5.mono (by simp))); clear hb5)
    go_ret2
    rw [HE.out.1, HE.out.2]
    exact ⟨rfl, HB5.out⟩
  · have HE := Lib.hid (ov_yes hf)
    have HN := Lib.hid (ov_len hf)
    obtain ⟨g1, g2, g3, g4⟩ := (fitB_iff _ _ _).1 hf
    rw [hf] at hF
    clear hf
    obtain ⟨pb, pf, pt⟩ := x
    unfold spV at hF ⊢
    dsimp only at hF HK HBX g1 g2 g3 g4 ⊢
    obtain ⟨F, rfl⟩ : ∃ F : Nat, pf = (F : Int) := ⟨pf.toNat, by omega⟩
    obtain ⟨T, rfl⟩ : ∃ T : Nat, pt = (T : Int) := ⟨pt.toNat, by omega⟩
    have hFT : F ≤ T := by omega
    have hTS : T ≤ was.size := by omega
    have hT2 := fun (W : World) => together_any (ovP was ⟨pb, (F : Int), (T : Int)⟩ part) _ _ ((three_str W _ _ _ 9).below ((Below.refl _ _).drew) (Nat.le_refl _)) (by rw [HN.out]; omega)
    unfold ovP at hT2 HE
    dsimp only at hT2 HE
    rw [Int.toNat_natCast, Int.toNat_natCast] at hT2 HE
    obtain ⟨_, x0, x1, x2⟩ := HK.out
    clear g1 g2 g3 g4
    go_enter Try.func33, Try.ntmps33
    go_wp2_with (go_at_call 46; refine (hF _ hsz).mono ?_; rintro e w5 ⟨rfl, hb5⟩; have HB5 := Lib.hid (HBX.out.trans (hb5.mono (by simp))); have HK5 := Lib.hid (HK.out.below hb5); clear hb5)
    clear x0 x1 x2
    obtain ⟨_, x0, x1, x2⟩ := HK5.out
    dsimp only at x0 x1 x2
    go_region_with (first | (go_at_call 47; refine (hT2 _).mono ?_; rintro e w6 ⟨rfl, hb6⟩; have HB6 : Hid (Below w.heap.size w w6) := Lib.hid (((HB5.out.alloc HB5.out.size _).drew).trans (hb6.mono (by have := HB5.out.size; simp; omega))); clear hb6))
    all_goals
      go_wp2
      go_ret2
      rw [HE.out.1, HE.out.2]
      exact ⟨rfl, HB6.out⟩
theorem cat3 (a b c : ByteArray) : a ++ b ++ c = ⟨(catL [a, b, c]).toArray⟩ := by
  apply ByteArray.ext
  rw [ByteArray.data_append, ByteArray.data_append]
  apply Array.ext'
  unfold catL
  simp
set_option maxRecDepth 100000 in
set_option maxHeartbeats 4000000 in
theorem rOver_any (was part : ByteArray) (x : SP) (w : World) (hr : was.size ≤ 140737488351232) :
    Calls Try.prog 34 #[.string was, spV x, .string part] w fun e w' => e = .returned (.tuple #[.string ⟨(ovL was x part).toArray⟩, .int .i64 (ovE was x part)]) ∧ Below w.heap.size w w' := by
  have HK := Lib.hid (Sp3.new w x 63)
  have HBX := Lib.hid (below_new w (.cells #[.int .i64 x.b, .int .i64 x.f, .int .i64 x.t] 63))
  have HNE : Hid (fitB (was.size : Int) x part.size = false → ovE was x part = 2 ∧ ovL was x part = []) := Lib.hid ov_no
  have HEQ : Hid (fitB (was.size : Int) x part.size = true → ovE was x part = 0 ∧ ovL was x part = catL (ovP was x part)) := Lib.hid ov_yes
  obtain ⟨pb, pf, pt⟩ := x
  unfold spV
  dsimp only at HK HBX HNE HEQ ⊢
  rw [← Bool.not_eq_true, fitB_iff] at HNE
  rw [fitB_iff] at HEQ
  dsimp only at HNE HEQ
  obtain ⟨_, x0, x1, x2⟩ := HK.out
  dsimp only at x0 x1 x2
  obtain ⟨m, hm⟩ : ∃ m, m = part.size := ⟨_, rfl⟩
  have hm1 : (part.size : Int) = (m : Int) := by rw [hm]
  obtain ⟨n, hn⟩ : ∃ n, n = was.size := ⟨_, rfl⟩
  have hn1 : (was.size : Int) = (n : Int) := by rw [hn]
  have hnb : n ≤ 140737488351232 := by omega
  have HMS := Lib.hid hm
  have HNS := Lib.hid hn
  rw [hm1, hn1] at HNE HEQ
  clear hm hn
  by_cases g1 : pf < 0
  · have d1 : decide (pf < (0 : Int)) = true := decide_eq_true g1
    have HE := Lib.hid (HNE.out (fun h => by omega))
    go_enter Try.func34, Try.ntmps34
    go_wp2
    go_ret2
    rw [HE.out.1, HE.out.2]
    exact ⟨rfl, HBX.out⟩
  have d1 : decide (pf < (0 : Int)) = false := decide_eq_false g1
  by_cases g2 : (n : Int) < pt
  · have d2 : decide ((n : Int) < pt) = true := decide_eq_true g2
    have HE := Lib.hid (HNE.out (fun h => by omega))
    go_enter Try.func34, Try.ntmps34
    go_wp2
    go_ret2
    rw [HE.out.1, HE.out.2]
    exact ⟨rfl, HBX.out⟩
  have d2 : decide ((n : Int) < pt) = false := decide_eq_false g2
  by_cases g3 : pt < pf
  · have d3 : decide (pt < pf) = true := decide_eq_true g3
    have HE := Lib.hid (HNE.out (fun h => by omega))
    go_enter Try.func34, Try.ntmps34
    go_wp2
    go_ret2
    rw [HE.out.1, HE.out.2]
    exact ⟨rfl, HBX.out⟩
  have d3 : decide (pt < pf) = false := decide_eq_false g3
  by_cases g4 : (m : Int) = pt - pf
  · have d4 : ((m : Int) == pt - pf) = true := by rw [beq_iff_eq]; exact g4
    have d5 : ((m : Int) != pt - pf) = false := by rw [bne_eq_false_iff_eq]; exact g4
    have HE := Lib.hid (HEQ.out (by omega))
    obtain ⟨F, rfl⟩ : ∃ F : Nat, pf = (F : Int) := ⟨pf.toNat, by omega⟩
    obtain ⟨T, rfl⟩ : ∃ T : Nat, pt = (T : Int) := ⟨pt.toNat, by omega⟩
    have hFT : F ≤ T := by omega
    have hTS : T ≤ was.size := by have := HNS.out; omega
    have hFS : F ≤ was.size := by omega
    have hmT : m ≤ 140737488351232 := by omega
    have hps : part.size ≤ 140737488351232 := by have := HMS.out; omega
    have hs1 : (was.extract 0 F).size = F := by rw [ByteArray.size_extract]; omega
    have hs2 : (was.extract T was.size).size = was.size - T := by rw [ByteArray.size_extract]; omega
    have h3 := cat3 (was.extract 0 F) part (was.extract T was.size)
    unfold ovP at HE
    dsimp only at HE
    rw [Int.toNat_natCast, Int.toNat_natCast, ] at HE
    have H3 := Lib.hid h3
    clear g4 h3
    go_enter Try.func34, Try.ntmps34
    go_wp2
    trace_state
    go_quiet (fail)
    trace_state
    go_wp2
    go_ret2
    rw [HE.out.1, HE.out.2, ← H3.out]
    exact ⟨rfl, below_drewN HBX.out _⟩
  · have d4 : ((m : Int) == pt - pf) = false := by rw [beq_eq_false_iff_ne]; exact g4
    have d5 : ((m : Int) != pt - pf) = true := by rw [bne_iff_ne]; exact g4
    have HE := Lib.hid (HNE.out (fun h => g4 h.2.2.2))
    clear g4
    go_enter Try.func34, Try.ntmps34
    go_wp2
    go_ret2
    rw [HE.out.1, HE.out.2]
    exact ⟨rfl, HBX.out⟩
end Go.Proofs.Ytdcpgjkaimekbaa
