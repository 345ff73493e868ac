/- The document's answers for devices: Bytes. -/
import Derived.Test.YtmbjcphhfnemgaaRdH
import Derived.Test.YtmbjcphhfnemgaaRdZ
namespace Go.Proofs.Ytmbjcphhfnemgaa
open Go.RowKit Go.Maps

set_option maxRecDepth 10000 in
set_option maxHeartbeats 1000000 in
theorem refBytes_any {w : World} {v : Value} {M : DM} (k : RefAt w v M) (hn : M.n ≤ 64) (hlen : ∀ i, i < M.n → (M.sure i).length = 512) :
    Calls Try.prog 21 #[v] w fun e w' => e = .returned (.string ⟨(preB M M.n).toArray⟩) ∧ Below w.heap.size w w' := by
  obtain ⟨n, su, fr, bd, ct, dn, lf⟩ := M
  obtain ⟨b, cap, rfl, h1, h2, h3⟩ := k
  dsimp only at h1 h3
  have hblt := h3.1
  have HB := Lib.hid (below1 w (.cells #[.slice (some ⟨b, 0, none⟩) n cap, .bool dn, .int .i64 lf, .int .i64 (ct : Int)] 30))
  have HX := Lib.hid (Bx.new w (.slice (some ⟨b, 0, none⟩) n cap) (.bool dn) (.int .i64 lf) (.int .i64 (ct : Int)) 30)
  have HL := Lib.hid (h3.below HB.out)
  obtain ⟨W0, hW⟩ : ∃ W0 : World, W0 = w.alloc (.cells #[.slice (some ⟨b, 0, none⟩) n cap, .bool dn, .int .i64 lf, .int .i64 (ct : Int)] 30) := ⟨_, rfl⟩
  rw [← hW] at HB HX HL
  clear h3 hblt
  obtain ⟨_, x0, x1, x2, x3, _, _, _, _⟩ := HX.out
  dsimp only at hn hlen
  obtain ⟨P, hP⟩ : ∃ P : Nat → List UInt8, P = preB ⟨n, su, fr, bd, ct, dn, lf⟩ := ⟨_, rfl⟩
  have HPS : Hid (∀ j, P (j + 1) = P j ++ (if bd j = true then blankB else su j)) := Lib.hid (fun j => by rw [hP]; exact preB_succ _ j)
  have HPL : Hid (∀ j, j ≤ n → (P j).length = j * 512) := Lib.hid (by
    intro j
    induction j with
    | zero => intro _; rw [hP]; rfl
    | succ j ih =>
      intro hj
      rw [HPS.out, List.length_append, ih (by omega)]
      have : (if bd j = true then blankB else su j).length = 512 := by split; exact blankB_len; exact hlen j (by omega)
      rw [this]; omega)
  have HP0 : Hid (P 0 = []) := Lib.hid (by rw [hP]; rfl)
  have HLN := Lib.hid hlen
  show Calls Try.prog 21 _ w fun e w' => e = .returned (.string ⟨(preB ⟨n, su, fr, bd, ct, dn, lf⟩ n).toArray⟩) ∧ Below w.heap.size w w'
  rw [← hP]
  clear hP hlen
  go_enter Try.func21, Try.ntmps21
  go_upto_region 1 with fail
  rw [← hW]
  clear hW
  go_upto_region 3 with fail
  clear x0 x1 x2 x3 HX
  go_loopw [3, 9] (fun o ix wr => ∃ j : Nat, j ≤ n ∧ ix = .int .i64 (j : Int) ∧ OwnB wr W0.heap.size o (P j) ∧ Below W0.heap.size W0 wr) (fun _ ix _ => n - (intOf ix).toNat)
  case atStart => exact ⟨0, Nat.zero_le _, rfl, by rw [HP0.out]; exact ⟨rfl, .inl ⟨rfl, rfl⟩⟩, Below.refl _ _⟩
  case round =>
    obtain ⟨j, hj, rfl, ho, hb⟩ := hrel
    have HO := Lib.hid ho
    have HBW := Lib.hid hb
    have HLR := Lib.hid (HL.out.below hb)
    have hsz := hb.size
    clear ho hb
    by_cases hlt : j < n
    · obtain ⟨g0, g1, g2, g3⟩ := HLR.out.2.1 j hlt
      dsimp only [sM] at g0 g1 g2 g3
      have HLJ : Hid ((P j).length ≤ 100000) := Lib.hid (by rw [HPL.out j hj]; omega)
      cases hpj : bd j with
      | true =>
        rw [hpj] at g3
        have HF : Hid (P (j + 1) = P j ++ blankB) := Lib.hid (by rw [HPS.out, if_pos hpj])
        have HO2 : Hid (OwnB _ W0.heap.size _ (P j)) := Lib.hid (own_below HO.out (below1 wr (.cells #[.string ⟨(su j).toArray⟩, .string ⟨((fr j).getD []).toArray⟩, .bool (fr j).isSome, .bool true] 75)))
        have HB2 := Lib.hid (HBW.out.trans ((below1 wr (.cells #[.string ⟨(su j).toArray⟩, .string ⟨((fr j).getD []).toArray⟩, .bool (fr j).isSome, .bool true] 75)).mono hsz))
        have HBS : Hid (W0.heap.size ≤ (wr.alloc (.cells #[.string ⟨(su j).toArray⟩, .string ⟨((fr j).getD []).toArray⟩, .bool (fr j).isSome, .bool true] 75)).heap.size) := Lib.hid (by simp; omega)
        clear hpj HLR
        go_wp2_with (at_builtin; refine wpList_app_zeros rfl (.tmp 15) rfl rfl HO2.out HBS.out HLJ.out ?_; intro v' w1 ho1 hb1; have HO3 := Lib.hid ho1; have HB3 := Lib.hid (HB2.out.trans hb1); clear ho1 hb1)
        go_roundw
        case rel => exact ⟨j + 1, by omega, by go_num, by rw [HF.out]; exact HO3.out, HB3.out⟩
        case measure => simp [intOf]; omega
      | false =>
        rw [hpj] at g3
        have HF : Hid (P (j + 1) = P j ++ su j) := Lib.hid (by rw [HPS.out, if_neg (by rw [hpj]; simp)])
        have HO2 : Hid (OwnB _ W0.heap.size _ (P j)) := Lib.hid (own_below HO.out (below1 wr (.cells #[.string ⟨(su j).toArray⟩, .string ⟨((fr j).getD []).toArray⟩, .bool (fr j).isSome, .bool false] 75)))
        have HB2 := Lib.hid (HBW.out.trans ((below1 wr (.cells #[.string ⟨(su j).toArray⟩, .string ⟨((fr j).getD []).toArray⟩, .bool (fr j).isSome, .bool false] 75)).mono hsz))
        have HBS : Hid (W0.heap.size ≤ (wr.alloc (.cells #[.string ⟨(su j).toArray⟩, .string ⟨((fr j).getD []).toArray⟩, .bool (fr j).isSome, .bool false] 75)).heap.size) := Lib.hid (by simp; omega)
        have HSJ : Hid ((su j).length ≤ 1000) := Lib.hid (by rw [HLN.out j hlt]; omega)
        clear hpj HLR
        go_wp2_with (at_builtin; refine wpList_app_str rfl (.tmp 17) (.tmp 19) rfl rfl HO2.out rfl HBS.out HLJ.out HSJ.out ?_; intro v' w1 ho1 hb1; have HO3 := Lib.hid ho1; have HB3 := Lib.hid (HB2.out.trans hb1); clear ho1 hb1)
        go_roundw
        case rel => exact ⟨j + 1, by omega, by go_num, by rw [HF.out]; exact HO3.out, HB3.out⟩
        case measure => simp [intOf]; omega
    · obtain rfl : j = n := by omega
      have hcv := own_string (P := Try.prog) HO.out (src := 73) (dst := 9) Try.underlying73 Try.underlying5 Try.underlying9
      clear HLR hlt hj hsz
      go_wp2_with fail
      go_ret
      exact ⟨rfl, HB.out.trans (HBW.out.mono HB.out.size)⟩
end Go.Proofs.Ytmbjcphhfnemgaa
