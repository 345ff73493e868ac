/- What dev.Bytes ranges over: the function told. -/
import Derived.Test.YtmbjcphhfnemgaaRange
namespace Go.Proofs.Ytmbjcphhfnemgaa
open Go.RowKit Go.Shelf Go.Maps
attribute [local go_sem] Oper.semAt_some

/-- The bytes that are told of a sector. -/
def toldB (M : DM) (i : Nat) : List UInt8 := if M.bad i = true then blankB else M.sure i
theorem toldB_len {w : World} {h : DH} {M : DM} (d : DevAt w h M) {i : Nat} (hi : i < M.n) : (toldB M i).length = 512 := by
  unfold toldB; split
  · exact blankB_len
  · exact d.lens i hi
def tV (M : DM) (i : Nat) : Array Value := #[.agg (U8s (toldB M i)).toArray]
theorem DevAt.old {n₀ : Nat} {w w' : World} {h : DH} {M : DM} (d : DevAt w h M) (hS : ∀ k, h.S k → k < n₀) (hb : Below n₀ w w') : DevAt w' h M :=
  d.ap (S := fun k => n₀ ≤ k) ⟨hb.os, hb.tape, hb.output, hb.size, fun k _ hk => hb.block k (by omega)⟩ (fun k hk e => by have := hS k hk; omega)
set_option maxRecDepth 100000 in
set_option maxHeartbeats 2000000 in
theorem told_tells {h : DH} {M : DM} {n₀ : Nat} {w : World} (n : Nat) (d : DevAt w h M) (hS : ∀ k, h.S k → k < n₀) (hn₀ : n₀ ≤ w.heap.size) (hn : 2 ≤ n) :
    Tells Fence.wide n Try.prog 62 (.pointer (some ⟨h.b, 0, none⟩)) (tV M) M.n n₀ w := by
  intro l J W hW hJ hY h0
  have hd0 : DevAt W h M := d.old hS (hW.mono hn₀)
  have hSec := fun k => (callsIn_wide (n := k)).2 (devSectors_any hd0)
  have hn2 := d.n2
  have hf62 : Fence.wide.fn 62 := trivial
  have hn1 : 1 ≤ n := by omega
  have hfS : Fence.wide.fn 22 := trivial
  have hfI : Fence.wide.fn 68 := trivial
  have HD0 := Lib.hid hd0
  clear hd0
  refine callsIn_of_wp Try.func62 rfl hf62 ?_ rfl
  simp only [Try.ntmps62, List.size_toArray, List.length_cons, List.length_nil, Nat.reduceAdd, Nat.reduceSub, Array.replicate_succ, Array.replicate_zero, List.push_toArray, List.append_toArray, List.nil_append, List.cons_append]
  gi_wp2_with (gi_at_call 22; refine (hSec _).mono ?_; rintro e w' ⟨rfl, rfl⟩)
  gi_loopw [8] (fun ix wr => ∃ k : Nat, k ≤ M.n ∧ ix = .int .i64 (k : Int) ∧ J k wr ∧ DevAt wr h M) (fun ix _ => M.n - (intOf ix).toNat)
  case atStart => exact ⟨0, Nat.zero_le _, rfl, h0, HD0.out⟩
  case round =>
    obtain ⟨k, hk, rfl, hJk, hd⟩ := hrel
    have HJK := Lib.hid hJk
    have HD := Lib.hid hd
    clear hJk hd HD0
    by_cases hlt : k < M.n
    · obtain ⟨l1, hl1⟩ : ∃ l1, l1 = M.sure k := ⟨_, rfl⟩
      have hlen : l1.length = 512 := by rw [hl1]; exact HD.out.lens k hlt
      have hrg := (HD.out.rows k hlt).range
      rw [← hl1] at hrg
      have HL1 := Lib.hid hl1
      clear hl1
      have c0 := HD.out.c0
      have hcap1 := HD.out.cap1
      have hcap2 := HD.out.cap2
      have hi0 : (0 : Int) ≤ (k : Int) := by omega
      have hi1 : (k : Int) < (M.n : Int) := by omega
      obtain ⟨W2, hW2, hd2, hb2, hr2⟩ := var_facts HD.out hlen
      have HT : Hid ((wr.alloc (.cells Try.zeroCells85 85)).there wr.heap.size 0 (U8s l1).toArray.size) := Lib.hid (by rw [u8a_size, hlen]; exact zc_there wr)
      have HII : Hid ((Try.prog.info? 85).map (·.size) = some (U8s l1).toArray.size) := Lib.hid (by rw [secSize, u8a_size, hlen])
      have HIL : Hid ((Try.prog.info? 85).map (·.size) = some (U8s l1).length) := Lib.hid (by rw [secSize, u8s_len, hlen])
      have H1 : Hid ((U8s l1).toArray.all (·.oneCell') = true) := Lib.hid (all_oneCell_toArray (u8s_one l1))
      have HU := Lib.hid Try.underlying85
      have HRG := Lib.hid hrg
      have hIB := fun j => (callsIn_wide (n := j)).2 (devIsBad_any hd2 k hlt)
      have HR2 := Lib.hid hr2
      have HB2 := Lib.hid hb2
      have HD2 := Lib.hid hd2
      have HSW : Hid (wr.heap.size < W2.heap.size) := Lib.hid hr2.1
      rw [hW2] at hIB HR2 HB2 HD2 HSW
      clear hW2 hd2 hb2 hr2 hrg
      cases hbad : M.bad k
      case false =>
        have HTB : Hid (toldB M k = l1) := Lib.hid (by unfold toldB; rw [hbad, if_neg (by simp), HL1.out])
        rw [hbad] at hIB
        clear hbad hlen
        gi_wp2_with (first
          | (with_reducible refine wpListIn_load_mid rfl 85 (.tmp 16) rfl h.bs (k * 512) rfl _ _ HRG.out HU.out rfl HIL.out ?_)
          | (with_reducible refine wpListIn_store_mid rfl 85 (.tmp 5) (.tmp 17) rfl wr.heap.size 0 (U8s l1).toArray rfl rfl HT.out HII.out H1.out ?_)
          | (gi_at_call 68; refine (hIB _).mono ?_; rintro e w3 ⟨rfl, hb3⟩; have HB3 := Lib.hid (HB2.out.trans (hb3.mono (Nat.le_of_lt HSW.out))); have HR3 := Lib.hid (HR2.out.below hb3 HSW.out).range; obtain ⟨fn, tmps, assign, body, hy, hR⟩ := hY k w3 (hJ k wr w3 HJK.out HB3.out) hlt; unfold tV at hy; rw [HTB.out] at hy; clear hb3)
          | (with_reducible refine wpListIn_load_mid rfl 85 (.tmp 5) rfl wr.heap.size 0 rfl _ _ HR3.out HU.out rfl HIL.out ?_))
        refine hR.mono ?_
        rintro e W3 ⟨rfl, hJ3, hk3⟩
        have HN : Hid (DevAt W3 h M) := Lib.hid ((HD.out.ap (S := fun _ => False) (Ap.of_below HB3.out) (fun _ _ => id)).old hS hk3)
        have HJ3 := Lib.hid hJ3
        clear hR hk3 hJ3
        gi_wp2
        go_roundw
        case rel => exact ⟨k + 1, by omega, by simp, HJ3.out, HN.out⟩
        case measure => simp [intOf]; omega
      case true =>
        have HTB : Hid (toldB M k = blankB) := Lib.hid (by unfold toldB; rw [hbad, if_pos rfl])
        have HZ : Hid (Try.zeroCells85 = (U8s blankB).toArray) := Lib.hid (zc_eq wr)
        have HZS : Hid (Try.zeroCells85.size = 512) := Lib.hid (by rw [HZ.out, u8a_size, blankB_len])
        have HZI : Hid ((Try.prog.info? 85).map (·.size) = some Try.zeroCells85.size) := Lib.hid (by rw [secSize, HZS.out])
        have HZL : Hid ((Try.prog.info? 85).map (·.size) = some Try.zeroCells85.toList.length) := Lib.hid (by rw [secSize, Array.length_toList, HZS.out])
        have HZ1 : Hid (Try.zeroCells85.all (·.oneCell') = true) := Lib.hid (by rw [HZ.out]; exact all_oneCell_toArray (u8s_one blankB))
        rw [hbad] at hIB
        clear hbad
        gi_wp2_with (first
          | (with_reducible refine wpListIn_load_mid rfl 85 (.tmp 16) rfl h.bs (k * 512) rfl _ _ HRG.out HU.out rfl HIL.out ?_)
          | (with_reducible refine wpListIn_store_mid rfl 85 (.tmp 5) (.tmp 17) rfl wr.heap.size 0 (U8s l1).toArray rfl rfl HT.out HII.out H1.out ?_)
          | (gi_at_call 68; refine (hIB _).mono ?_; rintro e w3 ⟨rfl, hb3⟩; have HB3 := Lib.hid (HB2.out.trans (hb3.mono (Nat.le_of_lt HSW.out))); have HT3 : Hid (w3.there wr.heap.size 0 Try.zeroCells85.size) := Lib.hid (by rw [HZS.out, ← hlen]; exact (HR2.out.below hb3 HSW.out).there); have HRG4 := Lib.hid (World.rangeAt_setCells_same w3 wr.heap.size 0 Try.zeroCells85.toList (by rw [Array.length_toList]; exact HT3.out)); have HB4 : Hid (Below wr.heap.size wr (w3.setCells wr.heap.size 0 Try.zeroCells85.toList)) := Lib.hid (HB3.out.trans ((ap_setCells w3 wr.heap.size 0 _).below HB3.out.size (fun q hq => by rw [hq]; exact Nat.le_refl _))); obtain ⟨fn, tmps, assign, body, hy, hR⟩ := hY k _ (hJ k wr _ HJK.out HB4.out) hlt; unfold tV at hy; rw [HTB.out, ← HZ.out] at hy; clear hb3)
          | (with_reducible refine wpListIn_store_mid rfl 85 (.tmp 5) (.tmp 21) rfl wr.heap.size 0 Try.zeroCells85 rfl rfl HT3.out HZI.out HZ1.out ?_)
          | (with_reducible refine wpListIn_load_mid rfl 85 (.tmp 5) rfl wr.heap.size 0 rfl _ _ HRG4.out HU.out rfl HZL.out ?_))
        refine hR.mono ?_
        rintro e W3 ⟨rfl, hJ3, hk3⟩
        have HN : Hid (DevAt W3 h M) := Lib.hid ((HD.out.ap (S := fun _ => False) (Ap.of_below HB4.out) (fun _ _ => id)).old hS hk3)
        have HJ3 := Lib.hid hJ3
        clear hR hk3 hJ3
        gi_wp2
        go_roundw
        case rel => exact ⟨k + 1, by omega, by simp, HJ3.out, HN.out⟩
        case measure => simp [intOf]; omega
    · obtain rfl : k = M.n := by omega
      gi_wp2
      go_end0
      exact ⟨⟨_, rfl⟩, HJK.out⟩
end Go.Proofs.Ytmbjcphhfnemgaa
