/- The contracts of caulklaw04.small, caulkref04.Same and caulklaw04.put. -/
import Derived.Test.YtpldnbfbpajbkabRsMath
import Derived.Laws.IdiomStrings
namespace Go.Proofs.Ytpldnbfbpajbkab
open Go.RowKit
open Caulk.Lin (Fn2)

def RetBool (e : Ending) : Prop := ∃ r : Bool, e = .returned (.bool r)
set_option maxHeartbeats 1000000 in
theorem small4_any {w : World} {v : Value} {S : List ByteArray} {k m : Int} (h : StrsS w v S) (hkw : -9223372036854775808 ≤ k ∧ k ≤ 9223372036854775807) (hmw : -9223372036854775808 ≤ m ∧ m ≤ 9223372036854775807) :
    Calls Try.prog 7 #[.int .i64 k, .int .i64 m, v] w fun e w' => RetBool e ∧ w = w' := by
  have HD : Hid (∀ i, i < S.length → ∃ b o, (∃ c, v = .slice (some ⟨b, o, none⟩) S.length c) ∧ w.cell? ⟨b, o + i, none⟩ = some (.string (S.getD i ByteArray.empty)) ∧ (S.getD i ByteArray.empty).size ≤ 9223372036854775807) := Lib.hid (by
    intro i hi
    obtain ⟨b1, o1, k1, e1, _, _, r1⟩ := h.reads (by omega)
    have := r1 w (Below.refl _ _) i hi
    exact ⟨b1, o1, ⟨k1, e1⟩, this.1, this.2⟩)
  obtain ⟨A, c, rfl, hl, hm⟩ := h.opened
  obtain ⟨s, hs⟩ : ∃ s : Nat → ByteArray, s = fun i => S.getD i ByteArray.empty := ⟨_, rfl⟩
  have q1 : ∀ i, S.getD i ByteArray.empty = s i := fun i => by rw [hs]
  simp only [q1] at HD
  clear h hs q1
  generalize S.length = n at *
  obtain ⟨hk1, hk2⟩ := hkw
  obtain ⟨hm1, hm2⟩ := hmw
  obtain ⟨d1, hd1⟩ : ∃ d, decide (k ≤ 16) = d := ⟨_, rfl⟩
  obtain ⟨d2, hd2⟩ : ∃ d, decide (255 < k) = d := ⟨_, rfl⟩
  obtain ⟨d3, hd3⟩ : ∃ d, decide (m ≤ 16) = d := ⟨_, rfl⟩
  obtain ⟨d4, hd4⟩ : ∃ d, decide (255 < m) = d := ⟨_, rfl⟩
  go_enter Try.func7, Try.ntmps7
  go_wp2
  go_loop [7, 12] (fun a i => ∃ q x : Nat, q ≤ n ∧ i = .int .i64 q ∧ a = .int .i64 x ∧ x ≤ 32768) (fun _ i => n - (intOf i).toNat)
  case atStart => exact ⟨0, 0, by omega, rfl, rfl, by omega⟩
  case round =>
    obtain ⟨q, x, hq, rfl, rfl, hx⟩ := hrel
    by_cases hlt : q < n
    · obtain ⟨b, o, ⟨c', hv⟩, hc, hs⟩ := HD.out q hlt
      injection hv with hv1 hv2 hv3
      subst hv1
      clear hv3 hv2
      clear hd1 hd2 hd3 hd4
      by_cases h1 : q = 16
      · have e1 : ((q : Int) == 16) = true := by subst h1; rfl
        clear h1
        obtain ⟨d5, hd5⟩ : ∃ d, decide ((16384 : Int) < ((s q).size : Int)) = d := ⟨_, rfl⟩
        obtain ⟨d6, hd6⟩ : ∃ d, decide ((16384 : Int) < (x : Int)) = d := ⟨_, rfl⟩
        go_wp2
        go_ret
        exact ⟨⟨_, rfl⟩, rfl⟩
      · have e1 : ((q : Int) == 16) = false := by simp; omega
        clear h1
        by_cases h2 : 16384 < (s q).size
        · have e2 : decide ((16384 : Int) < ((s q).size : Int)) = true := by simp; omega
          clear h2
          go_wp2
          go_ret
          exact ⟨⟨_, rfl⟩, rfl⟩
        · have e2 : decide ((16384 : Int) < ((s q).size : Int)) = false := by simp; omega
          by_cases h3 : 16384 < x
          · have e3 : decide ((16384 : Int) < (x : Int)) = true := by simp; omega
            clear h3 h2
            go_wp2
            go_ret
            exact ⟨⟨_, rfl⟩, rfl⟩
          · have e3 : decide ((16384 : Int) < (x : Int)) = false := by simp; omega
            go_wp2
            go_round
            case rel => exact ⟨q + 1, x + (s q).size, by omega, by go_num, by go_num, by omega⟩
            case measure => simp [intOf]; omega
    · obtain rfl : q = n := by omega
      obtain ⟨d5, hd5⟩ : ∃ d, decide ((x : Int) ≤ 16384) = d := ⟨_, rfl⟩
      clear HD hq hlt hl hm
      cases d1 <;> cases d2 <;> cases d3 <;> cases d4 <;> cases d5 <;> (go_wp2; go_ret; exact ⟨⟨_, rfl⟩, rfl⟩)
set_option maxHeartbeats 1000000 in
theorem same4_any {w : World} {a b : Value} {S T : List ByteArray} (ha : StrsS w a S) (hb : StrsS w b T) :
    Calls Try.prog 10 #[a, b] w fun e w' => e = .returned (.bool (decide (S = T))) ∧ Below w.heap.size w w' := by
  have ha' := ha.opened
  have hb' := hb.opened
  obtain ⟨A1, c1, rfl, hl1, hm1⟩ := ha'
  obtain ⟨A2, c2, rfl, hl2, hm2⟩ := hb'
  by_cases hlen : S.length = T.length
  · have HD : Hid (∀ i, i < S.length → ∃ b1 o1 b2 o2, A1 = some ⟨b1, o1, none⟩ ∧ A2 = some ⟨b2, o2, none⟩ ∧ ∀ W, Below w.heap.size w W → W.cell? ⟨b1, o1 + i, none⟩ = some (.string (S.getD i ByteArray.empty)) ∧ W.cell? ⟨b2, o2 + i, none⟩ = some (.string (T.getD i ByteArray.empty))) := Lib.hid (by
      intro i hi
      obtain ⟨b1, o1, k1, e1, _, _, r1⟩ := ha.reads (by omega)
      obtain ⟨b2, o2, k2, e2, _, _, r2⟩ := hb.reads (by omega)
      injection e1 with e1 _ _
      injection e2 with e2 _ _
      exact ⟨b1, o1, b2, o2, e1, e2, fun W hW => ⟨(r1 W hW i hi).1, (r2 W hW i (by omega)).1⟩⟩)
    have HEQ : Hid (S = T ↔ ∀ i, i < S.length → S.getD i ByteArray.empty = T.getD i ByteArray.empty) := Lib.hid ⟨fun h => by rw [h]; simp, fun h => by
      apply List.ext_getElem hlen
      intro i h1 h2
      have := h i h1
      simpa [List.getD, h1, h2] using this⟩
    obtain ⟨E, hE⟩ : ∃ E, E = decide (S = T) := ⟨_, rfl⟩
    have HE := Lib.hid hE
    rw [← hE]
    obtain ⟨s, hs⟩ : ∃ s : Nat → ByteArray, s = fun i => S.getD i ByteArray.empty := ⟨_, rfl⟩
    obtain ⟨t, ht⟩ : ∃ t : Nat → ByteArray, t = fun i => T.getD i ByteArray.empty := ⟨_, rfl⟩
    have q1 : ∀ i, S.getD i ByteArray.empty = s i := fun i => by rw [hs]
    have q2 : ∀ i, T.getD i ByteArray.empty = t i := fun i => by rw [ht]
    simp only [q1, q2] at HD HEQ
    clear hE ha hb hs ht q1 q2
    obtain ⟨n, hn⟩ : ∃ n, n = S.length := ⟨_, rfl⟩
    rw [← hn] at hl1 HD HEQ hlen ⊢
    rw [← hlen] at hl2 ⊢
    clear hn
    have hne : ((n : Int) != (n : Int)) = false := by simp
    clear hlen
    go_enter Try.func10, Try.ntmps10
    go_wp2
    go_loopw [13] (fun i wr => ∃ k : Nat, k ≤ n ∧ i = .int .i64 k ∧ (∀ j, j < k → s j = t j) ∧ Below w.heap.size w wr) (fun i _ => n - (intOf i).toNat)
    case atStart => exact ⟨0, by omega, rfl, fun j hj => by omega, Below.refl _ _⟩
    case round =>
      obtain ⟨k, hk, rfl, hall, hbe⟩ := hrel
      have HALL := Lib.hid hall
      have HBE := Lib.hid hbe
      clear hall hbe
      by_cases hlt : k < n
      · obtain ⟨b1, o1, b2, o2, rfl, rfl, hW⟩ := HD.out k hlt
        obtain ⟨hx, hy⟩ := hW wr HBE.out
        clear hW
        by_cases hls : s k = t k
        · have HS := Lib.hid hls
          rw [hls] at hx
          clear hls
          generalize t k = X at hx hy
          go_wp2_with fail
          go_quiet (fail)
          go_wp2
          go_roundw
          case rel =>
            refine ⟨k + 1, by omega, by go_num, fun j hj => ?_, below_drewN HBE.out _⟩
            by_cases e : j = k
            · subst e; exact HS.out
            · exact HALL.out j (by omega)
          case measure => simp [intOf]; omega
        · have HS := Lib.hid hls
          have hne2 := strs_string hls
          have hno : Hid (E = false) := Lib.hid (by rw [HE.out, decide_eq_false_iff_not]; exact fun h => HS.out (HEQ.out.1 h k hlt))
          clear hls
          generalize s k = X at hx hne2
          generalize t k = Y at hy hne2
          go_wp2_with fail
          go_quiet (fail)
          go_wp2
          go_ret
          exact ⟨ret_bool hno.out.symm, below_drewN HBE.out _⟩
      · obtain rfl : k = n := by omega
        have hyes : Hid (E = true) := Lib.hid (by rw [HE.out, decide_eq_true_eq]; exact HEQ.out.2 HALL.out)
        go_wp2
        go_ret
        exact ⟨ret_bool hyes.out.symm, HBE.out⟩
  · have hno : decide (S = T) = false := by rw [decide_eq_false_iff_not]; exact fun h => hlen (by rw [h])
    have hb1 : ((S.length : Int) != (T.length : Int)) = true := by simp; omega
    have hb2 : ((S.length : Int) == (T.length : Int)) = false := by simp; omega
    rw [hno]
    clear hno ha hb
    go_enter Try.func10, Try.ntmps10
    go_wp2
    go_ret
    exact ⟨rfl, Below.refl _ _⟩
/-- Two texts of one length, put together. -/
def putS (n : Nat) (s t : ByteArray) : ByteArray := ⟨(rowL n fun b => byteAt s b ^^^ byteAt t b).toArray⟩
theorem putS_size (n : Nat) (s t : ByteArray) : (putS n s t).size = n := by
  show (rowL n _).toArray.size = n
  rw [List.size_toArray, rowL_len]
theorem row_of_string4 (w : World) (s : ByteArray) (cap : Nat) (t : TypeId) (fr : Nat) (hf : s.size ≤ fr) : Row8 (w.alloc (.cells (bytesRow s cap) t (fr, fr + 1))).drew w.heap.size 0 s.data.toList := by
  refine ⟨?_, fun j hj => ⟨?_, ?_⟩⟩
  · show _ < (w.alloc _).heap.size
    rw [World.size_alloc]; exact Nat.lt_succ_self _
  · have hj' : j < s.data.size := by simpa using hj
    show (w.alloc _).cell? _ = _
    rw [Nat.zero_add, World.cell?_alloc_mark, bytesRow_at s cap j hj', List.getD, List.getElem?_eq_getElem hj, Option.getD_some, Array.getElem_toList]
  · have hj' : j < s.size := by simpa using hj
    show (w.alloc _).frozen? _ = _
    rw [Nat.zero_add, World.frozen?_alloc_mark]
    have : ¬ fr ≤ j := by omega
    simp [this]
set_option maxHeartbeats 1000000 in
theorem put4_any {n : Nat} {s t : ByteArray} (hs : s.size = n) (ht : t.size = n) (hn : n ≤ 65536) (w : World) :
    Calls Try.prog 12 #[.string s, .string t] w fun e w' => e = .returned (.string (putS n s t)) ∧ Below w.heap.size w w' := by
  have hcv := fun w' : World => run_bytes_of_string (P := Try.prog) w' 9 38 5 s Try.underlying9 Try.underlying38 Try.underlying5
  go_enter Try.func12, Try.ntmps12
  go_wp2
  have hrow := row_of_string4 w s (grownCap w n 0 5) 5 (bytesRow s (grownCap w n 0 5)).size (by unfold bytesRow; simp)
  have hbel : Below w.heap.size w (w.alloc (.cells (bytesRow s (grownCap w n 0 5)) 5 ((bytesRow s (grownCap w n 0 5)).size, (bytesRow s (grownCap w n 0 5)).size + 1))).drew :=
    ((Below.refl _ w).alloc (Nat.le_refl _) _).drew
  generalize (w.alloc (.cells (bytesRow s (grownCap w n 0 5)) 5 ((bytesRow s (grownCap w n 0 5)).size, (bytesRow s (grownCap w n 0 5)).size + 1))).drew = W1 at *
  clear hcv
  generalize grownCap w n 0 5 = cap at *
  have hst : s.data.toList = rowL n (byteAt s) := by
    have := list_rowL s.data.toList
    rw [show s.data.toList.length = n by rw [← hs]; simp] at this
    exact this.symm
  rw [hst] at hrow
  have HR0 := Lib.hid hrow
  have HB0 := Lib.hid hbel
  clear hrow hbel hst
  go_loopw [11] (fun i wr => ∃ k : Nat, k ≤ n ∧ i = .int .i64 k ∧ Row8 wr w.heap.size 0 (rowL n (fun b => if b < k then byteAt s b ^^^ byteAt t b else byteAt s b)) ∧ Below w.heap.size w wr) (fun i _ => n - (intOf i).toNat)
  case atStart => exact ⟨0, by omega, rfl, by rw [rowL_congr (g := byteAt s) (fun b _ => if_neg (by omega))]; exact HR0.out, HB0.out⟩
  case round =>
    clear HR0 HB0
    obtain ⟨k, hk, rfl, hrow, hbe⟩ := hrel
    have HBE := Lib.hid hbe
    clear hbe
    by_cases hlt : k < n
    · have hd := hrow.2 k (by rw [rowL_len]; exact hlt)
      rw [rowL_getD _ hlt, if_neg (Nat.lt_irrefl k), Nat.zero_add] at hd
      obtain ⟨hx1, hx2⟩ := hd
      have hd2 : decide ((k : Int) < (n : Int)) = true := by simp; omega
      have hset := hrow.set k (by rw [rowL_len]; exact hlt) (byteAt s k ^^^ byteAt t k)
      rw [rowL_set _ hlt _, Nat.zero_add] at hset
      have HSET : Hid (Row8 (wr.setCell ⟨w.heap.size, k, none⟩ (.int .u8 ((byteAt s k ^^^ byteAt t k).toNat : Int))) w.heap.size 0 (rowL n (fun b => if b < k + 1 then byteAt s b ^^^ byteAt t b else byteAt s b))) := Lib.hid (by
        rw [rowL_congr (g := fun b => if b = k then byteAt s k ^^^ byteAt t k else if b < k then byteAt s b ^^^ byteAt t b else byteAt s b) (fun b _ => by
          by_cases e : b = k
          · subst e; rw [if_pos rfl, if_pos (by omega)]
          · rw [if_neg e]
            by_cases e2 : b < k
            · rw [if_pos e2, if_pos (by omega)]
            · rw [if_neg e2, if_neg (by omega)])]
        exact hset)
      have hks : k < t.size := by omega
      have hy : t[k] = byteAt t k := by
        unfold byteAt
        rw [List.getD, List.getElem?_eq_getElem (by simpa using hks), Option.getD_some, Array.getElem_toList]; rfl
      generalize byteAt s k = x at *
      generalize byteAt t k = y at *
      have h4 := u8_xorb x y
      clear hrow hset
      go_wp2
      go_region
      go_wp2
      go_roundw
      case rel => exact ⟨k + 1, by omega, by go_num, HSET.out.drew, (HBE.out.setCell (p := ⟨w.heap.size, k, none⟩) (Nat.le_refl _) _).drew⟩
      case measure => simp [intOf]; omega
    · obtain rfl : k = n := by omega
      have hcv := string_of_row (P := Try.prog) (cap := cap) k (by rw [rowL_len]) hrow 38 9 5 Try.underlying38 Try.underlying5 Try.underlying9
      rw [rowL_congr (g := fun b => byteAt s b ^^^ byteAt t b) (fun b hb => if_pos hb)] at hcv
      have hcv2 : (convert 38 9 (.slice (some ⟨w.heap.size, 0, none⟩) k cap)).run Try.prog wr = .ok (.string (putS k s t)) wr := hcv
      clear hcv hrow
      go_wp2
      go_ret
      exact ⟨rfl, HBE.out⟩
end Go.Proofs.Ytpldnbfbpajbkab
