/- Rows of bytes that a call owns, and the document's own Scale. -/
import Derived.Test.YtmjfnnemokmdcabGfR
import Derived.Test.YtmjfnnemokmdcabGfL
import Derived.Laws.AppendOwn
import Derived.Laws.AppendOwnNone
import Derived.OwnWalk
import Derived.Maps.AppendAt
namespace Go.Proofs.Ytmjfnnemokmdcab
open Go.RowKit
open Caulk.Gf (dbl mul putL scaleL)

def U8s (l : List UInt8) : List Value := l.map fun b => .int .u8 (b.toNat : Int)
theorem u8s_len (l : List UInt8) : (U8s l).length = l.length := by simp [U8s]
theorem u8s_one (l : List UInt8) : ∀ u ∈ U8s l, u.oneCell' = true := by
  intro u hu
  obtain ⟨b, _, rfl⟩ := List.mem_map.1 hu
  rfl
theorem u8s_at (l : List UInt8) (j : Nat) (hj : j < l.length) : (U8s l)[j]? = some (.int .u8 ((l.getD j 0).toNat : Int)) := by
  unfold U8s
  rw [List.getElem?_map, List.getElem?_eq_getElem hj, List.getD, List.getElem?_eq_getElem hj]; rfl
/-- A slice of the call's own that holds the bytes l. -/
def OwnB (w : World) (base : Nat) (v : Value) (l : List UInt8) : Prop := w.ownsRow base 5 1 v l.length (U8s l)
theorem OwnB.row {w : World} {base g n cap : Nat} {l : List UInt8} (h : OwnB w base (.slice (some ⟨g, 0, none⟩) n cap) l) : Row8 w g 0 l ∧ n = l.length := by
  rcases h.2 with ⟨e, _⟩ | ⟨g', cap', cur, e, hb, hh, hn, hm, hs, ht⟩
  · cases e
  · injection e with e1 e2 e3
    have hgg : g = g' := by simpa using e1
    subst hgg
    rw [Nat.mul_one] at ht hs
    refine ⟨⟨(Array.getElem?_eq_some_iff.1 hh).1, fun j hj => ⟨?_, ?_⟩⟩, e2⟩
    · rw [Nat.zero_add]
      rw [cell_of_row w g j cur 5 (0, 0) hh]
      have h1 := u8s_at l j hj
      rw [← ht, List.getElem?_take] at h1
      rw [if_pos hj] at h1
      rw [← h1]; simp
    · rw [Nat.zero_add]; exact frozen_of_row w g j cur 5 hh

/-- The string that an owned slice makes. -/
theorem own_string {P : Program} {w : World} {base : Nat} {v : Value} {l : List UInt8} (h : OwnB w base v l) {src dst : TypeId}
    (hs : P.underlying src = some (.slice 5)) (he : P.underlying 5 = some (.int .u8)) (hd : P.underlying dst = some .string) :
    (convert src dst v).run P w = .ok (.string ⟨l.toArray⟩) w := by
  rcases h.2 with ⟨rfl, e⟩ | ⟨g, cap, cur, rfl, hb, hh, hn, hm, hsz, ht⟩
  · have : l = [] := List.eq_nil_of_length_eq_zero e
    subst this
    rw [run_convert_bytes_string w src dst 5 none 0 0 hs he hd]
    simp [Conv.bytesToString, Sem.run_pure]
    rfl
  · exact string_of_row l.length rfl (OwnB.row h).1 src dst 5 hs he hd
set_option maxHeartbeats 1000000 in
theorem refScale_any (c : UInt8) (s : ByteArray) (hs : s.size ≤ 16384) (w : World) :
    Calls Try.prog 8 #[.int .u8 (c.toNat : Int), .string s] w fun e w' => e = .returned (.string ⟨(scaleL c s.data.toList).toArray⟩) ∧ Below w.heap.size w w' := by
  obtain ⟨i0, hi, hz0, hz1, hz2⟩ := info_parts infoU8
  have HL : Hid (s.data.toList.length = s.size) := Lib.hid (by simp)
  go_enter Try.func8, Try.ntmps8
  go_wp2
  go_loopw [5, 6] (fun z i wr => ∃ (k : Nat) (v : Value), k ≤ s.size ∧ i = .int .i64 k ∧ v = z ∧ OwnB wr w.heap.size v (scaleL c (s.data.toList.take k)) ∧ Below w.heap.size w wr) (fun _ i _ => s.size - (intOf i).toNat)
  case atStart => exact ⟨0, .slice none 0 0, by omega, rfl, rfl, World.ownsRow_nil _ _ _ _, Below.refl _ _⟩
  case round =>
    obtain ⟨k, v, hk, rfl, rfl, hown, hB⟩ := hrel
    by_cases hlt : k < s.size
    · have hlk : (scaleL c (s.data.toList.take k)).length = k := by unfold scaleL; rw [List.length_map, List.length_take, HL.out]; omega
      have HK := Lib.hid hlk
      have HT := Lib.hid (take_snoc s k hlt)
      clear hlk
      go_wp2_with fail
      refine (refMul_any c s[k] _).mono ?_
      rintro e w' ⟨rfl, rfl⟩
      have hown' : (wr.alloc (.cells #[.int .u8 ((mul c s[k]).toNat : Int)] 5)).ownsRow w.heap.size 5 1 v (scaleL c (s.data.toList.take k)).length (U8s (scaleL c (s.data.toList.take k))) := World.ownsRow.alloc hown _
      have HO := Lib.hid hown'
      have HOO := Lib.hid hown
      clear hown hown'
      have hst : scaleL c (s.data.toList.take (k + 1)) = scaleL c (s.data.toList.take k) ++ [mul c s[k]] := by rw [HT.out]; unfold scaleL; rw [List.map_append]; rfl
      have HST := Lib.hid hst
      clear hst HT
      generalize mul c s[k] = y at *
      go_wp2_with (at_builtin; (with_reducible refine wpList_append_own _ ?g0 (.tmp 13) (.tmp 19) 22 ?g1 w.heap.size 5 i0 (.int .u8 0) 1 1 Try.underlying22 hi hz0 hz1 hz2 ?g2 (by decide) v (scaleL c (s.data.toList.take k)).length (U8s (scaleL c (s.data.toList.take k))) ?g3 HO.out ⟨wr.heap.size, 0, none⟩ 1 1 [.int .u8 (y.toNat : Int)] ?g4 ?g5 ?c1 ?c2 ?c3 ?c4 ?c5 ?_)
                   case g0 => rfl
                   case g1 => rfl
                   case g2 => rfl
                   case g3 => rfl
                   case g4 => rfl
                   case g5 => rfl
                   case c1 => exact cell_one_new _ _ _
                   case c2 => simp [Value.oneCell']
                   case c3 => rw [HK.out]; unfold maxLen; omega
                   case c4 => rw [HK.out]; omega
                   case c5 => rw [World.size_alloc]; exact Nat.le_succ_of_le hB.size
                   intro v' w1 hown1 hgrow _)
      have hB1 : Below w.heap.size w w1 := (hB.alloc hB.size _).grown hgrow (by rw [World.size_alloc]; exact Nat.le_succ_of_le hB.size) (fun g hg => (World.ownsRow.lt HOO.out g hg).1)
      go_roundw
      case rel =>
        refine ⟨k + 1, v', by omega, by go_num, rfl, ?_, hB1⟩
        unfold OwnB
        rw [HST.out, List.length_append, U8s, List.map_append]
        exact hown1
      case measure => simp [intOf]; omega
    · obtain rfl : k = s.size := by omega
      have HALL : Hid (s.data.toList.take s.size = s.data.toList) := Lib.hid (List.take_of_length_le (by rw [HL.out]; exact Nat.le_refl _))
      rw [HALL.out] at hown
      have hlen : (scaleL c s.data.toList).length = s.size := by unfold scaleL; rw [List.length_map, HL.out]
      have hcv := own_string (base := w.heap.size) (P := Try.prog) hown Try.underlying22 Try.underlying5 Try.underlying9 (src := 22) (dst := 9)
      clear hlen hown
      go_wp2
      go_ret
      exact ⟨rfl, hB⟩
end Go.Proofs.Ytmjfnnemokmdcab
