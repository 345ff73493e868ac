/- The contract of dev.Load. -/
import Derived.Test.YtmbjcphhfnemgaaDevH
namespace Go.Proofs.Ytmbjcphhfnemgaa
open Go.RowKit Go.Maps

/-- Sector i of a text. -/
def chunk (s : ByteArray) (i : Nat) : List UInt8 := (s.data.toList.drop (i * 512)).take 512
theorem chunk_len {s : ByteArray} {n i : Nat} (hs : s.size = n * 512) (hi : i < n) : (chunk s i).length = 512 := by
  unfold chunk
  rw [List.length_take, List.length_drop]
  have : s.data.toList.length = n * 512 := by rw [← hs]; rfl
  have h2 : (i + 1) * 512 ≤ n * 512 := Nat.mul_le_mul_right _ hi
  omega
theorem run_copy_pre {P : Program} (w : World) (dT sT ty elem : TypeId) (b o dLen dCap : Nat) (t : ByteArray)
    (hu : P.underlying dT = some (.slice elem)) (hz : ∀ w, (Go.sizeOf elem).run P w = .ok 1 w) (hle : dLen ≤ t.size) (ht : w.there b o dLen) :
    (Builtin.copy_ #[dT, sT] ty #[.slice (some ⟨b, o, none⟩) dLen dCap, .string t]).run P w = .ok (goInt dLen) (w.setCells b o (U8s (t.data.toList.take dLen))) := by
  have hmin : Nat.min t.size dLen = dLen := Nat.min_eq_right hle
  have hlt : t.data.toList.length = t.size := rfl
  have hl : (U8s (t.data.toList.take dLen)).length = dLen := by rw [u8s_len, List.length_take, hlt]; omega
  have hst := run_storeCells_cells (P := P) b o (U8s (t.data.toList.take dLen)) 0 w (by rw [hl]; simpa using fun j hj => (ht j hj).1) (by rw [hl]; simpa using fun j hj => (ht j hj).2) (u8s_one _)
  have e : List.take dLen (List.map (fun b : UInt8 => Value.int IntKind.u8 (b.toNat : Int)) t.data.toList) = U8s (t.data.toList.take dLen) := by unfold U8s; rw [List.map_take]
  simp [Builtin.copy_, run_underlying hu, Builtin.lenOf, Builtin.firstCells, hz, hmin]
  rw [e, hst]
  rfl
theorem wpList_copy_pre {P : Program} {w : World} {ops : Array Oper} {rest : List Oper} {o : Oper} {a : Act} {Q : Exit → Act → World → Prop} (hgd : o.guard = none) (d x : Operand) (dT sT : TypeId)
    (hop : o.op = Op.call { callee := Callee.builtin Builtin.copy, args := #[d, x], argTypes := #[dT, sT] })
    (elem : TypeId) (hu : P.underlying dT = some (.slice elem)) (hz : ∀ w, (Go.sizeOf elem).run P w = .ok 1 w)
    (b off dLen dCap : Nat) (hd : a.eval d = .slice (some ⟨b, off, none⟩) dLen dCap) (t : ByteArray) (hx : a.eval x = .string t) (hle : dLen ≤ t.size)
    (ht : w.there b off dLen) (hK : wpList P ops Q rest (a.put o.dst (goInt dLen)) (w.setCells b off (U8s (t.data.toList.take dLen)))) : wpList P ops Q (o :: rest) a w := by
  refine wpList_plain hgd fun K' hK' => ?_
  have hrun := run_copy_pre (P := P) w dT sT o.type elem b off dLen dCap t hu hz hle ht
  unfold Oper.wp
  simp [execOp, hop, resolve, invoke, builtin, hd, hx, hrun, Result.andThen]
  exact hK' _ _ hK
theorem extract_list (s : ByteArray) (a : Nat) : (s.extract a s.size).data.toList = s.data.toList.drop a := by
  rw [ByteArray.data_extract, Array.toList_extract]
  have : s.size = s.data.toList.length := rfl
  rw [List.extract_eq_take_drop]
  exact List.take_of_length_le (by rw [List.length_drop, this]; omega)
def loadK (s : ByteArray) (n k : Nat) : DM := { newM n with sure := fun i => if i < k then chunk s i else blankB }
def loadM (s : ByteArray) (n : Nat) : DM := { newM n with sure := chunk s }
theorem load_step {s : ByteArray} {n k : Nat} : upd (loadK s n k).sure k (chunk s k) = (loadK s n (k + 1)).sure := by
  funext j
  show upd (fun i => if i < k then chunk s i else blankB) k (chunk s k) j = if j < k + 1 then chunk s j else blankB
  by_cases e : j = k
  · rw [e, upd_same, if_pos (by omega)]
  · rw [upd_ne _ _ e]
    by_cases g : j < k
    · rw [if_pos g, if_pos (by omega)]
    · rw [if_neg g, if_neg (by omega)]
set_option maxHeartbeats 2000000 in
set_option maxRecDepth 100000 in
theorem devLoad_ok {s : ByteArray} {n : Nat} (hs : s.size = n * 512) (h1 : 1 ≤ n) (h2 : n ≤ 32768) (w : World) :
    Calls Try.prog 23 #[.string s] w fun e w' => e = .returned (.tuple #[.pointer (some ⟨(newH w n).b, 0, none⟩), .int .i64 0]) ∧ DevAt w' (newH w n) (loadM s n) ∧ Below w.heap.size w w' := by
  have hN := devNew_ok n h1 h2 w
  have ha : (newH w n).above w.heap.size := by refine ⟨?_, ?_, ?_, ?_⟩ <;> simp [newH] <;> omega
  have HA := Lib.hid ha
  clear ha
  generalize newH w n = h at *
  have hd512 : (s.size : Int) / 512 = (n : Int) := by omega
  have hm512 : (s.size : Int) % 512 = 0 := by omega
  have hss : s.size ≤ 16777216 := by omega
  have HS := Lib.hid hs
  clear hs
  go_enter Try.func23, Try.ntmps23
  go_wp2_with (go_at_call 9; refine hN.mono ?_; rintro e w1 ⟨rfl, hd1, hb1⟩; have c0 : w1.cell? ⟨h.b, 0, none⟩ = some (.slice (some ⟨h.bs, 0, none⟩) n h.cap) := hd1.c0; have HD1 := Lib.hid hd1; have HB1 := Lib.hid hb1; clear hd1 hb1)
  clear hd512 hm512 c0
  go_loopw [25] (fun ix wr => ∃ k : Nat, k ≤ n ∧ ix = .int .i64 (k : Int) ∧ DevAt wr h (loadK s n k) ∧ Below w.heap.size w wr) (fun ix _ => n - (intOf ix).toNat)
  case atStart =>
    refine ⟨0, Nat.zero_le _, rfl, ?_, HB1.out⟩
    exact HD1.out.congr rfl (fun j _ => by show (if j < 0 then chunk s j else blankB) = blankB; rw [if_neg (by omega)]) (fun j _ => rfl) (fun j _ => rfl) rfl rfl rfl
  case round =>
    obtain ⟨k, hk, rfl, hd, hb⟩ := hrel
    have HDR := Lib.hid hd
    have HBR := Lib.hid hb
    clear hd hb HD1 HB1
    by_cases hlt : k < n
    · have c0 : wr.cell? ⟨h.b, 0, none⟩ = some (.slice (some ⟨h.bs, 0, none⟩) n h.cap) := HDR.out.c0
      have hmul : (k + 1) * 512 ≤ n * 512 := Nat.mul_le_mul_right _ hlt
      have hks : k * 512 + 512 ≤ s.size := by have := HS.out; omega
      have hi0 : (0 : Int) ≤ (k : Int) := by omega
      have hi1 : (k : Int) < (n : Int) := by omega
      have w2 : IntKind.i64.wrap ((k : Int) * 512) = (k : Int) * 512 := IntWalk.i64_in _ (by omega)
      have w5 : (0 : Int) ≤ (k : Int) * 512 := by omega
      have w6 : (k : Int) * 512 ≤ (s.size : Int) := by omega
      have w4 : ((k : Int) * 512).toNat = k * 512 := by omega
      have HT : Hid (wr.drew.there h.bs (k * 512) 512) := Lib.hid (by
        have := (HDR.out.drew.rows k hlt).there
        rwa [HDR.out.drew.lens k hlt] at this)
      have hcl := chunk_len HS.out hlt
      have HNEW : Hid (DevAt (wr.drew.setCells h.bs (k * 512) (U8s (chunk s k))) h (loadK s n (k + 1))) := Lib.hid (by
        have hd := HDR.out.drew
        have hr := rows_set hd.rows hd.lens hlt hcl
        rw [load_step] at hr
        exact hd.withSure (ap_setCells _ _ _ _) hr (fun q hq => by
          show (if q < k + 1 then chunk s q else blankB).length = 512
          by_cases g : q < k + 1
          · rw [if_pos g]; exact chunk_len HS.out hq
          · rw [if_neg g]; exact blankB_len))
      have hex := extract_list s (k * 512)
      have HX : Hid (U8s ((s.extract (k * 512) s.size).data.toList.take 512) = U8s (chunk s k)) := Lib.hid (by rw [hex]; rfl)
      have HLE : Hid (512 ≤ (s.extract (k * 512) s.size).size) := Lib.hid (by rw [ByteArray.size_extract]; omega)
      clear hcl hmul hex
      go_wp2_with fail
      refine wp_region_still_tail 11 (by kernel_rfl) (by kernel_rfl) ?_
      simp only [List.take_succ_cons, List.take_zero, List.drop_succ_cons, List.drop_zero]
      iterate 11 still_step
      refine wpStill_nil ?_
      refine wpList_copy_pre rfl (.tmp 34) (.tmp 38) 73 9 rfl 5 Try.underlying73 Try.sizeOf5 h.bs (k * 512) 512 512 rfl _ rfl HLE.out HT.out ?_
      rw [HX.out]
      clear w2 w4 w5 w6
      go_wp2
      go_roundw
      case rel => exact ⟨k + 1, by omega, by go_num, HNEW.out, Ap.below (S := h.S) ((Ap.of_below HBR.out |>.drew).setCells (.inl (.inr (.inl rfl))) _ _) (Nat.le_refl _) (DH.above_S HA.out)⟩
      case measure => simp [intOf]; omega
    · obtain rfl : k = n := by omega
      go_wp2
      go_ret2
      refine ⟨rfl, ?_, HBR.out⟩
      exact HDR.out.congr rfl (fun j hj => by
        have hj' : j < k := hj
        show chunk s j = (if j < k then chunk s j else blankB); rw [if_pos hj']) (fun j _ => rfl) (fun j _ => rfl) rfl rfl rfl
theorem devLoad_no {s : ByteArray} (hs : s.size ≤ 9223372036854775807) (h : s.size % 512 ≠ 0 ∨ s.size / 512 < 1 ∨ 32768 < s.size / 512) (w : World) :
    Calls Try.prog 23 #[.string s] w fun e w' => e = .returned (.tuple #[.pointer none, .int .i64 2]) ∧ w = w' := by
  by_cases h1 : s.size % 512 = 0
  · have hN := devNew_no ((s.size : Int) / 512) (by omega)
    have hm : (s.size : Int) % 512 = 0 := by omega
    have d1 : ((s.size : Int) % 512 != 0) = false := by simp [hm]
    clear h h1
    go_enter Try.func23, Try.ntmps23
    go_wp2_with (go_at_call 9; refine (hN _).mono ?_; rintro e w1 ⟨rfl, rfl⟩)
    go_ret2
    exact ⟨rfl, rfl⟩
  · have d1 : ((s.size : Int) % 512 == 0) = false := by simp; omega
    have d2 : ((s.size : Int) % 512 != 0) = true := by simp; omega
    clear h h1
    go_enter Try.func23, Try.ntmps23
    go_wp2_with fail
    go_ret2
    exact ⟨rfl, rfl⟩
end Go.Proofs.Ytmbjcphhfnemgaa
