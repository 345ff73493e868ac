/- The walk of CrcTogether. -/
import Derived.Test.YtmjfnnemokmdcaaDoorCrcG
import Derived.Deep.OwnRows
import Derived.Deep.RegionHeld3
import Derived.Deep.RegionWith
import Derived.Deep.RegionLaw
namespace Go.Proofs.YtmjfnnemokmdcaaDoor
open Go.RowKit
open Caulk.Crc (W P z2)

theorem infoU8 : (Tryd.prog.info? 5).map (fun i => (i.zero, i.size, i.bytes)) = some (some (.int .u8 0), 1, 1) := by kernel_rfl
theorem row_made (w : World) (n : Nat) (t : TypeId) : Row8 (w.alloc (.cells (madeCells #[.int .u8 0] n) t)) w.heap.size 0 (List.replicate n 0) := by
  refine ⟨by rw [World.size_alloc]; exact Nat.lt_succ_self _, fun j hj => ⟨?_, ?_⟩⟩
  · rw [List.length_replicate] at hj
    rw [Nat.zero_add, World.cell?_alloc_at _ _ _ _ rfl]
    have hm : j % 1 = 0 := by omega
    simp [madeCells, hj, List.getD, hm]
  · rw [World.frozen?_alloc_at _ _ _ _ rfl]
/-- What holds while the law reads on: the table, what was there, and the bytes that were put together. -/
def St (w0 : World) (b : Nat) (l : List UInt8) (w : World) : Prop := Ok w0 w ∧ Row8 w b 0 l
theorem St.drew {w0 w : World} {b : Nat} {l : List UInt8} (h : St w0 b l w) : St w0 b l w.drew := ⟨h.1.drew, h.2.drew⟩
theorem St.alloc {w0 w : World} {b : Nat} {l : List UInt8} (h : St w0 b l w) (o : Obj) : St w0 b l (w.alloc o) :=
  ⟨h.1.below ((Below.refl _ _).alloc (Nat.le_refl _) o), h.2.alloc o⟩
theorem Tab.set {w : World} (h : Tab w) {p : Addr} (hp : 0 ≠ p.block) (u : Value) : Tab (w.setCell p u) :=
  ⟨by rw [World.size_setCell]; exact h.1, fun x => by rw [World.cell?_setCell_other _ _ _ _ (by intro e; subst e; exact hp rfl)]; exact h.2 x⟩
theorem Ok.set {w0 w : World} (h : Ok w0 w) {p : Addr} (hp : w0.heap.size ≤ p.block) (h1 : 0 ≠ p.block) (u : Value) : Ok w0 (w.setCell p u) :=
  ⟨h.1.set h1 u, h.2.setCell hp u⟩
theorem St.set {w0 w : World} {b : Nat} {l : List UInt8} (h : St w0 b l w) (hb : w0.heap.size ≤ b) (h1 : 0 ≠ b) (k : Nat) (hk : k < l.length) (x : UInt8) :
    St w0 b (l.set k x) (w.setCell ⟨b, k, none⟩ (.int .u8 (x.toNat : Int))) :=
  ⟨h.1.set (p := ⟨b, k, none⟩) hb h1 _, by have := h.2.set k hk x; rw [Nat.zero_add] at this; exact this⟩
theorem getD_byte (a : ByteArray) (k : Nat) (h : k < a.size) : a.data.toList.getD k 0 = a[k] := by
  have h' : k < a.data.toList.length := by simpa using h
  rw [List.getD, List.getElem?_eq_getElem h', Option.getD_some, Array.getElem_toList]; rfl
theorem run_min3 (ts : Array TypeId) (t : TypeId) (x y n : Nat) (h : n = min (min x y) 16384) (w : World) :
    (Builtin.min_ ts t #[.int .i64 (x : Int), .int .i64 (y : Int), .int .i64 16384]).run Tryd.prog w = .ok (.int .i64 (n : Int)) w := by
  subst h
  simp [Builtin.min_, Builtin.min2]
  by_cases h1 : y < x
  · rw [if_pos h1]
    by_cases h2 : (16384 : Int) < (y : Int)
    · rw [if_pos h2]; omega
    · rw [if_neg h2]; omega
  · rw [if_neg h1]
    by_cases h2 : (16384 : Int) < (x : Int)
    · rw [if_pos h2]; omega
    · rw [if_neg h2]; omega

/-- Behind the make: the new row too. -/
def S2 (w0 wr : World) (b k : Nat) (l : List UInt8) (w : World) : Prop := St w0 b l w ∧ Row8 w wr.heap.size 0 (List.replicate k 0)
theorem wpAnyH_more {P : Program} {md : Region.Mode} {ops : Array Oper} {Q : Exit → Act → World → Prop} {S1 S2 : World → Prop} (h : ∀ w, S2 w → S1 w) :
    ∀ (fuel : Nat) (listed : Array Bool) (a : Act) (w : World), wpAnyH P md ops Q S2 fuel listed a w → wpAnyH P md ops Q S1 fuel listed a w
  | 0, _, _, _, h' => h'
  | fuel + 1, _, _, _, h' => ⟨h'.1, fun i hi => wpOp_mono (fun a' w' h1 => ⟨h _ h1.1, wpAnyH_more h fuel _ a' w' h1.2⟩) (h'.2 i hi)⟩

set_option maxRecDepth 100000 in
set_option maxHeartbeats 20000000 in
theorem crcTogether_walk (a : ByteArray) (_ha : ArgOk a) (b : ByteArray) (_hb : ArgOk b) (w : World) (hT : Tab w) :
    Calls Tryd.prog 7 #[.string a, .string b] w fun e w' => e = .returned (.bool true) ∧ Below w.heap.size w w' := by
  have h0 := Ok.start hT
  clear hT
  obtain ⟨n, hn⟩ : ∃ n, n = min (min a.size b.size) 16384 := ⟨_, rfl⟩
  have hmin := fun ts t => run_min3 ts t a.size b.size n hn
  have hmk := run_make_row' (P := Tryd.prog) 35 5 (.int .u8 0) 1 Tryd.underlying35 infoU8 rfl .i64 .i64 n (by omega) (by omega)
  have hna : n ≤ a.size := by omega
  have hnb : n ≤ b.size := by omega
  have hn4 : n ≤ 16384 := by omega
  clear hn
  go_enter Tryd.func7, Tryd.ntmps7
  go_wp2_with (go_at_call 8; refine (lives_any (w0 := w) _ ?_).mono ?_; (assumption); rintro e w' ⟨rfl, hok⟩)
  have hst : St w w'.heap.size (z2 (a.data.toList.take 0) (b.data.toList.take 0) ++ List.replicate (n - 0) 0) (w'.alloc (.cells (madeCells #[.int .u8 0] n) 5)) :=
    ⟨hok.below ((Below.refl _ _).alloc (Nat.le_refl _) _), row_made w' n 5⟩
  have hBk : w.heap.size ≤ w'.heap.size := hok.2.size
  generalize w'.alloc (.cells (madeCells #[.int .u8 0] n) 5) = W1 at *
  generalize w'.heap.size = Bk at *
  clear hmin hok
  have hla : a.data.toList.length = a.size := by simp
  have hlb : b.data.toList.length = b.size := by simp
  have HLA := Lib.hid hla
  have HLB := Lib.hid hlb
  clear hla hlb
  go_loopw [19] (fun i wr => ∃ k : Nat, k ≤ n ∧ i = .int .i64 k ∧ St w Bk (z2 (a.data.toList.take k) (b.data.toList.take k) ++ List.replicate (n - k) 0) wr) (fun i _ => n - (intOf i).toNat)
  case atStart => exact ⟨0, by omega, rfl, hst⟩
  case round =>
    clear hst
    obtain ⟨k, hk, rfl, hst⟩ := hrel
    by_cases hlt : k < n
    · have hka : k < a.size := by omega
      have hkb : k < b.size := by omega
      have hzl : (z2 (a.data.toList.take k) (b.data.toList.take k) ++ List.replicate (n - k) 0).length = n := by
        rw [List.length_append, Caulk.Crc.z2_len _ _ (by simp; omega)]; simp; omega
      have hx := (hst.2.2 k (by omega))
      rw [Nat.zero_add] at hx
      obtain ⟨hx1, hx2⟩ := hx
      have HZ := Lib.hid hzl
      have HS := Lib.hid hst
      have HSN := Lib.hid (Caulk.Crc.z2_snoc a.data.toList b.data.toList k (by rw [HLA.out]; omega) (by rw [HLB.out]; omega) n hlt)
      generalize (z2 (a.data.toList.take k) (b.data.toList.take k) ++ List.replicate (n - k) 0).getD k 0 = x at hx1
      clear hzl hst
      have h4 := u8_xorb
      go_wp2
      have hBn : 0 ≠ Bk := by have := h0.1.1; omega
      go_region
      go_wp2
      go_roundw
      case rel =>
        refine ⟨k + 1, by omega, by go_num, ?_⟩
        rw [← HSN.out, getD_byte a k hka, getD_byte b k hkb]
        have := HS.out.set hBk hBn k (by rw [HZ.out]; exact hlt) (a[k] ^^^ b[k])
        first | exact this.drew | (rw [← u8_xorb] at this; exact this.drew)
      case measure => simp [intOf]; omega
    · obtain rfl : k = n := by omega
      have hfin : (U32 (Caulk.Crc.sum (a.data.toList.take k) ^^^ Caulk.Crc.sum (b.data.toList.take k) ^^^ Caulk.Crc.sum (z2 (a.data.toList.take k) (b.data.toList.take k)) ^^^ Caulk.Crc.sum (List.replicate k 0)) == 0) = true := by
        have hl : (a.data.toList.take k).length = k := by rw [List.length_take, HLA.out]; omega
        have := Caulk.Crc.together (a.data.toList.take k) (b.data.toList.take k) (by rw [hl, List.length_take, HLB.out]; omega)
        rw [hl] at this
        rw [this]; decide
      rw [Nat.sub_self, List.replicate_zero, List.append_nil] at hst
      have hzl : (z2 (a.data.toList.take k) (b.data.toList.take k)).length = k := by
        rw [Caulk.Crc.z2_len _ _ (by simp; omega)]; simp; omega
      have h1 : ArgOk (a.extract 0 k) := by unfold ArgOk maxLen; rw [ByteArray.size_extract]; omega
      have h2 : ArgOk (b.extract 0 k) := by unfold ArgOk maxLen; rw [ByteArray.size_extract]; omega
      have h3 : ArgOk ⟨(z2 (a.data.toList.take k) (b.data.toList.take k)).toArray⟩ := by
        unfold ArgOk maxLen
        show (z2 _ _).toArray.size ≤ _
        rw [List.size_toArray, hzl]; omega
      have h5 : ArgOk ⟨(List.replicate k (0 : UInt8)).toArray⟩ := by
        unfold ArgOk maxLen
        show (List.replicate _ _).toArray.size ≤ _
        rw [List.size_toArray, List.length_replicate]; omega
      have HF := Lib.hid hfin
      have hx := u32_xor
      have hcv := fun (W : World) (h : St w Bk (z2 (a.data.toList.take k) (b.data.toList.take k)) W) => string_of_row (P := Tryd.prog) (cap := k) k hzl.symm h.2 35 9 5 Tryd.underlying35 Tryd.underlying5 Tryd.underlying9
      have HCZ := Lib.hid hcv
      have HCN : Hid (∀ W : World, Row8 W wr.heap.size 0 (List.replicate k 0) → (convert 35 9 (.slice (some ⟨wr.heap.size, 0, none⟩) k k)).run Tryd.prog W = .ok (.string ⟨(List.replicate k (0 : UInt8)).toArray⟩) W) := Lib.hid (fun W h => string_of_row (P := Tryd.prog) (cap := k) k (by simp) h 35 9 5 Tryd.underlying35 Tryd.underlying5 Tryd.underlying9)
      have HFR : Hid (Below w.heap.size w (wr.alloc (.cells (madeCells #[.int .u8 0] k) 5)).drew) := Lib.hid (Ok.frame (hst.alloc _).drew.1)
      have HS1 : Hid (St w Bk (z2 (a.data.toList.take k) (b.data.toList.take k)) wr.drew) := Lib.hid hst.drew
      have HS2 : Hid (S2 w wr Bk k (z2 (a.data.toList.take k) (b.data.toList.take k)) (wr.alloc (.cells (madeCells #[.int .u8 0] k) 5)).drew) := Lib.hid ⟨(hst.alloc _).drew, (row_made wr k 5).drew⟩
      clear hzl hfin hcv hst hlt HLA HLB h0 _ha _hb hn4
      go_wp2
      refine wp_region_held_drew (S := St w Bk (z2 (a.data.toList.take k) (b.data.toList.take k))) (by kernel_rfl) HS1.out (fun hHeld => ?_)
      clear hHeld
      refine wpAnyH_take (i := 0) (oi := { dst := some 33, op := Op.move (Operand.tmp 0), type := 9, pos := "law.go:77", after := #[], guard := none }) (v := ?v1) rfl (by kernel_rfl) (by kernel_rfl) (by kernel_rfl) (fun _ _ _ h => h) (Or.inl ⟨by rfl, ?hy1⟩) HS1.out ?_
      case hy1 => (intro W hSw; clear hSw; go_simp; first | done | with_reducible rfl)
      try simp only [Act.put, List.setIfInBounds_toArray, List.set_cons_zero, List.set_cons_succ]
      refine wpAnyH_take (i := 1) (oi := { dst := some 34, op := Op.move (Operand.tmp 5), type := 3, pos := "law.go:77", after := #[], guard := none }) (v := ?v2) rfl (by kernel_rfl) (by kernel_rfl) (by kernel_rfl) (fun _ _ _ h => h) (Or.inl ⟨by rfl, ?hy2⟩) HS1.out ?_
      case hy2 => (intro W hSw; clear hSw; go_simp; first | done | with_reducible rfl)
      try simp only [Act.put, List.setIfInBounds_toArray, List.set_cons_zero, List.set_cons_succ]
      refine wpAnyH_take (i := 2) (oi := { dst := some 35, op := Op.slice 9 (Operand.tmp 33) none (some (Operand.tmp 34)) none, type := 9, pos := "law.go:77", after := #[{ on := 0, ground := Ground.data }, { on := 1, ground := Ground.data }], guard := none }) (v := ?v3) rfl (by kernel_rfl) (by kernel_rfl) (by kernel_rfl) (fun _ _ _ h => h) (Or.inl ⟨by rfl, ?hy3⟩) HS1.out ?_
      case hy3 => (intro W hSw; clear hSw; go_simp; first | done | with_reducible rfl)
      try simp only [Act.put, List.setIfInBounds_toArray, List.set_cons_zero, List.set_cons_succ]
      refine wpAnyH_take (i := 4) (oi := { dst := some 37, op := Op.move (Operand.tmp 1), type := 9, pos := "law.go:77", after := #[], guard := none }) (v := ?v4) rfl (by kernel_rfl) (by kernel_rfl) (by kernel_rfl) (fun _ _ _ h => h) (Or.inl ⟨by rfl, ?hy4⟩) HS1.out ?_
      case hy4 => (intro W hSw; clear hSw; go_simp; first | done | with_reducible rfl)
      try simp only [Act.put, List.setIfInBounds_toArray, List.set_cons_zero, List.set_cons_succ]
      refine wpAnyH_take (i := 5) (oi := { dst := some 38, op := Op.move (Operand.tmp 5), type := 3, pos := "law.go:77", after := #[], guard := none }) (v := ?v5) rfl (by kernel_rfl) (by kernel_rfl) (by kernel_rfl) (fun _ _ _ h => h) (Or.inl ⟨by rfl, ?hy5⟩) HS1.out ?_
      case hy5 => (intro W hSw; clear hSw; go_simp; first | done | with_reducible rfl)
      try simp only [Act.put, List.setIfInBounds_toArray, List.set_cons_zero, List.set_cons_succ]
      refine wpAnyH_take (i := 6) (oi := { dst := some 39, op := Op.slice 9 (Operand.tmp 37) none (some (Operand.tmp 38)) none, type := 9, pos := "law.go:77", after := #[{ on := 4, ground := Ground.data }, { on := 5, ground := Ground.data }], guard := none }) (v := ?v6) rfl (by kernel_rfl) (by kernel_rfl) (by kernel_rfl) (fun _ _ _ h => h) (Or.inl ⟨by rfl, ?hy6⟩) HS1.out ?_
      case hy6 => (intro W hSw; clear hSw; go_simp; first | done | with_reducible rfl)
      try simp only [Act.put, List.setIfInBounds_toArray, List.set_cons_zero, List.set_cons_succ]
      refine wpAnyH_take (i := 9) (oi := { dst := some 42, op := Op.move (Operand.tmp 6), type := 35, pos := "law.go:77", after := #[], guard := none }) (v := ?v7) rfl (by kernel_rfl) (by kernel_rfl) (by kernel_rfl) (fun _ _ _ h => h) (Or.inl ⟨by rfl, ?hy7⟩) HS1.out ?_
      case hy7 => (intro W hSw; clear hSw; go_simp; first | done | with_reducible rfl)
      try simp only [Act.put, List.setIfInBounds_toArray, List.set_cons_zero, List.set_cons_succ]
      refine wpAnyH_take (i := 10) (oi := { dst := some 43, op := Op.convert 35 9 (Operand.tmp 42), type := 9, pos := "law.go:77", after := #[{ on := 9, ground := Ground.data }], guard := none }) (v := ?v8) rfl (by kernel_rfl) (by kernel_rfl) (by kernel_rfl) (fun _ _ _ h => h) (Or.inl ⟨by rfl, ?hy8⟩) HS1.out ?_
      case hy8 => (intro W hSw; have hc := HCZ.out W hSw; clear hSw; go_simp; first | done | with_reducible rfl)
      try simp only [Act.put, List.setIfInBounds_toArray, List.set_cons_zero, List.set_cons_succ]
      refine wpAnyH_take (i := 13) (oi := { dst := some 46, op := Op.move (Operand.tmp 5), type := 3, pos := "law.go:77", after := #[], guard := none }) (v := ?v9) rfl (by kernel_rfl) (by kernel_rfl) (by kernel_rfl) (fun _ _ _ h => h) (Or.inl ⟨by rfl, ?hy9⟩) HS1.out ?_
      case hy9 => (intro W hSw; clear hSw; go_simp; first | done | with_reducible rfl)
      try simp only [Act.put, List.setIfInBounds_toArray, List.set_cons_zero, List.set_cons_succ]
      refine wpAnyH_ready (rs := [3, 14]) (by kernel_rfl) (by simp) ?_
      refine AllReadyH.cons (o := { dst := some 36, op := Op.call { callee := Callee.value (Operand.func 9), args := #[Operand.tmp 35], argTypes := #[9] }, type := 23, pos := "law.go:77", after := #[{ on := 2, ground := Ground.data }], guard := none }) rfl (fun K hK => ?_) ?_
      · go_simp
        go_at_call 9
        refine (crcSum_any _ ?_ _ ?_).mono ?_
        · assumption
        · exact HS1.out.1.1
        rintro e w9 ⟨rfl, rfl⟩
        go_wp2_with fail
        refine hK.out _ _ HS1.out (fun hHeld => ?_)
        clear hHeld hK K
        try simp only [Act.put, List.setIfInBounds_toArray, List.set_cons_zero, List.set_cons_succ]
        refine wpAnyH_ready (rs := [7, 14]) (by kernel_rfl) (by simp) ?_
        refine AllReadyH.cons (o := { dst := some 40, op := Op.call { callee := Callee.value (Operand.func 9), args := #[Operand.tmp 39], argTypes := #[9] }, type := 23, pos := "law.go:77", after := #[{ on := 6, ground := Ground.data }, { on := 3, ground := Ground.chain }], guard := none }) rfl (fun K hK => ?_) ?_
        · go_simp
          go_at_call 9
          refine (crcSum_any _ ?_ _ ?_).mono ?_
          · assumption
          · exact HS1.out.1.1
          rintro e w9 ⟨rfl, rfl⟩
          go_wp2_with fail
          refine hK.out _ _ HS1.out (fun hHeld => ?_)
          clear hHeld hK K
          try simp only [Act.put, List.setIfInBounds_toArray, List.set_cons_zero, List.set_cons_succ]
          refine wpAnyH_take (i := 8) (oi := { dst := some 41, op := Op.binOp BinOp.xor 23 (Operand.tmp 36) (Operand.tmp 40) 23, type := 23, pos := "law.go:77", after := #[{ on := 3, ground := Ground.data }, { on := 7, ground := Ground.data }], guard := none }) (v := ?v10) rfl (by kernel_rfl) (by kernel_rfl) (by kernel_rfl) (fun _ _ _ h => h) (Or.inl ⟨by rfl, ?hy10⟩) HS1.out ?_
          case hy10 => (intro W hSw; clear hSw; go_simp; first | done | with_reducible rfl)
          try simp only [Act.put, List.setIfInBounds_toArray, List.set_cons_zero, List.set_cons_succ]
          refine wpAnyH_ready (rs := [11, 14]) (by kernel_rfl) (by simp) ?_
          refine AllReadyH.cons (o := { dst := some 44, op := Op.call { callee := Callee.value (Operand.func 9), args := #[Operand.tmp 43], argTypes := #[9] }, type := 23, pos := "law.go:77", after := #[{ on := 10, ground := Ground.data }, { on := 7, ground := Ground.chain }], guard := none }) rfl (fun K hK => ?_) ?_
          · go_simp
            go_at_call 9
            refine (crcSum_any _ ?_ _ ?_).mono ?_
            · assumption
            · exact HS1.out.1.1
            rintro e w9 ⟨rfl, rfl⟩
            go_wp2_with fail
            refine hK.out _ _ HS1.out (fun hHeld => ?_)
            clear hHeld hK K
            try simp only [Act.put, List.setIfInBounds_toArray, List.set_cons_zero, List.set_cons_succ]
            refine wpAnyH_take (i := 12) (oi := { dst := some 45, op := Op.binOp BinOp.xor 23 (Operand.tmp 41) (Operand.tmp 44) 23, type := 23, pos := "law.go:77", after := #[{ on := 8, ground := Ground.data }, { on := 11, ground := Ground.data }], guard := none }) (v := ?v11) rfl (by kernel_rfl) (by kernel_rfl) (by kernel_rfl) (fun _ _ _ h => h) (Or.inl ⟨by rfl, ?hy11⟩) HS1.out ?_
            case hy11 => (intro W hSw; clear hSw; go_simp; first | done | with_reducible rfl)
            try simp only [Act.put, List.setIfInBounds_toArray, List.set_cons_zero, List.set_cons_succ]
            refine wpAnyH_ready (rs := [14]) (by kernel_rfl) (by simp) ?_
            refine AllReadyH.cons (o := { dst := some 47, op := Op.makeSlice 35 (Operand.tmp 46) (Operand.tmp 46), type := 35, pos := "law.go:77", after := #[{ on := 13, ground := Ground.data }, { on := 13, ground := Ground.data }], guard := none }) rfl (fun K hK => ?_) ?_
            · go_simp
              refine hK.out _ _ HS2.out.1 (fun hHeld => ?_)
              clear hHeld hK K
              refine wpAnyH_more (S2 := S2 w wr Bk k (z2 (a.data.toList.take k) (b.data.toList.take k))) (fun _ h => h.1) _ _ _ _ ?_
              try simp only [Act.put, List.setIfInBounds_toArray, List.set_cons_zero, List.set_cons_succ]
              refine wpAnyH_take (i := 15) (oi := { dst := some 48, op := Op.convert 35 9 (Operand.tmp 47), type := 9, pos := "law.go:77", after := #[{ on := 14, ground := Ground.data }], guard := none }) (v := ?v12) rfl (by kernel_rfl) (by kernel_rfl) (by kernel_rfl) (fun _ _ _ h => h) (Or.inl ⟨by rfl, ?hy12⟩) HS2.out ?_
              case hy12 => (intro W hSw; have hc := HCN.out W hSw.2; clear hSw; go_simp; first | done | with_reducible rfl)
              try simp only [Act.put, List.setIfInBounds_toArray, List.set_cons_zero, List.set_cons_succ]
              refine wpAnyH_ready (rs := [16]) (by kernel_rfl) (by simp) ?_
              refine AllReadyH.cons (o := { dst := some 49, op := Op.call { callee := Callee.value (Operand.func 9), args := #[Operand.tmp 48], argTypes := #[9] }, type := 23, pos := "law.go:77", after := #[{ on := 15, ground := Ground.data }, { on := 11, ground := Ground.chain }], guard := none }) rfl (fun K hK => ?_) ?_
              · go_simp
                go_at_call 9
                refine (crcSum_any _ ?_ _ ?_).mono ?_
                · assumption
                · exact HS2.out.1.1.1
                rintro e w9 ⟨rfl, rfl⟩
                go_wp2_with fail
                refine hK.out _ _ HS2.out (fun hHeld => ?_)
                clear hHeld hK K
                try simp only [Act.put, List.setIfInBounds_toArray, List.set_cons_zero, List.set_cons_succ]
                refine wpAnyH_take (i := 17) (oi := { dst := some 50, op := Op.binOp BinOp.xor 23 (Operand.tmp 45) (Operand.tmp 49) 23, type := 23, pos := "law.go:77", after := #[{ on := 12, ground := Ground.data }, { on := 16, ground := Ground.data }], guard := none }) (v := ?v13) rfl (by kernel_rfl) (by kernel_rfl) (by kernel_rfl) (fun _ _ _ h => h) (Or.inl ⟨by rfl, ?hy13⟩) HS2.out ?_
                case hy13 => (intro W hSw; clear hSw; go_simp; first | done | with_reducible rfl)
                try simp only [Act.put, List.setIfInBounds_toArray, List.set_cons_zero, List.set_cons_succ]
                refine wpAnyH_take (i := 18) (oi := { dst := some 51, op := Op.binOp BinOp.eql 23 (Operand.tmp 50) (Operand.const (Value.int IntKind.u32 0)) 23, type := 4, pos := "law.go:77", after := #[{ on := 17, ground := Ground.data }], guard := none }) (v := ?v14) rfl (by kernel_rfl) (by kernel_rfl) (by kernel_rfl) (fun _ _ _ h => h) (Or.inl ⟨by rfl, ?hy14⟩) HS2.out ?_
                case hy14 => (intro W hSw; clear hSw; go_simp; first | done | with_reducible rfl)
                try simp only [Act.put, List.setIfInBounds_toArray, List.set_cons_zero, List.set_cons_succ]
                refine wpAnyH_take (i := 19) (oi := { dst := some 4, op := Op.assign (Operand.tmp 51), type := 4, pos := "law.go:77", after := #[{ on := 18, ground := Ground.data }, { on := 16, ground := Ground.chain }, { on := 0, ground := Ground.phase }, { on := 1, ground := Ground.phase }, { on := 2, ground := Ground.phase }, { on := 3, ground := Ground.phase }, { on := 4, ground := Ground.phase }, { on := 5, ground := Ground.phase }, { on := 6, ground := Ground.phase }, { on := 7, ground := Ground.phase }, { on := 8, ground := Ground.phase }, { on := 9, ground := Ground.phase }, { on := 10, ground := Ground.phase }, { on := 11, ground := Ground.phase }, { on := 12, ground := Ground.phase }, { on := 13, ground := Ground.phase }, { on := 14, ground := Ground.phase }, { on := 15, ground := Ground.phase }, { on := 16, ground := Ground.phase }, { on := 17, ground := Ground.phase }, { on := 18, ground := Ground.phase }], guard := none }) (v := ?v15) rfl (by kernel_rfl) (by kernel_rfl) (by kernel_rfl) (fun _ _ _ h => h) (Or.inl ⟨by rfl, ?hy15⟩) HS2.out ?_
                case hy15 => (intro W hSw; clear hSw; go_simp; first | done | with_reducible rfl)
                try simp only [Act.put, List.setIfInBounds_toArray, List.set_cons_zero, List.set_cons_succ]
                refine wpAnyH_done (by kernel_rfl) ?_ _
                go_wp2
                go_ret
                exact ⟨ret_bool HF.out, HFR.out⟩
              exact AllReadyH.nil
            exact AllReadyH.nil
          refine AllReadyH.cons (o := { dst := some 47, op := Op.makeSlice 35 (Operand.tmp 46) (Operand.tmp 46), type := 35, pos := "law.go:77", after := #[{ on := 13, ground := Ground.data }, { on := 13, ground := Ground.data }], guard := none }) rfl (fun K hK => ?_) ?_
          · go_simp
            refine hK.out _ _ HS2.out.1 (fun hHeld => ?_)
            clear hHeld hK K
            refine wpAnyH_more (S2 := S2 w wr Bk k (z2 (a.data.toList.take k) (b.data.toList.take k))) (fun _ h => h.1) _ _ _ _ ?_
            try simp only [Act.put, List.setIfInBounds_toArray, List.set_cons_zero, List.set_cons_succ]
            refine wpAnyH_take (i := 15) (oi := { dst := some 48, op := Op.convert 35 9 (Operand.tmp 47), type := 9, pos := "law.go:77", after := #[{ on := 14, ground := Ground.data }], guard := none }) (v := ?v16) rfl (by kernel_rfl) (by kernel_rfl) (by kernel_rfl) (fun _ _ _ h => h) (Or.inl ⟨by rfl, ?hy16⟩) HS2.out ?_
            case hy16 => (intro W hSw; have hc := HCN.out W hSw.2; clear hSw; go_simp; first | done | with_reducible rfl)
            try simp only [Act.put, List.setIfInBounds_toArray, List.set_cons_zero, List.set_cons_succ]
            refine wpAnyH_ready (rs := [11]) (by kernel_rfl) (by simp) ?_
            refine AllReadyH.cons (o := { dst := some 44, op := Op.call { callee := Callee.value (Operand.func 9), args := #[Operand.tmp 43], argTypes := #[9] }, type := 23, pos := "law.go:77", after := #[{ on := 10, ground := Ground.data }, { on := 7, ground := Ground.chain }], guard := none }) rfl (fun K hK => ?_) ?_
            · go_simp
              go_at_call 9
              refine (crcSum_any _ ?_ _ ?_).mono ?_
              · assumption
              · exact HS2.out.1.1.1
              rintro e w9 ⟨rfl, rfl⟩
              go_wp2_with fail
              refine hK.out _ _ HS2.out (fun hHeld => ?_)
              clear hHeld hK K
              try simp only [Act.put, List.setIfInBounds_toArray, List.set_cons_zero, List.set_cons_succ]
              refine wpAnyH_take (i := 12) (oi := { dst := some 45, op := Op.binOp BinOp.xor 23 (Operand.tmp 41) (Operand.tmp 44) 23, type := 23, pos := "law.go:77", after := #[{ on := 8, ground := Ground.data }, { on := 11, ground := Ground.data }], guard := none }) (v := ?v17) rfl (by kernel_rfl) (by kernel_rfl) (by kernel_rfl) (fun _ _ _ h => h) (Or.inl ⟨by rfl, ?hy17⟩) HS2.out ?_
              case hy17 => (intro W hSw; clear hSw; go_simp; first | done | with_reducible rfl)
              try simp only [Act.put, List.setIfInBounds_toArray, List.set_cons_zero, List.set_cons_succ]
              refine wpAnyH_ready (rs := [16]) (by kernel_rfl) (by simp) ?_
              refine AllReadyH.cons (o := { dst := some 49, op := Op.call { callee := Callee.value (Operand.func 9), args := #[Operand.tmp 48], argTypes := #[9] }, type := 23, pos := "law.go:77", after := #[{ on := 15, ground := Ground.data }, { on := 11, ground := Ground.chain }], guard := none }) rfl (fun K hK => ?_) ?_
              · go_simp
                go_at_call 9
                refine (crcSum_any _ ?_ _ ?_).mono ?_
                · assumption
                · exact HS2.out.1.1.1
                rintro e w9 ⟨rfl, rfl⟩
                go_wp2_with fail
                refine hK.out _ _ HS2.out (fun hHeld => ?_)
                clear hHeld hK K
                try simp only [Act.put, List.setIfInBounds_toArray, List.set_cons_zero, List.set_cons_succ]
                refine wpAnyH_take (i := 17) (oi := { dst := some 50, op := Op.binOp BinOp.xor 23 (Operand.tmp 45) (Operand.tmp 49) 23, type := 23, pos := "law.go:77", after := #[{ on := 12, ground := Ground.data }, { on := 16, ground := Ground.data }], guard := none }) (v := ?v18) rfl (by kernel_rfl) (by kernel_rfl) (by kernel_rfl) (fun _ _ _ h => h) (Or.inl ⟨by rfl, ?hy18⟩) HS2.out ?_
                case hy18 => (intro W hSw; clear hSw; go_simp; first | done | with_reducible rfl)
                try simp only [Act.put, List.setIfInBounds_toArray, List.set_cons_zero, List.set_cons_succ]
                refine wpAnyH_take (i := 18) (oi := { dst := some 51, op := Op.binOp BinOp.eql 23 (Operand.tmp 50) (Operand.const (Value.int IntKind.u32 0)) 23, type := 4, pos := "law.go:77", after := #[{ on := 17, ground := Ground.data }], guard := none }) (v := ?v19) rfl (by kernel_rfl) (by kernel_rfl) (by kernel_rfl) (fun _ _ _ h => h) (Or.inl ⟨by rfl, ?hy19⟩) HS2.out ?_
                case hy19 => (intro W hSw; clear hSw; go_simp; first | done | with_reducible rfl)
                try simp only [Act.put, List.setIfInBounds_toArray, List.set_cons_zero, List.set_cons_succ]
                refine wpAnyH_take (i := 19) (oi := { dst := some 4, op := Op.assign (Operand.tmp 51), type := 4, pos := "law.go:77", after := #[{ on := 18, ground := Ground.data }, { on := 16, ground := Ground.chain }, { on := 0, ground := Ground.phase }, { on := 1, ground := Ground.phase }, { on := 2, ground := Ground.phase }, { on := 3, ground := Ground.phase }, { on := 4, ground := Ground.phase }, { on := 5, ground := Ground.phase }, { on := 6, ground := Ground.phase }, { on := 7, ground := Ground.phase }, { on := 8, ground := Ground.phase }, { on := 9, ground := Ground.phase }, { on := 10, ground := Ground.phase }, { on := 11, ground := Ground.phase }, { on := 12, ground := Ground.phase }, { on := 13, ground := Ground.phase }, { on := 14, ground := Ground.phase }, { on := 15, ground := Ground.phase }, { on := 16, ground := Ground.phase }, { on := 17, ground := Ground.phase }, { on := 18, ground := Ground.phase }], guard := none }) (v := ?v20) rfl (by kernel_rfl) (by kernel_rfl) (by kernel_rfl) (fun _ _ _ h => h) (Or.inl ⟨by rfl, ?hy20⟩) HS2.out ?_
                case hy20 => (intro W hSw; clear hSw; go_simp; first | done | with_reducible rfl)
                try simp only [Act.put, List.setIfInBounds_toArray, List.set_cons_zero, List.set_cons_succ]
                refine wpAnyH_done (by kernel_rfl) ?_ _
                go_wp2
                go_ret
                exact ⟨ret_bool HF.out, HFR.out⟩
              exact AllReadyH.nil
            exact AllReadyH.nil
          exact AllReadyH.nil
        refine AllReadyH.cons (o := { dst := some 47, op := Op.makeSlice 35 (Operand.tmp 46) (Operand.tmp 46), type := 35, pos := "law.go:77", after := #[{ on := 13, ground := Ground.data }, { on := 13, ground := Ground.data }], guard := none }) rfl (fun K hK => ?_) ?_
        · go_simp
          refine hK.out _ _ HS2.out.1 (fun hHeld => ?_)
          clear hHeld hK K
          refine wpAnyH_more (S2 := S2 w wr Bk k (z2 (a.data.toList.take k) (b.data.toList.take k))) (fun _ h => h.1) _ _ _ _ ?_
          try simp only [Act.put, List.setIfInBounds_toArray, List.set_cons_zero, List.set_cons_succ]
          refine wpAnyH_take (i := 15) (oi := { dst := some 48, op := Op.convert 35 9 (Operand.tmp 47), type := 9, pos := "law.go:77", after := #[{ on := 14, ground := Ground.data }], guard := none }) (v := ?v21) rfl (by kernel_rfl) (by kernel_rfl) (by kernel_rfl) (fun _ _ _ h => h) (Or.inl ⟨by rfl, ?hy21⟩) HS2.out ?_
          case hy21 => (intro W hSw; have hc := HCN.out W hSw.2; clear hSw; go_simp; first | done | with_reducible rfl)
          try simp only [Act.put, List.setIfInBounds_toArray, List.set_cons_zero, List.set_cons_succ]
          refine wpAnyH_ready (rs := [7]) (by kernel_rfl) (by simp) ?_
          refine AllReadyH.cons (o := { dst := some 40, op := Op.call { callee := Callee.value (Operand.func 9), args := #[Operand.tmp 39], argTypes := #[9] }, type := 23, pos := "law.go:77", after := #[{ on := 6, ground := Ground.data }, { on := 3, ground := Ground.chain }], guard := none }) rfl (fun K hK => ?_) ?_
          · go_simp
            go_at_call 9
            refine (crcSum_any _ ?_ _ ?_).mono ?_
            · assumption
            · exact HS2.out.1.1.1
            rintro e w9 ⟨rfl, rfl⟩
            go_wp2_with fail
            refine hK.out _ _ HS2.out (fun hHeld => ?_)
            clear hHeld hK K
            try simp only [Act.put, List.setIfInBounds_toArray, List.set_cons_zero, List.set_cons_succ]
            refine wpAnyH_take (i := 8) (oi := { dst := some 41, op := Op.binOp BinOp.xor 23 (Operand.tmp 36) (Operand.tmp 40) 23, type := 23, pos := "law.go:77", after := #[{ on := 3, ground := Ground.data }, { on := 7, ground := Ground.data }], guard := none }) (v := ?v22) rfl (by kernel_rfl) (by kernel_rfl) (by kernel_rfl) (fun _ _ _ h => h) (Or.inl ⟨by rfl, ?hy22⟩) HS2.out ?_
            case hy22 => (intro W hSw; clear hSw; go_simp; first | done | with_reducible rfl)
            try simp only [Act.put, List.setIfInBounds_toArray, List.set_cons_zero, List.set_cons_succ]
            refine wpAnyH_ready (rs := [11]) (by kernel_rfl) (by simp) ?_
            refine AllReadyH.cons (o := { dst := some 44, op := Op.call { callee := Callee.value (Operand.func 9), args := #[Operand.tmp 43], argTypes := #[9] }, type := 23, pos := "law.go:77", after := #[{ on := 10, ground := Ground.data }, { on := 7, ground := Ground.chain }], guard := none }) rfl (fun K hK => ?_) ?_
            · go_simp
              go_at_call 9
              refine (crcSum_any _ ?_ _ ?_).mono ?_
              · assumption
              · exact HS2.out.1.1.1
              rintro e w9 ⟨rfl, rfl⟩
              go_wp2_with fail
              refine hK.out _ _ HS2.out (fun hHeld => ?_)
              clear hHeld hK K
              try simp only [Act.put, List.setIfInBounds_toArray, List.set_cons_zero, List.set_cons_succ]
              refine wpAnyH_take (i := 12) (oi := { dst := some 45, op := Op.binOp BinOp.xor 23 (Operand.tmp 41) (Operand.tmp 44) 23, type := 23, pos := "law.go:77", after := #[{ on := 8, ground := Ground.data }, { on := 11, ground := Ground.data }], guard := none }) (v := ?v23) rfl (by kernel_rfl) (by kernel_rfl) (by kernel_rfl) (fun _ _ _ h => h) (Or.inl ⟨by rfl, ?hy23⟩) HS2.out ?_
              case hy23 => (intro W hSw; clear hSw; go_simp; first | done | with_reducible rfl)
              try simp only [Act.put, List.setIfInBounds_toArray, List.set_cons_zero, List.set_cons_succ]
              refine wpAnyH_ready (rs := [16]) (by kernel_rfl) (by simp) ?_
              refine AllReadyH.cons (o := { dst := some 49, op := Op.call { callee := Callee.value (Operand.func 9), args := #[Operand.tmp 48], argTypes := #[9] }, type := 23, pos := "law.go:77", after := #[{ on := 15, ground := Ground.data }, { on := 11, ground := Ground.chain }], guard := none }) rfl (fun K hK => ?_) ?_
              · go_simp
                go_at_call 9
                refine (crcSum_any _ ?_ _ ?_).mono ?_
                · assumption
                · exact HS2.out.1.1.1
                rintro e w9 ⟨rfl, rfl⟩
                go_wp2_with fail
                refine hK.out _ _ HS2.out (fun hHeld => ?_)
                clear hHeld hK K
                try simp only [Act.put, List.setIfInBounds_toArray, List.set_cons_zero, List.set_cons_succ]
                refine wpAnyH_take (i := 17) (oi := { dst := some 50, op := Op.binOp BinOp.xor 23 (Operand.tmp 45) (Operand.tmp 49) 23, type := 23, pos := "law.go:77", after := #[{ on := 12, ground := Ground.data }, { on := 16, ground := Ground.data }], guard := none }) (v := ?v24) rfl (by kernel_rfl) (by kernel_rfl) (by kernel_rfl) (fun _ _ _ h => h) (Or.inl ⟨by rfl, ?hy24⟩) HS2.out ?_
                case hy24 => (intro W hSw; clear hSw; go_simp; first | done | with_reducible rfl)
                try simp only [Act.put, List.setIfInBounds_toArray, List.set_cons_zero, List.set_cons_succ]
                refine wpAnyH_take (i := 18) (oi := { dst := some 51, op := Op.binOp BinOp.eql 23 (Operand.tmp 50) (Operand.const (Value.int IntKind.u32 0)) 23, type := 4, pos := "law.go:77", after := #[{ on := 17, ground := Ground.data }], guard := none }) (v := ?v25) rfl (by kernel_rfl) (by kernel_rfl) (by kernel_rfl) (fun _ _ _ h => h) (Or.inl ⟨by rfl, ?hy25⟩) HS2.out ?_
                case hy25 => (intro W hSw; clear hSw; go_simp; first | done | with_reducible rfl)
                try simp only [Act.put, List.setIfInBounds_toArray, List.set_cons_zero, List.set_cons_succ]
                refine wpAnyH_take (i := 19) (oi := { dst := some 4, op := Op.assign (Operand.tmp 51), type := 4, pos := "law.go:77", after := #[{ on := 18, ground := Ground.data }, { on := 16, ground := Ground.chain }, { on := 0, ground := Ground.phase }, { on := 1, ground := Ground.phase }, { on := 2, ground := Ground.phase }, { on := 3, ground := Ground.phase }, { on := 4, ground := Ground.phase }, { on := 5, ground := Ground.phase }, { on := 6, ground := Ground.phase }, { on := 7, ground := Ground.phase }, { on := 8, ground := Ground.phase }, { on := 9, ground := Ground.phase }, { on := 10, ground := Ground.phase }, { on := 11, ground := Ground.phase }, { on := 12, ground := Ground.phase }, { on := 13, ground := Ground.phase }, { on := 14, ground := Ground.phase }, { on := 15, ground := Ground.phase }, { on := 16, ground := Ground.phase }, { on := 17, ground := Ground.phase }, { on := 18, ground := Ground.phase }], guard := none }) (v := ?v26) rfl (by kernel_rfl) (by kernel_rfl) (by kernel_rfl) (fun _ _ _ h => h) (Or.inl ⟨by rfl, ?hy26⟩) HS2.out ?_
                case hy26 => (intro W hSw; clear hSw; go_simp; first | done | with_reducible rfl)
                try simp only [Act.put, List.setIfInBounds_toArray, List.set_cons_zero, List.set_cons_succ]
                refine wpAnyH_done (by kernel_rfl) ?_ _
                go_wp2
                go_ret
                exact ⟨ret_bool HF.out, HFR.out⟩
              exact AllReadyH.nil
            exact AllReadyH.nil
          exact AllReadyH.nil
        exact AllReadyH.nil
      refine AllReadyH.cons (o := { dst := some 47, op := Op.makeSlice 35 (Operand.tmp 46) (Operand.tmp 46), type := 35, pos := "law.go:77", after := #[{ on := 13, ground := Ground.data }, { on := 13, ground := Ground.data }], guard := none }) rfl (fun K hK => ?_) ?_
      · go_simp
        refine hK.out _ _ HS2.out.1 (fun hHeld => ?_)
        clear hHeld hK K
        refine wpAnyH_more (S2 := S2 w wr Bk k (z2 (a.data.toList.take k) (b.data.toList.take k))) (fun _ h => h.1) _ _ _ _ ?_
        try simp only [Act.put, List.setIfInBounds_toArray, List.set_cons_zero, List.set_cons_succ]
        refine wpAnyH_take (i := 15) (oi := { dst := some 48, op := Op.convert 35 9 (Operand.tmp 47), type := 9, pos := "law.go:77", after := #[{ on := 14, ground := Ground.data }], guard := none }) (v := ?v27) rfl (by kernel_rfl) (by kernel_rfl) (by kernel_rfl) (fun _ _ _ h => h) (Or.inl ⟨by rfl, ?hy27⟩) HS2.out ?_
        case hy27 => (intro W hSw; have hc := HCN.out W hSw.2; clear hSw; go_simp; first | done | with_reducible rfl)
        try simp only [Act.put, List.setIfInBounds_toArray, List.set_cons_zero, List.set_cons_succ]
        refine wpAnyH_ready (rs := [3]) (by kernel_rfl) (by simp) ?_
        refine AllReadyH.cons (o := { dst := some 36, op := Op.call { callee := Callee.value (Operand.func 9), args := #[Operand.tmp 35], argTypes := #[9] }, type := 23, pos := "law.go:77", after := #[{ on := 2, ground := Ground.data }], guard := none }) rfl (fun K hK => ?_) ?_
        · go_simp
          go_at_call 9
          refine (crcSum_any _ ?_ _ ?_).mono ?_
          · assumption
          · exact HS2.out.1.1.1
          rintro e w9 ⟨rfl, rfl⟩
          go_wp2_with fail
          refine hK.out _ _ HS2.out (fun hHeld => ?_)
          clear hHeld hK K
          try simp only [Act.put, List.setIfInBounds_toArray, List.set_cons_zero, List.set_cons_succ]
          refine wpAnyH_ready (rs := [7]) (by kernel_rfl) (by simp) ?_
          refine AllReadyH.cons (o := { dst := some 40, op := Op.call { callee := Callee.value (Operand.func 9), args := #[Operand.tmp 39], argTypes := #[9] }, type := 23, pos := "law.go:77", after := #[{ on := 6, ground := Ground.data }, { on := 3, ground := Ground.chain }], guard := none }) rfl (fun K hK => ?_) ?_
          · go_simp
            go_at_call 9
            refine (crcSum_any _ ?_ _ ?_).mono ?_
            · assumption
            · exact HS2.out.1.1.1
            rintro e w9 ⟨rfl, rfl⟩
            go_wp2_with fail
            refine hK.out _ _ HS2.out (fun hHeld => ?_)
            clear hHeld hK K
            try simp only [Act.put, List.setIfInBounds_toArray, List.set_cons_zero, List.set_cons_succ]
            refine wpAnyH_take (i := 8) (oi := { dst := some 41, op := Op.binOp BinOp.xor 23 (Operand.tmp 36) (Operand.tmp 40) 23, type := 23, pos := "law.go:77", after := #[{ on := 3, ground := Ground.data }, { on := 7, ground := Ground.data }], guard := none }) (v := ?v28) rfl (by kernel_rfl) (by kernel_rfl) (by kernel_rfl) (fun _ _ _ h => h) (Or.inl ⟨by rfl, ?hy28⟩) HS2.out ?_
            case hy28 => (intro W hSw; clear hSw; go_simp; first | done | with_reducible rfl)
            try simp only [Act.put, List.setIfInBounds_toArray, List.set_cons_zero, List.set_cons_succ]
            refine wpAnyH_ready (rs := [11]) (by kernel_rfl) (by simp) ?_
            refine AllReadyH.cons (o := { dst := some 44, op := Op.call { callee := Callee.value (Operand.func 9), args := #[Operand.tmp 43], argTypes := #[9] }, type := 23, pos := "law.go:77", after := #[{ on := 10, ground := Ground.data }, { on := 7, ground := Ground.chain }], guard := none }) rfl (fun K hK => ?_) ?_
            · go_simp
              go_at_call 9
              refine (crcSum_any _ ?_ _ ?_).mono ?_
              · assumption
              · exact HS2.out.1.1.1
              rintro e w9 ⟨rfl, rfl⟩
              go_wp2_with fail
              refine hK.out _ _ HS2.out (fun hHeld => ?_)
              clear hHeld hK K
              try simp only [Act.put, List.setIfInBounds_toArray, List.set_cons_zero, List.set_cons_succ]
              refine wpAnyH_take (i := 12) (oi := { dst := some 45, op := Op.binOp BinOp.xor 23 (Operand.tmp 41) (Operand.tmp 44) 23, type := 23, pos := "law.go:77", after := #[{ on := 8, ground := Ground.data }, { on := 11, ground := Ground.data }], guard := none }) (v := ?v29) rfl (by kernel_rfl) (by kernel_rfl) (by kernel_rfl) (fun _ _ _ h => h) (Or.inl ⟨by rfl, ?hy29⟩) HS2.out ?_
              case hy29 => (intro W hSw; clear hSw; go_simp; first | done | with_reducible rfl)
              try simp only [Act.put, List.setIfInBounds_toArray, List.set_cons_zero, List.set_cons_succ]
              refine wpAnyH_ready (rs := [16]) (by kernel_rfl) (by simp) ?_
              refine AllReadyH.cons (o := { dst := some 49, op := Op.call { callee := Callee.value (Operand.func 9), args := #[Operand.tmp 48], argTypes := #[9] }, type := 23, pos := "law.go:77", after := #[{ on := 15, ground := Ground.data }, { on := 11, ground := Ground.chain }], guard := none }) rfl (fun K hK => ?_) ?_
              · go_simp
                go_at_call 9
                refine (crcSum_any _ ?_ _ ?_).mono ?_
                · assumption
                · exact HS2.out.1.1.1
                rintro e w9 ⟨rfl, rfl⟩
                go_wp2_with fail
                refine hK.out _ _ HS2.out (fun hHeld => ?_)
                clear hHeld hK K
                try simp only [Act.put, List.setIfInBounds_toArray, List.set_cons_zero, List.set_cons_succ]
                refine wpAnyH_take (i := 17) (oi := { dst := some 50, op := Op.binOp BinOp.xor 23 (Operand.tmp 45) (Operand.tmp 49) 23, type := 23, pos := "law.go:77", after := #[{ on := 12, ground := Ground.data }, { on := 16, ground := Ground.data }], guard := none }) (v := ?v30) rfl (by kernel_rfl) (by kernel_rfl) (by kernel_rfl) (fun _ _ _ h => h) (Or.inl ⟨by rfl, ?hy30⟩) HS2.out ?_
                case hy30 => (intro W hSw; clear hSw; go_simp; first | done | with_reducible rfl)
                try simp only [Act.put, List.setIfInBounds_toArray, List.set_cons_zero, List.set_cons_succ]
                refine wpAnyH_take (i := 18) (oi := { dst := some 51, op := Op.binOp BinOp.eql 23 (Operand.tmp 50) (Operand.const (Value.int IntKind.u32 0)) 23, type := 4, pos := "law.go:77", after := #[{ on := 17, ground := Ground.data }], guard := none }) (v := ?v31) rfl (by kernel_rfl) (by kernel_rfl) (by kernel_rfl) (fun _ _ _ h => h) (Or.inl ⟨by rfl, ?hy31⟩) HS2.out ?_
                case hy31 => (intro W hSw; clear hSw; go_simp; first | done | with_reducible rfl)
                try simp only [Act.put, List.setIfInBounds_toArray, List.set_cons_zero, List.set_cons_succ]
                refine wpAnyH_take (i := 19) (oi := { dst := some 4, op := Op.assign (Operand.tmp 51), type := 4, pos := "law.go:77", after := #[{ on := 18, ground := Ground.data }, { on := 16, ground := Ground.chain }, { on := 0, ground := Ground.phase }, { on := 1, ground := Ground.phase }, { on := 2, ground := Ground.phase }, { on := 3, ground := Ground.phase }, { on := 4, ground := Ground.phase }, { on := 5, ground := Ground.phase }, { on := 6, ground := Ground.phase }, { on := 7, ground := Ground.phase }, { on := 8, ground := Ground.phase }, { on := 9, ground := Ground.phase }, { on := 10, ground := Ground.phase }, { on := 11, ground := Ground.phase }, { on := 12, ground := Ground.phase }, { on := 13, ground := Ground.phase }, { on := 14, ground := Ground.phase }, { on := 15, ground := Ground.phase }, { on := 16, ground := Ground.phase }, { on := 17, ground := Ground.phase }, { on := 18, ground := Ground.phase }], guard := none }) (v := ?v32) rfl (by kernel_rfl) (by kernel_rfl) (by kernel_rfl) (fun _ _ _ h => h) (Or.inl ⟨by rfl, ?hy32⟩) HS2.out ?_
                case hy32 => (intro W hSw; clear hSw; go_simp; first | done | with_reducible rfl)
                try simp only [Act.put, List.setIfInBounds_toArray, List.set_cons_zero, List.set_cons_succ]
                refine wpAnyH_done (by kernel_rfl) ?_ _
                go_wp2
                go_ret
                exact ⟨ret_bool HF.out, HFR.out⟩
              exact AllReadyH.nil
            exact AllReadyH.nil
          exact AllReadyH.nil
        exact AllReadyH.nil
      exact AllReadyH.nil
end Go.Proofs.YtmjfnnemokmdcaaDoor
