/- Reports of damage: the document's Check and Text. -/
import Derived.Test.YtfmpbohiahjafaaGreatDoorDmgG
import Derived.OwnWalk
namespace Go.Proofs.YtfmpbohiahjafaaGreatDoor
open Go.RowKit Go.Lib

theorem infoU8d : ∃ i, Tryz.prog.info? 5 = some i ∧ i.zero = some (.int .u8 0) ∧ i.size = 1 ∧ i.bytes = 1 := by
  have e : (Tryz.prog.info? 5).map (fun i => (i.zero, i.size, i.bytes)) = some (some (.int .u8 0), 1, 1) := by kernel_rfl
  obtain ⟨i, hi, hz⟩ := Option.map_eq_some_iff.1 e
  simp only [Prod.mk.injEq] at hz
  exact ⟨i, hi, hz.1, hz.2.1, hz.2.2⟩
theorem strCells_u8d (s : ByteArray) : Lib.strCells s = U8s s.data.toList := by
  unfold Lib.strCells U8s; simp
/-- append(b, s...). -/
theorem wpList_app_strD {W : World} {ops : Array Oper} {rest : List Oper} {o : Oper} {a : Act} {K : Exit → Act → World → Prop} (hgd : o.guard = none) (s x : Operand)
    (ho : o.op = .call { callee := .builtin .append, args := #[s, x], argTypes := #[48, 9] }) {B : Nat} {v : Value} {l : List UInt8} (hs : a.eval s = v) (hown : OwnB W B v l) (sx : ByteArray) (hx : a.eval x = .string sx) (hB : B ≤ W.heap.size) (hl : l.length ≤ 100000000) (hr : sx.size ≤ 1000)
    (hK : ∀ v' w', OwnB w' B v' (l ++ sx.data.toList) → Below B W w' → wpList Tryz.prog ops K rest (a.put o.dst v') w') : wpList Tryz.prog ops K (o :: rest) a W := by
  obtain ⟨i, hi, hz, hsz, hby⟩ := infoU8d
  have hsr : sx.data.toList.length = sx.size := by simp
  refine Lib.wpList_append_own_string W hgd s x 48 9 ho B 5 i Tryz.underlying48 Tryz.underlying9 hi hz hsz hby v l.length (U8s l) hs hown sx hx (by unfold maxLen; omega) (by omega) hB ?_
  intro v' w' h2 h3 _
  refine hK v' w' ?_ (Below.grown (Below.refl _ _) h3 hB (fun k hk => (World.ownsRow.lt hown k hk).1))
  rw [strCells_u8d] at h2
  unfold OwnB
  rw [List.length_append, hsr, show U8s (l ++ sx.data.toList) = U8s l ++ U8s sx.data.toList by unfold U8s; rw [List.map_append]]
  exact h2
theorem all_take {α : Type} (p : α → Bool) (d : α) (L : List α) (h : ∀ k, k < L.length → p (L.getD k d) = true) : L.all p = true := by
  rw [List.all_eq_true]
  intro x hx
  obtain ⟨k, hk, rfl⟩ := List.mem_iff_getElem.1 hx
  have := h k hk
  rw [List.getD, List.getElem?_eq_getElem hk] at this
  exact this
theorem all_not {α : Type} (p : α → Bool) (d : α) (L : List α) {k : Nat} (hk : k < L.length) (h : p (L.getD k d) = false) : L.all p = false := by
  rw [Bool.eq_false_iff]
  intro ha
  rw [List.all_eq_true] at ha
  have := ha _ (List.getElem_mem hk)
  rw [List.getD, List.getElem?_eq_getElem hk] at h
  have h : p L[k] = false := h
  rw [h] at this; cases this
theorem nl_cat (l : List UInt8) : ((⟨l.toArray⟩ : ByteArray) ++ (⟨#[10]⟩ : ByteArray)).data.toList = l ++ [10] := by
  rw [show (⟨#[10]⟩ : ByteArray) = ⟨([10] : List UInt8).toArray⟩ from rfl, sapp]
theorem nl_size (l : List UInt8) : ((⟨l.toArray⟩ : ByteArray) ++ (⟨#[10]⟩ : ByteArray)).size = l.length + 1 := by
  rw [show (⟨#[10]⟩ : ByteArray) = ⟨([10] : List UInt8).toArray⟩ from rfl, sapp, bsz]; simp
theorem txW_take {W : List WD} {j : Nat} (h : j < W.length) : ((W.take (j + 1)).flatMap fun x => wLn x ++ [10]) = ((W.take j).flatMap fun x => wLn x ++ [10]) ++ (wLn (W.getD j WD.zero) ++ [10]) := by
  rw [getD_snoc WD.zero h, List.flatMap_append, List.flatMap_singleton]
theorem txLo_take {L : List LO} {j : Nat} (h : j < L.length) : ((L.take (j + 1)).flatMap fun x => lLn x ++ [10]) = ((L.take j).flatMap fun x => lLn x ++ [10]) ++ (lLn (L.getD j LO.zero) ++ [10]) := by
  rw [getD_snoc LO.zero h, List.flatMap_append, List.flatMap_singleton]
theorem flat_bound {α : Type} (f : α → List UInt8) : ∀ (L : List α), (∀ x ∈ L, (f x).length ≤ 51) → (L.flatMap f).length ≤ 51 * L.length
  | [], _ => by simp
  | x :: r, h => by
    have h1 := h x (List.mem_cons_self ..)
    have h2 := flat_bound f r (fun y hy => h y (List.mem_cons_of_mem _ hy))
    rw [List.flatMap_cons, List.length_append, List.length_cons]; omega
theorem txW_bound {W : List WD} (h : ∀ x ∈ W, wdOk x = true) : (W.flatMap fun x => wLn x ++ [10]).length ≤ 51 * W.length :=
  flat_bound _ W (fun x hx => by have := wLn_len (h x hx); rw [List.length_append, List.length_singleton]; omega)
theorem txLo_bound {L : List LO} (h : ∀ x ∈ L, loOk x = true) : (L.flatMap fun x => lLn x ++ [10]).length ≤ 51 * L.length :=
  flat_bound _ L (fun x hx => by have := lLn_len (h x hx); rw [List.length_append, List.length_singleton]; omega)
theorem txB_bound {W : List WD} {L : List LO} (h : ckE W L = 0) : (txB W L).length ≤ 51 * 16384 := by
  rw [ckE_iff] at h
  have h1 := txW_bound h.2.1
  have h2 := txLo_bound h.2.2
  unfold txB
  rw [List.length_append]; omega
set_option maxHeartbeats 8000000 in
theorem refCheck_any {w : World} {u v : Value} {W : List WD} {L : List LO} (hu : WdS w u W) (hv : LoS w v L) :
    Calls Tryz.prog 13 #[.agg #[u, v]] w fun e w' => e = .returned (.int .i64 (ckE W L)) ∧ Below w.heap.size w w' := by
  obtain ⟨r, hr⟩ : ∃ r, r = ckE W L := ⟨_, rfl⟩
  rw [← hr]
  unfold ckE ckL at hr
  have HR := Lib.hid hr
  clear hr
  obtain ⟨A, ca, rfl, ha1, ha2, ha3⟩ := hu
  obtain ⟨B, cb, rfl, hb1, hb2, hb3⟩ := hv
  obtain ⟨n, hn⟩ : ∃ n, n = W.length := ⟨_, rfl⟩
  obtain ⟨m, hm⟩ : ∃ m, m = L.length := ⟨_, rfl⟩
  have HN := Lib.hid hn
  have HM := Lib.hid hm
  have hnx : n ≤ maxLen := by rw [hn]; exact Nat.le_trans ha1 ha2
  have hmx : m ≤ maxLen := by rw [hm]; exact Nat.le_trans hb1 hb2
  have HNX := Lib.hid hnx
  have HMX := Lib.hid hmx
  have HA := Lib.hid ha3
  have HBB := Lib.hid hb3
  rw [← hn, ← hm]
  clear hn hm hnx hmx ha1 ha2 ha3 hb1 hb2 hb3
  have HX := box2 w (.slice A n ca) (.slice B m cb) 25
  have HB0 := Lib.hid (below_new w (.cells #[.slice A n ca, .slice B m cb] 25))
  go_enter Tryz.func13, Tryz.ntmps13
  go_upto_region 1 with fail
  have HQ : Hid (w.heap.size < (w.alloc (.cells #[.slice A n ca, .slice B m cb] 25)).heap.size ∧ w.heap.size + 1 = (w.alloc (.cells #[.slice A n ca, .slice B m cb] 25)).heap.size) := Lib.hid ⟨by simp, by simp⟩
  generalize w.alloc (.cells #[.slice A n ca, .slice B m cb] 25) = w1 at HX HB0 HQ ⊢
  rw [HQ.out.2] at HX
  obtain ⟨y0, y1⟩ := HX.out w1 (Below.refl _ _)
  have hC := refWound_any
  have hC2 := refLost_any
  by_cases h1 : 16384 < n
  · have d1 : decide ((16384 : Int) < (n : Int)) = true := decide_eq_true (by omega)
    obtain rfl : r = 7 := by rw [HR.out, ← HN.out, ← HM.out, decide_eq_false (by omega)]; rfl
    clear h1
    go_wp2
    go_ret
    exact ⟨rfl, HB0.out⟩
  have d1 : decide ((16384 : Int) < (n : Int)) = false := decide_eq_false (by omega)
  by_cases h2 : 16384 < m
  · have d2 : decide ((16384 : Int) < (m : Int)) = true := decide_eq_true (by omega)
    obtain rfl : r = 7 := by rw [HR.out, ← HN.out, ← HM.out, decide_eq_false (by omega)]; rfl
    clear h1 h2
    go_wp2
    go_ret
    exact ⟨rfl, HB0.out⟩
  have d2 : decide ((16384 : Int) < (m : Int)) = false := decide_eq_false (by omega)
  have hw : wrap64 ((n : Int) + (m : Int)) = (n : Int) + (m : Int) := by unfold wrap64; omega
  by_cases h3 : 16384 < n + m
  · have d3 : decide ((16384 : Int) < (n : Int) + (m : Int)) = true := decide_eq_true (by omega)
    obtain rfl : r = 7 := by rw [HR.out, ← HN.out, ← HM.out, decide_eq_false (by omega)]; rfl
    clear h1 h2 h3
    go_wp2
    go_ret
    exact ⟨rfl, HB0.out⟩
  have d3 : decide ((16384 : Int) < (n : Int) + (m : Int)) = false := decide_eq_false (by omega)
  have HR2 : Hid (r = if W.all wdOk && L.all loOk then 0 else 2) := Lib.hid (by rw [HR.out, ← HN.out, ← HM.out, decide_eq_true (by omega : n + m ≤ 16384), if_neg (by simp)])
  clear h1 h2 h3 HR
  go_wp2
  clear d1 d2 d3 hw
  go_loopw [30] (fun ix wr => ∃ j : Nat, j ≤ n ∧ ix = .int .i64 (j : Int) ∧ (∀ k, k < j → wdOk (W.getD k WD.zero) = true) ∧ Below w1.heap.size w1 wr) (fun ix _ => n - (intOf ix).toNat)
  case atStart => exact ⟨0, Nat.zero_le _, rfl, (fun k hk => absurd hk (by omega)), Below.refl _ _⟩
  case round =>
    obtain ⟨j, hj, rfl, hall, hb⟩ := hrel
    have HB := Lib.hid hb
    have HAL := Lib.hid hall
    clear hb hall
    by_cases hlt : j < n
    · obtain ⟨g, o, rfl, hglt, hk⟩ := HA.out.resolve_left (by intro e; have := HN.out; rw [e] at this; simp at this; omega)
      have hjL : j < W.length := by rw [← HN.out]; exact hlt
      have hbw : Below w.heap.size w wr := HB0.out.trans (HB.out.mono HB0.out.size)
      have hc := stAt (k := 5) hbw hglt hk hjL
      have hCj := hC (W.getD j WD.zero)
      have HY : Hid (wdOk (W.getD j WD.zero) = true → ∀ k, k < j + 1 → wdOk (W.getD k WD.zero) = true) := Lib.hid (fun h k hk => by
        by_cases e : k = j
        · rw [e]; exact h
        · exact HAL.out k (by omega))
      have HZ : Hid (wdOk (W.getD j WD.zero) = false → r = 2) := Lib.hid (fun h => by rw [HR2.out, all_not wdOk WD.zero W hjL h]; rfl)
      generalize W.getD j WD.zero = p at hc hCj HY HZ
      generalize wdOk p = bb at hCj HY HZ
      obtain ⟨k, id, ix, pl, hl⟩ := p
      unfold WD.enc at hCj
      dsimp only at hCj
      have q0 : wr.cell? ⟨g, o + j * 5, none⟩ = some (.int .u8 k) := hc 0 _ rfl
      have q1 : wr.cell? ⟨g, o + j * 5 + 1, none⟩ = some (.int .i64 id) := hc 1 _ rfl
      have q2 : wr.cell? ⟨g, o + j * 5 + 2, none⟩ = some (.int .i64 ix) := hc 2 _ rfl
      have q3 : wr.cell? ⟨g, o + j * 5 + 3, none⟩ = some (.int .i64 pl) := hc 3 _ rfl
      have q4 : wr.cell? ⟨g, o + j * 5 + 4, none⟩ = some (.bool hl) := hc 4 _ rfl
      have HJ : Hid (j + 1 ≤ n ∧ n - (j + 1) < n - j) := Lib.hid ⟨hlt, by omega⟩
      have hbx := (Below.refl wr.heap.size wr).alloc (Nat.le_refl _) (.cells #[.int .u8 k, .int .i64 id, .int .i64 ix, .int .i64 pl, .bool hl] 42)
      have HBX := Lib.hid (HB.out.trans (hbx.mono HB.out.size))
      have hw1 := nextD hlt HNX.out
      clear hk hc hjL hbw hbx
      cases bb
      · obtain rfl := HZ.out rfl
        clear HY HZ
        go_wp2_with (go_at_call 37; (with_reducible refine (hCj _).mono ?_); rintro e w2 ⟨rfl, hb2⟩; have HB2 := Lib.hid (HBX.out.trans (hb2.mono HBX.out.size)); clear hb2)
        go_ret
        exact ⟨rfl, HB0.out.trans (HB2.out.mono HB0.out.size)⟩
      · have HE := Lib.hid (HY.out rfl)
        clear HY HZ
        go_wp2_with (go_at_call 37; (with_reducible refine (hCj _).mono ?_); rintro e w2 ⟨rfl, hb2⟩; have HB2 := Lib.hid (HBX.out.trans (hb2.mono HBX.out.size)); clear hb2)
        (try rw [hw1])
        clear hw1
        go_roundw
        case rel => exact ⟨j + 1, HJ.out.1, by go_num, HE.out, HB2.out⟩
        case measure => have h := HJ.out.2; simp only [intOf]; omega
    · obtain rfl : j = n := by omega
      have HAW : Hid (W.all wdOk = true) := Lib.hid (all_take wdOk WD.zero W (fun k hk => HAL.out k (by rw [HN.out]; exact hk)))
      obtain ⟨y0, y1⟩ := HX.out wr HB.out
      obtain ⟨wq, hwq⟩ : ∃ wq, wq = wr := ⟨_, rfl⟩
      rw [← hwq] at HB y0 y1 ⊢
      clear hwq
      go_wp2
      go_loopw [41] (fun ix wr => ∃ j : Nat, j ≤ m ∧ ix = .int .i64 (j : Int) ∧ (∀ k, k < j → loOk (L.getD k LO.zero) = true) ∧ Below w1.heap.size w1 wr) (fun ix _ => m - (intOf ix).toNat)
      case atStart => exact ⟨0, Nat.zero_le _, rfl, (fun k hk => absurd hk (by omega)), HB.out⟩
      case round =>
        obtain ⟨i, hi, rfl, hall, hb⟩ := hrel
        have HBi := Lib.hid hb
        have HAi := Lib.hid hall
        clear hb hall
        by_cases hlt2 : i < m
        · obtain ⟨g, o, rfl, hglt, hk⟩ := HBB.out.resolve_left (by intro e; have := HM.out; rw [e] at this; simp at this; omega)
          have hjL : i < L.length := by rw [← HM.out]; exact hlt2
          have hbw : Below w.heap.size w wr := HB0.out.trans (HBi.out.mono HB0.out.size)
          have hc := stAt (k := 3) hbw hglt hk hjL
          have hCj := hC2 (L.getD i LO.zero)
          have HY : Hid (loOk (L.getD i LO.zero) = true → ∀ k, k < i + 1 → loOk (L.getD k LO.zero) = true) := Lib.hid (fun h k hk => by
            by_cases e : k = i
            · rw [e]; exact h
            · exact HAi.out k (by omega))
          have HZ : Hid (loOk (L.getD i LO.zero) = false → r = 2) := Lib.hid (fun h => by rw [HR2.out, all_not loOk LO.zero L hjL h, Bool.and_false]; rfl)
          generalize L.getD i LO.zero = p at hc hCj HY HZ
          generalize loOk p = bb at hCj HY HZ
          obtain ⟨c, f, t⟩ := p
          unfold LO.enc at hCj
          dsimp only at hCj
          have q0 : wr.cell? ⟨g, o + i * 3, none⟩ = some (.int .i64 c) := hc 0 _ rfl
          have q1 : wr.cell? ⟨g, o + i * 3 + 1, none⟩ = some (.int .i64 f) := hc 1 _ rfl
          have q2 : wr.cell? ⟨g, o + i * 3 + 2, none⟩ = some (.int .i64 t) := hc 2 _ rfl
          have HJ : Hid (i + 1 ≤ m ∧ m - (i + 1) < m - i) := Lib.hid ⟨hlt2, by omega⟩
          have hbx := (Below.refl wr.heap.size wr).alloc (Nat.le_refl _) (.cells #[.int .i64 c, .int .i64 f, .int .i64 t] 46)
          have HBX := Lib.hid (HBi.out.trans (hbx.mono HBi.out.size))
          have hw1 := nextD hlt2 HMX.out
          clear hk hc hjL hbw hbx hlt
          cases bb
          · obtain rfl := HZ.out rfl
            clear HY HZ
            go_wp2_with (go_at_call 38; (with_reducible refine (hCj _).mono ?_); rintro e w2 ⟨rfl, hb2⟩; have HB2 := Lib.hid (HBX.out.trans (hb2.mono HBX.out.size)); clear hb2)
            go_ret
            exact ⟨rfl, HB0.out.trans (HB2.out.mono HB0.out.size)⟩
          · have HE := Lib.hid (HY.out rfl)
            clear HY HZ
            go_wp2_with (go_at_call 38; (with_reducible refine (hCj _).mono ?_); rintro e w2 ⟨rfl, hb2⟩; have HB2 := Lib.hid (HBX.out.trans (hb2.mono HBX.out.size)); clear hb2)
            (try rw [hw1])
            clear hw1
            go_roundw
            case rel => exact ⟨i + 1, HJ.out.1, by go_num, HE.out, HB2.out⟩
            case measure => have h := HJ.out.2; simp only [intOf]; omega
        · obtain rfl : i = m := by omega
          have HAI : Hid (L.all loOk = true) := Lib.hid (all_take loOk LO.zero L (fun k hk => HAi.out k (by rw [HM.out]; exact hk)))
          obtain rfl : r = 0 := by rw [HR2.out, HAW.out, HAI.out]; rfl
          go_wp2
          go_ret
          exact ⟨rfl, HB0.out.trans (HBi.out.mono HB0.out.size)⟩
set_option maxHeartbeats 8000000 in
theorem refText_any {w : World} {u v : Value} {W : List WD} {L : List LO} (hu : WdS w u W) (hv : LoS w v L) :
    Calls Tryz.prog 8 #[.agg #[u, v]] w fun e w' => e = .returned (.tuple #[Bs (txL W L), .int .i64 (ckE W L)]) ∧ Below w.heap.size w w' := by
  have HCK : Hid (∀ V, Below w.heap.size w V → _) := Lib.hid (fun V hb => refCheck_any (hu.below hb (Nat.le_refl _)) (hv.below hb (Nat.le_refl _)))
  obtain ⟨r, hr⟩ : ∃ r, r = ckE W L := ⟨_, rfl⟩
  obtain ⟨tx, htx⟩ : ∃ tx, tx = txL W L := ⟨_, rfl⟩
  have HR := Lib.hid hr
  have HT := Lib.hid htx
  rw [← hr] at HCK ⊢
  rw [← htx]
  clear hr htx
  obtain ⟨A, ca, rfl, ha1, ha2, ha3⟩ := hu
  obtain ⟨B, cb, rfl, hb1, hb2, hb3⟩ := hv
  obtain ⟨n, hn⟩ : ∃ n, n = W.length := ⟨_, rfl⟩
  obtain ⟨m, hm⟩ : ∃ m, m = L.length := ⟨_, rfl⟩
  have HN := Lib.hid hn
  have HM := Lib.hid hm
  have hnx : n ≤ maxLen := by rw [hn]; exact Nat.le_trans ha1 ha2
  have hmx : m ≤ maxLen := by rw [hm]; exact Nat.le_trans hb1 hb2
  have HNX := Lib.hid hnx
  have HMX := Lib.hid hmx
  have HA := Lib.hid ha3
  have HBB := Lib.hid hb3
  rw [← hn, ← hm] at HCK ⊢
  clear hn hm hnx hmx ha1 ha2 ha3 hb1 hb2 hb3
  have HX := box2 w (.slice A n ca) (.slice B m cb) 25
  have HB0 := Lib.hid (below_new w (.cells #[.slice A n ca, .slice B m cb] 25))
  go_enter Tryz.func8, Tryz.ntmps8
  go_upto_region 1 with fail
  have HQ : Hid (w.heap.size < (w.alloc (.cells #[.slice A n ca, .slice B m cb] 25)).heap.size ∧ w.heap.size + 1 = (w.alloc (.cells #[.slice A n ca, .slice B m cb] 25)).heap.size) := Lib.hid ⟨by simp, by simp⟩
  generalize w.alloc (.cells #[.slice A n ca, .slice B m cb] 25) = w1 at HX HB0 HQ ⊢
  rw [HQ.out.2] at HX
  obtain ⟨y0, y1⟩ := HX.out w1 (Below.refl _ _)
  have hCK := HCK.out w1 HB0.out
  clear HCK
  by_cases h0 : r = 0
  case neg =>
    have d0 : (r != 0) = true := by rw [bne_iff_ne]; exact h0
    have d1 : (r == 0) = false := by rw [beq_eq_false_iff_ne]; exact h0
    have HT2 : Hid (tx = []) := Lib.hid (by rw [HT.out]; unfold txL; rw [← HR.out, if_neg h0])
    clear h0
    go_wp2_with (go_at_call 13; (with_reducible refine hCK.mono ?_); rintro e w2 ⟨rfl, hb2⟩; have HB2 := Lib.hid (HB0.out.trans (hb2.mono HB0.out.size)); clear hb2)
    go_ret2
    exact ⟨by rw [HT2.out]; rfl, HB2.out⟩
  subst h0
  have HOK : Hid ((∀ x ∈ W, wdOk x = true) ∧ (∀ x ∈ L, loOk x = true) ∧ n + m ≤ 16384) := Lib.hid (by
    have h := ckE_iff.1 HR.out.symm
    exact ⟨h.2.1, h.2.2, by rw [HN.out, HM.out]; exact h.1⟩)
  have HT2 : Hid (tx = txB W L) := Lib.hid (by rw [HT.out]; unfold txL; rw [← HR.out, if_pos rfl])
  have hWL := @refWoundLine_any
  have hLL := @refLostLine_any
  clear HR HT
  go_upto_region 4 with (go_at_call 13; (with_reducible refine hCK.mono ?_); rintro e w2 ⟨rfl, hb2⟩; have HB2 := Lib.hid hb2; clear hb2)
  obtain ⟨y2, y3⟩ := HX.out w2 HB2.out
  clear hCK y0 y1
  go_wp2
  go_loopw [5, 18] (fun vx ix wr => ∃ (j : Nat) (z : Value), j ≤ n ∧ ix = .int .i64 (j : Int) ∧ z = vx ∧ OwnB wr w1.heap.size z ((W.take j).flatMap fun x => wLn x ++ [10]) ∧ Below w1.heap.size w1 wr) (fun _ ix _ => n - (intOf ix).toNat)
  case atStart => exact ⟨0, _, Nat.zero_le _, rfl, rfl, World.ownsRow_nil _ _ _ _, HB2.out⟩
  case round =>
    obtain ⟨j, z, hj, rfl, rfl, hown, hb⟩ := hrel
    have HB := Lib.hid hb
    have HO := Lib.hid hown
    clear hb hown
    by_cases hlt : j < n
    · obtain ⟨g, o, rfl, hglt, hk⟩ := HA.out.resolve_left (by intro e; have := HN.out; rw [e] at this; simp at this; omega)
      have hjL : j < W.length := by rw [← HN.out]; exact hlt
      have hbw : Below w.heap.size w wr := HB0.out.trans (HB.out.mono HB0.out.size)
      have hc := stAt (k := 5) hbw hglt hk hjL
      have hmem : W.getD j WD.zero ∈ W := by rw [List.getD, List.getElem?_eq_getElem hjL]; exact List.getElem_mem hjL
      have hok := HOK.out.1 _ hmem
      have hCj := hWL hok
      have hln := wLn_len hok
      have HT := Lib.hid (txW_take hjL)
      have HTL : Hid (((W.take j).flatMap fun x => wLn x ++ [10]).length ≤ 100000000) := Lib.hid (by
        have h1 := txW_bound (W := W.take j) (fun x hx => HOK.out.1 x (List.mem_of_mem_take hx))
        have h2 := HOK.out.2.2
        have h3 : (W.take j).length ≤ j := List.length_take_le ..
        omega)
      generalize ((W.take j).flatMap fun x => wLn x ++ [10]) = acc at HO HT HTL
      generalize W.getD j WD.zero = p at hc hCj hln HT
      have HNC := Lib.hid (nl_cat (wLn p))
      have HNS := Lib.hid (nl_size (wLn p))
      generalize wLn p = ln at hCj hln HT HNC HNS
      obtain ⟨k, id, ix, pl, hl⟩ := p
      unfold WD.enc at hCj
      dsimp only at hCj
      have q0 : wr.cell? ⟨g, o + j * 5, none⟩ = some (.int .u8 k) := hc 0 _ rfl
      have q1 : wr.cell? ⟨g, o + j * 5 + 1, none⟩ = some (.int .i64 id) := hc 1 _ rfl
      have q2 : wr.cell? ⟨g, o + j * 5 + 2, none⟩ = some (.int .i64 ix) := hc 2 _ rfl
      have q3 : wr.cell? ⟨g, o + j * 5 + 3, none⟩ = some (.int .i64 pl) := hc 3 _ rfl
      have q4 : wr.cell? ⟨g, o + j * 5 + 4, none⟩ = some (.bool hl) := hc 4 _ rfl
      have HJ : Hid (j + 1 ≤ n ∧ n - (j + 1) < n - j ∧ ln.length ≤ 50) := Lib.hid ⟨hlt, by omega, hln⟩
      have z1 : ¬ 9223372036854775807 < ln.length + 1 := by omega
      have hbx := (Below.refl wr.heap.size wr).alloc (Nat.le_refl _) (.cells #[.int .u8 k, .int .i64 id, .int .i64 ix, .int .i64 pl, .bool hl] 42)
      have HBX := Lib.hid (HB.out.trans (hbx.mono HB.out.size))
      have HO2 := Lib.hid (own_keep HO.out hbx)
      have hw1 := nextD hlt HNX.out
      clear hk hc hjL hbw hbx hmem hok hln hWL
      go_wp2_with (first
        | (go_at_call 25; (with_reducible refine (hCj _).mono ?_); rintro e w2 ⟨rfl, hb2⟩; have HB2 := Lib.hid (HBX.out.trans (hb2.mono HBX.out.size)); have HO3 := Lib.hid (own_keep HO2.out hb2); clear hb2)
        | (at_builtin; refine wpList_app_strD rfl (.tmp 22) (.tmp 25) rfl rfl HO3.out _ rfl HB2.out.size HTL.out (by rw [HNS.out]; have := HJ.out.2.2; omega) ?_; intro v' w3 ho3 hb3; have HO4 := Lib.hid ho3; have HB3 := Lib.hid (HB2.out.trans hb3); clear ho3 hb3))
      (try rw [hw1])
      clear hw1
      go_roundw
      case rel => exact ⟨j + 1, _, HJ.out.1, by go_num, rfl, by rw [HT.out, ← HNC.out]; exact HO4.out, HB3.out⟩
      case measure => have h := HJ.out.2.1; simp only [intOf]; omega
    · obtain rfl : j = n := by omega
      have e : W.take j = W := by rw [HN.out, List.take_length]
      rw [e] at HO
      clear e hlt hj
      have HWB : Hid ((W.flatMap fun x => wLn x ++ [10]).length ≤ 51 * 16384) := Lib.hid (by
        have h1 := txW_bound HOK.out.1
        have h2 := HOK.out.2.2
        have h3 := HN.out
        omega)
      have HTB : Hid (tx = (W.flatMap fun x => wLn x ++ [10]) ++ L.flatMap fun x => lLn x ++ [10]) := Lib.hid HT2.out
      obtain ⟨y4, y5⟩ := HX.out wr HB.out
      generalize (W.flatMap fun x => wLn x ++ [10]) = pre at HO HWB HTB
      obtain ⟨wq, hwq⟩ : ∃ wq, wq = wr := ⟨_, rfl⟩
      rw [← hwq] at HB HO y4 y5 ⊢
      clear hwq hWL
      go_wp2
      go_loopw [5, 31] (fun vx ix wr => ∃ (j : Nat) (z : Value), j ≤ m ∧ ix = .int .i64 (j : Int) ∧ z = vx ∧ OwnB wr w1.heap.size z (pre ++ (L.take j).flatMap fun x => lLn x ++ [10]) ∧ Below w1.heap.size w1 wr) (fun _ ix _ => m - (intOf ix).toNat)
      case atStart => exact ⟨0, _, Nat.zero_le _, rfl, rfl, by simpa using HO.out, HB.out⟩
      case round =>
        obtain ⟨i, zi, hi, rfl, rfl, hown, hb⟩ := hrel
        have HBi := Lib.hid hb
        have HOi := Lib.hid hown
        clear hb hown
        by_cases hlt2 : i < m
        · obtain ⟨g, o, rfl, hglt, hk⟩ := HBB.out.resolve_left (by intro e; have := HM.out; rw [e] at this; simp at this; omega)
          have hjL : i < L.length := by rw [← HM.out]; exact hlt2
          have hbw : Below w.heap.size w wr := HB0.out.trans (HBi.out.mono HB0.out.size)
          have hc := stAt (k := 3) hbw hglt hk hjL
          have hmem : L.getD i LO.zero ∈ L := by rw [List.getD, List.getElem?_eq_getElem hjL]; exact List.getElem_mem hjL
          have hok := HOK.out.2.1 _ hmem
          have hCj := hLL hok
          have hln := lLn_len hok
          have HT : Hid (pre ++ ((L.take (i + 1)).flatMap fun x => lLn x ++ [10]) = (pre ++ ((L.take i).flatMap fun x => lLn x ++ [10])) ++ (lLn (L.getD i LO.zero) ++ [10])) := Lib.hid (by rw [txLo_take hjL, List.append_assoc])
          have HTL : Hid ((pre ++ (L.take i).flatMap fun x => lLn x ++ [10]).length ≤ 100000000) := Lib.hid (by
            have h1 := txLo_bound (L := L.take i) (fun x hx => HOK.out.2.1 x (List.mem_of_mem_take hx))
            have h2 := HOK.out.2.2
            have h3 : (L.take i).length ≤ i := List.length_take_le ..
            have h4 := HWB.out
            rw [List.length_append]
            omega)
          generalize (pre ++ (L.take i).flatMap fun x => lLn x ++ [10]) = acc at HOi HT HTL
          generalize L.getD i LO.zero = p at hc hCj hln HT
          have HNC := Lib.hid (nl_cat (lLn p))
          have HNS := Lib.hid (nl_size (lLn p))
          generalize lLn p = ln at hCj hln HT HNC HNS
          obtain ⟨c, f, t⟩ := p
          unfold LO.enc at hCj
          dsimp only at hCj
          have q0 : wr.cell? ⟨g, o + i * 3, none⟩ = some (.int .i64 c) := hc 0 _ rfl
          have q1 : wr.cell? ⟨g, o + i * 3 + 1, none⟩ = some (.int .i64 f) := hc 1 _ rfl
          have q2 : wr.cell? ⟨g, o + i * 3 + 2, none⟩ = some (.int .i64 t) := hc 2 _ rfl
          have HJ : Hid (i + 1 ≤ m ∧ m - (i + 1) < m - i ∧ ln.length ≤ 50) := Lib.hid ⟨hlt2, by omega, hln⟩
          have z1 : ¬ 9223372036854775807 < ln.length + 1 := by omega
          have hbx := (Below.refl wr.heap.size wr).alloc (Nat.le_refl _) (.cells #[.int .i64 c, .int .i64 f, .int .i64 t] 46)
          have HBX := Lib.hid (HBi.out.trans (hbx.mono HBi.out.size))
          have HO2 := Lib.hid (own_keep HOi.out hbx)
          have hw1 := nextD hlt2 HMX.out
          clear hk hc hjL hbw hbx hmem hok hln hLL
          go_wp2_with (first
            | (go_at_call 26; (with_reducible refine (hCj _).mono ?_); rintro e w2 ⟨rfl, hb2⟩; have HB2 := Lib.hid (HBX.out.trans (hb2.mono HBX.out.size)); have HO3 := Lib.hid (own_keep HO2.out hb2); clear hb2)
            | (at_builtin; refine wpList_app_strD rfl (.tmp 35) (.tmp 38) rfl rfl HO3.out _ rfl HB2.out.size HTL.out (by rw [HNS.out]; have := HJ.out.2.2; omega) ?_; intro v' w3 ho3 hb3; have HO4 := Lib.hid ho3; have HB3 := Lib.hid (HB2.out.trans hb3); clear ho3 hb3))
          (try rw [hw1])
          clear hw1
          go_roundw
          case rel => exact ⟨i + 1, _, HJ.out.1, by go_num, rfl, by rw [HT.out, ← HNC.out]; exact HO4.out, HB3.out⟩
          case measure => have h := HJ.out.2.1; simp only [intOf]; omega
        · obtain rfl : i = m := by omega
          have e : L.take i = L := by rw [HM.out, List.take_length]
          rw [e] at HOi
          clear e
          have hcv := own_string HOi.out (P := Tryz.prog) (src := 48) (dst := 9) Tryz.underlying48 Tryz.underlying5 Tryz.underlying9
          rw [← HTB.out] at hcv
          go_wp2
          go_ret2
          exact ⟨rfl, HB0.out.trans (HBi.out.mono HB0.out.size)⟩
end Go.Proofs.YtfmpbohiahjafaaGreatDoor
