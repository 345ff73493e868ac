/- Uses of clusters: the document's marking and giving back. -/
import Derived.Test.YtoaofhgkpnpglaaSpcA
namespace Go.Proofs.Ytoaofhgkpnpglaa
open Go.RowKit

/-- A copy of a use, made of nothing. -/
theorem made_below {w wr w1 : World} {e : TypeId} {n c : Nat} (hb : Below w.heap.size w wr) (hg : (wr.alloc (.cells #[] e)).grownBy w1 (Value.slice (some ⟨wr.heap.size, 0, none⟩) n c).ownBlock) : Below w.heap.size w w1 :=
  (hb.alloc hb.size _).grown hg (by have := hb.size; simp; omega) (by intro k hk; have e : some wr.heap.size = some k := hk; injection e with e; have := hb.size; omega)
set_option maxRecDepth 100000 in
set_option maxHeartbeats 2000000 in
theorem rfTurn_some {w : World} {av : Value} {a : Addr} {cap : Nat} {Q : List Bool} {L : List Int} (h : UseS w (.slice (some a) Q.length cap) Q) (ha : IdxS w av L) (hq : Q.length ≤ 5000) (hL : L.length ≤ 5000) (b : Bool) (bad : Int) :
    Calls Try.prog 21 #[.slice (some a) Q.length cap, .bool (!b), .int .i64 bad, av] w fun e w' => ∃ r, e = .returned (.tuple #[r, .int .i64 (turnF b bad Q L Q).2]) ∧ OwnU w' w.heap.size r (turnF b bad Q L Q).1 ∧ Below w.heap.size w w' := by
  obtain ⟨i0, hi, hz0, hz1, hz2⟩ := info_parts infoBo
  have HU := Lib.hid h
  have HI := Lib.hid ha
  have HA := Lib.hid (h.at rfl hq)
  have HO := Lib.hid (bools_one Q)
  obtain ⟨A2, cap2, rfl, _⟩ := ha
  have HQ := Lib.hid hq
  have HL := Lib.hid hL
  obtain ⟨R, hR⟩ : ∃ R, R = turnF b bad Q L Q := ⟨_, rfl⟩
  rw [← hR]
  have HR := Lib.hid hR
  clear hR hq hL h
  have HBS : Hid (w.heap.size ≤ w.heap.size) := Lib.hid (Nat.le_refl _)
  go_enter Try.func21, Try.ntmps21
  go_wp2_with (at_builtin; refine wpList_append_own _ rfl _ _ 22 rfl w.heap.size 4 i0 (.bool false) 1 1 Try.underlying22 hi hz0 hz1 hz2 rfl (by decide) _ _ _ rfl (World.ownsRow_made _ #[] 0 (Nat.le_refl _) (Nat.zero_le _) (by simp)) a Q.length cap (Q.map Value.bool) rfl (by simp) (fun j u hj => Lib.cell?_alloc_some _ (HA.out.2.2.2 j u hj)) HO.out (by have := HQ.out; unfold maxLen; omega) (by have := HQ.out; omega) (by have := HBS.out; simp <;> omega) ?_; intro v1 w1 hown hgrow hnil; rw [Nat.zero_add, List.nil_append] at hown; have HO1 := Lib.hid (ownU_of hown); have HG1 := Lib.hid hgrow; obtain ⟨A1, cap1, rfl, _⟩ := ownU_of hown; clear hown hgrow hnil)
  have HB1 := Lib.hid (made_below (Below.refl w.heap.size w) HG1.out)
  go_loopw [18] (fun ix wr => ∃ (j : Nat) (N : List Bool), j ≤ L.length ∧ ix = .int .i64 (j : Int) ∧ N.length = Q.length ∧ turnF b bad Q (L.drop j) N = R ∧ OwnU wr w.heap.size (.slice A1 Q.length cap1) N ∧ Below w.heap.size w wr) (fun ix _ => L.length - idxOf ix)
  case atStart => exact ⟨0, Q, Nat.zero_le _, rfl, rfl, HR.out.symm, HO1.out, HB1.out⟩
  case round =>
    obtain ⟨j, N, hj, rfl, hN, hT, hO, hb⟩ := hrel
    by_cases hlt : j < L.length
    · obtain ⟨A', c', hv, _, _, h3⟩ := HI.out.below hb (Nat.le_refl _)
      injection hv with e1 e2 e3
      subst e1 e3
      obtain ⟨g, off, rfl, _, hc⟩ := h3.resolve_left (by intro e; rw [e] at hlt; simp at hlt)
      have ce := hc j hlt
      have hS := turnF_drop (b := b) (bad := bad) (Q := Q) (N := N) hlt
      rw [hT] at hS
      have HAR := Lib.hid ((HU.out.below hb (Nat.le_refl _)).at rfl HQ.out)
      have HBS := Lib.hid hb.size
      have HB := Lib.hid hb
      have HOO := Lib.hid hO
      have HN := Lib.hid hN
      have HLT := Lib.hid hlt
      have d0 : decide ((j : Int) < (L.length : Int)) = true := decide_eq_true (by omega)
      have hi0 : (0 : Int) ≤ (j : Int) := by omega
      have hi1 : (j : Int) < (L.length : Int) := by omega
      have hw2 : IntKind.i64.wrap ((j : Int) + 1) = (j : Int) + 1 := by have := HL.out; rw [IntKind.wrap_i64]; omega
      generalize L.getD j 0 = c at ce hS
      clear hc h3 hT hO hN hb HO1 HB1 HG1 HR HA
      by_cases hc0 : c < 0
      · have d1 : decide (c < 0) = true := decide_eq_true hc0
        rw [if_pos (.inl hc0)] at hS
        have HS := Lib.hid hS
        clear hS hc0
        go_wp2_with (at_builtin; refine wpList_append_own _ rfl _ _ 22 rfl w.heap.size 4 i0 (.bool false) 1 1 Try.underlying22 hi hz0 hz1 hz2 rfl (by decide) _ _ _ rfl (World.ownsRow_made _ #[] 0 HB.out.size (Nat.zero_le _) (by simp)) a Q.length cap (Q.map Value.bool) rfl (by simp) (fun j u hj => Lib.cell?_alloc_some _ (HAR.out.2.2.2 j u hj)) HO.out (by have := HQ.out; unfold maxLen; omega) (by have := HQ.out; omega) (by have := HBS.out; simp <;> omega) ?_; intro v1 w1 hown hgrow hnil; rw [Nat.zero_add, List.nil_append] at hown; have HO1 := Lib.hid (ownU_of hown); have HG1 := Lib.hid hgrow; obtain ⟨A4, cap4, rfl, _⟩ := ownU_of hown; clear hown hgrow hnil)
        go_ret2
        rw [HS.out]
        exact ⟨_, rfl, HO1.out, made_below HB.out HG1.out⟩
      · by_cases hc1 : (Q.length : Int) ≤ c
        · have d1 : decide (c < 0) = false := decide_eq_false hc0
          have d2 : decide ((Q.length : Int) ≤ c) = true := decide_eq_true hc1
          have d3 : decide (c ≥ (Q.length : Int)) = true := decide_eq_true hc1
          rw [if_pos (.inr hc1)] at hS
          have HS := Lib.hid hS
          clear hS hc0 hc1
          go_wp2_with (at_builtin; refine wpList_append_own _ rfl _ _ 22 rfl w.heap.size 4 i0 (.bool false) 1 1 Try.underlying22 hi hz0 hz1 hz2 rfl (by decide) _ _ _ rfl (World.ownsRow_made _ #[] 0 HB.out.size (Nat.zero_le _) (by simp)) a Q.length cap (Q.map Value.bool) rfl (by simp) (fun j u hj => Lib.cell?_alloc_some _ (HAR.out.2.2.2 j u hj)) HO.out (by have := HQ.out; unfold maxLen; omega) (by have := HQ.out; omega) (by have := HBS.out; simp <;> omega) ?_; intro v1 w1 hown hgrow hnil; rw [Nat.zero_add, List.nil_append] at hown; have HO1 := Lib.hid (ownU_of hown); have HG1 := Lib.hid hgrow; obtain ⟨A4, cap4, rfl, _⟩ := ownU_of hown; clear hown hgrow hnil)
          go_ret2
          rw [HS.out]
          exact ⟨_, rfl, HO1.out, made_below HB.out HG1.out⟩
        · obtain ⟨i, rfl⟩ : ∃ i : Nat, c = (i : Int) := ⟨c.toNat, by omega⟩
          have hiq : i < Q.length := by omega
          rw [if_neg (by omega), Int.toNat_natCast] at hS
          have d1 : decide ((i : Int) < 0) = false := decide_eq_false hc0
          have d2 : decide ((Q.length : Int) ≤ (i : Int)) = false := decide_eq_false hc1
          have d3 : decide ((i : Int) ≥ (Q.length : Int)) = false := decide_eq_false hc1
          have hii0 : (0 : Int) ≤ (i : Int) := by omega
          have hii1 : (i : Int) < (Q.length : Int) := by omega
          obtain ⟨Ax, cx, hvx, _, _, h4⟩ := HOO.out
          injection hvx with e1 e2 e3
          subst e1 e3
          clear e2
          obtain ⟨gn, rfl, hgB, _, hcn⟩ := h4.resolve_left (by rintro ⟨_, e⟩; have := HN.out; rw [e] at this; simp at this; omega)
          obtain ⟨cn, fn⟩ := hcn i (by rw [HN.out]; exact hiq)
          have HGB := Lib.hid hgB
          clear h4 hcn hc0 hc1 hgB
          by_cases he : N.getD i false = b
          · rw [if_pos he] at hS
            rw [he] at cn
            have eb1 : (b == b) = true := beq_self_eq_true b
            have eb2 : decide (b = b) = true := by simp
            have eb3 : (b != !b) = true := by cases b <;> rfl
            have HS := Lib.hid hS
            clear hS he
            go_wp2_with (at_builtin; refine wpList_append_own _ rfl _ _ 22 rfl w.heap.size 4 i0 (.bool false) 1 1 Try.underlying22 hi hz0 hz1 hz2 rfl (by decide) _ _ _ rfl (World.ownsRow_made _ #[] 0 HB.out.size (Nat.zero_le _) (by simp)) a Q.length cap (Q.map Value.bool) rfl (by simp) (fun j u hj => Lib.cell?_alloc_some _ (HAR.out.2.2.2 j u hj)) HO.out (by have := HQ.out; unfold maxLen; omega) (by have := HQ.out; omega) (by have := HBS.out; simp <;> omega) ?_; intro v1 w1 hown hgrow hnil; rw [Nat.zero_add, List.nil_append] at hown; have HO1 := Lib.hid (ownU_of hown); have HG1 := Lib.hid hgrow; obtain ⟨A4, cap4, rfl, _⟩ := ownU_of hown; clear hown hgrow hnil)
            go_ret2
            rw [HS.out]
            exact ⟨_, rfl, HO1.out, made_below HB.out HG1.out⟩
          · rw [if_neg he] at hS
            rw [show N.getD i false = !b by cases hh : N.getD i false <;> cases b <;> simp_all] at cn
            have HS := Lib.hid hS
            have HIQ := Lib.hid hiq
            clear hS he
            go_wp2
            go_roundw
            case rel => exact ⟨j + 1, N.set i b, by have := HLT.out; omega, by simp, by rw [List.length_set]; exact HN.out, HS.out.symm, by have := HOO.out.set i (by rw [HN.out]; exact HIQ.out) b; simpa using this, HB.out.setCell (p := ⟨gn, i, none⟩) HGB.out _⟩
            case measure => simp [idxOf]; have := HLT.out; omega
    · obtain rfl : j = L.length := by omega
      rw [List.drop_length] at hT
      have HT := Lib.hid hT
      have HOO := Lib.hid hO
      have HB := Lib.hid hb
      clear hT hO hb HO1 HB1 HG1
      go_wp2
      go_ret2
      rw [← HT.out]
      exact ⟨_, rfl, HOO.out, HB.out⟩
theorem ownU_none {w wr : World} {e : TypeId} (hb : w.heap.size ≤ wr.heap.size) : OwnU (wr.alloc (.cells #[] e)) w.heap.size (.slice (some ⟨wr.heap.size, 0, none⟩) 0 0) [] :=
  ⟨_, 0, rfl, ⟨Nat.le_refl _, fun e => by cases e⟩, by unfold maxLen; omega, .inr ⟨wr.heap.size, rfl, hb, by simp, fun j hj => absurd hj (by simp)⟩⟩
set_option maxRecDepth 100000 in
set_option maxHeartbeats 2000000 in
theorem rfTurn_none {w : World} {av : Value} {L : List Int} (ha : IdxS w av L) (b : Bool) (bad : Int) :
    Calls Try.prog 21 #[.slice none 0 0, .bool (!b), .int .i64 bad, av] w fun e w' => ∃ r, e = .returned (.tuple #[r, .int .i64 (turnF b bad [] L []).2]) ∧ OwnU w' w.heap.size r (turnF b bad [] L []).1 ∧ Below w.heap.size w w' := by
  obtain ⟨i0, hi, hz0, hz1, hz2⟩ := info_parts infoBo
  obtain ⟨A2, cap2, rfl, _, _, h3⟩ := ha
  have HM := Lib.hid (World.ownsRow_made (e := 4) (size := 1) w #[] 0 (Nat.le_refl w.heap.size) (Nat.zero_le _) (by simp))
  have hb1 : Below w.heap.size w (w.alloc (.cells #[] 4)) := (Below.refl _ _).alloc (Nat.le_refl _) _
  have HB := Lib.hid hb1
  cases L with
  | nil =>
    have ho := Lib.hid (ownU_none (e := 4) (Nat.le_refl w.heap.size))
    clear h3 hb1
    go_enter Try.func21, Try.ntmps21
    go_wp2_with (at_builtin; refine wpList_append_own_none rfl _ _ 22 rfl w.heap.size 4 i0 1 Try.underlying22 hi _ 0 [] rfl HM.out rfl ?_)
    go_loopw [18] (fun ix wr => ix = .int .i64 0 ∧ wr = w.alloc (.cells #[] 4)) (fun ix _ => 0)
    case atStart => exact ⟨rfl, rfl⟩
    case round =>
      obtain ⟨rfl, rfl⟩ := hrel
      go_wp2
      go_ret2
      exact ⟨_, rfl, ho.out, HB.out⟩
  | cons c r =>
    obtain ⟨g, off, rfl, hlt, hc⟩ := h3.resolve_left (by simp)
    have ce : (w.alloc (.cells #[] 4)).cell? ⟨g, off, none⟩ = some (.int .i64 c) := (hb1.cell (p := ⟨g, off, none⟩) hlt).trans (by have := hc 0 (by simp); simpa using this)
    have hpos : decide ((0 : Int) < ((c :: r).length : Int)) = true := decide_eq_true (by simp)
    have hi1 : (0 : Int) < ((c :: r).length : Int) := by simp
    have HE : Hid (turnF b bad [] (c :: r) [] = ([], 1)) := Lib.hid (by unfold turnF; rw [if_pos (by simp; omega)])
    generalize (c :: r).length = m at hpos hi1 ⊢
    have HM2 := Lib.hid (World.ownsRow_made (e := 4) (size := 1) (base := w.heap.size) (w.alloc (.cells #[] 4)) #[] 0 (by simp) (Nat.zero_le _) (by simp))
    have ho0 := ownU_none (w := w) (wr := w.alloc (.cells #[] 4)) (e := 4) (by simp)
    rw [World.size_alloc] at ho0
    have ho := Lib.hid ho0
    clear ho0
    have HB2 : Hid (Below w.heap.size w ((w.alloc (.cells #[] 4)).alloc (.cells #[] 4))) := Lib.hid (hb1.alloc (by simp) _)
    clear hc h3 hb1 hlt
    go_enter Try.func21, Try.ntmps21
    go_wp2_with (at_builtin; refine wpList_append_own_none rfl _ _ 22 rfl w.heap.size 4 i0 1 Try.underlying22 hi _ 0 [] rfl HM.out rfl ?_)
    clear HM
    go_loopw [18] (fun ix wr => ix = .int .i64 0 ∧ wr = w.alloc (.cells #[] 4)) (fun ix _ => 0)
    case atStart => exact ⟨rfl, rfl⟩
    case round =>
      obtain ⟨rfl, rfl⟩ := hrel
      by_cases hc0 : c < 0
      · have d1 : decide (c < 0) = true := decide_eq_true hc0
        clear hc0
        go_wp2_with (at_builtin; refine wpList_append_own_none rfl _ _ 22 rfl w.heap.size 4 i0 1 Try.underlying22 hi _ 0 [] rfl HM2.out rfl ?_)
        go_ret2
        rw [HE.out]
        exact ⟨_, rfl, ho.out, HB2.out⟩
      · have d1 : decide (c < 0) = false := decide_eq_false hc0
        have d2 : decide ((0 : Int) ≤ c) = true := decide_eq_true (by omega)
        have d3 : decide (c ≥ (0 : Int)) = true := decide_eq_true (by omega)
        clear hc0
        go_wp2_with (at_builtin; refine wpList_append_own_none rfl _ _ 22 rfl w.heap.size 4 i0 1 Try.underlying22 hi _ 0 [] rfl HM2.out rfl ?_)
        go_ret2
        rw [HE.out]
        exact ⟨_, rfl, ho.out, HB2.out⟩
theorem rfTurn_any {w : World} {v av : Value} {Q : List Bool} {L : List Int} (h : UseS w v Q) (ha : IdxS w av L) (hq : Q.length ≤ 5000) (hL : L.length ≤ 5000) (b : Bool) (bad : Int) :
    Calls Try.prog 21 #[v, .bool (!b), .int .i64 bad, av] w fun e w' => ∃ r, e = .returned (.tuple #[r, .int .i64 (turnF b bad Q L Q).2]) ∧ OwnU w' w.heap.size r (turnF b bad Q L Q).1 ∧ Below w.heap.size w w' := by
  obtain ⟨A, cap, hv, ⟨h1, h0⟩, h2, h3⟩ := id h
  cases A with
  | some a => subst hv; exact rfTurn_some h ha hq hL b bad
  | none =>
    obtain rfl : Q = [] := by
      rcases h3 with h3 | ⟨b, off, hA, _⟩
      · exact h3
      · cases hA
    obtain rfl : cap = 0 := h0 rfl
    subst hv
    exact rfTurn_none ha b bad
set_option maxHeartbeats 1000000 in
theorem rfMark_any {w : World} {v a : Value} {Q : List Bool} {L : List Int} (h : UseS w v Q) (ha : IdxS w a L) (hq : Q.length ≤ 5000) (hL : L.length ≤ 5000) :
    Calls Try.prog 7 #[v, a] w fun e w' => ∃ r, e = .returned (.tuple #[r, .int .i64 (turnF true 4 Q L Q).2]) ∧ OwnU w' w.heap.size r (turnF true 4 Q L Q).1 ∧ Below w.heap.size w w' := by
  have hC := rfTurn_any h ha hq hL true 4
  rw [Bool.not_true] at hC
  obtain ⟨A, cap, rfl, _⟩ := h
  obtain ⟨A2, cap2, rfl, _⟩ := ha
  go_enter Try.func7, Try.ntmps7
  go_wp2_with (go_at_call 21; refine hC.mono ?_; rintro e w1 ⟨r, rfl, hO, hb⟩; obtain ⟨A3, cap3, rfl, _⟩ := id hO)
  go_ret2
  exact ⟨_, rfl, hO, hb⟩
set_option maxHeartbeats 1000000 in
theorem rfGive_any {w : World} {v a : Value} {Q : List Bool} {L : List Int} (h : UseS w v Q) (ha : IdxS w a L) (hq : Q.length ≤ 5000) (hL : L.length ≤ 5000) :
    Calls Try.prog 9 #[v, a] w fun e w' => ∃ r, e = .returned (.tuple #[r, .int .i64 (turnF false 3 Q L Q).2]) ∧ OwnU w' w.heap.size r (turnF false 3 Q L Q).1 ∧ Below w.heap.size w w' := by
  have hC := rfTurn_any h ha hq hL false 3
  rw [Bool.not_false] at hC
  obtain ⟨A, cap, rfl, _⟩ := h
  obtain ⟨A2, cap2, rfl, _⟩ := ha
  go_enter Try.func9, Try.ntmps9
  go_wp2_with (go_at_call 21; refine hC.mono ?_; rintro e w1 ⟨r, rfl, hO, hb⟩; obtain ⟨A3, cap3, rfl, _⟩ := id hO)
  go_ret2
  exact ⟨_, rfl, hO, hb⟩
end Go.Proofs.Ytoaofhgkpnpglaa
