/- The contracts of a device's small calls: Sectors, Down, Writes, has, isBad, burn, Fuse. -/
import Derived.Test.YtfpnlaafefdcaaaDoorDevN
import Derived.Maps.OwnOps
namespace Go.Proofs.YtfpnlaafefdcaaaDoor
open Go.RowKit Go.Maps

def devP (h : DH) : Value := .pointer (some ⟨h.b, 0, none⟩)
theorem wf_nat {i : Nat} (h : i ≤ 9223372036854775807) : (Lit.int .i64 (i : Int)).wf = true := by
  simp [Lit.wf, IntKind.min, IntKind.max, IntKind.signed, IntKind.bits]; omega
theorem wf_int {i : Int} (h : -9223372036854775808 ≤ i ∧ i ≤ 9223372036854775807) : (Lit.int .i64 i).wf = true := by
  simp [Lit.wf, IntKind.min, IntKind.max, IntKind.signed, IntKind.bits]; omega
set_option maxHeartbeats 400000 in
theorem devSectors_any {w : World} {h : DH} {M : DM} (d : DevAt w h M) :
    Calls Tryd.prog 91 #[.pointer (some ⟨h.b, 0, none⟩)] w fun e w' => e = .returned (.int .i64 (M.n : Int)) ∧ w = w' := by
  have c0 := d.c0
  clear d
  go_enter Tryd.func91, Tryd.ntmps91
  go_wp2
  go_ret
  exact ⟨rfl, rfl⟩
set_option maxHeartbeats 400000 in
theorem devDown_any {w : World} {h : DH} {M : DM} (d : DevAt w h M) :
    Calls Tryd.prog 89 #[.pointer (some ⟨h.b, 0, none⟩)] w fun e w' => e = .returned (.bool M.down) ∧ w = w' := by
  have c4 := d.c4
  clear d
  go_enter Tryd.func89, Tryd.ntmps89
  go_wp2
  go_ret
  exact ⟨rfl, rfl⟩
set_option maxHeartbeats 400000 in
theorem devWrites_any {w : World} {h : DH} {M : DM} (d : DevAt w h M) :
    Calls Tryd.prog 41 #[.pointer (some ⟨h.b, 0, none⟩)] w fun e w' => e = .returned (.int .i64 (M.writes : Int)) ∧ w = w' := by
  have c3 := d.c3
  clear d
  go_enter Tryd.func41, Tryd.ntmps41
  go_wp2
  go_ret
  exact ⟨rfl, rfl⟩
def hasB (n : Nat) (a : Int) : Bool := decide (0 ≤ a ∧ a < (n : Int))
set_option maxHeartbeats 400000 in
theorem devHas_any {w : World} {h : DH} {M : DM} (d : DevAt w h M) (a : Int) :
    Calls Tryd.prog 61 #[.pointer (some ⟨h.b, 0, none⟩), .int .i64 a] w fun e w' => e = .returned (.bool (hasB M.n a)) ∧ w = w' := by
  have hS := devSectors_any d
  clear d
  by_cases h0 : 0 ≤ a
  · have d0 : decide (0 ≤ a) = true := decide_eq_true h0
    have he : hasB M.n a = decide (a < (M.n : Int)) := by unfold hasB; simp [h0]
    rw [he]
    clear he
    go_enter Tryd.func61, Tryd.ntmps61
    go_wp2_with (go_at_call 91; refine hS.mono ?_; rintro e w' ⟨rfl, rfl⟩)
    go_ret
    exact ⟨rfl, rfl⟩
  · have d0 : decide (0 ≤ a) = false := decide_eq_false h0
    have he : hasB M.n a = false := by unfold hasB; simp [h0]
    rw [he]
    clear he
    go_enter Tryd.func61, Tryd.ntmps61
    go_wp2_with (go_at_call 91; refine hS.mono ?_; rintro e w' ⟨rfl, rfl⟩)
    go_ret
    exact ⟨rfl, rfl⟩
theorem BadMap.has {w : World} {b n : Nat} {f : Nat → Bool} (h : BadMap w b n f) (i : Nat) (hi : i < n) : ∃ D : DataW Unit, w.ownsMap Tryd.prog 3 unitElem b (Maps.size D) D ∧ Maps.has D (kLit i) = f i := by
  obtain ⟨D, ho, hh, _⟩ := h
  refine ⟨D, ho, ?_⟩
  have := hh (i : Int)
  simp only [Int.toNat_natCast] at this
  cases hf : f i
  · cases hd : Maps.has D (kLit i)
    · rfl
    · have := (this.1 hd).2.2; rw [hf] at this; cases this
  · exact this.2 ⟨by omega, hi, hf⟩
set_option maxHeartbeats 400000 in
theorem devIsBad_any {w : World} {h : DH} {M : DM} (d : DevAt w h M) (i : Nat) (hi : i < M.n) :
    Calls Tryd.prog 131 #[.pointer (some ⟨h.b, 0, none⟩), .int .i64 (i : Int)] w fun e w' => e = .returned (.bool (M.bad i)) ∧ Below w.heap.size w w' := by
  have c2 := d.c2
  obtain ⟨D, ho, hD⟩ := d.badm.has i hi
  have hkey : keyOf Tryd.prog 3 (.int .i64 (i : Int)) = some (kLit i) := Maps.keyOf_int_mk Tryd.underlying3 (wf_nat (by have := d.n2; omega))
  have HK := Lib.hid hkey
  have HD := Lib.hid hD
  clear d hkey hD
  go_enter Tryd.func131, Tryd.ntmps131
  go_wp2_with (at_lookup; refine wpList_lookup_own_unit _ rfl _ _ 110 rfl 3 119 (Maps.int_keyed Tryd.underlying3) Tryd.underlying110 (Tryd.zeroValue119 _) h.bb (Maps.size D) D rfl ho _ _ rfl HK.out ?_)
  go_ret
  exact ⟨by rw [← HD.out]; rfl, below1 _ _⟩

/-! ### stores into the device's own variables -/
theorem DevAt.head {w w' : World} {h : DH} {M M' : DM} (d : DevAt w h M) (a : Ap (fun k => k = h.b) w w') (hn : M'.n = M.n) (hs : M'.sure = M.sure) (hf : M'.fresh = M.fresh) (hb : M'.bad = M.bad)
    (c0 : w'.cell? ⟨h.b, 0, none⟩ = some (.slice (some ⟨h.bs, 0, none⟩) M.n h.cap)) (c1 : w'.cell? ⟨h.b, 1, none⟩ = some (.map (some h.bw))) (c2 : w'.cell? ⟨h.b, 2, none⟩ = some (.map (some h.bb)))
    (c3 : w'.cell? ⟨h.b, 3, none⟩ = some (.int .i64 (M'.writes : Int))) (c4 : w'.cell? ⟨h.b, 4, none⟩ = some (.bool M'.down)) (c5 : w'.cell? ⟨h.b, 5, none⟩ = some (.bool (decide (0 ≤ M'.left))))
    (c6 : ∃ f : Int, w'.cell? ⟨h.b, 6, none⟩ = some (.int .i64 f) ∧ (0 ≤ M'.left → f = M'.left) ∧ 0 ≤ f ∧ f ≤ 9223372036854775807)
    (fz : ∀ o, o < 7 → w'.frozen? ⟨h.b, o, none⟩ = false) : DevAt w' h M' := by
  obtain ⟨n1, n2, n3, n4, n5, n6⟩ := d.ne
  cases M with | mk mn ms mf mb mw md ml => ?_
  cases M' with | mk mn' ms' mf' mb' mw' md' ml' => ?_
  simp only at hn hs hf hb
  subst hn hs hf hb
  exact ⟨Nat.lt_of_lt_of_le d.ltb a.size, c0, c1, c2, c3, c4, c5, c6, fz, fun i hi => a.row (d.rows i hi) (Ne.symm n1), d.lens, d.flen, d.wait.ap a (Ne.symm n2), d.badm.ap a (Ne.symm n3), d.n1, d.n2, d.cap1, d.cap2, d.ne⟩
theorem cell_put {w : World} {b i : Nat} {u : Value} (hc : w.cell? ⟨b, i, none⟩ = some u) (v : Value) : (w.setCell ⟨b, i, none⟩ v).cell? ⟨b, i, none⟩ = some v := World.cell?_setCell_same' _ _ _ (by rw [hc]; rfl)
theorem cell_putne (w : World) (b i j : Nat) (v : Value) (hij : i ≠ j) : (w.setCell ⟨b, i, none⟩ v).cell? ⟨b, j, none⟩ = w.cell? ⟨b, j, none⟩ := World.cell?_setCell_other _ _ _ _ (by intro e; injection e with _ e; omega)
theorem ap_put (w : World) (b i : Nat) (v : Value) : Ap (fun k => k = b) w (w.setCell ⟨b, i, none⟩ v) := Ap.setCell (S := fun k => k = b) (Ap.refl w) (p := ⟨b, i, none⟩) (.inl rfl) v
theorem DevAt.setDown {w : World} {h : DH} {M : DM} (d : DevAt w h M) (x : Bool) : DevAt (w.setCell ⟨h.b, 4, none⟩ (.bool x)) h { M with down := x } :=
  d.head (ap_put w h.b 4 _) rfl rfl rfl rfl ((cell_putne _ _ _ _ _ (by omega)).trans d.c0) ((cell_putne _ _ _ _ _ (by omega)).trans d.c1) ((cell_putne _ _ _ _ _ (by omega)).trans d.c2) ((cell_putne _ _ _ _ _ (by omega)).trans d.c3) (cell_put d.c4 _)
    ((cell_putne _ _ _ _ _ (by omega)).trans d.c5) (by obtain ⟨f, f1, f2⟩ := d.c6; exact ⟨f, (cell_putne _ _ _ _ _ (by omega)).trans f1, f2⟩) (fun o ho => by rw [World.frozen?_setCell]; exact d.fz o ho)
theorem DevAt.setWrites {w : World} {h : DH} {M : DM} (d : DevAt w h M) (x : Nat) : DevAt (w.setCell ⟨h.b, 3, none⟩ (.int .i64 (x : Int))) h { M with writes := x } :=
  d.head (ap_put w h.b 3 _) rfl rfl rfl rfl ((cell_putne _ _ _ _ _ (by omega)).trans d.c0) ((cell_putne _ _ _ _ _ (by omega)).trans d.c1) ((cell_putne _ _ _ _ _ (by omega)).trans d.c2) (cell_put d.c3 _) ((cell_putne _ _ _ _ _ (by omega)).trans d.c4)
    ((cell_putne _ _ _ _ _ (by omega)).trans d.c5) (by obtain ⟨f, f1, f2⟩ := d.c6; exact ⟨f, (cell_putne _ _ _ _ _ (by omega)).trans f1, f2⟩) (fun o ho => by rw [World.frozen?_setCell]; exact d.fz o ho)
/-- The fuse: whether there is one, and how long. -/
theorem DevAt.setFuse {w : World} {h : DH} {M : DM} (d : DevAt w h M) (x f : Int) (h0 : 0 ≤ x → f = x) (hf : 0 ≤ f ∧ f ≤ 9223372036854775807) :
    DevAt ((w.setCell ⟨h.b, 5, none⟩ (.bool (decide (0 ≤ x)))).setCell ⟨h.b, 6, none⟩ (.int .i64 f)) h { M with left := x } := by
  obtain ⟨g, g1, g2⟩ := d.c6
  have e : ∀ j, j ≠ 5 → j ≠ 6 → ((w.setCell ⟨h.b, 5, none⟩ (.bool (decide (0 ≤ x)))).setCell ⟨h.b, 6, none⟩ (.int .i64 f)).cell? ⟨h.b, j, none⟩ = w.cell? ⟨h.b, j, none⟩ := fun j h5 h6 =>
    (cell_putne _ _ _ _ _ (Ne.symm h6)).trans (cell_putne _ _ _ _ _ (Ne.symm h5))
  exact d.head ((ap_put w h.b 5 _).trans (ap_put _ h.b 6 _)) rfl rfl rfl rfl ((e 0 (by omega) (by omega)).trans d.c0) ((e 1 (by omega) (by omega)).trans d.c1) ((e 2 (by omega) (by omega)).trans d.c2) ((e 3 (by omega) (by omega)).trans d.c3) ((e 4 (by omega) (by omega)).trans d.c4)
    ((cell_putne _ _ _ _ _ (by omega)).trans (cell_put d.c5 _)) ⟨f, cell_put ((cell_putne _ _ _ _ _ (by omega)).trans g1) _, h0, hf⟩ (fun o ho => by rw [World.frozen?_setCell, World.frozen?_setCell]; exact d.fz o ho)
theorem DevAt.setLeft {w : World} {h : DH} {M : DM} (d : DevAt w h M) (x : Int) (hx : 0 ≤ x) (hM : 0 ≤ M.left) (h2 : x ≤ 9223372036854775807) : DevAt (w.setCell ⟨h.b, 6, none⟩ (.int .i64 x)) h { M with left := x } := by
  obtain ⟨g, g1, g2⟩ := d.c6
  exact d.head (ap_put w h.b 6 _) rfl rfl rfl rfl ((cell_putne _ _ _ _ _ (by omega)).trans d.c0) ((cell_putne _ _ _ _ _ (by omega)).trans d.c1) ((cell_putne _ _ _ _ _ (by omega)).trans d.c2) ((cell_putne _ _ _ _ _ (by omega)).trans d.c3) ((cell_putne _ _ _ _ _ (by omega)).trans d.c4)
    (by rw [cell_putne _ _ _ _ _ (by omega), d.c5]; simp [hM, hx]) ⟨x, cell_put g1 _, fun _ => rfl, hx, h2⟩ (fun o ho => by rw [World.frozen?_setCell]; exact d.fz o ho)

def burnE (M : DM) : Int := if M.left = 0 then 12 else 0
def burnM (M : DM) : DM := if M.left = 0 then { M with down := true } else if 0 < M.left then { M with left := M.left - 1 } else M
theorem S_b (h : DH) : ∀ k, k = h.b → h.S k := fun _ e => .inl e
set_option maxHeartbeats 400000 in
theorem devBurn_any {w : World} {h : DH} {M : DM} (d : DevAt w h M) :
    Calls Tryd.prog 58 #[.pointer (some ⟨h.b, 0, none⟩)] w fun e w' => e = .returned (.int .i64 (burnE M)) ∧ DevAt w' h (burnM M) ∧ Ap h.S w w' := by
  have c5 := d.c5
  obtain ⟨f, c6, f0, f1, f2⟩ := d.c6
  have fz4 := d.fz 4 (by omega)
  have fz6 := d.fz 6 (by omega)
  have c4 := d.c4
  by_cases h0 : M.left = 0
  · have d0 : decide (0 ≤ M.left) = true := decide_eq_true (by omega)
    have e1 : burnE M = 12 := if_pos h0
    have e2 : burnM M = { M with down := true } := if_pos h0
    rw [e1, e2]
    have hf : f = 0 := (f0 (by omega)).trans h0
    subst hf
    have HD := Lib.hid (d.setDown true)
    clear d e1 e2 h0 f0 f1 f2
    go_enter Tryd.func58, Tryd.ntmps58
    go_wp2
    go_ret
    exact ⟨rfl, HD.out, (ap_put w h.b 4 _).weak (S_b h)⟩
  · by_cases h1 : 0 < M.left
    · have d0 : decide (0 ≤ M.left) = true := decide_eq_true (by omega)
      have e1 : burnE M = 0 := if_neg h0
      have e2 : burnM M = { M with left := M.left - 1 } := by unfold burnM; rw [if_neg h0, if_pos h1]
      rw [e1, e2]
      have hf : f = M.left := f0 (by omega)
      have HD := Lib.hid (d.setLeft (M.left - 1) (by omega) (by omega) (by omega))
      clear d e1 e2 f0
      subst hf
      have d1 : (M.left == 0) = false := by simpa using h0
      go_enter Tryd.func58, Tryd.ntmps58
      go_wp2
      go_ret
      exact ⟨rfl, HD.out, (ap_put w h.b 6 _).weak (S_b h)⟩
    · have d0 : decide (0 ≤ M.left) = false := decide_eq_false (by omega)
      have e1 : burnE M = 0 := if_neg h0
      have e2 : burnM M = M := by unfold burnM; rw [if_neg h0, if_neg h1]
      rw [e1, e2]
      have HD := Lib.hid d
      clear d e1 e2 h0 f0
      go_enter Tryd.func58, Tryd.ntmps58
      go_wp2
      go_ret
      exact ⟨rfl, HD.out, Ap.refl _⟩
set_option maxHeartbeats 400000 in
theorem devFuse_any {w : World} {h : DH} {M : DM} (d : DevAt w h M) (x : Int) (hx : x ≤ 9223372036854775807) :
    Calls Tryd.prog 88 #[.pointer (some ⟨h.b, 0, none⟩), .int .i64 x] w fun e w' => e = .returned (.tuple #[]) ∧ DevAt w' h { M with left := if 0 ≤ x then x else -1 } ∧ Ap h.S w w' := by
  have c5 := d.c5
  obtain ⟨f, c6, f0, f1, f2⟩ := d.c6
  have fz5 := d.fz 5 (by omega)
  have fz6 := d.fz 6 (by omega)
  have HA : ∀ u v, Hid (Ap h.S w ((w.setCell ⟨h.b, 5, none⟩ u).setCell ⟨h.b, 6, none⟩ v)) := fun u v => Lib.hid (((ap_put w h.b 5 u).trans (ap_put _ h.b 6 v)).weak (S_b h))
  by_cases h0 : 0 ≤ x
  · rw [if_pos h0]
    have HD := Lib.hid (d.setFuse x x (fun _ => rfl) ⟨h0, hx⟩)
    have d0 : decide (0 ≤ x) = true := decide_eq_true h0
    rw [d0] at HD
    clear d f0
    go_enter Tryd.func88, Tryd.ntmps88
    go_wp2
    go_end0
    exact ⟨rfl, HD.out, (HA _ _).out⟩
  · rw [if_neg h0]
    have HD := Lib.hid (d.setFuse (-1) 0 (fun h => absurd h (by omega)) ⟨by omega, by omega⟩)
    have d0 : decide (0 ≤ x) = false := decide_eq_false h0
    rw [show decide ((0 : Int) ≤ -1) = false by decide] at HD
    clear d f0
    go_enter Tryd.func88, Tryd.ntmps88
    go_wp2
    go_end0
    exact ⟨rfl, HD.out, (HA _ _).out⟩
end Go.Proofs.YtfpnlaafefdcaaaDoor
