/- The contracts of a device's small calls: Sectors, Down, Writes, has, isBad, burn, Fuse. The contracts of a device's calls that write: Erase, settle. -/
import Derived.Test.YtjhpheepimbbdaaGreatDoorZDevN
import Derived.Maps.OwnOps
import Derived.Deep.RegionHeld3
namespace Go.Proofs.YtjhpheepimbbdaaGreatDoor
open Go.RowKit Go.Maps

def devP (h : DH) : Value := .pointer (some ⟨h.b, 0, none⟩)
theorem wf_nat {i : Nat} (h : i ≤ 9223372036854775807) : (Lit.int .i64 (i : Int)).wf = true := by
  simp [Lit.wf, IntKind.min, IntKind.max, IntKind.signed, IntKind.bits]; omega
theorem wf_int {i : Int} (h : -9223372036854775808 ≤ i ∧ i ≤ 9223372036854775807) : (Lit.int .i64 i).wf = true := by
  simp [Lit.wf, IntKind.min, IntKind.max, IntKind.signed, IntKind.bits]; omega
set_option maxHeartbeats 400000 in
theorem devSectors_any {w : World} {h : DH} {M : DM} (d : DevAt w h M) :
    Calls Tryz.prog 32 #[.pointer (some ⟨h.b, 0, none⟩)] w fun e w' => e = .returned (.int .i64 (M.n : Int)) ∧ w = w' := by
  have c0 := d.c0
  clear d
  go_enter Tryz.func32, Tryz.ntmps32
  go_wp2
  go_ret
  exact ⟨rfl, rfl⟩
set_option maxHeartbeats 400000 in
theorem devDown_any {w : World} {h : DH} {M : DM} (d : DevAt w h M) :
    Calls Tryz.prog 8 #[.pointer (some ⟨h.b, 0, none⟩)] w fun e w' => e = .returned (.bool M.down) ∧ w = w' := by
  have c4 := d.c4
  clear d
  go_enter Tryz.func8, Tryz.ntmps8
  go_wp2
  go_ret
  exact ⟨rfl, rfl⟩
set_option maxHeartbeats 400000 in
theorem devWrites_any {w : World} {h : DH} {M : DM} (d : DevAt w h M) :
    Calls Tryz.prog 9 #[.pointer (some ⟨h.b, 0, none⟩)] w fun e w' => e = .returned (.int .i64 (M.writes : Int)) ∧ w = w' := by
  have c3 := d.c3
  clear d
  go_enter Tryz.func9, Tryz.ntmps9
  go_wp2
  go_ret
  exact ⟨rfl, rfl⟩
def hasB (n : Nat) (a : Int) : Bool := decide (0 ≤ a ∧ a < (n : Int))
set_option maxHeartbeats 400000 in
theorem devHas_any {w : World} {h : DH} {M : DM} (d : DevAt w h M) (a : Int) :
    Calls Tryz.prog 55 #[.pointer (some ⟨h.b, 0, none⟩), .int .i64 a] w fun e w' => e = .returned (.bool (hasB M.n a)) ∧ w = w' := by
  have hS := devSectors_any d
  clear d
  by_cases h0 : 0 ≤ a
  · have d0 : decide (0 ≤ a) = true := decide_eq_true h0
    have he : hasB M.n a = decide (a < (M.n : Int)) := by unfold hasB; simp [h0]
    rw [he]
    clear he
    go_enter Tryz.func55, Tryz.ntmps55
    go_wp2_with (go_at_call 32; refine hS.mono ?_; rintro e w' ⟨rfl, rfl⟩)
    go_ret
    exact ⟨rfl, rfl⟩
  · have d0 : decide (0 ≤ a) = false := decide_eq_false h0
    have he : hasB M.n a = false := by unfold hasB; simp [h0]
    rw [he]
    clear he
    go_enter Tryz.func55, Tryz.ntmps55
    go_wp2_with (go_at_call 32; refine hS.mono ?_; rintro e w' ⟨rfl, rfl⟩)
    go_ret
    exact ⟨rfl, rfl⟩
theorem BadMap.has {w : World} {b n : Nat} {f : Nat → Bool} (h : BadMap w b n f) (i : Nat) (hi : i < n) : ∃ D : DataW Unit, w.ownsMap Tryz.prog 3 unitElem b (Maps.size D) D ∧ Maps.has D (kLit i) = f i := by
  obtain ⟨D, ho, hh, _⟩ := h
  refine ⟨D, ho, ?_⟩
  have := hh (i : Int)
  simp only [Int.toNat_natCast] at this
  cases hf : f i
  · cases hd : Maps.has D (kLit i)
    · rfl
    · have := (this.1 hd).2.2; rw [hf] at this; cases this
  · exact this.2 ⟨by omega, hi, hf⟩
set_option maxHeartbeats 400000 in
theorem devIsBad_any {w : World} {h : DH} {M : DM} (d : DevAt w h M) (i : Nat) (hi : i < M.n) :
    Calls Tryz.prog 62 #[.pointer (some ⟨h.b, 0, none⟩), .int .i64 (i : Int)] w fun e w' => e = .returned (.bool (M.bad i)) ∧ Below w.heap.size w w' := by
  have c2 := d.c2
  obtain ⟨D, ho, hD⟩ := d.badm.has i hi
  have hkey : keyOf Tryz.prog 3 (.int .i64 (i : Int)) = some (kLit i) := Maps.keyOf_int_mk Tryz.underlying3 (wf_nat (by have := d.n2; omega))
  have HK := Lib.hid hkey
  have HD := Lib.hid hD
  clear d hkey hD
  go_enter Tryz.func62, Tryz.ntmps62
  go_wp2_with (at_lookup; refine wpList_lookup_own_unit _ rfl _ _ 53 rfl 3 100 (Maps.int_keyed Tryz.underlying3) Tryz.underlying53 (Tryz.zeroValue100 _) h.bb (Maps.size D) D rfl ho _ _ rfl HK.out ?_)
  go_ret
  exact ⟨by rw [← HD.out]; rfl, below1 _ _⟩

/-! ### stores into the device's own variables -/
theorem DevAt.head {w w' : World} {h : DH} {M M' : DM} (d : DevAt w h M) (a : Ap (fun k => k = h.b) w w') (hn : M'.n = M.n) (hs : M'.sure = M.sure) (hf : M'.fresh = M.fresh) (hb : M'.bad = M.bad)
    (c0 : w'.cell? ⟨h.b, 0, none⟩ = some (.slice (some ⟨h.bs, 0, none⟩) M.n h.cap)) (c1 : w'.cell? ⟨h.b, 1, none⟩ = some (.map (some h.bw))) (c2 : w'.cell? ⟨h.b, 2, none⟩ = some (.map (some h.bb)))
    (c3 : w'.cell? ⟨h.b, 3, none⟩ = some (.int .i64 (M'.writes : Int))) (c4 : w'.cell? ⟨h.b, 4, none⟩ = some (.bool M'.down)) (c5 : w'.cell? ⟨h.b, 5, none⟩ = some (.bool (decide (0 ≤ M'.left))))
    (c6 : ∃ f : Int, w'.cell? ⟨h.b, 6, none⟩ = some (.int .i64 f) ∧ (0 ≤ M'.left → f = M'.left) ∧ 0 ≤ f ∧ f ≤ 9223372036854775807)
    (fz : ∀ o, o < 7 → w'.frozen? ⟨h.b, o, none⟩ = false) : DevAt w' h M' := by
  obtain ⟨n1, n2, n3, n4, n5, n6⟩ := d.ne
  cases M with | mk mn ms mf mb mw md ml => ?_
  cases M' with | mk mn' ms' mf' mb' mw' md' ml' => ?_
  simp only at hn hs hf hb
  subst hn hs hf hb
  exact ⟨Nat.lt_of_lt_of_le d.ltb a.size, c0, c1, c2, c3, c4, c5, c6, fz, fun i hi => a.row (d.rows i hi) (Ne.symm n1), d.lens, d.flen, d.wait.ap a (Ne.symm n2), d.badm.ap a (Ne.symm n3), d.n1, d.n2, d.cap1, d.cap2, d.ne⟩
theorem cell_put {w : World} {b i : Nat} {u : Value} (hc : w.cell? ⟨b, i, none⟩ = some u) (v : Value) : (w.setCell ⟨b, i, none⟩ v).cell? ⟨b, i, none⟩ = some v := World.cell?_setCell_same' _ _ _ (by rw [hc]; rfl)
theorem cell_putne (w : World) (b i j : Nat) (v : Value) (hij : i ≠ j) : (w.setCell ⟨b, i, none⟩ v).cell? ⟨b, j, none⟩ = w.cell? ⟨b, j, none⟩ := World.cell?_setCell_other _ _ _ _ (by intro e; injection e with _ e; omega)
theorem ap_put (w : World) (b i : Nat) (v : Value) : Ap (fun k => k = b) w (w.setCell ⟨b, i, none⟩ v) := Ap.setCell (S := fun k => k = b) (Ap.refl w) (p := ⟨b, i, none⟩) (.inl rfl) v
theorem DevAt.setDown {w : World} {h : DH} {M : DM} (d : DevAt w h M) (x : Bool) : DevAt (w.setCell ⟨h.b, 4, none⟩ (.bool x)) h { M with down := x } :=
  d.head (ap_put w h.b 4 _) rfl rfl rfl rfl ((cell_putne _ _ _ _ _ (by omega)).trans d.c0) ((cell_putne _ _ _ _ _ (by omega)).trans d.c1) ((cell_putne _ _ _ _ _ (by omega)).trans d.c2) ((cell_putne _ _ _ _ _ (by omega)).trans d.c3) (cell_put d.c4 _)
    ((cell_putne _ _ _ _ _ (by omega)).trans d.c5) (by obtain ⟨f, f1, f2⟩ := d.c6; exact ⟨f, (cell_putne _ _ _ _ _ (by omega)).trans f1, f2⟩) (fun o ho => by rw [World.frozen?_setCell]; exact d.fz o ho)
theorem DevAt.setWrites {w : World} {h : DH} {M : DM} (d : DevAt w h M) (x : Nat) : DevAt (w.setCell ⟨h.b, 3, none⟩ (.int .i64 (x : Int))) h { M with writes := x } :=
  d.head (ap_put w h.b 3 _) rfl rfl rfl rfl ((cell_putne _ _ _ _ _ (by omega)).trans d.c0) ((cell_putne _ _ _ _ _ (by omega)).trans d.c1) ((cell_putne _ _ _ _ _ (by omega)).trans d.c2) (cell_put d.c3 _) ((cell_putne _ _ _ _ _ (by omega)).trans d.c4)
    ((cell_putne _ _ _ _ _ (by omega)).trans d.c5) (by obtain ⟨f, f1, f2⟩ := d.c6; exact ⟨f, (cell_putne _ _ _ _ _ (by omega)).trans f1, f2⟩) (fun o ho => by rw [World.frozen?_setCell]; exact d.fz o ho)
/-- The fuse: whether there is one, and how long. -/
theorem DevAt.setFuse {w : World} {h : DH} {M : DM} (d : DevAt w h M) (x f : Int) (h0 : 0 ≤ x → f = x) (hf : 0 ≤ f ∧ f ≤ 9223372036854775807) :
    DevAt ((w.setCell ⟨h.b, 5, none⟩ (.bool (decide (0 ≤ x)))).setCell ⟨h.b, 6, none⟩ (.int .i64 f)) h { M with left := x } := by
  obtain ⟨g, g1, g2⟩ := d.c6
  have e : ∀ j, j ≠ 5 → j ≠ 6 → ((w.setCell ⟨h.b, 5, none⟩ (.bool (decide (0 ≤ x)))).setCell ⟨h.b, 6, none⟩ (.int .i64 f)).cell? ⟨h.b, j, none⟩ = w.cell? ⟨h.b, j, none⟩ := fun j h5 h6 =>
    (cell_putne _ _ _ _ _ (Ne.symm h6)).trans (cell_putne _ _ _ _ _ (Ne.symm h5))
  exact d.head ((ap_put w h.b 5 _).trans (ap_put _ h.b 6 _)) rfl rfl rfl rfl ((e 0 (by omega) (by omega)).trans d.c0) ((e 1 (by omega) (by omega)).trans d.c1) ((e 2 (by omega) (by omega)).trans d.c2) ((e 3 (by omega) (by omega)).trans d.c3) ((e 4 (by omega) (by omega)).trans d.c4)
    ((cell_putne _ _ _ _ _ (by omega)).trans (cell_put d.c5 _)) ⟨f, cell_put ((cell_putne _ _ _ _ _ (by omega)).trans g1) _, h0, hf⟩ (fun o ho => by rw [World.frozen?_setCell, World.frozen?_setCell]; exact d.fz o ho)
theorem DevAt.setLeft {w : World} {h : DH} {M : DM} (d : DevAt w h M) (x : Int) (hx : 0 ≤ x) (hM : 0 ≤ M.left) (h2 : x ≤ 9223372036854775807) : DevAt (w.setCell ⟨h.b, 6, none⟩ (.int .i64 x)) h { M with left := x } := by
  obtain ⟨g, g1, g2⟩ := d.c6
  exact d.head (ap_put w h.b 6 _) rfl rfl rfl rfl ((cell_putne _ _ _ _ _ (by omega)).trans d.c0) ((cell_putne _ _ _ _ _ (by omega)).trans d.c1) ((cell_putne _ _ _ _ _ (by omega)).trans d.c2) ((cell_putne _ _ _ _ _ (by omega)).trans d.c3) ((cell_putne _ _ _ _ _ (by omega)).trans d.c4)
    (by rw [cell_putne _ _ _ _ _ (by omega), d.c5]; simp [hM, hx]) ⟨x, cell_put g1 _, fun _ => rfl, hx, h2⟩ (fun o ho => by rw [World.frozen?_setCell]; exact d.fz o ho)

def burnE (M : DM) : Int := if M.left = 0 then 12 else 0
def burnM (M : DM) : DM := if M.left = 0 then { M with down := true } else if 0 < M.left then { M with left := M.left - 1 } else M
theorem S_b (h : DH) : ∀ k, k = h.b → h.S k := fun _ e => .inl e
set_option maxHeartbeats 400000 in
theorem devBurn_any {w : World} {h : DH} {M : DM} (d : DevAt w h M) :
    Calls Tryz.prog 57 #[.pointer (some ⟨h.b, 0, none⟩)] w fun e w' => e = .returned (.int .i64 (burnE M)) ∧ DevAt w' h (burnM M) ∧ Ap h.S w w' := by
  have c5 := d.c5
  obtain ⟨f, c6, f0, f1, f2⟩ := d.c6
  have fz4 := d.fz 4 (by omega)
  have fz6 := d.fz 6 (by omega)
  have c4 := d.c4
  by_cases h0 : M.left = 0
  · have d0 : decide (0 ≤ M.left) = true := decide_eq_true (by omega)
    have e1 : burnE M = 12 := if_pos h0
    have e2 : burnM M = { M with down := true } := if_pos h0
    rw [e1, e2]
    have hf : f = 0 := (f0 (by omega)).trans h0
    subst hf
    have HD := Lib.hid (d.setDown true)
    clear d e1 e2 h0 f0 f1 f2
    go_enter Tryz.func57, Tryz.ntmps57
    go_wp2
    go_ret
    exact ⟨rfl, HD.out, (ap_put w h.b 4 _).weak (S_b h)⟩
  · by_cases h1 : 0 < M.left
    · have d0 : decide (0 ≤ M.left) = true := decide_eq_true (by omega)
      have e1 : burnE M = 0 := if_neg h0
      have e2 : burnM M = { M with left := M.left - 1 } := by unfold burnM; rw [if_neg h0, if_pos h1]
      rw [e1, e2]
      have hf : f = M.left := f0 (by omega)
      have HD := Lib.hid (d.setLeft (M.left - 1) (by omega) (by omega) (by omega))
      clear d e1 e2 f0
      subst hf
      have d1 : (M.left == 0) = false := by simpa using h0
      go_enter Tryz.func57, Tryz.ntmps57
      go_wp2
      go_ret
      exact ⟨rfl, HD.out, (ap_put w h.b 6 _).weak (S_b h)⟩
    · have d0 : decide (0 ≤ M.left) = false := decide_eq_false (by omega)
      have e1 : burnE M = 0 := if_neg h0
      have e2 : burnM M = M := by unfold burnM; rw [if_neg h0, if_neg h1]
      rw [e1, e2]
      have HD := Lib.hid d
      clear d e1 e2 h0 f0
      go_enter Tryz.func57, Tryz.ntmps57
      go_wp2
      go_ret
      exact ⟨rfl, HD.out, Ap.refl _⟩
set_option maxHeartbeats 400000 in
theorem devFuse_any {w : World} {h : DH} {M : DM} (d : DevAt w h M) (x : Int) (hx : x ≤ 9223372036854775807) :
    Calls Tryz.prog 28 #[.pointer (some ⟨h.b, 0, none⟩), .int .i64 x] w fun e w' => e = .returned (.tuple #[]) ∧ DevAt w' h { M with left := if 0 ≤ x then x else -1 } ∧ Ap h.S w w' := by
  have c5 := d.c5
  obtain ⟨f, c6, f0, f1, f2⟩ := d.c6
  have fz5 := d.fz 5 (by omega)
  have fz6 := d.fz 6 (by omega)
  have HA : ∀ u v, Hid (Ap h.S w ((w.setCell ⟨h.b, 5, none⟩ u).setCell ⟨h.b, 6, none⟩ v)) := fun u v => Lib.hid (((ap_put w h.b 5 u).trans (ap_put _ h.b 6 v)).weak (S_b h))
  by_cases h0 : 0 ≤ x
  · rw [if_pos h0]
    have HD := Lib.hid (d.setFuse x x (fun _ => rfl) ⟨h0, hx⟩)
    have d0 : decide (0 ≤ x) = true := decide_eq_true h0
    rw [d0] at HD
    clear d f0
    go_enter Tryz.func28, Tryz.ntmps28
    go_wp2
    go_end0
    exact ⟨rfl, HD.out, (HA _ _).out⟩
  · rw [if_neg h0]
    have HD := Lib.hid (d.setFuse (-1) 0 (fun h => absurd h (by omega)) ⟨by omega, by omega⟩)
    have d0 : decide (0 ≤ x) = false := decide_eq_false h0
    rw [show decide ((0 : Int) ≤ -1) = false by decide] at HD
    clear d f0
    go_enter Tryz.func28, Tryz.ntmps28
    go_wp2
    go_end0
    exact ⟨rfl, HD.out, (HA _ _).out⟩
end Go.Proofs.YtjhpheepimbbdaaGreatDoor
namespace Go.Proofs.YtjhpheepimbbdaaGreatDoor
open Go.RowKit Go.Maps

def upd {α : Type} (f : Nat → α) (i : Nat) (x : α) : Nat → α := fun k => if k = i then x else f k
theorem upd_same {α : Type} (f : Nat → α) (i : Nat) (x : α) : upd f i x i = x := if_pos rfl
theorem upd_ne {α : Type} (f : Nat → α) {i k : Nat} (x : α) (h : k ≠ i) : upd f i x k = f k := if_neg h
theorem klit_of {x : Int} (h : 0 ≤ x) : Lit.int .i64 x = kLit x.toNat := by unfold kLit; rw [Int.toNat_of_nonneg h]
theorem klit_neg {x : Int} (h : x < 0) (i : Nat) : Lit.int .i64 x ≠ kLit i := by unfold kLit; intro e; injection e with _ e; omega
theorem has_after_put {D : DataW Unit} (hm : IsMap D) {n i : Nat} (hi : i < n) {p : Nat → Bool} (hh : ∀ x : Int, Maps.has D (.int .i64 x) = true ↔ 0 ≤ x ∧ x.toNat < n ∧ p x.toNat = true) (d : DataW Unit) :
    ∀ x : Int, Maps.has (D.put (kLit i) d) (.int .i64 x) = true ↔ 0 ≤ x ∧ x.toNat < n ∧ upd p i true x.toNat = true := by
  intro x
  by_cases h0 : 0 ≤ x
  · rw [klit_of h0]
    by_cases e : x.toNat = i
    · rw [e, has_put_same hm (kLit_key i), upd_same]; simp [h0, hi]
    · rw [has_put_other (kLit_ne e), ← klit_of h0, hh x, upd_ne _ _ e]
  · rw [has_put_other (klit_neg (by omega) i), hh x]
    constructor <;> intro h <;> omega
theorem has_after_del {D : DataW Unit} {n i : Nat} {p : Nat → Bool} (hh : ∀ x : Int, Maps.has D (.int .i64 x) = true ↔ 0 ≤ x ∧ x.toNat < n ∧ p x.toNat = true) :
    ∀ x : Int, Maps.has (D.del (kLit i)) (.int .i64 x) = true ↔ 0 ≤ x ∧ x.toNat < n ∧ upd p i false x.toNat = true := by
  intro x
  by_cases h0 : 0 ≤ x
  · rw [klit_of h0]
    by_cases e : x.toNat = i
    · rw [e, has_del_same, upd_same]; simp
    · rw [has_del_other (kLit_ne e), ← klit_of h0, hh x, upd_ne _ _ e]
  · rw [has_del_other (klit_neg (by omega) i), hh x]
    constructor <;> intro h <;> omega
theorem intK : Keyed Tryz.prog 3 := Maps.int_keyed Tryz.underlying3
theorem BadMap.put {w w' : World} {b n i m : Nat} {f : Nat → Bool} {D : DataW Unit} (ho : w.ownsMap Tryz.prog 3 unitElem b m D) (hi : i < n)
    (hh : ∀ x : Int, Maps.has D (.int .i64 x) = true ↔ 0 ≤ x ∧ x.toNat < n ∧ f x.toNat = true) {k : Nat} {d : DataW Unit} (h' : w'.ownsMap Tryz.prog 3 unitElem b k (D.put (kLit i) d)) : BadMap w' b n (upd f i true) :=
  ⟨_, owns_tight h', has_after_put ho.isMap hi hh d, size_keys h' intK Tryz.underlying3 (has_after_put ho.isMap hi hh d)⟩
theorem BadMap.del {w' : World} {b n i : Nat} {f : Nat → Bool} {D : DataW Unit}
    (hh : ∀ x : Int, Maps.has D (.int .i64 x) = true ↔ 0 ≤ x ∧ x.toNat < n ∧ f x.toNat = true) {k : Nat} (h' : w'.ownsMap Tryz.prog 3 unitElem b k (D.del (kLit i))) : BadMap w' b n (upd f i false) :=
  ⟨_, owns_tight h', has_after_del hh, size_keys h' intK Tryz.underlying3 (has_after_del hh)⟩
theorem DevAt.withBad {w w' : World} {h : DH} {M : DM} (d : DevAt w h M) (a : Ap (fun k => k = h.bb) w w') {f : Nat → Bool} (hb : BadMap w' h.bb M.n f) : DevAt w' h { M with bad := f } := by
  obtain ⟨n1, n2, n3, n4, n5, n6⟩ := d.ne
  obtain ⟨g, f1, f2⟩ := d.c6
  exact ⟨Nat.lt_of_lt_of_le d.ltb a.size, (a.cell d.ltb n3 _).trans d.c0, (a.cell d.ltb n3 _).trans d.c1, (a.cell d.ltb n3 _).trans d.c2, (a.cell d.ltb n3 _).trans d.c3, (a.cell d.ltb n3 _).trans d.c4, (a.cell d.ltb n3 _).trans d.c5,
    ⟨g, (a.cell d.ltb n3 _).trans f1, f2⟩, fun o ho => (a.frozen d.ltb n3 _).trans (d.fz o ho), fun i hi => a.row (d.rows i hi) n5, d.lens, d.flen, d.wait.ap a n6, hb, d.n1, d.n2, d.cap1, d.cap2, d.ne⟩
theorem DevAt.withWait {w w' : World} {h : DH} {M : DM} (d : DevAt w h M) (a : Ap (fun k => k = h.bw) w w') {f : Nat → Option (List UInt8)} (hw : WaitMap w' h.bw M.n f) (hl : ∀ i l, i < M.n → f i = some l → l.length = 512) : DevAt w' h { M with fresh := f } := by
  obtain ⟨n1, n2, n3, n4, n5, n6⟩ := d.ne
  obtain ⟨g, f1, f2⟩ := d.c6
  exact ⟨Nat.lt_of_lt_of_le d.ltb a.size, (a.cell d.ltb n2 _).trans d.c0, (a.cell d.ltb n2 _).trans d.c1, (a.cell d.ltb n2 _).trans d.c2, (a.cell d.ltb n2 _).trans d.c3, (a.cell d.ltb n2 _).trans d.c4, (a.cell d.ltb n2 _).trans d.c5,
    ⟨g, (a.cell d.ltb n2 _).trans f1, f2⟩, fun o ho => (a.frozen d.ltb n2 _).trans (d.fz o ho), fun i hi => a.row (d.rows i hi) n4, d.lens, hl, hw, d.badm.ap a (Ne.symm n6), d.n1, d.n2, d.cap1, d.cap2, d.ne⟩
theorem DevAt.withSure {w w' : World} {h : DH} {M : DM} (d : DevAt w h M) (a : Ap (fun k => k = h.bs) w w') {f : Nat → List UInt8} (hr : ∀ i, i < M.n → Row8 w' h.bs (i * 512) (f i)) (hl : ∀ i, i < M.n → (f i).length = 512) : DevAt w' h { M with sure := f } := by
  obtain ⟨n1, n2, n3, n4, n5, n6⟩ := d.ne
  obtain ⟨g, f1, f2⟩ := d.c6
  exact ⟨Nat.lt_of_lt_of_le d.ltb a.size, (a.cell d.ltb n1 _).trans d.c0, (a.cell d.ltb n1 _).trans d.c1, (a.cell d.ltb n1 _).trans d.c2, (a.cell d.ltb n1 _).trans d.c3, (a.cell d.ltb n1 _).trans d.c4, (a.cell d.ltb n1 _).trans d.c5,
    ⟨g, (a.cell d.ltb n1 _).trans f1, f2⟩, fun o ho => (a.frozen d.ltb n1 _).trans (d.fz o ho), hr, hl, d.flen, d.wait.ap a (Ne.symm n4), d.badm.ap a (Ne.symm n5), d.n1, d.n2, d.cap1, d.cap2, d.ne⟩
theorem S_bb (h : DH) : ∀ k, k = h.bb → h.S k := fun _ e => .inr (.inr (.inr e))
theorem S_bw (h : DH) : ∀ k, k = h.bw → h.S k := fun _ e => .inr (.inr (.inl e))
theorem S_bs (h : DH) : ∀ k, k = h.bs → h.S k := fun _ e => .inr (.inl e)
theorem ap_turned {w w' : World} {b : Nat} (h : w.mapTurned w' b) : Ap (fun k => k = b) w w' := Ap.turned (S := fun k => k = b) (Ap.refl w) (.inl rfl) h

set_option maxHeartbeats 400000 in
theorem devErase_yes {w : World} {h : DH} {M : DM} (d : DevAt w h M) (i : Nat) (hi : i < M.n) :
    Calls Tryz.prog 22 #[.pointer (some ⟨h.b, 0, none⟩), .int .i64 (i : Int)] w fun e w' => e = .returned (.int .i64 0) ∧ DevAt w' h { M with bad := upd M.bad i true } ∧ Ap h.S w w' := by
  have hH := devHas_any d (i : Int)
  rw [show hasB M.n (i : Int) = true by unfold hasB; exact decide_eq_true (by omega)] at hH
  have c2 := d.c2
  obtain ⟨D, ho, hh, hsz⟩ := d.badm
  have hkey : keyOf Tryz.prog 3 (.int .i64 (i : Int)) = some (kLit i) := Maps.keyOf_int_mk Tryz.underlying3 (wf_nat (by have := d.n2; omega))
  have hroom : Maps.size D < maxLen := by have := d.n2; unfold maxLen; omega
  have HK := Lib.hid hkey
  have HD := Lib.hid d
  have HH := Lib.hid hh
  have HR := Lib.hid hroom
  clear d hkey hh hsz hroom
  go_enter Tryz.func22, Tryz.ntmps22
  go_wp2_with (first
    | (go_at_call 55; refine hH.mono ?_; rintro e w' ⟨rfl, rfl⟩)
    | (at_mapUpdate; refine wpList_mapUpdate_in _ rfl _ _ _ 53 rfl 3 100 intK Tryz.underlying53 unitElem h.bb (Maps.size D) D rfl ho HR.out _ _ _ rfl rfl HK.out _ _ unitElem_mk ?_; intro w1 ho1 ht1))
  go_ret
  exact ⟨rfl, HD.out.withBad (ap_turned ht1) (BadMap.put ho hi HH.out ho1), (ap_turned ht1).weak (S_bb h)⟩
theorem devErase_no {w : World} {h : DH} {M : DM} (d : DevAt w h M) (a : Int) (hn : hasB M.n a = false) :
    Calls Tryz.prog 22 #[.pointer (some ⟨h.b, 0, none⟩), .int .i64 a] w fun e w' => e = .returned (.int .i64 1) ∧ w = w' := by
  have hH := devHas_any d a
  rw [hn] at hH
  clear d hn
  go_enter Tryz.func22, Tryz.ntmps22
  go_wp2_with (go_at_call 55; refine hH.mono ?_; rintro e w' ⟨rfl, rfl⟩)
  go_ret
  exact ⟨rfl, rfl⟩

/-! ### settle -/
theorem Row8.range {w : World} {b off : Nat} {l : List UInt8} (h : Row8 w b off l) : w.rangeAt b off (U8s l) := by
  intro j v hv
  have hj : j < l.length := by have := (List.getElem?_eq_some_iff.1 hv).1; rwa [u8s_len] at this
  rw [u8s_at l j hj] at hv
  rw [(h.2 j hj).1, hv]
theorem Row8.there {w : World} {b off : Nat} {l : List UInt8} (h : Row8 w b off l) : w.there b off l.length := fun j hj => ⟨by rw [(h.2 j hj).1]; rfl, (h.2 j hj).2⟩
theorem Row8.of_range {w : World} {b off : Nat} {l : List UInt8} (hlt : b < w.heap.size) (h : w.rangeAt b off (U8s l)) (ht : w.there b off l.length) : Row8 w b off l :=
  ⟨hlt, fun j hj => ⟨h j _ (u8s_at l j hj), (ht j hj).2⟩⟩
theorem size_setCells (b : Nat) : ∀ (vs : List Value) (o : Nat) (w : World), (w.setCells b o vs).heap.size = w.heap.size
  | [], _, _ => rfl
  | v :: r, o, w => by rw [World.setCells, size_setCells b r, World.size_setCell]
/-- A sector's bytes put in the place of what was there. -/
theorem rows_set {w : World} {b n : Nat} {f : Nat → List UInt8} (hr : ∀ i, i < n → Row8 w b (i * 512) (f i)) (hl : ∀ i, i < n → (f i).length = 512) {i : Nat} (hi : i < n) {l : List UInt8} (hlen : l.length = 512) :
    ∀ k, k < n → Row8 (w.setCells b (i * 512) (U8s l)) b (k * 512) (upd f i l k) := by
  intro k hk
  have hlt := (hr i hi).1
  have ht : w.there b (i * 512) (U8s l).length := by have := (hr i hi).there; rw [hl i hi] at this; rw [u8s_len, hlen]; exact this
  by_cases e : k = i
  · subst e
    rw [upd_same]
    exact Row8.of_range (by rw [size_setCells]; exact hlt) (World.rangeAt_setCells_same _ _ _ _ ht) (by rw [← u8s_len l]; exact World.there_setCells ht _ _ _)
  · rw [upd_ne _ _ e]
    refine Row8.of_range (by rw [size_setCells]; exact hlt) (World.rangeAt_setCells_apart (hr k hk).range _ _ _ (.inr ?_)) (World.there_setCells (hr k hk).there _ _ _)
    rw [u8s_len, u8s_len, hl k hk, hlen]
    omega
theorem secSize : (Tryz.prog.info? 78).map (·.size) = some 512 := by
  obtain ⟨i, hi, _, hs, _⟩ := secZero
  rw [hi]; simp [hs]
/-- The cells of a new block. -/
theorem range_new (w : World) (cs : List Value) (t : Nat) : (w.alloc (.cells cs.toArray t)).rangeAt w.heap.size 0 cs := by
  intro j v hv
  rw [cell_of_row _ _ _ cs.toArray t (0, 0) (heap_alloc_new w _), Nat.zero_add]
  simpa using hv
theorem cell_setCells_ne (w : World) (b o : Nat) (vs : List Value) (b' o' : Nat) (h : b' ≠ b) : (w.setCells b o vs).cell? ⟨b', o', none⟩ = w.cell? ⟨b', o', none⟩ :=
  World.cell?_setCells_out b vs o w ⟨b', o', none⟩ (fun hb _ => absurd hb h)
theorem ap_setCells (w : World) (b o : Nat) (vs : List Value) : Ap (fun k => k = b) w (w.setCells b o vs) := Ap.setCells (S := fun k => k = b) (.inl rfl) vs o w (Ap.refl w)
/-- What settle writes: the sectors, and what is bad. -/
def DH.S2 (h : DH) (k : Nat) : Prop := k = h.bs ∨ k = h.bb
theorem S2_S (h : DH) : ∀ k, h.S2 k → h.S k := by
  rintro k (e | e)
  · exact .inr (.inl e)
  · exact .inr (.inr (.inr e))
set_option maxHeartbeats 400000 in
set_option maxRecDepth 100000 in
theorem devSettle_any {w : World} {h : DH} {M : DM} (d : DevAt w h M) (i : Nat) (hi : i < M.n) (l : List UInt8) (hlen : l.length = 512) :
    Calls Tryz.prog 58 #[.pointer (some ⟨h.b, 0, none⟩), .int .i64 (i : Int), .agg (U8s l).toArray] w fun e w' => e = .returned (.tuple #[]) ∧ DevAt w' h { M with sure := upd M.sure i l, bad := upd M.bad i false } ∧ Ap h.S2 w w' := by
  obtain ⟨X, hX⟩ : ∃ X, X = (w.alloc (.cells (U8s l).toArray 78)).drew := ⟨_, rfl⟩
  have hd1 : DevAt X h M := by rw [hX]; exact (d.alloc _).drew
  have hrow := rows_set hd1.rows hd1.lens hi hlen
  have hlens : ∀ k, k < M.n → (upd M.sure i l k).length = 512 := by
    intro k hk
    by_cases e : k = i
    · rw [e, upd_same]; exact hlen
    · rw [upd_ne _ _ e]; exact d.lens k hk
  have hd2 : DevAt (X.setCells h.bs (i * 512) (U8s l)) h { M with sure := upd M.sure i l } := hd1.withSure (ap_setCells _ _ _ _) hrow hlens
  have hap1 : Ap h.S2 w X := by rw [hX]; exact ((Ap.refl w).alloc _).drew
  have hap2 : Ap h.S2 w (X.setCells h.bs (i * 512) (U8s l)) := hap1.trans ((ap_setCells _ _ _ _).weak (fun _ e => .inl e))
  have ht : X.there h.bs (i * 512) 512 := by have := (hd1.rows i hi).there; rwa [hd1.lens i hi] at this
  have hrg : X.rangeAt w.heap.size 0 (U8s l) := by rw [hX]; exact range_new w _ _
  have hbs : w.heap.size ≠ h.bs := by have := d.ltbs; omega
  have hc0 := hd1.c0
  have hcs : (U8s l).length = 512 := by rw [u8s_len, hlen]
  have h1 := u8s_one l
  have hu := Tryz.underlying78
  have c2 := hd2.c2
  obtain ⟨D, ho, hh, hsz⟩ := hd2.badm
  have hkey : keyOf Tryz.prog 3 (.int .i64 (i : Int)) = some (kLit i) := Maps.keyOf_int_mk Tryz.underlying3 (wf_nat (by have := d.n2; omega))
  have HK := Lib.hid hkey
  have HH := Lib.hid hh
  have HD2 := Lib.hid hd2
  have HA2 := Lib.hid hap2
  have hne := d.ne
  clear d hd1 hrow hd2 hap2 hkey hh hsz hlens
  generalize U8s l = cs at *
  have hii : (Tryz.prog.info? 78).map (·.size) = some cs.length := by rw [secSize, hcs]
  have hk0 : (0 : Int) ≤ (i : Int) := by omega
  have hk1 : (i : Int) < (M.n : Int) := by omega
  have hS : (fun w' : World => w'.cell? ⟨h.b, 0, none⟩ = some (.slice (some ⟨h.bs, 0, none⟩) M.n h.cap) ∧ w'.rangeAt w.heap.size 0 cs ∧ w'.there h.bs (i * 512) 512) X := ⟨hc0, hrg, ht⟩
  have hS2 : (fun w' : World => w'.cell? ⟨h.b, 0, none⟩ = some (.slice (some ⟨h.bs, 0, none⟩) M.n h.cap) ∧ w'.rangeAt w.heap.size 0 cs ∧ w'.there h.bs (i * 512) 512) (X.setCells h.bs (i * 512) cs) :=
    ⟨(cell_setCells_ne _ _ _ _ _ _ hne.1).trans hc0, World.rangeAt_setCells_apart (w := X) hrg _ _ _ (.inl hbs), World.there_setCells (w := X) ht _ _ _⟩
  have HS := Lib.hid hS
  have HS2 := Lib.hid hS2
  rw [hX] at HS HS2 HD2 HA2 ho c2
  clear hc0 hrg ht hS hS2 hne hap1
  go_enter Tryz.func58, Tryz.ntmps58
  go_wp2_with fail
  go_region_held3 (fun w' => w'.cell? ⟨h.b, 0, none⟩ = some (.slice (some ⟨h.bs, 0, none⟩) M.n h.cap) ∧ w'.rangeAt w.heap.size 0 cs ∧ w'.there h.bs (i * 512) 512) (first | exact HS.out | exact HS2.out) (fail)
  go_wp2_with (at_delete; refine wpList_delete_own _ rfl _ _ 53 3 rfl 100 intK Tryz.underlying53 unitElem h.bb (Maps.size D) D rfl ho _ _ rfl HK.out ?_; intro w1 ho1 ht1)
  go_end0
  exact ⟨rfl, HD2.out.withBad (ap_turned ht1) (BadMap.del HH.out ho1), HA2.out.trans ((ap_turned ht1).weak (fun _ e => .inr e))⟩
end Go.Proofs.YtjhpheepimbbdaaGreatDoor
