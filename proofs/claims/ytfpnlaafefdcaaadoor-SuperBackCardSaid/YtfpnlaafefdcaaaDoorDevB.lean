/- The contracts of a device's calls that write: Erase, settle. -/
import Derived.Test.YtfpnlaafefdcaaaDoorDevA
import Derived.Deep.RegionHeld3
namespace Go.Proofs.YtfpnlaafefdcaaaDoor
open Go.RowKit Go.Maps

def upd {α : Type} (f : Nat → α) (i : Nat) (x : α) : Nat → α := fun k => if k = i then x else f k
theorem upd_same {α : Type} (f : Nat → α) (i : Nat) (x : α) : upd f i x i = x := if_pos rfl
theorem upd_ne {α : Type} (f : Nat → α) {i k : Nat} (x : α) (h : k ≠ i) : upd f i x k = f k := if_neg h
theorem klit_of {x : Int} (h : 0 ≤ x) : Lit.int .i64 x = kLit x.toNat := by unfold kLit; rw [Int.toNat_of_nonneg h]
theorem klit_neg {x : Int} (h : x < 0) (i : Nat) : Lit.int .i64 x ≠ kLit i := by unfold kLit; intro e; injection e with _ e; omega
theorem has_after_put {D : DataW Unit} (hm : IsMap D) {n i : Nat} (hi : i < n) {p : Nat → Bool} (hh : ∀ x : Int, Maps.has D (.int .i64 x) = true ↔ 0 ≤ x ∧ x.toNat < n ∧ p x.toNat = true) (d : DataW Unit) :
    ∀ x : Int, Maps.has (D.put (kLit i) d) (.int .i64 x) = true ↔ 0 ≤ x ∧ x.toNat < n ∧ upd p i true x.toNat = true := by
  intro x
  by_cases h0 : 0 ≤ x
  · rw [klit_of h0]
    by_cases e : x.toNat = i
    · rw [e, has_put_same hm (kLit_key i), upd_same]; simp [h0, hi]
    · rw [has_put_other (kLit_ne e), ← klit_of h0, hh x, upd_ne _ _ e]
  · rw [has_put_other (klit_neg (by omega) i), hh x]
    constructor <;> intro h <;> omega
theorem has_after_del {D : DataW Unit} {n i : Nat} {p : Nat → Bool} (hh : ∀ x : Int, Maps.has D (.int .i64 x) = true ↔ 0 ≤ x ∧ x.toNat < n ∧ p x.toNat = true) :
    ∀ x : Int, Maps.has (D.del (kLit i)) (.int .i64 x) = true ↔ 0 ≤ x ∧ x.toNat < n ∧ upd p i false x.toNat = true := by
  intro x
  by_cases h0 : 0 ≤ x
  · rw [klit_of h0]
    by_cases e : x.toNat = i
    · rw [e, has_del_same, upd_same]; simp
    · rw [has_del_other (kLit_ne e), ← klit_of h0, hh x, upd_ne _ _ e]
  · rw [has_del_other (klit_neg (by omega) i), hh x]
    constructor <;> intro h <;> omega
theorem intK : Keyed Tryd.prog 3 := Maps.int_keyed Tryd.underlying3
theorem BadMap.put {w w' : World} {b n i m : Nat} {f : Nat → Bool} {D : DataW Unit} (ho : w.ownsMap Tryd.prog 3 unitElem b m D) (hi : i < n)
    (hh : ∀ x : Int, Maps.has D (.int .i64 x) = true ↔ 0 ≤ x ∧ x.toNat < n ∧ f x.toNat = true) {k : Nat} {d : DataW Unit} (h' : w'.ownsMap Tryd.prog 3 unitElem b k (D.put (kLit i) d)) : BadMap w' b n (upd f i true) :=
  ⟨_, owns_tight h', has_after_put ho.isMap hi hh d, size_keys h' intK Tryd.underlying3 (has_after_put ho.isMap hi hh d)⟩
theorem BadMap.del {w' : World} {b n i : Nat} {f : Nat → Bool} {D : DataW Unit}
    (hh : ∀ x : Int, Maps.has D (.int .i64 x) = true ↔ 0 ≤ x ∧ x.toNat < n ∧ f x.toNat = true) {k : Nat} (h' : w'.ownsMap Tryd.prog 3 unitElem b k (D.del (kLit i))) : BadMap w' b n (upd f i false) :=
  ⟨_, owns_tight h', has_after_del hh, size_keys h' intK Tryd.underlying3 (has_after_del hh)⟩
theorem DevAt.withBad {w w' : World} {h : DH} {M : DM} (d : DevAt w h M) (a : Ap (fun k => k = h.bb) w w') {f : Nat → Bool} (hb : BadMap w' h.bb M.n f) : DevAt w' h { M with bad := f } := by
  obtain ⟨n1, n2, n3, n4, n5, n6⟩ := d.ne
  obtain ⟨g, f1, f2⟩ := d.c6
  exact ⟨Nat.lt_of_lt_of_le d.ltb a.size, (a.cell d.ltb n3 _).trans d.c0, (a.cell d.ltb n3 _).trans d.c1, (a.cell d.ltb n3 _).trans d.c2, (a.cell d.ltb n3 _).trans d.c3, (a.cell d.ltb n3 _).trans d.c4, (a.cell d.ltb n3 _).trans d.c5,
    ⟨g, (a.cell d.ltb n3 _).trans f1, f2⟩, fun o ho => (a.frozen d.ltb n3 _).trans (d.fz o ho), fun i hi => a.row (d.rows i hi) n5, d.lens, d.flen, d.wait.ap a n6, hb, d.n1, d.n2, d.cap1, d.cap2, d.ne⟩
theorem DevAt.withWait {w w' : World} {h : DH} {M : DM} (d : DevAt w h M) (a : Ap (fun k => k = h.bw) w w') {f : Nat → Option (List UInt8)} (hw : WaitMap w' h.bw M.n f) (hl : ∀ i l, i < M.n → f i = some l → l.length = 512) : DevAt w' h { M with fresh := f } := by
  obtain ⟨n1, n2, n3, n4, n5, n6⟩ := d.ne
  obtain ⟨g, f1, f2⟩ := d.c6
  exact ⟨Nat.lt_of_lt_of_le d.ltb a.size, (a.cell d.ltb n2 _).trans d.c0, (a.cell d.ltb n2 _).trans d.c1, (a.cell d.ltb n2 _).trans d.c2, (a.cell d.ltb n2 _).trans d.c3, (a.cell d.ltb n2 _).trans d.c4, (a.cell d.ltb n2 _).trans d.c5,
    ⟨g, (a.cell d.ltb n2 _).trans f1, f2⟩, fun o ho => (a.frozen d.ltb n2 _).trans (d.fz o ho), fun i hi => a.row (d.rows i hi) n4, d.lens, hl, hw, d.badm.ap a (Ne.symm n6), d.n1, d.n2, d.cap1, d.cap2, d.ne⟩
theorem DevAt.withSure {w w' : World} {h : DH} {M : DM} (d : DevAt w h M) (a : Ap (fun k => k = h.bs) w w') {f : Nat → List UInt8} (hr : ∀ i, i < M.n → Row8 w' h.bs (i * 512) (f i)) (hl : ∀ i, i < M.n → (f i).length = 512) : DevAt w' h { M with sure := f } := by
  obtain ⟨n1, n2, n3, n4, n5, n6⟩ := d.ne
  obtain ⟨g, f1, f2⟩ := d.c6
  exact ⟨Nat.lt_of_lt_of_le d.ltb a.size, (a.cell d.ltb n1 _).trans d.c0, (a.cell d.ltb n1 _).trans d.c1, (a.cell d.ltb n1 _).trans d.c2, (a.cell d.ltb n1 _).trans d.c3, (a.cell d.ltb n1 _).trans d.c4, (a.cell d.ltb n1 _).trans d.c5,
    ⟨g, (a.cell d.ltb n1 _).trans f1, f2⟩, fun o ho => (a.frozen d.ltb n1 _).trans (d.fz o ho), hr, hl, d.flen, d.wait.ap a (Ne.symm n4), d.badm.ap a (Ne.symm n5), d.n1, d.n2, d.cap1, d.cap2, d.ne⟩
theorem S_bb (h : DH) : ∀ k, k = h.bb → h.S k := fun _ e => .inr (.inr (.inr e))
theorem S_bw (h : DH) : ∀ k, k = h.bw → h.S k := fun _ e => .inr (.inr (.inl e))
theorem S_bs (h : DH) : ∀ k, k = h.bs → h.S k := fun _ e => .inr (.inl e)
theorem ap_turned {w w' : World} {b : Nat} (h : w.mapTurned w' b) : Ap (fun k => k = b) w w' := Ap.turned (S := fun k => k = b) (Ap.refl w) (.inl rfl) h

set_option maxHeartbeats 400000 in
theorem devErase_yes {w : World} {h : DH} {M : DM} (d : DevAt w h M) (i : Nat) (hi : i < M.n) :
    Calls Tryd.prog 19 #[.pointer (some ⟨h.b, 0, none⟩), .int .i64 (i : Int)] w fun e w' => e = .returned (.int .i64 0) ∧ DevAt w' h { M with bad := upd M.bad i true } ∧ Ap h.S w w' := by
  have hH := devHas_any d (i : Int)
  rw [show hasB M.n (i : Int) = true by unfold hasB; exact decide_eq_true (by omega)] at hH
  have c2 := d.c2
  obtain ⟨D, ho, hh, hsz⟩ := d.badm
  have hkey : keyOf Tryd.prog 3 (.int .i64 (i : Int)) = some (kLit i) := Maps.keyOf_int_mk Tryd.underlying3 (wf_nat (by have := d.n2; omega))
  have hroom : Maps.size D < maxLen := by have := d.n2; unfold maxLen; omega
  have HK := Lib.hid hkey
  have HD := Lib.hid d
  have HH := Lib.hid hh
  have HR := Lib.hid hroom
  clear d hkey hh hsz hroom
  go_enter Tryd.func19, Tryd.ntmps19
  go_wp2_with (first
    | (go_at_call 61; refine hH.mono ?_; rintro e w' ⟨rfl, rfl⟩)
    | (at_mapUpdate; refine wpList_mapUpdate_in _ rfl _ _ _ 110 rfl 3 119 intK Tryd.underlying110 unitElem h.bb (Maps.size D) D rfl ho HR.out _ _ _ rfl rfl HK.out _ _ unitElem_mk ?_; intro w1 ho1 ht1))
  go_ret
  exact ⟨rfl, HD.out.withBad (ap_turned ht1) (BadMap.put ho hi HH.out ho1), (ap_turned ht1).weak (S_bb h)⟩
theorem devErase_no {w : World} {h : DH} {M : DM} (d : DevAt w h M) (a : Int) (hn : hasB M.n a = false) :
    Calls Tryd.prog 19 #[.pointer (some ⟨h.b, 0, none⟩), .int .i64 a] w fun e w' => e = .returned (.int .i64 1) ∧ w = w' := by
  have hH := devHas_any d a
  rw [hn] at hH
  clear d hn
  go_enter Tryd.func19, Tryd.ntmps19
  go_wp2_with (go_at_call 61; refine hH.mono ?_; rintro e w' ⟨rfl, rfl⟩)
  go_ret
  exact ⟨rfl, rfl⟩

/-! ### settle -/
theorem Row8.range {w : World} {b off : Nat} {l : List UInt8} (h : Row8 w b off l) : w.rangeAt b off (U8s l) := by
  intro j v hv
  have hj : j < l.length := by have := (List.getElem?_eq_some_iff.1 hv).1; rwa [u8s_len] at this
  rw [u8s_at l j hj] at hv
  rw [(h.2 j hj).1, hv]
theorem Row8.there {w : World} {b off : Nat} {l : List UInt8} (h : Row8 w b off l) : w.there b off l.length := fun j hj => ⟨by rw [(h.2 j hj).1]; rfl, (h.2 j hj).2⟩
theorem Row8.of_range {w : World} {b off : Nat} {l : List UInt8} (hlt : b < w.heap.size) (h : w.rangeAt b off (U8s l)) (ht : w.there b off l.length) : Row8 w b off l :=
  ⟨hlt, fun j hj => ⟨h j _ (u8s_at l j hj), (ht j hj).2⟩⟩
theorem size_setCells (b : Nat) : ∀ (vs : List Value) (o : Nat) (w : World), (w.setCells b o vs).heap.size = w.heap.size
  | [], _, _ => rfl
  | v :: r, o, w => by rw [World.setCells, size_setCells b r, World.size_setCell]
/-- A sector's bytes put in the place of what was there. -/
theorem rows_set {w : World} {b n : Nat} {f : Nat → List UInt8} (hr : ∀ i, i < n → Row8 w b (i * 512) (f i)) (hl : ∀ i, i < n → (f i).length = 512) {i : Nat} (hi : i < n) {l : List UInt8} (hlen : l.length = 512) :
    ∀ k, k < n → Row8 (w.setCells b (i * 512) (U8s l)) b (k * 512) (upd f i l k) := by
  intro k hk
  have hlt := (hr i hi).1
  have ht : w.there b (i * 512) (U8s l).length := by have := (hr i hi).there; rw [hl i hi] at this; rw [u8s_len, hlen]; exact this
  by_cases e : k = i
  · subst e
    rw [upd_same]
    exact Row8.of_range (by rw [size_setCells]; exact hlt) (World.rangeAt_setCells_same _ _ _ _ ht) (by rw [← u8s_len l]; exact World.there_setCells ht _ _ _)
  · rw [upd_ne _ _ e]
    refine Row8.of_range (by rw [size_setCells]; exact hlt) (World.rangeAt_setCells_apart (hr k hk).range _ _ _ (.inr ?_)) (World.there_setCells (hr k hk).there _ _ _)
    rw [u8s_len, u8s_len, hl k hk, hlen]
    omega
theorem secSize : (Tryd.prog.info? 117).map (·.size) = some 512 := by
  obtain ⟨i, hi, _, hs, _⟩ := secZero
  rw [hi]; simp [hs]
/-- The cells of a new block. -/
theorem range_new (w : World) (cs : List Value) (t : Nat) : (w.alloc (.cells cs.toArray t)).rangeAt w.heap.size 0 cs := by
  intro j v hv
  rw [cell_of_row _ _ _ cs.toArray t (0, 0) (heap_alloc_new w _), Nat.zero_add]
  simpa using hv
theorem cell_setCells_ne (w : World) (b o : Nat) (vs : List Value) (b' o' : Nat) (h : b' ≠ b) : (w.setCells b o vs).cell? ⟨b', o', none⟩ = w.cell? ⟨b', o', none⟩ :=
  World.cell?_setCells_out b vs o w ⟨b', o', none⟩ (fun hb _ => absurd hb h)
theorem ap_setCells (w : World) (b o : Nat) (vs : List Value) : Ap (fun k => k = b) w (w.setCells b o vs) := Ap.setCells (S := fun k => k = b) (.inl rfl) vs o w (Ap.refl w)
/-- What settle writes: the sectors, and what is bad. -/
def DH.S2 (h : DH) (k : Nat) : Prop := k = h.bs ∨ k = h.bb
theorem S2_S (h : DH) : ∀ k, h.S2 k → h.S k := by
  rintro k (e | e)
  · exact .inr (.inl e)
  · exact .inr (.inr (.inr e))
set_option maxHeartbeats 400000 in
set_option maxRecDepth 100000 in
theorem devSettle_any {w : World} {h : DH} {M : DM} (d : DevAt w h M) (i : Nat) (hi : i < M.n) (l : List UInt8) (hlen : l.length = 512) :
    Calls Tryd.prog 59 #[.pointer (some ⟨h.b, 0, none⟩), .int .i64 (i : Int), .agg (U8s l).toArray] w fun e w' => e = .returned (.tuple #[]) ∧ DevAt w' h { M with sure := upd M.sure i l, bad := upd M.bad i false } ∧ Ap h.S2 w w' := by
  obtain ⟨X, hX⟩ : ∃ X, X = (w.alloc (.cells (U8s l).toArray 117)).drew := ⟨_, rfl⟩
  have hd1 : DevAt X h M := by rw [hX]; exact (d.alloc _).drew
  have hrow := rows_set hd1.rows hd1.lens hi hlen
  have hlens : ∀ k, k < M.n → (upd M.sure i l k).length = 512 := by
    intro k hk
    by_cases e : k = i
    · rw [e, upd_same]; exact hlen
    · rw [upd_ne _ _ e]; exact d.lens k hk
  have hd2 : DevAt (X.setCells h.bs (i * 512) (U8s l)) h { M with sure := upd M.sure i l } := hd1.withSure (ap_setCells _ _ _ _) hrow hlens
  have hap1 : Ap h.S2 w X := by rw [hX]; exact ((Ap.refl w).alloc _).drew
  have hap2 : Ap h.S2 w (X.setCells h.bs (i * 512) (U8s l)) := hap1.trans ((ap_setCells _ _ _ _).weak (fun _ e => .inl e))
  have ht : X.there h.bs (i * 512) 512 := by have := (hd1.rows i hi).there; rwa [hd1.lens i hi] at this
  have hrg : X.rangeAt w.heap.size 0 (U8s l) := by rw [hX]; exact range_new w _ _
  have hbs : w.heap.size ≠ h.bs := by have := d.ltbs; omega
  have hc0 := hd1.c0
  have hcs : (U8s l).length = 512 := by rw [u8s_len, hlen]
  have h1 := u8s_one l
  have hu := Tryd.underlying117
  have c2 := hd2.c2
  obtain ⟨D, ho, hh, hsz⟩ := hd2.badm
  have hkey : keyOf Tryd.prog 3 (.int .i64 (i : Int)) = some (kLit i) := Maps.keyOf_int_mk Tryd.underlying3 (wf_nat (by have := d.n2; omega))
  have HK := Lib.hid hkey
  have HH := Lib.hid hh
  have HD2 := Lib.hid hd2
  have HA2 := Lib.hid hap2
  have hne := d.ne
  clear d hd1 hrow hd2 hap2 hkey hh hsz hlens
  generalize U8s l = cs at *
  have hii : (Tryd.prog.info? 117).map (·.size) = some cs.length := by rw [secSize, hcs]
  have hk0 : (0 : Int) ≤ (i : Int) := by omega
  have hk1 : (i : Int) < (M.n : Int) := by omega
  have hS : (fun w' : World => w'.cell? ⟨h.b, 0, none⟩ = some (.slice (some ⟨h.bs, 0, none⟩) M.n h.cap) ∧ w'.rangeAt w.heap.size 0 cs ∧ w'.there h.bs (i * 512) 512) X := ⟨hc0, hrg, ht⟩
  have hS2 : (fun w' : World => w'.cell? ⟨h.b, 0, none⟩ = some (.slice (some ⟨h.bs, 0, none⟩) M.n h.cap) ∧ w'.rangeAt w.heap.size 0 cs ∧ w'.there h.bs (i * 512) 512) (X.setCells h.bs (i * 512) cs) :=
    ⟨(cell_setCells_ne _ _ _ _ _ _ hne.1).trans hc0, World.rangeAt_setCells_apart (w := X) hrg _ _ _ (.inl hbs), World.there_setCells (w := X) ht _ _ _⟩
  have HS := Lib.hid hS
  have HS2 := Lib.hid hS2
  rw [hX] at HS HS2 HD2 HA2 ho c2
  clear hc0 hrg ht hS hS2 hne hap1
  go_enter Tryd.func59, Tryd.ntmps59
  go_wp2_with fail
  go_region_held3 (fun w' => w'.cell? ⟨h.b, 0, none⟩ = some (.slice (some ⟨h.bs, 0, none⟩) M.n h.cap) ∧ w'.rangeAt w.heap.size 0 cs ∧ w'.there h.bs (i * 512) 512) (first | exact HS.out | exact HS2.out) (fail)
  go_wp2_with (at_delete; refine wpList_delete_own _ rfl _ _ 110 3 rfl 119 intK Tryd.underlying110 unitElem h.bb (Maps.size D) D rfl ho _ _ rfl HK.out ?_; intro w1 ho1 ht1)
  go_end0
  exact ⟨rfl, HD2.out.withBad (ap_turned ht1) (BadMap.del HH.out ho1), HA2.out.trans ((ap_turned ht1).weak (fun _ e => .inr e))⟩
end Go.Proofs.YtfpnlaafefdcaaaDoor
