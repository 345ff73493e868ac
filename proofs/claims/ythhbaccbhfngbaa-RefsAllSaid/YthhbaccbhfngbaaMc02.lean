/- Pools: the plain model, and how a shelf lies in memory. Counts by numbers: a map that has how often each number is in a list; refs.lives. References and numbers that come in. -/
import Derived.Test.YthhbaccbhfngbaaMb02
import Derived.Maps.Ext
import Derived.Lib.SlKeysI
import Derived.Maps.RangeWalk
import Derived.Test.YthhbaccbhfngbaaMc01
import Derived.Maps.OwnOps
import Derived.Deep.DeepCutAuto
import Derived.Test.YthhbaccbhfngbaaMc00
namespace Go.Proofs.Ythhbaccbhfngbaa
open Go.RowKit Go.Maps

/-- What is under which number, rising. -/
abbrev PL := List (Int × List UInt8)
def idsP (L : PL) : List Int := L.map (·.1)
def bytesP (L : PL) : Nat := (L.map (fun p => p.2.length)).sum
def getP (L : PL) (x : Int) : Option (List UInt8) := (L.find? (fun p => p.1 = x)).map (·.2)
def keepP (L : PL) (K : List Int) : PL := L.filter (fun p => K.contains p.1)
def kI (x : Int) : Lit := .int .i64 x
theorem kI_key (x : Int) : WideAt.IsKeyLit (kI x) := trivial
theorem kI_inj {i j : Int} (h : kI i = kI j) : i = j := by unfold kI at h; injection h
theorem kI_ne {i j : Int} (h : i ≠ j) : kI i ≠ kI j := fun e => h (kI_inj e)
/-- How a datum reads. -/
def datElem : Value → Option (DataW Unit × List MemPlace)
  | .agg cs => match cs.toList with
    | [.string s] => some (.lit (.string s.data.toList), [])
    | _ => none
  | _ => none
theorem datElem_mk (s : ByteArray) : datElem (.agg #[.string s]) = some (.lit (.string s.data.toList), []) := rfl
theorem datElem_inv {v : Value} {z : DataW Unit × List MemPlace} (h : datElem v = some z) : ∃ s : ByteArray, v = .agg #[.string s] ∧ z = (.lit (.string s.data.toList), []) := by
  unfold datElem at h
  split at h
  · rename_i cs
    split at h
    · rename_i s hs
      injection h with h
      exact ⟨s, by rw [← hs], h.symm⟩
    · cases h
  · cases h
/-- What the map in block b has. -/
def PMap (w : World) (b : Nat) (L : PL) : Prop :=
  ∃ D : DataW Unit, w.ownsMap Try.prog 3 datElem b (Maps.size D) D ∧ (∀ x : Int, has D (kI x) = true ↔ x ∈ idsP L) ∧ (∀ p ∈ L, ∀ z, D.atKey (kI p.1) z = .lit (.string p.2))
theorem owns_tightP {H : Type} {P : Program} {k : TypeId} {R : Value → Option (DataW H × List MemPlace)} {w : World} {b n : Nat} {D : DataW H} (h : w.ownsMap P k R b n D) : w.ownsMap P k R b (Maps.size D) D := by
  obtain ⟨es, clock, hb, F, _, rfl⟩ := h
  exact ⟨es, clock, hb, F, by simp [Maps.size, length_sorted], rfl⟩
/-- Two rising lists that have the same numbers are one. -/
theorem rising_extP : ∀ (l l' : List Int), l.Pairwise (· < ·) → l'.Pairwise (· < ·) → (∀ x, x ∈ l ↔ x ∈ l') → l = l'
  | [], [], _, _, _ => rfl
  | [], y :: r, _, _, h => absurd ((h y).2 (by simp)) (by simp)
  | x :: r, [], _, _, h => absurd ((h x).1 (by simp)) (by simp)
  | x :: r, y :: r', hp, hp', h => by
    obtain ⟨h1, h2⟩ := List.pairwise_cons.1 hp
    obtain ⟨h1', h2'⟩ := List.pairwise_cons.1 hp'
    have e : x = y := by
      have a := (h x).1 (by simp)
      have b := (h y).2 (by simp)
      simp only [List.mem_cons] at a b
      rcases a with a | a
      · exact a
      · rcases b with b | b
        · exact b.symm
        · have := h1 y b; have := h1' x a; omega
    subst e
    rw [rising_extP r r' h2 h2' (fun z => by
      have hz := h z
      simp only [List.mem_cons] at hz
      constructor
      · intro m
        rcases hz.1 (.inr m) with e | e
        · subst e; have := h1 z m; omega
        · exact e
      · intro m
        rcases hz.2 (.inr m) with e | e
        · subst e; have := h1' z m; omega
        · exact e)]
/-- The map's keys, sorted, are the numbers. -/
theorem keysP_sorted {k : TypeId} {R : Value → Option (DataW Unit × List MemPlace)} {w : World} {b m : Nat} {D : DataW Unit} (ho : w.ownsMap Try.prog k R b m D) (K : Keyed Try.prog k) (hk : Try.prog.underlying k = some (.int .i64))
    {l : List Int} (hr : l.Pairwise (· < ·)) (hh : ∀ x : Int, has D (kI x) = true ↔ x ∈ l) {ss : List Int} (hs : ss.Perm (intKeys D)) : ss.mergeSort (fun x y => decide (x ≤ y)) = l := by
  obtain ⟨es, hD, hpw, _⟩ := ho.entries K
  obtain ⟨es', hD', hko⟩ := ho.keysOf
  obtain rfl : es = es' := by rw [hD] at hD'; simpa using hD'
  subst hD
  have hpn : l.Perm (intKeys (.map es)) := perm_intKeys hpw (fun q hq => by obtain ⟨v, hv⟩ := hko q hq; obtain ⟨x, _, hx, _⟩ := Maps.keyOf_i64 hk hv; exact ⟨x, hx⟩)
    (hr.imp (fun h => by omega)) (fun x => (hh x).symm)
  have e := mergeSort_of_perm_i (hs.trans hpn.symm)
  unfold leI at e
  rw [e]
  refine List.mergeSort_of_pairwise (hr.imp (fun h => by simpa using Int.le_of_lt h))
theorem sizeP {k : TypeId} {R : Value → Option (DataW Unit × List MemPlace)} {w : World} {b m : Nat} {D : DataW Unit} (ho : w.ownsMap Try.prog k R b m D) (K : Keyed Try.prog k) (hk : Try.prog.underlying k = some (.int .i64))
    {l : List Int} (hr : l.Pairwise (· < ·)) (hh : ∀ x : Int, has D (kI x) = true ↔ x ∈ l) : Maps.size D = l.length := by
  have h := keysP_sorted ho K hk hr hh (List.Perm.refl (intKeys D))
  have hl : (intKeys D).length = Maps.size D := by
    obtain ⟨es, hD, _, _⟩ := ho.entries K
    subst hD
    simp [intKeys, Maps.size]
  rw [← hl, ← h, List.length_mergeSort]
theorem intKP : Keyed Try.prog 3 := Maps.int_keyed Try.underlying3
theorem PMap.lt {w : World} {b : Nat} {L : PL} (h : PMap w b L) : b < w.heap.size := by obtain ⟨D, ho, _⟩ := h; exact ho.lt
theorem PMap.ap {S : Nat → Prop} {w w' : World} {b : Nat} {L : PL} (h : PMap w b L) (a : Ap S w w') (hb : ¬ S b) : PMap w' b L := by
  obtain ⟨D, ho, r⟩ := h
  have hl := ho.lt
  obtain ⟨es, clock, e1, r1⟩ := ho
  exact ⟨D, ⟨es, clock, (a.block b hl hb).trans e1, r1⟩, r⟩
theorem PMap.below {w w' : World} {b : Nat} {L : PL} (h : PMap w b L) (a : Below w.heap.size w w') : PMap w' b L := by
  obtain ⟨D, ho, r⟩ := h
  have hl := ho.lt
  obtain ⟨es, clock, e1, r1⟩ := ho
  exact ⟨D, ⟨es, clock, (a.block b hl).trans e1, r1⟩, r⟩
theorem PMap.nil {w : World} {b n : Nat} (h : w.ownsMap Try.prog 3 datElem b n (.map [])) : PMap w b [] :=
  ⟨.map [], owns_tightP h, fun x => by simp [Maps.has, idsP], fun p hp => by cases hp⟩
theorem PMap.put {w w' : World} {b m n : Nat} {L L' : PL} {D : DataW Unit} (ho : w.ownsMap Try.prog 3 datElem b m D) (hh : ∀ x : Int, has D (kI x) = true ↔ x ∈ idsP L) (hv : ∀ p ∈ L, ∀ z, D.atKey (kI p.1) z = .lit (.string p.2))
    (k : Int) (l : List UInt8) (h' : w'.ownsMap Try.prog 3 datElem b n (D.put (kI k) (.lit (.string l))))
    (h1 : ∀ x, x ∈ idsP L' ↔ x = k ∨ x ∈ idsP L) (h2 : ∀ p ∈ L', p = (k, l) ∨ (p ∈ L ∧ p.1 ≠ k)) : PMap w' b L' := by
  refine ⟨_, owns_tightP h', fun x => ?_, fun p hp z => ?_⟩
  · rw [h1]
    by_cases e : x = k
    · subst e; simp [has_put_same ho.isMap (kI_key x)]
    · rw [has_put_other (kI_ne e), hh x]; simp [e]
  · rcases h2 p hp with rfl | ⟨h3, h4⟩
    · exact atKey_put_same ho.isMap (kI_key k) _ _
    · rw [atKey_put_other (kI_ne h4)]; exact hv p h3 z
theorem getP_some {L : PL} (hr : (idsP L).Pairwise (· < ·)) {p : Int × List UInt8} (hp : p ∈ L) : getP L p.1 = some p.2 := by
  induction L with
  | nil => cases hp
  | cons q r ih =>
    unfold idsP at hr
    obtain ⟨h1, h2⟩ := List.pairwise_cons.1 (by simpa using hr : List.Pairwise (· < ·) (q.1 :: r.map (·.1)))
    unfold getP
    rw [List.find?_cons]
    rcases List.mem_cons.1 hp with rfl | hp
    · simp
    · have : q.1 < p.1 := h1 p.1 (List.mem_map.2 ⟨p, hp, rfl⟩)
      rw [show decide (q.1 = p.1) = false by simp; omega]
      exact ih h2 hp
theorem getP_none {L : PL} {x : Int} (h : x ∉ idsP L) : getP L x = none := by
  unfold getP
  rw [List.find?_eq_none.2 (fun p hp e => h (by simp at e; exact List.mem_map.2 ⟨p, hp, e⟩))]
  rfl
theorem getP_mem {L : PL} {x : Int} {l : List UInt8} (h : getP L x = some l) : (x, l) ∈ L := by
  unfold getP at h
  rw [Option.map_eq_some_iff] at h
  obtain ⟨p, hp, rfl⟩ := h
  have h1 := List.mem_of_find?_eq_some hp
  have h2 := List.find?_some hp
  simp at h2
  rw [← h2]; exact h1
theorem idsP_rise {L : PL} (hr : (idsP L).Pairwise (· < ·)) (f : Int × List UInt8 → Bool) : (idsP (L.filter f)).Pairwise (· < ·) := hr.sublist ((List.filter_sublist).map _)
end Go.Proofs.Ythhbaccbhfngbaa
namespace Go.Proofs.Ythhbaccbhfngbaa
open Go.RowKit Go.Maps

/-- A map that has how often each number is in this list. -/
def CMap (w : World) (b : Nat) (l : List Int) : Prop :=
  ∃ D : DataW Unit, w.ownsMap Try.prog 3 (plainElem Try.prog 3) b (Maps.size D) D ∧ (∀ x : Int, has D (kI x) = true ↔ x ∈ l) ∧ (∀ x ∈ l, ∀ z, D.atKey (kI x) z = .lit (.int .i64 (l.count x : Nat)))
theorem CMap.lt {w : World} {b : Nat} {l : List Int} (h : CMap w b l) : b < w.heap.size := by obtain ⟨D, ho, _⟩ := h; exact ho.lt
theorem CMap.ap {S : Nat → Prop} {w w' : World} {b : Nat} {l : List Int} (h : CMap w b l) (a : Ap S w w') (hb : ¬ S b) : CMap w' b l := by
  obtain ⟨D, ho, r⟩ := h
  have hl := ho.lt
  obtain ⟨es, clock, e1, r1⟩ := ho
  exact ⟨D, ⟨es, clock, (a.block b hl hb).trans e1, r1⟩, r⟩
theorem CMap.below {w w' : World} {b : Nat} {l : List Int} (h : CMap w b l) (a : Below w.heap.size w w') : CMap w' b l := h.ap (S := fun _ => False) (Ap.of_below a) id
theorem CMap.nil (w : World) : CMap (w.alloc (.map #[] 0)) w.heap.size [] := ⟨.map [], owns_tightP (World.ownsMap_made w _ _ _), fun x => by simp [Maps.has], fun x hx => by cases hx⟩
theorem CMap.put {w w' : World} {b m n : Nat} {l : List Int} {D : DataW Unit} (ho : w.ownsMap Try.prog 3 (plainElem Try.prog 3) b m D) (hh : ∀ x : Int, has D (kI x) = true ↔ x ∈ l) (hv : ∀ x ∈ l, ∀ z, D.atKey (kI x) z = .lit (.int .i64 (l.count x : Nat)))
    (k : Int) (h' : w'.ownsMap Try.prog 3 (plainElem Try.prog 3) b n (D.put (kI k) (.lit (.int .i64 ((l.count k : Nat) + 1 : Int))))) : CMap w' b (l ++ [k]) := by
  refine ⟨_, owns_tightP h', fun x => ?_, fun x hx z => ?_⟩
  · rw [List.mem_append, List.mem_singleton]
    by_cases e : x = k
    · subst e; simp [has_put_same ho.isMap (kI_key x)]
    · rw [has_put_other (kI_ne e), hh x]; simp [e]
  · rw [List.mem_append, List.mem_singleton] at hx
    by_cases e : x = k
    · subst e
      rw [atKey_put_same ho.isMap (kI_key x), List.count_append, List.count_singleton_self]
      rfl
    · rw [atKey_put_other (kI_ne e), hv x (hx.resolve_right e), List.count_append, List.count_eq_zero_of_not_mem (a := x) (l := [k]) (by simpa using e)]
      rfl
/-- What is looked up. -/
theorem CMap.look {l : List Int} {D : DataW Unit} {c k : Int} (hh : ∀ x : Int, has D (kI x) = true ↔ x ∈ l) (hv : ∀ x ∈ l, ∀ z, D.atKey (kI x) z = .lit (.int .i64 (l.count x : Nat))) (hc : D.atKey (kI k) (.lit (.int .i64 0)) = .lit (.int .i64 c)) : c = (l.count k : Nat) := by
  by_cases hk : k ∈ l
  · rw [hv k hk] at hc
    injection hc with hc
    injection hc with _ hc
    exact hc.symm
  · have hn : has D (kI k) = false := by
      cases h : has D (kI k)
      · rfl
      · exact absurd ((hh k).1 h) hk
    rw [atKey_of_not_has hn] at hc
    injection hc with hc
    injection hc with _ hc
    rw [List.count_eq_zero_of_not_mem hk, ← hc]; rfl
theorem CMap.size {w : World} {b m : Nat} {l : List Int} {D : DataW Unit} (ho : w.ownsMap Try.prog 3 (plainElem Try.prog 3) b m D) (hh : ∀ x : Int, has D (kI x) = true ↔ x ∈ l) : Maps.size D = (dedU l).length :=
  sizeP ho intKP Try.underlying3 (dedU_ris l).1 (fun x => (hh x).trans ((dedU_ris l).2 x).symm)
theorem CMap.sizeLe {w : World} {b m : Nat} {l : List Int} {D : DataW Unit} (ho : w.ownsMap Try.prog 3 (plainElem Try.prog 3) b m D) (hh : ∀ x : Int, has D (kI x) = true ↔ x ∈ l) : Maps.size D ≤ l.length := by
  rw [CMap.size ho hh]; exact dedU_len l
theorem keyI {x : Int} (hx : -9223372036854775808 ≤ x ∧ x ≤ 9223372036854775807) : keyOf Try.prog 3 (.int .i64 x) = some (kI x) :=
  Maps.keyOf_int_mk Try.underlying3 (by simp [Lit.wf, IntKind.min, IntKind.max, IntKind.signed, IntKind.bits]; omega)
theorem zeroI (w : World) : (zeroValue 3).run Try.prog w = .ok (.int .i64 0) w := Try.zeroValue3 w
def strOf (L : List RF) : List Int := L.map RF.s
theorem strOf_count (s : Int) (L : List RF) : (strOf L).count s = liveOf s L := by
  unfold strOf liveOf
  induction L with
  | nil => rfl
  | cons r L ih =>
    rw [List.map_cons, List.count_cons, ih]
    by_cases e : r.s = s
    · rw [List.filter_cons_of_pos (by simpa using e)]; simp [e]
    · rw [List.filter_cons_of_neg (by simpa using e)]; simp [e]
theorem strOf_snoc {L : List RF} {j : Nat} (h : j < L.length) : strOf (L.take (j + 1)) = strOf (L.take j) ++ [(L.getD j RF.zero).s] := by
  rw [getD_snoc RF.zero h]; unfold strOf; rw [List.map_append]; rfl
def RfWf (L : List RF) : Prop := ∀ r ∈ L, -9223372036854775808 ≤ r.s ∧ r.s ≤ 9223372036854775807
set_option maxHeartbeats 4000000 in
set_option maxRecDepth 100000 in
theorem livesMap_any {w : World} {v : Value} {L : List RF} (hv : RefS w v L) (hwf : RfWf L) (hLn : L.length ≤ 10000) :
    Calls Try.prog 28 #[v] w fun e w' => e = .returned (.map (some w.heap.size)) ∧ CMap w' w.heap.size (strOf L) ∧ Below w.heap.size w w' := by
  obtain ⟨A, c1, rfl, k1, k2, k3⟩ := hv
  have hmm := @run_makeMap Try.prog
  obtain ⟨N, hN⟩ : ∃ N, N = L.length := ⟨_, rfl⟩
  have HN := Lib.hid hN
  rw [← hN] at k1 hLn ⊢
  have hmx : N ≤ maxLen := Nat.le_trans k1 k2
  have HMX := Lib.hid hmx
  have HNL := Lib.hid hLn
  have HK := Lib.hid k3
  have HWF := Lib.hid hwf
  have HP0 := Lib.hid (CMap.nil w)
  have HB0 := Lib.hid ((Below.refl w.heap.size w).alloc (Nat.le_refl _) (.map #[] 0))
  clear hN k3 hmx hLn hwf
  go_enter Try.func28, Try.ntmps28
  go_wp2_with fail
  go_loopw [9] (fun ix wr => ∃ j : Nat, j ≤ N ∧ ix = .int .i64 (j : Int) ∧ CMap wr w.heap.size (strOf (L.take j)) ∧ Below w.heap.size w wr) (fun ix _ => N - idxOf ix)
  case atStart => exact ⟨0, Nat.zero_le _, rfl, HP0.out, HB0.out⟩
  case round =>
    obtain ⟨j, hj, rfl, hp, hb⟩ := hrel
    have HB := Lib.hid hb
    have HP := Lib.hid hp
    clear hp hb HP0 HB0
    by_cases hlt : j < N
    · obtain ⟨g, o, rfl, hglt, hk⟩ := HK.out.resolve_left (by intro e; have := HN.out; rw [e] at this; simp at this; omega)
      have hjL : j < L.length := by rw [← HN.out]; exact hlt
      have hmem : L.getD j RF.zero ∈ L := by rw [List.getD, List.getElem?_eq_getElem hjL]; exact List.getElem_mem hjL
      have hxw := HWF.out _ hmem
      have hc : ∀ q u, (L.getD j RF.zero).enc[q]? = some u → wr.cell? ⟨g, o + j * 3 + q, none⟩ = some u := fun q u hu => (HB.out.cell (p := ⟨g, o + j * 3 + q, none⟩) hglt).trans (hk j hjL q u hu)
      have HNX := Lib.hid (strOf_snoc hjL)
      have hll : (strOf (L.take j)).length ≤ 10000 := by unfold strOf; rw [List.length_map]; have h2 : (L.take j).length ≤ j := List.length_take_le ..; have := HNL.out; omega
      generalize strOf (L.take j) = l at HP HNX hll ⊢
      generalize L.getD j RF.zero = p at hc hxw HNX
      obtain ⟨ps, pm, pn⟩ := p
      have q0 : wr.cell? ⟨g, o + j * 3, none⟩ = some (.int .i64 ps) := hc 0 _ rfl
      have q1 : wr.cell? ⟨g, o + j * 3 + 1, none⟩ = some (.int .i64 pm) := hc 1 _ rfl
      have q2 : wr.cell? ⟨g, o + j * 3 + 2, none⟩ = some (.int .i64 pn) := hc 2 _ rfl
      have HKY := Lib.hid (keyI hxw)
      have hi0 : (0 : Int) ≤ (j : Int) := by omega
      have hi1 : (j : Int) < (N : Int) := by omega
      have hj1 : j + 1 ≤ N := hlt
      have hms : N - (j + 1) < N - j := by omega
      have HJ : Hid (j + 1 ≤ N ∧ N - (j + 1) < N - j) := Lib.hid ⟨hj1, hms⟩
      obtain ⟨BX, hBX⟩ : ∃ BX, BX = wr.alloc (.cells #[.int .i64 ps, .int .i64 pm, .int .i64 pn] 52) := ⟨_, rfl⟩
      have hbx : Below wr.heap.size wr BX := by rw [hBX]; exact below_new wr _
      have hx0 : BX.cell? ⟨wr.heap.size, 0, none⟩ = some (.int .i64 ps) := by rw [hBX, cell_of_row _ _ _ _ _ (0, 0) (heap_alloc_new wr _)]; rfl
      obtain ⟨D, ho, hh, hv⟩ := HP.out.below hbx
      have hszD : Maps.size D < maxLen := by have := CMap.sizeLe ho hh; unfold maxLen; omega
      obtain ⟨c, hcc⟩ : ∃ c : Nat, c = l.count ps := ⟨_, rfl⟩
      have HLK : Hid (∀ z : Int, D.atKey (kI ps) (.lit (.int .i64 0)) = .lit (.int .i64 z) → z = (c : Int)) := Lib.hid (fun z hz => by rw [hcc]; exact CMap.look hh hv hz)
      have hcl : c ≤ 10000 := by rw [hcc]; exact Nat.le_trans List.count_le_length hll
      have HPUT : Hid (∀ (W : World) (n : Nat), W.ownsMap Try.prog 3 (plainElem Try.prog 3) w.heap.size n (D.put (kI ps) (.lit (.int .i64 ((c : Int) + 1)))) → CMap W w.heap.size (l ++ [ps])) := Lib.hid (fun W n h => CMap.put ho hh hv ps (by rw [← hcc]; exact h))
      have HSZ := Lib.hid hszD
      have HBX := Lib.hid hbx
      have HZI := Lib.hid (zeroI BX)
      have HPE : Hid (plainElem (H := Unit) Try.prog 3 (.int .i64 ((c : Int) + 1)) = some (.lit (.int .i64 ((c : Int) + 1)), [])) := Lib.hid (plainElem_int Try.underlying3 (by simp [Lit.wf, IntKind.min, IntKind.max, IntKind.signed, IntKind.bits]; omega))
      obtain ⟨hw1, hw2⟩ := nextR hlt HMX.out
      obtain ⟨hw3, hw4⟩ := nextR (j := c) (n := 10001) (by omega) (by unfold maxLen; omega)
      clear hk hc hjL hj1 hms hmem hxw hll hh hv hszD hcc hbx hcl
      go_upto_region 5 with fail
      rw [← hBX]
      clear hBX q0 q1 q2
      go_wp2_with (first
        | (at_lookup; refine wpList_lookup_own_int _ rfl _ _ 65 rfl 3 3 .i64 intKP Try.underlying65 Try.underlying3 HZI.out w.heap.size (Maps.size D) D rfl ho _ _ rfl HKY.out ?_; intro z hz _; obtain rfl := HLK.out z hz; clear hz)
        | (at_mapUpdate; refine wpList_mapUpdate_in _ rfl _ _ _ 65 rfl 3 3 intKP Try.underlying65 (plainElem Try.prog 3) w.heap.size (Maps.size D) D rfl ho HSZ.out _ _ _ rfl rfl HKY.out _ _ HPE.out ?_; intro w1 ho1 ht1))
      go_roundw
      case rel =>
        have ha : Ap (fun k => k = w.heap.size) wr w1 := (Ap.of_below HBX.out).turned (.inl rfl) ht1
        exact ⟨j + 1, HJ.out.1, by go_num, by rw [HNX.out]; exact HPUT.out w1 _ ho1, HB.out.trans (ha.below HB.out.size (fun k hk => by omega))⟩
      case measure => have h := HJ.out.2; clear hw1 hw2 hw3 hw4; simp only [idxOf]; omega
    · obtain rfl : j = N := by omega
      have hno : ¬ ((j : Int) < (j : Int)) := by omega
      have e : L.take j = L := by rw [HN.out, List.take_length]
      rw [e] at HP
      clear e
      go_wp2
      go_ret
      exact ⟨rfl, HP.out, HB.out⟩
end Go.Proofs.Ythhbaccbhfngbaa
namespace Go.Proofs.Ythhbaccbhfngbaa
open Go.RowKit Go.Joins Go.WideShapes Go.ChangeShapes

structure RefW (w : World) (v : Value) (L : List RF) : Prop where
  s : RefS w v L
  wf : RfWf L
structure IdxW (w : World) (v : Value) (L : List Int) : Prop where
  s : IdxS w v L
  b : ∀ x ∈ L, -9223372036854775808 ≤ x ∧ x ≤ 9223372036854775807
theorem RefW.len {w : World} {A : Option Addr} {n c : Nat} {R : List RF} (h : RefW w (.slice A n c) R) : R.length = n := by obtain ⟨_, _, e, _⟩ := h.s; injection e with _ e _; exact e.symm
theorem IdxW.len {w : World} {A : Option Addr} {n c : Nat} {R : List Int} (h : IdxW w (.slice A n c) R) : R.length = n := by obtain ⟨_, _, e, _⟩ := h.s; injection e with _ e _; exact e.symm
theorem sk_F : Try.prog.cellsOf 52 = 3 := by kernel_rfl
theorem sk_P : Try.prog.cellsOf 36 = 2 := by kernel_rfl
theorem sk_J : Try.prog.cellsOf 3 = 1 := by kernel_rfl
section
variable {H : Type} {enc : TypeId × Value → H} {w : World} {base : Nat} {held : Bool} {fuel t : Nat} {A : Option Addr} {len cap : Nat} {x : DataW H × List MemPlace}
set_option maxRecDepth 100000 in
theorem refW_in (ht : Try.prog.underlying t = some (.slice 52)) (h : DataW.trod enc Try.prog w base (fun _ => true) held fuel t (Value.slice A len cap).cells.toList = some x) : ∃ R, RefW w (.slice A len cap) R := by
  obtain ⟨R, h1, h2⟩ := stS_in (k := 3) (enc := RF.enc) (z := RF.zero) (G := fun r => -9223372036854775808 ≤ r.s ∧ r.s ≤ 9223372036854775807) (by decide) ht sk_F (fun n cs y hl hf => by
    match cs, hl with
    | [c0, c1, c2], _ =>
      obtain ⟨_, _, m, h0, h1⟩ := td_struct2 Try.underlying52 hf
      simp only [sk_P, sk_J, List.drop_zero, List.drop_succ_cons, List.take_succ_cons, List.take_zero] at h0 h1
      obtain ⟨_, _, m2, h2, h3⟩ := td_struct2 Try.underlying36 h0
      simp only [sk_J, List.drop_zero, List.drop_succ_cons, List.take_succ_cons, List.take_zero] at h2 h3
      obtain ⟨x0, e0, _, w0⟩ := DataW.trod_int Try.underlying3 h2
      obtain ⟨x1, e1, _, _⟩ := DataW.trod_int Try.underlying3 h3
      obtain ⟨x2, e2, _, _⟩ := DataW.trod_int Try.underlying3 h1
      simp only [List.cons.injEq, and_true] at e0 e1 e2
      exact ⟨⟨x0, x1, x2⟩, by rw [e0, e1, e2]; rfl, by have := td_i64 w0; dsimp only; omega⟩) h
  exact ⟨R, ⟨h1, h2⟩⟩
set_option maxRecDepth 100000 in
theorem idxW_in (ht : Try.prog.underlying t = some (.slice 3)) (h : DataW.trod enc Try.prog w base (fun _ => true) held fuel t (Value.slice A len cap).cells.toList = some x) : ∃ R, IdxW w (.slice A len cap) R := by
  obtain ⟨R, h1, h2⟩ := stS_in (k := 1) (enc := fun n : Int => [.int .i64 n]) (z := (0 : Int)) (G := fun n => -9223372036854775808 ≤ n ∧ n ≤ 9223372036854775807) (by decide) ht sk_J (fun n cs y _ hf => by
    obtain ⟨s, e, _, hw⟩ := DataW.trod_int Try.underlying3 hf
    exact ⟨s, e, by have := td_i64 hw; omega⟩) h
  obtain ⟨B, c, hv, q1, q2, q3⟩ := h1
  refine ⟨R, ⟨B, c, hv, q1, q2, ?_⟩, h2⟩
  rcases q3 with q3 | ⟨b, off, hA, hlt, hc⟩
  · exact .inl q3
  · exact .inr ⟨b, off, hA, hlt, fun j hj => by have := hc j hj 0 _ rfl; rwa [Nat.mul_one, Nat.add_zero] at this⟩
end
end Go.Proofs.Ythhbaccbhfngbaa
