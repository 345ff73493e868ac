/- References: a row of them, sorted. References: places as keys of a map. -/
import Derived.Test.YthhbaccbhfngbaaRefP
import Derived.Test.YthhbaccbhfngbaaRefJ
import Derived.Test.YthhbaccbhfngbaaMc02
import Derived.Test.YthhbaccbhfngbaaMb17
import Derived.DeepKeys4
import Derived.WideKeyEntry
namespace Go.Proofs.Ythhbaccbhfngbaa
open Go.RowKit Go.Sort Go.Shelf

instance : Inhabited RF := ⟨RF.zero⟩
theorem holdsR {w : World} {base g n cap : Nat} {L : List RF} (h : w.ownsRow base 52 3 (.slice (some ⟨g, 0, none⟩) n cap) L.length (L.flatMap RF.enc)) : HoldsK RF.enc 3 w g 0 L.toArray ∧ g < w.heap.size ∧ base ≤ g ∧ n = L.length ∧ L.length ≤ cap ∧ cap ≤ maxLen := by
  have hfr := own_frozen (n := n) (cap := cap) (g := g) (by
    rcases h.2 with ⟨h0, _⟩ | ⟨g', cap', cur, hv, _⟩
    · cases h0
    · injection hv with _ e _
      rw [e]; rw [e] at h; exact h)
  rcases h.2 with ⟨h0, _⟩ | ⟨g', cap', cur, hv, hb, hh, h1, h2, h3, h4⟩
  · cases h0
  · injection hv with e1 e2 e3
    injection e1 with e1
    injection e1 with e1 _ _
    subst e1 e2 e3
    refine ⟨fun t ht => ?_, (Array.getElem?_eq_some_iff.1 hh).1, hb, rfl, h1, h2⟩
    rw [size_flatK] at ht
    have ht2 : t < L.length * 3 := by simpa using ht
    rw [get_flatK _ _ _ _ (by simpa using ht2), Nat.zero_add]
    refine ⟨?_, hfr t⟩
    rw [cell_of_row w g t cur _ (0, 0) hh]
    have hj : t / 3 < L.length := by omega
    have hq : t % 3 < 3 := by omega
    have h5 := flat_at (z := RF.zero) RF.enc_len L (t / 3) hj (t % 3) hq
    have et : t / 3 * 3 + t % 3 = t := by omega
    rw [et, ← h4, List.getElem?_take, if_pos ht2, Array.getElem?_toList] at h5
    have e6 : (L.toArray)[t / 3]! = L.getD (t / 3) RF.zero := by
      rw [getElem!_pos _ _ (by simpa using hj), List.getD, List.getElem?_eq_getElem hj]; simp
    have h7 : (t % 3) < (L.getD (t / 3) RF.zero).enc.length := by rw [RF.enc_len]; exact hq
    rw [e6, h5, List.getElem?_eq_getElem h7, getElem!_pos (L.getD (t / 3) RF.zero).enc (t % 3) h7]; rfl
theorem cmpLaysR (g size : Nat) (w : World) : CmpLays Try.prog 25 #[] RF.enc 3 cmpR g 0 size w := by
  intro m os dk _ x y
  show Calls Try.prog 25 #[.agg x.enc.toArray, .agg y.enc.toArray] _ _
  exact (refOrder_any x y _).mono fun e w' ⟨he, hb, hd⟩ => ⟨he, grow_of hb hd⟩
theorem sortRefs_any {w : World} {base g n cap : Nat} {L : List RF} (h : w.ownsRow base 52 3 (.slice (some ⟨g, 0, none⟩) n cap) L.length (L.flatMap RF.enc)) (hl : L.length ≤ 100000) (hbase : base ≤ w.heap.size) :
    Calls Try.prog 24 #[.slice (some ⟨g, 0, none⟩) n cap, .func (.func 25) #[] #[]] w fun e w' =>
      e = .returned (.tuple #[]) ∧ ∃ L' : List RF, L'.Perm L ∧ L'.Pairwise (fun a b => ¬ Ahd b a) ∧ RefS w' (.slice (some ⟨g, 0, none⟩) n cap) L' ∧ Below base w w' := by
  obtain ⟨hH, hg, hbg, rfl, hc1, hc2⟩ := holdsR h
  have eg : ∀ args w, (callFunc 25 args).run Try.prog w = .ok (.enter 25 args) w := enters_of Try.func25 (by kernel_rfl) rfl
  have hsz : L.toArray.size = L.length := by simp
  have hcon := AnyQ.slices_SortFunc Try.sortR 3 Try.isAgg52 Try.sizeOf52 RF.enc RF.enc_len RF.enc_one cmpR cmpR_swo 25 #[] g 0 cap L.toArray w eg (cmpLaysR g L.toArray.size w) hH hg (by rw [hsz]; omega)
  change Calls Try.prog 24 _ _ _ at hcon
  rw [hsz] at hcon
  refine hcon.mono ?_
  rintro e w' ⟨rfl, d, q, os, ⟨hp1, _, hp2⟩, hs, rfl⟩
  have hds : d.size = L.length := by rw [hp1, hsz]
  have hdl : d.toList.length = L.length := by rw [Array.length_toList (xs := d), hds]
  have e1 : d.extract 0 L.length = d := by rw [← hds]; simp
  have e2 : L.toArray.extract 0 L.length = L.toArray := by rw [← hsz]; simp
  rw [e1, e2] at hp2
  have hH2 := holdsK_sortWorldK_c RF.enc 3 w g 0 L.toArray d q os hH hg (by rw [hds, hsz])
  refine ⟨rfl, d.toList, by simpa using hp2, ?_, ⟨_, cap, by rw [hdl], by rw [hdl]; exact hc1, hc2, .inr ⟨g, 0, rfl, Nat.lt_of_lt_of_le hg (size_sortWorldK_c RF.enc 3 w g 0 q d os), fun j hj c u hu => ?_⟩⟩, ?_⟩
  · rw [List.pairwise_iff_getElem]
    intro i j hi hj hij hA
    rw [Array.length_toList] at hi hj
    have := hs i j (Nat.zero_le _) hij (by rw [← hds]; exact hj)
    rw [cmpR_lt, getElem!_pos d i hi, getElem!_pos d j hj] at this
    unfold Ahd at hA
    simp only [Array.getElem_toList] at hA
    rw [this] at hA; cases hA
  · rw [Array.length_toList] at hj
    have hc3 : c < 3 := by have := (List.getElem?_eq_some_iff.1 hu).1; rwa [RF.enc_len] at this
    have h5 := (HoldsK.cell hH2 hj hc3).1
    have e6 : d[j]! = d.toList.getD j RF.zero := by
      rw [getElem!_pos d j hj, List.getD, List.getElem?_eq_getElem (by rw [Array.length_toList]; exact hj)]; simp
    rw [h5, e6, ← hu]
    have h7 : c < (d.toList.getD j RF.zero).enc.length := by rw [RF.enc_len]; exact hc3
    rw [List.getElem?_eq_getElem h7, getElem!_pos (d.toList.getD j RF.zero).enc c h7]
  · have hgr : w.grownBy (sortWorldK RF.enc 3 w g 0 q d os) (some g) := grownBy_sorted_g (enc := id) (flatK RF.enc 3 d)
    exact (RowKit.Below.refl base w).grown hgr hbase (fun k hk => by injection hk with hk; rw [← hk]; exact hbg)
/-- References of these places, in whatever order: sorted, they are the document's. -/
theorem sorted_refs {O L' : List RF} {L : List EN} (hl : L.length ≤ 100000) (hp : L'.Perm O) (hs : L'.Pairwise (fun a b => ¬ Ahd b a)) (hn : O.Pairwise (fun a b => ¬ (a.s = b.s ∧ a.m = b.m))) (hm : ∀ r : RF, r ∈ O ↔ (r.s, r.m) ∈ plcOf L ∧ r.n = ((plcOf L).count (r.s, r.m) : Nat)) : L' = cntU L := by
  refine RefsOf.eq (P := plcOf L) ⟨?_, fun r => by rw [hp.mem_iff, hm]⟩ (cntU_refs hl)
  have hn' := hp.symm.pairwise hn (fun h h' => h ⟨h'.1.symm, h'.2.symm⟩)
  refine (hs.and hn').imp (fun {a b} ⟨h1, h2⟩ => ?_)
  unfold Ahd at *
  rw [aheadB_iff] at *
  omega
end Go.Proofs.Ythhbaccbhfngbaa
namespace Go.Proofs.Ythhbaccbhfngbaa
open Go.RowKit Go.Maps

theorem laidR : laidOutB Try.prog = true := by kernel_rfl
theorem wideP : (match Try.prog.underlying 36 with | some (.array _ _) | some (.struct _) => true | _ => false) = true := by kernel_rfl
theorem rowP : (36 : TypeId) < Try.prog.types.size := of_decide_eq_true (by kernel_rfl)
theorem keyTP : Try.prog.keyTypeAt 2 36 = true := by kernel_rfl
set_option maxRecDepth 100000 in
theorem plcLaw : WideMaps.KeyLaw Try.prog 36 := deep_law_laid laidR (m := 2) (by omega) rowP keyTP (by kernel_rfl)
theorem plcK : Keyed Try.prog 36 := Keyed.of_law plcLaw
def plV (p : Int × Int) : Value := .agg #[.int .i64 p.1, .int .i64 p.2]
def PWf (p : Int × Int) : Prop := (Lit.int .i64 p.1).wf = true ∧ (Lit.int .i64 p.2).wf = true
def pK (p : Int × Int) : Lit := .string (keyBytes [.int .i64 p.1, .int .i64 p.2])
theorem len2 {cs : List Value} (h : cs.length = 2) : ∃ c0 c1, cs = [c0, c1] := by
  match cs, h with
  | [c0, c1], _ => exact ⟨c0, c1, rfl⟩
theorem keyLits_int (d : Nat) (cs : List Value) (L : List Lit) : Try.prog.keyLits (d + 1) 3 cs = some L ↔ ∃ n, cs = [.int .i64 n] ∧ (Lit.int .i64 n).wf = true ∧ L = [.int .i64 n] := by
  have hu : Try.prog.underlying 3 = some (.int .i64) := Try.underlying3
  unfold Program.keyLits
  simp only [hu]
  constructor
  · intro h
    split at h <;> simp_all
  · rintro ⟨n, rfl, hw, rfl⟩
    simp [hw]
theorem keyLits_plc (cs : List Value) (L : List Lit) : Try.prog.keyLits (Try.prog.types.size + 1) 36 cs = some L ↔ ∃ p : Int × Int, cs = [.int .i64 p.1, .int .i64 p.2] ∧ PWf p ∧ L = [.int .i64 p.1, .int .i64 p.2] := by
  obtain ⟨d, hd⟩ : ∃ d, Try.prog.types.size = d + 1 := ⟨Try.prog.types.size - 1, by
    have h : (36 : Nat) < Try.prog.types.size := rowP
    omega⟩
  rw [hd]
  have hu := Try.underlying36
  have hc : Try.prog.cellsOf 36 = 2 := sk_P
  have hi : Try.prog.cellsOf 3 = 1 := sk_J
  unfold Program.keyLits
  rw [hu]
  simp only [hc]
  simp only [List.mapM_cons, List.mapM_nil, hi, bind, pure]
  constructor
  · intro h
    split at h
    · rename_i hl
      obtain ⟨c0, c1, rfl⟩ := len2 hl.1
      · simp only [List.drop_zero, List.drop_succ_cons, List.take_succ_cons, List.take_zero, Option.map_eq_some_iff, Option.bind_eq_some_iff] at h
        obtain ⟨_, ⟨l0, h0, _, ⟨l1, h1, _, h2, h3⟩, h4⟩, h5⟩ := h
        obtain ⟨a, e0, wa, rfl⟩ := (keyLits_int _ _ _).1 h0
        obtain ⟨b, e1, wb, rfl⟩ := (keyLits_int _ _ _).1 h1
        simp only [List.cons.injEq, and_true] at e0 e1
        subst e0; subst e1
        simp only [Option.some.injEq] at h2 h3 h4
        subst h2; subst h3; subst h4
        exact ⟨(a, b), rfl, ⟨wa, wb⟩, h5.symm⟩
    · cases h
  · rintro ⟨⟨a, b⟩, rfl, ⟨wa, wb⟩, rfl⟩
    have k0 := (keyLits_int d [.int .i64 a] _).2 ⟨a, rfl, wa, rfl⟩
    have k1 := (keyLits_int d [.int .i64 b] _).2 ⟨b, rfl, wb, rfl⟩
    simp [k0, k1]
theorem keyOf_plc {p : Int × Int} (h : PWf p) : keyOf Try.prog 36 (plV p) = some (pK p) := by
  have hl := (keyLits_plc [.int .i64 p.1, .int .i64 p.2] _).2 ⟨p, rfl, h, rfl⟩
  have hk : Try.prog.keyType 36 = true := by kernel_rfl
  have hu := Try.underlying36
  have hc : Try.prog.cellsOf 36 = 2 := sk_P
  have hf : (plV p).formed Try.prog 36 = true := by simp [plV, Value.formed, hu, hc]
  unfold keyOf
  rw [hu]
  simp only [hk, hf, Bool.and_true, if_true]
  unfold plV
  simp only [Value.cells]
  rw [hl]
  rfl
set_option maxRecDepth 100000 in
theorem keyOf_plc_inv {v : Value} {kl : Lit} (h : keyOf Try.prog 36 v = some kl) : ∃ p, PWf p ∧ v = plV p ∧ kl = pK p := by
  obtain ⟨xs, L, rfl, h1, rfl⟩ := keyOf_top (by kernel_rfl) h
  obtain ⟨p, e, hw, rfl⟩ := (keyLits_plc _ _).1 h1
  refine ⟨p, hw, ?_, rfl⟩
  unfold plV
  congr 1
  exact Array.ext' (by rw [e])
theorem pK_inj {p q : Int × Int} (hp : PWf p) (hq : PWf q) (h : pK p = pK q) : p = q := by
  have h1 := plcK.inj (keyOf_plc hp) (by rw [h]; exact keyOf_plc hq)
  unfold plV at h1
  simp only [Value.agg.injEq] at h1
  have h2 := congrArg Array.toList h1
  simp only [List.cons.injEq, Value.int.injEq, true_and, and_true] at h2
  exact Prod.ext h2.1 h2.2
theorem pK_key {p : Int × Int} (hp : PWf p) : WideAt.IsKeyLit (pK p) := plcK.key (keyOf_plc hp)
/-- A map that has how often each place is in a list. -/
def PlMap (w : World) (b : Nat) (P : List (Int × Int)) : Prop :=
  ∃ D : DataW Unit, w.ownsMap Try.prog 36 (plainElem Try.prog 3) b (Maps.size D) D ∧ (∀ p, PWf p → (has D (pK p) = true ↔ p ∈ P)) ∧ (∀ p ∈ P, PWf p ∧ ∀ z, D.atKey (pK p) z = .lit (.int .i64 (P.count p : Nat)))
theorem PlMap.lt {w : World} {b : Nat} {P : List (Int × Int)} (h : PlMap w b P) : b < w.heap.size := by obtain ⟨D, ho, _⟩ := h; exact ho.lt
theorem PlMap.same {w w' : World} {b : Nat} {P : List (Int × Int)} (h : PlMap w b P) (hs : w'.heap[b]? = w.heap[b]?) : PlMap w' b P := by
  obtain ⟨D, ho, r⟩ := h
  obtain ⟨es, clock, e1, r1⟩ := ho
  exact ⟨D, ⟨es, clock, hs.trans e1, r1⟩, r⟩
theorem PlMap.nil (w : World) : PlMap (w.alloc (.map #[] 0)) w.heap.size [] := ⟨.map [], owns_tightP (World.ownsMap_made w _ _ _), fun p _ => by simp [Maps.has], fun x hx => by cases hx⟩
theorem nodup_lenG {α : Type} [DecidableEq α] : ∀ {O l : List α}, O.Pairwise (fun x y => x ≠ y) → (∀ x ∈ O, x ∈ l) → O.length ≤ l.length
  | [], _, _, _ => Nat.zero_le _
  | x :: r, l, hn, hm => by
    obtain ⟨h1, h2⟩ := List.pairwise_cons.1 hn
    have hx := hm x (List.mem_cons_self ..)
    have h3 := nodup_lenG (O := r) (l := l.erase x) h2 (fun y hy => (List.mem_erase_of_ne (fun e => h1 y hy e.symm)).2 (hm y (List.mem_cons_of_mem _ hy)))
    rw [List.length_erase_of_mem hx] at h3
    have : 0 < l.length := List.length_pos_of_mem hx
    rw [List.length_cons]; omega
theorem keys_places : ∀ (es : List (Lit × DataW Unit)), (∀ q ∈ es, ∃ v, keyOf Try.prog 36 v = some q.1) → ∃ ps : List (Int × Int), ps.map pK = es.map (·.1) ∧ ∀ p ∈ ps, PWf p
  | [], _ => ⟨[], rfl, fun p hp => by cases hp⟩
  | q :: es, h => by
    obtain ⟨ps, h1, h2⟩ := keys_places es (fun q' hq => h q' (List.mem_cons_of_mem _ hq))
    obtain ⟨v, hv⟩ := h q (List.mem_cons_self ..)
    obtain ⟨p, hw, _, hk⟩ := keyOf_plc_inv hv
    refine ⟨p :: ps, by rw [List.map_cons, List.map_cons, h1, hk], fun p' hp' => ?_⟩
    rcases List.mem_cons.1 hp' with rfl | hp'
    · exact hw
    · exact h2 _ hp'
theorem PlMap.size {w : World} {b m : Nat} {P : List (Int × Int)} {D : DataW Unit} (ho : w.ownsMap Try.prog 36 (plainElem Try.prog 3) b m D) (hh : ∀ p, PWf p → (has D (pK p) = true ↔ p ∈ P)) : Maps.size D ≤ P.length := by
  obtain ⟨es, hD, hpw, hik⟩ := ho.entries plcK
  obtain ⟨es', hD', hko⟩ := ho.keysOf
  obtain rfl : es = es' := by rw [hD] at hD'; simpa using hD'
  subst hD
  obtain ⟨ps, h1, h2⟩ := keys_places es hko
  have hl : ps.length = es.length := by have := congrArg List.length h1; simpa using this
  rw [size_eq, ← hl]
  refine nodup_lenG ?_ (fun p hp => ?_)
  · have h3 : (ps.map pK).Pairwise (fun x y => x ≠ y) := by rw [h1, List.pairwise_map]; exact hpw
    rw [List.pairwise_map] at h3
    exact h3.imp (fun h e => h (by rw [e]))
  · refine (hh p (h2 p hp)).1 ?_
    have hm : pK p ∈ es.map (·.1) := by rw [← h1]; exact List.mem_map.2 ⟨p, hp, rfl⟩
    obtain ⟨q, hq, e⟩ := List.mem_map.1 hm
    rw [has_eq]
    exact List.any_eq_true.2 ⟨q, hq, by rw [e]; exact WideAt.sameKey_self (pK_key (h2 p hp))⟩
theorem PlMap.count {P : List (Int × Int)} {D : DataW Unit} {p : Int × Int} {c : Int} (hp : PWf p) (hh : ∀ p, PWf p → (has D (pK p) = true ↔ p ∈ P)) (hv : ∀ p ∈ P, PWf p ∧ ∀ z, D.atKey (pK p) z = .lit (.int .i64 (P.count p : Nat))) (hc : D.atKey (pK p) (.lit (.int .i64 0)) = .lit (.int .i64 c)) : c = (P.count p : Nat) := by
  by_cases hk : p ∈ P
  · rw [(hv p hk).2] at hc
    injection hc with hc
    injection hc with _ hc
    exact hc.symm
  · have hn : has D (pK p) = false := by
      cases h : has D (pK p)
      · rfl
      · exact absurd ((hh p hp).1 h) hk
    rw [atKey_of_not_has hn] at hc
    injection hc with hc
    injection hc with _ hc
    rw [List.count_eq_zero_of_not_mem hk, ← hc]; rfl
theorem setBlock_twice (w : World) (b : Nat) (o o' : Obj) : ChangeMaps.setBlock (ChangeMaps.setBlock w b o) b o' = ChangeMaps.setBlock w b o' := by
  unfold ChangeMaps.setBlock
  simp
theorem setBlock_self {w : World} {b : Nat} {o : Obj} (h : w.heap[b]? = some o) : ChangeMaps.setBlock w b o = w := by
  unfold ChangeMaps.setBlock
  obtain ⟨hlt, e⟩ := Array.getElem?_eq_some_iff.1 h
  have : w.heap.setIfInBounds b o = w.heap := by
    apply Array.ext_getElem?
    intro i
    rw [Array.getElem?_setIfInBounds]
    split
    · rename_i hi; subst hi; rw [h]
    · rfl
  rw [this]
theorem zeroIP (w : World) : (zeroValue 3).run Try.prog w = .ok (.int .i64 0) w := Try.zeroValue3 w
theorem wf_small {c : Int} (h : 0 ≤ c ∧ c ≤ 1000000) : (Lit.int .i64 c).wf = true := by simp [Lit.wf, IntKind.min, IntKind.max, IntKind.signed, IntKind.bits]; omega
/-- What the entry of a place is told, and made: in whatever order it is asked. -/
theorem PlMap.entry {w : World} {b : Nat} {P : List (Int × Int)} {p : Int × Int} (h : PlMap w b P) (hp : PWf p) (hl : P.length ≤ 100000) :
    ∃ v0 st W1 W2, (Instr.lookup 56 (.map (some b)) (plV p) false).run Try.prog w = .ok (.int .i64 (P.count p : Nat)) w ∧
      (Instr.mapEntry 56 (.map (some b)) (plV p)).run Try.prog w = .ok (.tuple #[v0, goInt (st : Nat)]) W1 ∧
      (Instr.lookup 56 (.map (some b)) (plV p) false).run Try.prog W1 = .ok (.int .i64 (P.count p : Nat)) W1 ∧
      (Instr.entryStore 56 (.map (some b)) (goInt (st : Nat)) (.int .i64 ((P.count p : Nat) + 1))).run Try.prog W1 = .ok () W2 ∧
      PlMap W2 b (P ++ [p]) ∧ w.grownBy W1 (some b) ∧ w.grownBy W2 (some b) ∧ W1.heap.size = w.heap.size ∧ W2.heap.size = w.heap.size := by
  obtain ⟨D, ho, hh, hv⟩ := h
  have ht := Try.underlying56
  have he := Try.underlying3
  have hkey := keyOf_plc hp
  have hcl : P.count p ≤ 100000 := Nat.le_trans List.count_le_length hl
  have hszD : Maps.size D < maxLen := by have := PlMap.size ho hh; unfold maxLen; omega
  obtain ⟨c, hlk, hat, _⟩ := ho.lookup_int plcK ht he (zeroIP w) hkey
  obtain rfl := PlMap.count hp hh hv hat
  obtain ⟨w2, hupd, hown2, hg2⟩ := ho.update plcK ht hszD hkey (plainElem_int he (wf_small (c := ((P.count p : Nat) : Int) + 1) (by omega)))
  obtain ⟨wz, hupz, hownz, hgz⟩ := ho.update plcK ht hszD hkey (plainElem_int he (wf_small (c := 0) (by omega)))
  obtain ⟨es, clock, hb, F, hsz, hDe⟩ := ho
  have hDm : IsMap D := ⟨_, hDe⟩
  obtain ⟨v0, st, es1, clock1, hme, _, hst⟩ := WideElems.entry_then_store plcLaw ht (fun u => zeroIP u) hb F hkey
  obtain ⟨es2, clock2, hrun2, hupd2⟩ := hst (ChangeMaps.setBlock w b (.map es1 clock1)) (.int .i64 ((P.count p : Nat) + 1)) (ChangeMaps.heap_setBlock_same hb _)
  rw [setBlock_twice] at hrun2
  have e2 : w2 = ChangeMaps.setBlock w b (.map es2 clock2) := by
    rw [hupd] at hupd2; injection hupd2
  have hpm : PlMap w2 b (P ++ [p]) := by
    refine ⟨_, owns_tightP hown2, fun q hq => ?_, fun q hq => ?_⟩
    · rw [List.mem_append, List.mem_singleton]
      by_cases e : q = p
      · subst e; simp [has_put_same hDm (pK_key hp)]
      · rw [has_put_other (fun e' => e (pK_inj hq hp e')), hh q hq]; simp [e]
    · rw [List.mem_append, List.mem_singleton] at hq
      by_cases e : q = p
      · subst e
        refine ⟨hp, fun z => ?_⟩
        rw [atKey_put_same hDm (pK_key hp), count_snoc_eq]; rfl
      · have hm := hq.resolve_right e
        have hwq := (hv q hm).1
        refine ⟨hwq, fun z => ?_⟩
        rw [atKey_put_other (fun e' => e (pK_inj hwq hp e')), (hv q hm).2, count_snoc_ne e]
  refine ⟨v0, st, _, w2, hlk, hme, ?_, by rw [hrun2, e2], hpm, ⟨rfl, rfl, rfl, by simp [ChangeMaps.setBlock], fun i _ hi => ChangeMaps.heap_setBlock_other hb _ (fun e => hi (by rw [e]))⟩, hg2, by simp [ChangeMaps.setBlock], by rw [e2]; simp [ChangeMaps.setBlock]⟩
  -- behind the entry is made
  rcases plcLaw.find w hkey es.toList F.keys with ⟨k1, k2⟩ | ⟨j, e0, k1, k2, k3⟩
  · have hme2 : (Instr.mapEntry 56 (.map (some b)) (plV p)).run Try.prog w = .ok (.tuple #[.int .i64 0, goInt (clock : Nat)]) (ChangeMaps.setBlock w b (.map (es.push ⟨plV p, .int .i64 0, clock⟩) (clock + 1))) := by
      simp [Instr.mapEntry, run_underlying ht, MapKept.run_getObj_map hb, plcLaw.check w false hkey, k1, MapKept.run_setObj_map _ hb, Result.andThen, ChangeMaps.setBlock]
    have hup3 : (Instr.mapUpdate 56 (.map (some b)) (plV p) (.int .i64 0)).run Try.prog w = .ok () (ChangeMaps.setBlock w b (.map (es.push ⟨plV p, .int .i64 0, clock⟩) (clock + 1))) := by
      simp [Instr.mapUpdate, run_underlying ht, MapKept.run_getObj_map hb, plcLaw.check w false hkey, k1, MapKept.run_setObj_map _ hb, Result.andThen, ChangeMaps.setBlock]
    rw [hme2] at hme
    obtain ⟨_, hw1⟩ := Result.ok.inj hme
    rw [hup3] at hupz
    obtain ⟨_, hwz⟩ := Result.ok.inj hupz
    rw [← hw1, hwz]
    obtain ⟨c', hlk', hat', _⟩ := hownz.lookup_int plcK ht he (zeroIP wz) hkey
    rw [atKey_put_same hDm (pK_key hp)] at hat'
    simp only [DataW.lit.injEq, Lit.int.injEq, true_and] at hat'
    have hnot : has D (pK p) = false := by
      rw [hDe, has_eq, Bool.eq_false_iff]
      intro h
      obtain ⟨q, hq, hk⟩ := List.any_eq_true.1 h
      obtain ⟨x, hx, rfl⟩ := List.mem_map.1 (mem_sorted.1 hq)
      obtain ⟨y, hy⟩ := F.reads x hx
      have hkx := WideElems.rd_key hy
      rw [WideElems.rg_of hy] at hk
      have := WideAt.sameKey_eq hk
      rw [this] at hkx
      exact k2 x hx (plcK.inj hkx hkey)
    have h0 : P.count p = 0 := List.count_eq_zero_of_not_mem (fun hm => by rw [(hh p hp).2 hm] at hnot; cases hnot)
    rw [h0, hlk', ← hat']; rfl
  · have hj : es[j]? = some e0 := by simpa using k2
    have hsame : es.modify j (fun e => { e with key := plV p }) = es := by
      apply Array.ext'
      rw [Array.toList_modify, ChangeMaps.modify_eq_set _ _ _ _ k2]
      have : ({ e0 with key := plV p } : MapEntry) = e0 := by rw [← k3]
      rw [this]
      exact WideElems.set_self _ _ _ k2
    have hme2 : (Instr.mapEntry 56 (.map (some b)) (plV p)).run Try.prog w = .ok (.tuple #[e0.val, goInt (e0.born : Nat)]) (ChangeMaps.setBlock w b (.map es clock)) := by
      simp [Instr.mapEntry, run_underlying ht, MapKept.run_getObj_map hb, plcLaw.check w false hkey, k1, hj, k3, plcLaw.stays w hkey, hsame, MapKept.run_setObj_map _ hb, Result.andThen, ChangeMaps.setBlock]
    rw [hme2] at hme
    obtain ⟨_, hw1⟩ := Result.ok.inj hme
    rw [← hw1, setBlock_self hb]
    exact hlk
end Go.Proofs.Ythhbaccbhfngbaa
