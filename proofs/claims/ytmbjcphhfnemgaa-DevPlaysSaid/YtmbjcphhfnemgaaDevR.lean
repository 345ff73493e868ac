/- The walk of DevSure. -/
import Derived.Test.YtmbjcphhfnemgaaDevQ
import Derived.Test.YtmbjcphhfnemgaaActs
import Derived.Deep.Cut
namespace Go.Proofs.Ytmbjcphhfnemgaa
open Go.RowKit Go.Maps

/-- What was written of each sector, as sectors. -/
def optL (f : Nat → Option UInt8) (i : Nat) : Option (List UInt8) := (f i).map fillL
def valL (f : Nat → Option UInt8) : List UInt8 := (List.range 8).map (fun i => (f i).getD 0)
theorem devNew_ex (n : Nat) (h1 : 1 ≤ n) (h2 : n ≤ 32768) (w : World) :
    Calls Try.prog 9 #[.int .i64 (n : Int)] w fun e w' => ∃ h : DH, e = .returned (.tuple #[.pointer (some ⟨h.b, 0, none⟩), .int .i64 0]) ∧ DevAt w' h (newM n) ∧ h.above w.heap.size ∧ Below w.heap.size w w' :=
  (devNew_ok n h1 h2 w).mono fun _ _ ⟨he, hd, hb⟩ => ⟨_, he, hd, ⟨by simp [newH]; omega, by simp [newH], by simp [newH], by simp [newH]; omega⟩, hb⟩
theorem optL_upd (f : Nat → Option UInt8) (i : Nat) (c : UInt8) : upd (optL f) i (some (fillL c)) = optL (upd f i (some c)) := by
  funext k
  unfold upd optL
  show (if k = i then some (fillL c) else Option.map fillL (f k)) = Option.map fillL (if k = i then some c else f k)
  by_cases e : k = i
  · rw [if_pos e, if_pos e]; rfl
  · rw [if_neg e, if_neg e]
theorem valL_len (f : Nat → Option UInt8) : (valL f).length = 8 := by simp [valL]
theorem valL_at (f : Nat → Option UInt8) (i : Nat) (hi : i < 8) : (valL f).getD i 0 = (f i).getD 0 := by simp [valL, List.getD, hi]
theorem valL_set (f : Nat → Option UInt8) (i : Nat) (c : UInt8) : (valL f).set i c = valL (upd f i (some c)) := by
  refine List.ext_getElem (by simp [valL]) (fun j h1 h2 => ?_)
  by_cases e : j = i
  · subst e; simp [valL, upd]
  · rw [List.getElem_set_ne (Ne.symm e)]; simp [valL, upd, e]
/-- Eight bytes of a new block. -/
theorem row_eight (w : World) (t : Nat) : Row8 (w.alloc (.cells #[.int .u8 0, .int .u8 0, .int .u8 0, .int .u8 0, .int .u8 0, .int .u8 0, .int .u8 0, .int .u8 0] t)) w.heap.size 0 (valL (fun _ => none)) := by
  refine ⟨by simp, fun j hj => ?_⟩
  rw [valL_len] at hj
  constructor
  · rw [Nat.zero_add, cell_of_row _ _ _ _ t (0, 0) (heap_alloc_new w _), valL_at _ _ hj]
    match j, hj with
    | 0, _ => rfl
    | 1, _ => rfl
    | 2, _ => rfl
    | 3, _ => rfl
    | 4, _ => rfl
    | 5, _ => rfl
    | 6, _ => rfl
    | 7, _ => rfl
  · rw [Nat.zero_add]; exact frozen_of_row _ _ _ _ t (heap_alloc_new w _)
/-- What holds of the blocks of the walk. -/
structure SC (w : World) (h : DH) (p q : Nat) : Prop where
  ab : h.above w.heap.size
  np : ¬ h.S p
  nq : ¬ h.S q
  pq : p ≠ q
  wp : w.heap.size ≤ p
  wq : w.heap.size ≤ q
/-- Where the walk stands: the device, and two rows of eight bytes. -/
structure SK (w W : World) (h : DH) (p q : Nat) (f g : Nat → Option UInt8) (M : DM) : Prop where
  d : DevAt W h M
  rp : Row8 W p 0 (valL f)
  rq : Row8 W q 0 (valL g)
  be : Below w.heap.size w W
theorem SK.below {w W W' : World} {h : DH} {p q : Nat} {f g : Nat → Option UInt8} {M : DM} (k : SK w W h p q f g M) (hb : Below W.heap.size W W') : SK w W' h p q f g M :=
  ⟨k.d.below hb, k.rp.below hb k.rp.1, k.rq.below hb k.rq.1, k.be.trans (hb.mono k.be.size)⟩
theorem SK.drew {w W : World} {h : DH} {p q : Nat} {f g : Nat → Option UInt8} {M : DM} (k : SK w W h p q f g M) : SK w W.drew h p q f g M := ⟨k.d.drew, k.rp.drew, k.rq.drew, k.be.drew⟩
theorem SK.ap {w W W' : World} {h : DH} {p q : Nat} {f g : Nat → Option UInt8} {M M' : DM} (s : SC w h p q) (k : SK w W h p q f g M) (d : DevAt W' h M') (a : Ap h.S W W') : SK w W' h p q f g M' :=
  ⟨d, a.row k.rp s.np, a.row k.rq s.nq, k.be.trans (a.below k.be.size (DH.above_S s.ab))⟩
theorem SK.put1 {w W : World} {h : DH} {p q : Nat} {f g : Nat → Option UInt8} {M : DM} (s : SC w h p q) (k : SK w W h p q f g M) (i : Nat) (hi : i < 8) (c : UInt8) : SK w (W.setCell ⟨p, i, none⟩ (.int .u8 (c.toNat : Int))) h p q (upd f i (some c)) g M := by
  have a := ap_put W p i (.int .u8 (c.toNat : Int))
  have hr := k.rp.set i (by rw [valL_len]; exact hi) c
  rw [Nat.zero_add, valL_set] at hr
  exact ⟨k.d.ap a (fun x hx e => s.np (e ▸ hx)), hr, a.row k.rq (fun e => s.pq e.symm), k.be.trans (a.below k.be.size (fun x e => by rw [e]; exact s.wp))⟩
theorem SK.put2 {w W : World} {h : DH} {p q : Nat} {f g : Nat → Option UInt8} {M : DM} (s : SC w h p q) (k : SK w W h p q f g M) (i : Nat) (hi : i < 8) (c : UInt8) : SK w (W.setCell ⟨q, i, none⟩ (.int .u8 (c.toNat : Int))) h p q f (upd g i (some c)) M := by
  have a := ap_put W q i (.int .u8 (c.toNat : Int))
  have hr := k.rq.set i (by rw [valL_len]; exact hi) c
  rw [Nat.zero_add, valL_set] at hr
  exact ⟨k.d.ap a (fun x hx e => s.nq (e ▸ hx)), a.row k.rp (fun e => s.pq e), hr, k.be.trans (a.below k.be.size (fun x e => by rw [e]; exact s.wq))⟩
/-- The device as the writes have it. -/
def dM (su : Nat → List UInt8) (f : Nat → Option UInt8) (n : Nat) : DM := gM 8 su (optL f) (fun _ => false) n false (-1)
theorem dev_write_in {W : World} {h : DH} {su : Nat → List UInt8} {f : Nat → Option UInt8} {n : Nat} (d : DevAt W h (dM su f n)) (i : Nat) (hi : i < 8) (c : UInt8) (hn : n < 100) :
    Calls Try.prog 24 #[.pointer (some ⟨h.b, 0, none⟩), .int .i64 (i : Int), .string (fillS c)] W fun e w' => e = .returned (.int .i64 0) ∧ DevAt w' h (dM su (upd f i (some c)) (n + 1)) ∧ Ap h.S W w' := by
  have h1 := devWrite_any d (i : Int) (fillS c) (by show n < _; omega)
  obtain ⟨q1, q2⟩ := gM_write (n := 8) (su := su) (fr := optL f) (bd := fun _ => false) (wr := n) (a := i) (s := fillS c) hi (fillS_size c)
  unfold dM at h1 ⊢
  rw [q1, q2, fillS_list, optL_upd] at h1
  exact h1
theorem dev_write_out {W : World} {h : DH} {su : Nat → List UInt8} {f : Nat → Option UInt8} {n : Nat} (d : DevAt W h (dM su f n)) (a : Int) (ha : ¬ (0 ≤ a ∧ a < 8)) (c : UInt8) (hn : n < 100) :
    Calls Try.prog 24 #[.pointer (some ⟨h.b, 0, none⟩), .int .i64 a, .string (fillS c)] W fun e w' => e = .returned (.int .i64 1) ∧ DevAt w' h (dM su f n) ∧ Ap h.S W w' := by
  have h1 := devWrite_any d a (fillS c) (by show n < _; omega)
  have g : hasB (dM su f n).n a = false := decide_eq_false ha
  have q1 : writeE (dM su f n) a (fillS c) = 1 := by unfold writeE; rw [if_neg (by simp [dM, gM]), if_pos g]
  have q2 : writeM (dM su f n) a (fillS c) = dM su f n := by unfold writeM; rw [q1, if_neg (by omega), if_pos (.inr (.inl g))]
  rw [q1, q2] at h1
  exact h1
/-- The sectors behind a flush. -/
def suF (f : Nat → Option UInt8) (i : Nat) : List UInt8 := fillL ((f i).getD 0)
theorem dev_flush {W : World} {h : DH} {f : Nat → Option UInt8} {n : Nat} (d : DevAt W h (dM (fun _ => blankB) f n)) :
    Calls Try.prog 26 #[.pointer (some ⟨h.b, 0, none⟩)] W fun e w' => e = .returned (.int .i64 0) ∧ DevAt w' h (dM (suF f) (fun _ => none) n) ∧ Ap h.S W w' := by
  have h1 := devFlush_any d
  unfold dM at h1 ⊢
  rw [gM_flush.1, gM_flush.2] at h1
  refine h1.mono fun e w' ⟨he, hd, ha⟩ => ⟨he, ?_, ha⟩
  have e1 : (fun i => (optL f i).getD blankB) = suF f := by
    funext i
    unfold optL suF
    cases f i <;> rfl
  rw [← e1]
  exact hd
/-- Eight bools. -/
def BR (W : World) (r : Nat) (g : Nat → Option UInt8) : Prop := r < W.heap.size ∧ ∀ i, i < 8 → W.cell? ⟨r, i, none⟩ = some (.bool (g i).isSome) ∧ W.frozen? ⟨r, i, none⟩ = false
theorem BR.new (w : World) (t : Nat) : BR (w.alloc (.cells #[.bool false, .bool false, .bool false, .bool false, .bool false, .bool false, .bool false, .bool false] t)) w.heap.size (fun _ => none) := by
  refine ⟨by simp, fun j hj => ⟨?_, frozen_of_row _ _ _ _ t (heap_alloc_new w _)⟩⟩
  rw [cell_of_row _ _ _ _ t (0, 0) (heap_alloc_new w _)]
  match j, hj with
  | 0, _ => rfl
  | 1, _ => rfl
  | 2, _ => rfl
  | 3, _ => rfl
  | 4, _ => rfl
  | 5, _ => rfl
  | 6, _ => rfl
  | 7, _ => rfl
theorem BR.ap {S : Nat → Prop} {W W' : World} {r : Nat} {g : Nat → Option UInt8} (k : BR W r g) (a : Ap S W W') (hn : ¬ S r) : BR W' r g :=
  ⟨Nat.lt_of_lt_of_le k.1 a.size, fun i hi => ⟨(a.cell k.1 hn _).trans (k.2 i hi).1, (a.frozen k.1 hn _).trans (k.2 i hi).2⟩⟩
theorem BR.below {W W' : World} {r : Nat} {g : Nat → Option UInt8} (k : BR W r g) (hb : Below W.heap.size W W') : BR W' r g := k.ap (S := fun _ => False) (Ap.of_below hb) id
theorem BR.put {W : World} {r : Nat} {g : Nat → Option UInt8} (k : BR W r g) (i : Nat) (hi : i < 8) (c : UInt8) : BR (W.setCell ⟨r, i, none⟩ (.bool true)) r (upd g i (some c)) := by
  refine ⟨by rw [World.size_setCell]; exact k.1, fun j hj => ⟨?_, ?_⟩⟩
  · by_cases e : j = i
    · subst e; rw [cell_put (k.2 j hj).1, upd_same]; rfl
    · rw [cell_putne _ _ _ _ _ (Ne.symm e), upd_ne _ _ e]; exact (k.2 j hj).1
  · rw [World.frozen?_setCell]; exact (k.2 j hj).2
/-- What holds of the third block, and where the walk then stands. -/
structure SC2 (w : World) (h : DH) (p q r : Nat) : Prop where
  s : SC w h p q
  nr : ¬ h.S r
  pr : p ≠ r
  qr : q ≠ r
  wr : w.heap.size ≤ r
structure SW (w W : World) (h : DH) (p q r : Nat) (f g : Nat → Option UInt8) (M : DM) : Prop where
  k : SK w W h p q f g M
  b : BR W r g
theorem SW.drew {w W : World} {h : DH} {p q r : Nat} {f g : Nat → Option UInt8} {M : DM} (k : SW w W h p q r f g M) : SW w W.drew h p q r f g M := ⟨k.k.drew, k.b⟩
theorem SW.below {w W W' : World} {h : DH} {p q r : Nat} {f g : Nat → Option UInt8} {M : DM} (k : SW w W h p q r f g M) (hb : Below W.heap.size W W') : SW w W' h p q r f g M := ⟨k.k.below hb, k.b.below hb⟩
theorem SW.ap {w W W' : World} {h : DH} {p q r : Nat} {f g : Nat → Option UInt8} {M M' : DM} (s : SC2 w h p q r) (k : SW w W h p q r f g M) (d : DevAt W' h M') (a : Ap h.S W W') : SW w W' h p q r f g M' := ⟨k.k.ap s.s d a, k.b.ap a s.nr⟩
theorem SW.put {w W : World} {h : DH} {p q r : Nat} {f g : Nat → Option UInt8} {M : DM} (s : SC2 w h p q r) (i : Nat) (hi : i < 8) (c : UInt8) (k : SK w W h p q f g M) (b : BR W r g) :
    SW w ((W.setCell ⟨q, i, none⟩ (.int .u8 (c.toNat : Int))).setCell ⟨r, i, none⟩ (.bool true)) h p q r f (upd g i (some c)) M := by
  have k1 := SK.put2 s.s k i hi c
  have b1 : BR (W.setCell ⟨q, i, none⟩ (.int .u8 (c.toNat : Int))) r g := b.ap (ap_put W q i _) (fun e => s.qr e.symm)
  have a := ap_put (W.setCell ⟨q, i, none⟩ (.int .u8 (c.toNat : Int))) r i (.bool true)
  exact ⟨⟨k1.d.ap a (fun x hx e => s.nr (e ▸ hx)), a.row k1.rp (fun e => s.pr e), a.row k1.rq (fun e => s.qr e), k1.be.trans (a.below k1.be.size (fun x e => by rw [e]; exact s.wr))⟩, b1.put i hi c⟩
/-! ### the places that wait, and what a crash keeps of them -/
def fl (p : Nat → Bool) (n : Nat) : List Nat := (List.range n).filter p
theorem fl_succ (p : Nat → Bool) (n : Nat) : fl p (n + 1) = fl p n ++ (if p n then [n] else []) := by
  unfold fl
  rw [List.range_succ, List.filter_append]
  congr 1
  cases h : p n <;> simp [h]
theorem fl_lt {p : Nat → Bool} {n k : Nat} (h : k ∈ fl p n) : k < n ∧ p k = true := by
  unfold fl at h
  rw [List.mem_filter, List.mem_range] at h
  exact h
theorem fl_at {p : Nat → Bool} {i : Nat} (hp : p i = true) : ∀ n, i < n → (fl p i).length < (fl p n).length ∧ (fl p n).getD (fl p i).length 0 = i
  | 0, h => by omega
  | n + 1, h => by
    rw [fl_succ]
    by_cases e : i = n
    · subst e
      rw [if_pos hp]
      exact ⟨by simp, by simp [List.getD]⟩
    · obtain ⟨h1, h2⟩ := fl_at hp n (by omega)
      refine ⟨by rw [List.length_append]; omega, ?_⟩
      rw [List.getD, List.getElem?_append_left h1]
      exact h2
theorem kept_none {L : List Nat} {Q : List Bool} {i : Nat} (h : i ∉ L) : keptB L Q i = false := by
  unfold keptB
  rw [List.any_eq_false]
  intro x hx
  have h1 := (List.of_mem_zip (a := x.1) (b := x.2) hx).1
  have : x.1 ≠ i := fun e => h (e ▸ h1)
  simp [this]
theorem kept_fl {p : Nat → Bool} {Q : List Bool} {i : Nat} (hp : p i = true) : ∀ n, i < n → keptB (fl p n) Q i = (decide ((fl p i).length < Q.length) && Q.getD (fl p i).length false)
  | 0, h => by omega
  | n + 1, h => by
    rw [fl_succ]
    by_cases e : i = n
    · subst e
      rw [if_pos hp]
      have h0 : keptB (fl p i) Q i = false := kept_none (fun m => by have := (fl_lt m).1; omega)
      unfold keptB at h0 ⊢
      rw [zip_snoc, List.any_append, h0, Bool.false_or]
      by_cases g : (fl p i).length < Q.length
      · rw [if_pos g]; simp [g]
      · rw [if_neg g]; simp [g]
    · have ih := kept_fl (Q := Q) hp n (by omega)
      by_cases q : p n = true
      · rw [if_pos q]
        unfold keptB at ih ⊢
        rw [zip_snoc, List.any_append, ih]
        by_cases g : (fl p n).length < Q.length
        · rw [if_pos g]; simp [Ne.symm e]
        · rw [if_neg g]; simp
      · rw [if_neg q, List.append_nil]; exact ih
def soG (g : Nat → Option UInt8) (i : Nat) : Bool := (g i).isSome
theorem waitL_dM (su : Nat → List UInt8) (g : Nat → Option UInt8) (m : Nat) : waitL (dM su g m) = fl (soG g) 8 := by
  show (List.range 8).filter (fun i => (optL g i).isSome) = _
  unfold fl
  congr 1
  funext i
  unfold optL soG
  cases g i <;> rfl
/-- What is had of sector i behind the crash. -/
def wantB (f g : Nat → Option UInt8) (Q : List Bool) (i : Nat) : UInt8 :=
  if (soG g i && (decide ((fl (soG g) i).length < Q.length) && Q.getD (fl (soG g) i).length false)) = true then (g i).getD 0 else (f i).getD 0
def crM (f g : Nat → Option UInt8) (m : Nat) (Q : List Bool) : DM := crashM (dM (suF f) g m) Q
theorem crM_read (f g : Nat → Option UInt8) (m : Nat) (Q : List Bool) (i : Nat) (hi : i < 8) : readE (crM f g m Q) (i : Int) = 0 ∧ readV (crM f g m Q) (i : Int) = fillL (wantB f g Q i) := by
  have h1 : readE (crM f g m Q) (i : Int) = 0 := by
    unfold readE
    rw [if_neg (by simp [crM, crashM]), if_neg (by rw [show (crM f g m Q).n = 8 from rfl, hasB_in hi]; simp)]
    show (if (false && !keptB (waitL (dM (suF f) g m)) Q ((i : Int).toNat)) = true then (9 : Int) else 0) = 0
    rw [Bool.false_and, if_neg (by simp)]
  refine ⟨h1, ?_⟩
  unfold readV
  rw [h1, if_pos rfl]
  show (if keptB (waitL (dM (suF f) g m)) Q ((i : Int).toNat) = true then (optL g ((i : Int).toNat)).getD [] else suF f ((i : Int).toNat)) = _
  rw [Int.toNat_natCast, waitL_dM]
  unfold wantB
  by_cases hs : soG g i = true
  · rw [kept_fl hs 8 hi, hs, Bool.true_and]
    split
    · unfold optL
      unfold soG at hs
      obtain ⟨c, hc⟩ := Option.isSome_iff_exists.1 hs
      rw [hc]; rfl
    · rfl
  · have hs' : soG g i = false := by simpa using hs
    rw [kept_none (fun e => hs (fl_lt e).2), hs', Bool.false_and, if_neg (by simp), if_neg (by simp)]
    rfl
/-- The list of those that waited, as it lies. -/
def WB (W : World) (h : DH) (v : Value) (l : List Nat) : Prop :=
  ∃ A cap, v = .slice A l.length cap ∧ l.length ≤ cap ∧ cap ≤ 9223372036854775807 ∧ (l = [] ∨ ∃ b, A = some ⟨b, 0, none⟩ ∧ b < W.heap.size ∧ ¬ h.S b ∧ ∀ j, j < l.length → W.cell? ⟨b, j, none⟩ = some (.int .i64 ((l.getD j 0 : Nat) : Int)))
theorem WB.ap {W W' : World} {h : DH} {v : Value} {l : List Nat} (k : WB W h v l) (a : Ap h.S W W') : WB W' h v l := by
  obtain ⟨A, cap, hv, h1, h2, h3⟩ := k
  refine ⟨A, cap, hv, h1, h2, ?_⟩
  rcases h3 with h3 | ⟨b, hA, hlt, hb, hc⟩
  · exact .inl h3
  · exact .inr ⟨b, hA, Nat.lt_of_lt_of_le hlt a.size, hb, fun j hj => (a.cell hlt hb _).trans (hc j hj)⟩
theorem sw_waiting {w W : World} {h : DH} {p q r : Nat} {f g : Nat → Option UInt8} {su : Nat → List UInt8} {m : Nat} (k : SW w W h p q r f g (dM su g m)) :
    Calls Try.prog 15 #[.pointer (some ⟨h.b, 0, none⟩)] W fun e w' => ∃ v, e = .returned v ∧ SW w w' h p q r f g (dM su g m) ∧ WB w' h v (fl (soG g) 8) := by
  refine (devWaiting_any k.k.d).mono fun e w' ⟨v, he, hi, hb⟩ => ⟨v, he, k.below hb, ?_⟩
  rw [nums_eq, waitL_dM] at hi
  rcases hi.reads with ⟨h0, rfl⟩ | ⟨b, cap, rfl, h1, h2, h3, h4, h5⟩
  · have h0' : fl (soG g) 8 = [] := by simpa using h0
    exact ⟨none, 0, by rw [h0']; rfl, by rw [h0']; exact Nat.le_refl _, by omega, .inl h0'⟩
  · rw [List.length_map] at h3 h5
    refine ⟨_, cap, by rw [List.length_map], h3, h4, .inr ⟨b, rfl, h2, fun e => by have := k.k.d.slt b e; omega, fun j hj => ?_⟩⟩
    rw [h5 j hj]
    simp [List.getD, hj]
theorem sw_crash {w W : World} {h : DH} {p q r : Nat} {f g : Nat → Option UInt8} {m : Nat} {v vk : Value} {Q : List Bool} (s : SC2 w h p q r) (k : SW w W h p q r f g (dM (suF f) g m)) (hv : WB W h v (fl (soG g) 8)) (hQ : BoolsS w vk Q) :
    Calls Try.prog 28 #[.pointer (some ⟨h.b, 0, none⟩), vk] W fun e w' => e = .returned (.tuple #[]) ∧ SW w w' h p q r f g (crM f g m Q) ∧ WB w' h v (fl (soG g) 8) :=
  (devCrash_any k.k.d (hQ.at k.k.be s.s.ab)).mono fun _ _ ⟨he, hd, ha⟩ => ⟨he, k.ap s hd ha, hv.ap ha⟩
theorem sw_read {w W : World} {h : DH} {p q r : Nat} {f g : Nat → Option UInt8} {m : Nat} {Q : List Bool} (k : SW w W h p q r f g (crM f g m Q)) (i : Nat) (hi : i < 8) :
    Calls Try.prog 29 #[.pointer (some ⟨h.b, 0, none⟩), .int .i64 (i : Int)] W fun e w' => e = .returned (.tuple #[.string (fillS (wantB f g Q i)), .int .i64 0]) ∧ Below W.heap.size W w' := by
  have h1 := devRead_any k.k.d (i : Int)
  rw [(crM_read f g m Q i hi).1, (crM_read f g m Q i hi).2] at h1
  exact h1
theorem sw_empty {w W : World} {h : DH} {p q r : Nat} {f g : Nat → Option UInt8} {m : Nat} {Q : List Bool} (k : SW w W h p q r f g (crM f g m Q)) :
    Calls Try.prog 15 #[.pointer (some ⟨h.b, 0, none⟩)] W fun e w' => e = .returned (.slice none 0 0) ∧ Below W.heap.size W w' :=
  (devWaiting_any k.k.d).mono fun e w' ⟨v, he, hi, hb⟩ => ⟨by rw [he, hi.2.2 (by unfold numsI; simp [crM, crashM])], hb⟩
/-- Two of an act's cells. -/
def Fields (W : World) (b : Nat) (pos : Int) (c : UInt8) : Prop := W.cell? ⟨b, 1, none⟩ = some (.int .i64 pos) ∧ W.cell? ⟨b, 2, none⟩ = some (.int .u8 (c.toNat : Int))
theorem Fields.new (w : World) (x0 x3 x4 x5 : Value) (pos : Int) (c : UInt8) (t : Nat) : Fields (w.alloc (.cells #[x0, .int .i64 pos, .int .u8 (c.toNat : Int), x3, x4, x5] t)) w.heap.size pos c :=
  ⟨by simp [go_sem], by simp [go_sem]⟩
theorem Fields.lt {W : World} {b : Nat} {pos : Int} {c : UInt8} (k : Fields W b pos c) : b < W.heap.size := World.block_lt_of_cell? W _ k.1
theorem Fields.below {W W' : World} {b : Nat} {pos : Int} {c : UInt8} (k : Fields W b pos c) (hb : Below W.heap.size W W') : Fields W' b pos c :=
  ⟨(hb.cell (p := ⟨b, 1, none⟩) k.lt).trans k.1, (hb.cell (p := ⟨b, 2, none⟩) k.lt).trans k.2⟩
theorem Fields.ap {S : Nat → Prop} {W W' : World} {b : Nat} {pos : Int} {c : UInt8} (k : Fields W b pos c) (a : Ap S W W') (hn : ¬ S b) : Fields W' b pos c :=
  ⟨(a.cell k.lt hn _).trans k.1, (a.cell k.lt hn _).trans k.2⟩
set_option maxRecDepth 100000 in
set_option maxHeartbeats 4000000 in
theorem devSure_walk {w : World} {va vb vk : Value} {L N : List AM} {Q : List Bool} (hL : ActsS w va L) (hN : ActsS w vb N) (hQ : BoolsS w vk Q) :
    Calls Try.prog 5 #[va, vb, vk] w fun e w' => e = .returned (.bool true) ∧ Below w.heap.size w w' := by
  have a0 := devLives_any w
  have hNw := fun W => devNew_ex 8 (by omega) (by omega) W
  have HL := Lib.hid hL
  have HN := Lib.hid hN
  have HQ := Lib.hid hQ
  obtain ⟨AL, cL, rfl, hlL, hmL, hL3⟩ := hL
  obtain ⟨AN, cN, rfl, hlN, hmN, hN3⟩ := hN
  obtain ⟨AQ, cQ, rfl, hlQ, hmQ, hQ3⟩ := hQ
  by_cases hbig : 40 < L.length ∨ 40 < N.length
  case pos =>
    clear hL3 hN3 hQ3 HL HN HQ
    by_cases h1 : 40 < L.length
    · have e1 : decide ((40 : Int) < (L.length : Int)) = true := decide_eq_true (by omega)
      go_enter Try.func5, Try.ntmps5
      go_wp2_with (first
        | (go_at_call 8; refine a0.mono ?_; rintro e w1 ⟨rfl, hb1⟩)
        | (go_at_call 9; refine (hNw _).mono ?_; rintro e w2 ⟨h, rfl, _, _, hb2⟩))
      go_ret
      exact ⟨rfl, hb1.trans (hb2.mono hb1.size)⟩
    · have e1 : decide ((40 : Int) < (L.length : Int)) = false := decide_eq_false (by omega)
      have e2 : decide ((40 : Int) < (N.length : Int)) = true := decide_eq_true (by omega)
      go_enter Try.func5, Try.ntmps5
      go_wp2_with (first
        | (go_at_call 8; refine a0.mono ?_; rintro e w1 ⟨rfl, hb1⟩)
        | (go_at_call 9; refine (hNw _).mono ?_; rintro e w2 ⟨h, rfl, _, _, hb2⟩))
      go_ret
      exact ⟨rfl, hb1.trans (hb2.mono hb1.size)⟩
  case neg =>
  have e1 : decide ((40 : Int) < (L.length : Int)) = false := decide_eq_false (by omega)
  have e2 : decide ((40 : Int) < (N.length : Int)) = false := decide_eq_false (by omega)
  have hL40 : L.length ≤ 40 := by omega
  have hN40 : N.length ≤ 40 := by omega
  have HL3 := Lib.hid hL3
  have HN3 := Lib.hid hN3
  clear hbig hL3 hN3 hQ3
  go_enter Try.func5, Try.ntmps5
  go_wp2_with (first
    | (go_at_call 8; refine a0.mono ?_; rintro e w1 ⟨rfl, hb1⟩; have HB1 := Lib.hid hb1; clear hb1)
    | (go_at_call 9; refine (hNw _).mono ?_; rintro e w2 ⟨h, rfl, hd2, hab2, hb2⟩; have HD2 := Lib.hid hd2; have HAB2 := Lib.hid hab2; have HB2 := Lib.hid hb2; clear hd2 hab2 hb2)
    | fail)
  have HSC : Hid (SC w h w2.heap.size (w2.heap.size + 1)) := Lib.hid (by
    have h0 := HB1.out.size; have h1 := HB2.out.size
    obtain ⟨g1, g2, g3, g4⟩ := HAB2.out
    exact ⟨⟨by omega, by omega, by omega, by omega⟩, fun e => by have := HD2.out.slt _ e; omega, fun e => by have := HD2.out.slt _ e; omega, by omega, by omega, by omega⟩)
  have HK4 : Hid (SK w ((w2.alloc (.cells #[.int .u8 0, .int .u8 0, .int .u8 0, .int .u8 0, .int .u8 0, .int .u8 0, .int .u8 0, .int .u8 0] 51)).alloc (.cells #[.int .u8 0, .int .u8 0, .int .u8 0, .int .u8 0, .int .u8 0, .int .u8 0, .int .u8 0, .int .u8 0] 51)) h w2.heap.size (w2.heap.size + 1) (fun _ => none) (fun _ => none) (dM (fun _ => blankB) (fun _ => none) 0)) := Lib.hid (by
    have h1 := row_eight w2 51
    have h2 := row_eight (w2.alloc (.cells #[.int .u8 0, .int .u8 0, .int .u8 0, .int .u8 0, .int .u8 0, .int .u8 0, .int .u8 0, .int .u8 0] 51)) 51
    rw [show (w2.alloc (.cells #[.int .u8 0, .int .u8 0, .int .u8 0, .int .u8 0, .int .u8 0, .int .u8 0, .int .u8 0, .int .u8 0] 51)).heap.size = w2.heap.size + 1 by simp] at h2
    exact ⟨(HD2.out.alloc _).alloc _, h1.alloc _, h2, (HB1.out.trans (HB2.out.mono HB1.out.size)).trans (((below1 _ _).trans ((below1 _ _).mono (by simp))).mono (by have := HB1.out.size; have := HB2.out.size; omega))⟩)
  clear HD2 HB2 HAB2 hNw a0 HB1
  generalize (w2.alloc (.cells #[.int .u8 0, .int .u8 0, .int .u8 0, .int .u8 0, .int .u8 0, .int .u8 0, .int .u8 0, .int .u8 0] 51)).alloc (.cells #[.int .u8 0, .int .u8 0, .int .u8 0, .int .u8 0, .int .u8 0, .int .u8 0, .int .u8 0, .int .u8 0] 51) = w4 at HK4 ⊢
  generalize hp : w2.heap.size = p at HSC HK4 ⊢
  generalize hq : p + 1 = q at HSC HK4 ⊢
  clear hp hq w2
  have hFi := fun (c : UInt8) W => fill_any c W
  go_loopw [52] (fun ix wr => ∃ (j : Nat) (f : Nat → Option UInt8) (n : Nat), j ≤ L.length ∧ ix = .int .i64 (j : Int) ∧ n ≤ j ∧ SK w wr h p q f (fun _ => none) (dM (fun _ => blankB) f n)) (fun ix _ => L.length - (intOf ix).toNat)
  case atStart => exact ⟨0, fun _ => none, 0, Nat.zero_le _, rfl, Nat.le_refl _, HK4.out⟩
  case round =>
    obtain ⟨j, f, n, hj, rfl, hn, hk⟩ := hrel
    have HK := Lib.hid hk
    clear hk
    by_cases hlt : j < L.length
    · obtain ⟨b, off, rfl, hbl, hca⟩ := HL3.out.resolve_left (by intro e; rw [e] at hlt; simp at hlt)
      have hA := (hca j hlt).below HK.out.be (Nat.le_refl _) hbl
      generalize L.getD j AM.none = x at hA
      obtain ⟨k0, k1, k2, k3, k4, k5, k6, _, w1, _⟩ := hA
      obtain ⟨kind, pos, c, kv, keep, num, turn⟩ := x
      dsimp only at k0 k1 k2 k3 k4 k5 k6 w1
      obtain ⟨Ak, ck, rfl, _⟩ := k6
      generalize keep.length = lk at k3
      clear HL3 HK4 hca
      go_upto_region 10 with fail
      have HX : Hid (Below wr.heap.size wr (wr.alloc (.cells #[.int .i64 kind, .int .i64 pos, .int .u8 (c.toNat : Int), .slice Ak lk ck, .int .i64 num, .int .u32 turn] 36))) := Lib.hid (below1 _ _)
      have HC : Hid (Fields (wr.alloc (.cells #[.int .i64 kind, .int .i64 pos, .int .u8 (c.toNat : Int), .slice Ak lk ck, .int .i64 num, .int .u32 turn] 36)) wr.heap.size pos c) := Lib.hid (Fields.new ..)
      have HNB : Hid (¬ h.S wr.heap.size) := Lib.hid (fun e => by have := HK.out.d.slt _ e; omega)
      have HKX := Lib.hid (HK.out.below HX.out)
      generalize wr.alloc (.cells #[.int .i64 kind, .int .i64 pos, .int .u8 (c.toNat : Int), .slice Ak lk ck, .int .i64 num, .int .u32 turn] 36) = W1 at HX HC HKX ⊢
      generalize wr.heap.size = bx at HX HC HNB ⊢
      clear k0 k1 k2 k3 k4 k5 HK HX
      by_cases hin : 0 ≤ pos ∧ pos < 8
      · obtain ⟨i, rfl⟩ : ∃ i : Nat, pos = (i : Int) := ⟨pos.toNat, by omega⟩
        have hi : i < 8 := by omega
        clear hin w1
        go_region_held3 (fun w' => w'.cell? ⟨bx, 1, none⟩ = some (.int .i64 (i : Int)) ∧ w'.cell? ⟨bx, 2, none⟩ = some (.int .u8 (c.toNat : Int))) (first | exact HC.out | exact HC5.out | exact HC6.out)
          (first
            | (go_at_call 25; refine (hFi c _).mono ?_; rintro e w5 ⟨rfl, hb5⟩; have HC5 : Hid (Fields w5 bx (i : Int) c) := Lib.hid (Fields.below (W := W1.drew) HC.out hb5); have HK5 : Hid (SK w w5 h p q f (fun _ => none) (dM (fun _ => blankB) f n)) := Lib.hid (SK.below (W := W1.drew) HKX.out.drew hb5); clear hb5)
            | (go_at_call 24; refine (dev_write_in HK5.out.d i hi c (by omega)).mono ?_; rintro e w6 ⟨rfl, hd6, ha6⟩; have HC6 : Hid (Fields w6 bx (i : Int) c) := Lib.hid (HC5.out.ap ha6 HNB.out); have HK6 : Hid (SK w w6 h p q f (fun _ => none) (dM (fun _ => blankB) (upd f i (some c)) (n + 1))) := Lib.hid (HK5.out.ap HSC.out hd6 ha6); clear hd6 ha6))
        have hrow := HK6.out.rp.2 i (by rw [valL_len]; exact hi)
        rw [Nat.zero_add] at hrow
        obtain ⟨hr1, hr2⟩ := hrow
        obtain ⟨hx1, hx2⟩ := HC6.out
        generalize (valL f).getD i 0 = y at hr1
        go_wp2_with fail
        go_roundw
        case rel => exact ⟨j + 1, upd f i (some c), n + 1, by omega, by go_num, by omega, HK6.out.put1 HSC.out i hi c⟩
        case measure => simp [intOf]; omega
      · clear w1
        have HIN := Lib.hid hin
        clear hin
        go_region_held3 (fun w' => w'.cell? ⟨bx, 1, none⟩ = some (.int .i64 pos) ∧ w'.cell? ⟨bx, 2, none⟩ = some (.int .u8 (c.toNat : Int))) (first | exact HC.out | exact HC5.out | exact HC6.out)
          (first
            | (go_at_call 25; refine (hFi c _).mono ?_; rintro e w5 ⟨rfl, hb5⟩; have HC5 : Hid (Fields w5 bx pos c) := Lib.hid (Fields.below (W := W1.drew) HC.out hb5); have HK5 : Hid (SK w w5 h p q f (fun _ => none) (dM (fun _ => blankB) f n)) := Lib.hid (SK.below (W := W1.drew) HKX.out.drew hb5); clear hb5)
            | (go_at_call 24; refine (dev_write_out HK5.out.d pos HIN.out c (by omega)).mono ?_; rintro e w6 ⟨rfl, hd6, ha6⟩; have HC6 : Hid (Fields w6 bx pos c) := Lib.hid (HC5.out.ap ha6 HNB.out); have HK6 : Hid (SK w w6 h p q f (fun _ => none) (dM (fun _ => blankB) f n)) := Lib.hid (HK5.out.ap HSC.out hd6 ha6); clear hd6 ha6))
        go_wp2_with fail
        go_roundw
        case rel => exact ⟨j + 1, f, n, by omega, by go_num, by omega, HK6.out⟩
        case measure => simp [intOf]; omega
    · obtain rfl : j = L.length := by omega
      clear hlt hj HK4
      have hFl : Calls Try.prog 26 #[.pointer (some ⟨h.b, 0, none⟩)] wr fun e w' => e = .returned (.int .i64 0) ∧ SK w w' h p q f (fun _ => none) (dM (suF f) (fun _ => none) n) :=
        (dev_flush HK.out.d).mono fun _ _ ⟨he, hd, ha⟩ => ⟨he, HK.out.ap HSC.out hd ha⟩
      go_upto_region 19 with (go_at_call 26; refine hFl.mono ?_; rintro e w5 ⟨rfl, hk5⟩; have HK5 := Lib.hid hk5; clear hk5)
      have HS2 : Hid (SC2 w h p q w5.heap.size) := Lib.hid (by
        have k := HK5.out
        exact ⟨HSC.out, fun e => by have := k.d.slt _ e; omega, fun e => by have := k.rp.1; omega, fun e => by have := k.rq.1; omega, k.be.size⟩)
      have HK6 : Hid (SW w (w5.alloc (.cells #[.bool false, .bool false, .bool false, .bool false, .bool false, .bool false, .bool false, .bool false] 52)) h p q w5.heap.size f (fun _ => none) (dM (suF f) (fun _ => none) n)) := Lib.hid ⟨HK5.out.below (below1 _ _), BR.new w5 _⟩
      generalize w5.alloc (.cells #[.bool false, .bool false, .bool false, .bool false, .bool false, .bool false, .bool false, .bool false] 52) = w6 at HK6 ⊢
      generalize w5.heap.size = r at HS2 HK6 ⊢
      clear HK HK5 hFl
      go_loopw [75] (fun ix wr => ∃ (j : Nat) (g : Nat → Option UInt8) (m : Nat), j ≤ N.length ∧ ix = .int .i64 (j : Int) ∧ m ≤ L.length + j ∧ SW w wr h p q r f g (dM (suF f) g m)) (fun ix _ => N.length - (intOf ix).toNat)
      case atStart => exact ⟨0, fun _ => none, n, Nat.zero_le _, rfl, by omega, HK6.out⟩
      case round =>
        obtain ⟨j, g, m, hj, rfl, hm, hk⟩ := hrel
        have HK := Lib.hid hk
        clear hk HK6
        by_cases hlt : j < N.length
        · obtain ⟨b, off, rfl, hbl, hca⟩ := HN3.out.resolve_left (by intro e; rw [e] at hlt; simp at hlt)
          have hA := (hca j hlt).below HK.out.k.be (Nat.le_refl _) hbl
          generalize N.getD j AM.none = x at hA
          obtain ⟨k0, k1, k2, k3, k4, k5, k6, _, w1, _⟩ := hA
          obtain ⟨kind, pos, c, kv, keep, num, turn⟩ := x
          dsimp only at k0 k1 k2 k3 k4 k5 k6 w1
          obtain ⟨Ak, ck, rfl, _⟩ := k6
          generalize keep.length = lk at k3
          clear HN3 hca
          go_upto_region 19 with fail
          have HX : Hid (Below wr.heap.size wr (wr.alloc (.cells #[.int .i64 kind, .int .i64 pos, .int .u8 (c.toNat : Int), .slice Ak lk ck, .int .i64 num, .int .u32 turn] 36))) := Lib.hid (below1 _ _)
          have HC : Hid (Fields (wr.alloc (.cells #[.int .i64 kind, .int .i64 pos, .int .u8 (c.toNat : Int), .slice Ak lk ck, .int .i64 num, .int .u32 turn] 36)) wr.heap.size pos c) := Lib.hid (Fields.new ..)
          have HNB : Hid (¬ h.S wr.heap.size) := Lib.hid (fun e => by have := HK.out.k.d.slt _ e; omega)
          have HBQ : Hid (wr.heap.size ≠ q) := Lib.hid (fun e => by have := HK.out.k.rq.1; omega)
          have HKX := Lib.hid (HK.out.below HX.out)
          generalize wr.alloc (.cells #[.int .i64 kind, .int .i64 pos, .int .u8 (c.toNat : Int), .slice Ak lk ck, .int .i64 num, .int .u32 turn] 36) = W1 at HX HC HKX ⊢
          generalize wr.heap.size = bx at HX HC HNB HBQ ⊢
          clear k0 k1 k2 k3 k4 k5 HK HX
          by_cases hin : 0 ≤ pos ∧ pos < 8
          · obtain ⟨i, rfl⟩ : ∃ i : Nat, pos = (i : Int) := ⟨pos.toNat, by omega⟩
            have hi : i < 8 := by omega
            clear hin w1
            go_region_held3 (fun w' => w'.cell? ⟨bx, 1, none⟩ = some (.int .i64 (i : Int)) ∧ w'.cell? ⟨bx, 2, none⟩ = some (.int .u8 (c.toNat : Int))) (first | exact HC.out | exact HC5.out | exact HC6.out)
              (first
                | (go_at_call 25; refine (hFi c _).mono ?_; rintro e w5 ⟨rfl, hb5⟩; have HC5 : Hid (Fields w5 bx (i : Int) c) := Lib.hid (Fields.below (W := W1.drew) HC.out hb5); have HK5 : Hid (SW w w5 h p q r f g (dM (suF f) g m)) := Lib.hid (SW.below (W := W1.drew) HKX.out.drew hb5); clear hb5)
                | (go_at_call 24; refine (dev_write_in HK5.out.k.d i hi c (by omega)).mono ?_; rintro e w6 ⟨rfl, hd6, ha6⟩; have HC6 : Hid (Fields w6 bx (i : Int) c) := Lib.hid (HC5.out.ap ha6 HNB.out); have HK6 : Hid (SW w w6 h p q r f g (dM (suF f) (upd g i (some c)) (m + 1))) := Lib.hid (HK5.out.ap HS2.out hd6 ha6); clear hd6 ha6))
            have hrow := HK6.out.k.rq.2 i (by rw [valL_len]; exact hi)
            rw [Nat.zero_add] at hrow
            obtain ⟨hr1, hr2⟩ := hrow
            obtain ⟨hx1, hx2⟩ := HC6.out
            obtain ⟨hr3, hr4⟩ := HK6.out.b.2 i hi
            generalize (valL g).getD i 0 = y at hr1
            generalize (g i).isSome = y2 at hr3
            have hr5 : (w6.setCell ⟨q, i, none⟩ (.int .u8 (c.toNat : Int))).cell? ⟨r, i, none⟩ = some (.bool y2) := (World.cell?_setCell_other _ _ _ _ (by intro e; injection e with e _; exact HS2.out.qr e)).trans hr3
            have hr6 : (w6.setCell ⟨q, i, none⟩ (.int .u8 (c.toNat : Int))).frozen? ⟨r, i, none⟩ = false := (World.frozen?_setCell _ _ _ _).trans hr4
            have hi8 : (i : Int) < 8 := by omega
            have hx3 : (w6.setCell ⟨q, i, none⟩ (.int .u8 (c.toNat : Int))).cell? ⟨bx, 1, none⟩ = some (.int .i64 (i : Int)) := (World.cell?_setCell_other _ _ _ _ (by intro e; injection e with e _; exact HBQ.out e.symm)).trans hx1
            have hx4 : (w6.setCell ⟨q, i, none⟩ (.int .u8 (c.toNat : Int))).cell? ⟨bx, 2, none⟩ = some (.int .u8 (c.toNat : Int)) := (World.cell?_setCell_other _ _ _ _ (by intro e; injection e with e _; exact HBQ.out e.symm)).trans hx2
            go_wp2_with fail
            go_region
            all_goals go_wp2_with fail
            all_goals go_roundw
            case rel => exact ⟨j + 1, upd g i (some c), m + 1, by omega, by go_num, by omega, SW.drew (SW.put HS2.out i hi c HK6.out.k HK6.out.b)⟩
            case measure => simp [intOf]; omega
          · clear w1
            have HIN := Lib.hid hin
            clear hin
            go_region_held3 (fun w' => w'.cell? ⟨bx, 1, none⟩ = some (.int .i64 pos) ∧ w'.cell? ⟨bx, 2, none⟩ = some (.int .u8 (c.toNat : Int))) (first | exact HC.out | exact HC5.out | exact HC6.out)
              (first
                | (go_at_call 25; refine (hFi c _).mono ?_; rintro e w5 ⟨rfl, hb5⟩; have HC5 : Hid (Fields w5 bx pos c) := Lib.hid (Fields.below (W := W1.drew) HC.out hb5); have HK5 : Hid (SW w w5 h p q r f g (dM (suF f) g m)) := Lib.hid (SW.below (W := W1.drew) HKX.out.drew hb5); clear hb5)
                | (go_at_call 24; refine (dev_write_out HK5.out.k.d pos HIN.out c (by omega)).mono ?_; rintro e w6 ⟨rfl, hd6, ha6⟩; have HC6 : Hid (Fields w6 bx pos c) := Lib.hid (HC5.out.ap ha6 HNB.out); have HK6 : Hid (SW w w6 h p q r f g (dM (suF f) g m)) := Lib.hid (HK5.out.ap HS2.out hd6 ha6); clear hd6 ha6))
            go_wp2_with fail
            go_roundw
            case rel => exact ⟨j + 1, g, m, by omega, by go_num, by omega, HK6.out⟩
            case measure => simp [intOf]; omega
        · obtain rfl : j = N.length := by omega
          clear hlt hj hm HN3 HL3
          go_wp2_with (first
            | (go_at_call 15; refine (sw_waiting HK.out).mono ?_; rintro e w7 ⟨vw, rfl, hk7, hv7⟩; have HK7 := Lib.hid hk7; have HV7 := Lib.hid hv7; clear hk7 hv7)
            | (go_at_call 28; refine (sw_crash HS2.out HK7.out HV7.out HQ.out).mono ?_; rintro e w8 ⟨rfl, hk8, hv8⟩; have HK8 := Lib.hid hk8; have HV8 := Lib.hid hv8; clear hk8 hv8 HK7 HV7))
          obtain ⟨lw, hlw⟩ : ∃ lw : List Nat, lw = fl (soG g) 8 := ⟨_, rfl⟩
          rw [← hlw] at HV8
          have HLW := Lib.hid hlw
          clear hlw HK
          have hv8 := HV8.out
          obtain ⟨Aw, cw, rfl, hlw1, hlw2, hlw3⟩ := hv8
          have HV3 := Lib.hid hlw3
          clear hlw3 HV8
          go_loopw [17, 101] (fun nx ix wr => ∃ i : Nat, i ≤ 8 ∧ ix = .int .i64 (i : Int) ∧ nx = .int .i64 ((fl (soG g) i).length : Int) ∧ Below w8.heap.size w8 wr) (fun _ ix _ => 8 - (intOf ix).toNat)
          case atStart => exact ⟨0, by omega, rfl, rfl, Below.refl _ _⟩
          case round =>
            obtain ⟨i, hi, rfl, rfl, hb⟩ := hrel
            have HK := Lib.hid (HK8.out.below hb)
            have HBW := Lib.hid hb
            clear hb
            by_cases hlt : i < 8
            · have hp1 := (HK.out.k.rp.2 i (by rw [valL_len]; exact hlt)).1
              have hq1 := (HK.out.k.rq.2 i (by rw [valL_len]; exact hlt)).1
              rw [Nat.zero_add, valL_at _ _ hlt] at hp1 hq1
              have hr1 := (HK.out.b.2 i hlt).1
              have hRd := sw_read HK.out i hlt
              have hi8 : (i : Int) < 8 := by omega
              unfold wantB at hRd
              have hs1 : (fl (soG g) (i + 1)).length = (fl (soG g) i).length + (if soG g i then 1 else 0) := by
                rw [fl_succ, List.length_append]; split <;> rfl
              by_cases hs : soG g i = true
              · obtain ⟨h1, h2⟩ := fl_at hs 8 hlt
                rw [← HLW.out] at h1 h2
                rw [if_pos hs] at hs1
                rw [hs, Bool.true_and] at hRd
                rw [show (g i).isSome = true from hs] at hr1
                obtain ⟨b, rfl, hbl, _, hcb⟩ := HV3.out.resolve_left (by intro e; rw [e] at h1; simp at h1)
                have hw1 := (HBW.out.cell (p := ⟨b, (fl (soG g) i).length, none⟩) hbl).trans (hcb _ h1)
                rw [h2] at hw1
                generalize (fl (soG g) i).length = k at *
                generalize (f i).getD 0 = x at *
                generalize (g i).getD 0 = y at *
                have HS1 := Lib.hid hs1
                have e1 : decide ((lw.length : Int) ≤ (k : Int)) = false := decide_eq_false (by omega)
                clear hs1 hs h2 HK8 hcb
                by_cases hkQ : k < Q.length
                · have e2 : decide ((k : Int) < (Q.length : Int)) = true := decide_eq_true (by omega)
                  rw [decide_eq_true hkQ, Bool.true_and] at hRd
                  obtain ⟨A0, c0, e0, _, _, hq3⟩ := HQ.out
                  injection e0 with e0 e0b e0c
                  subst e0
                  subst e0c
                  clear e0b
                  obtain ⟨b2, off2, rfl, hbl2, hcq⟩ := hq3.resolve_left (by intro e; rw [e] at hkQ; simp at hkQ)
                  have hc2 := (HK.out.k.be.cell (p := ⟨b2, off2 + k, none⟩) hbl2).trans (hcq k hkQ)
                  generalize Q.getD k false = z at hRd hc2
                  clear hcq HK HQ hq3
                  cases z with
                  | true =>
                    rw [if_pos rfl] at hRd
                    go_wp2_with (first
                      | (go_at_call 29; refine hRd.mono ?_; rintro e w9 ⟨rfl, hb9⟩; have HB9 := Lib.hid (HBW.out.trans (hb9.mono HBW.out.size)); clear hb9)
                      | (go_at_call 25; refine (hFi _ _).mono ?_; rintro e wA ⟨rfl, hbA⟩; have HBA := Lib.hid (HB9.out.trans (hbA.mono HB9.out.size)); clear hbA))
                    go_roundw
                    case rel => exact ⟨i + 1, by omega, by go_num, by rw [HS1.out]; go_num, HBA.out⟩
                    case measure => simp [intOf]; omega
                  | false =>
                    rw [if_neg (by simp)] at hRd
                    go_wp2_with (first
                      | (go_at_call 29; refine hRd.mono ?_; rintro e w9 ⟨rfl, hb9⟩; have HB9 := Lib.hid (HBW.out.trans (hb9.mono HBW.out.size)); clear hb9)
                      | (go_at_call 25; refine (hFi _ _).mono ?_; rintro e wA ⟨rfl, hbA⟩; have HBA := Lib.hid (HB9.out.trans (hbA.mono HB9.out.size)); clear hbA))
                    go_roundw
                    case rel => exact ⟨i + 1, by omega, by go_num, by rw [HS1.out]; go_num, HBA.out⟩
                    case measure => simp [intOf]; omega
                · have e2 : decide ((k : Int) < (Q.length : Int)) = false := decide_eq_false (by omega)
                  rw [decide_eq_false hkQ, Bool.false_and, if_neg (by simp)] at hRd
                  clear HK
                  go_wp2_with (first
                    | (go_at_call 29; refine hRd.mono ?_; rintro e w9 ⟨rfl, hb9⟩; have HB9 := Lib.hid (HBW.out.trans (hb9.mono HBW.out.size)); clear hb9)
                    | (go_at_call 25; refine (hFi _ _).mono ?_; rintro e wA ⟨rfl, hbA⟩; have HBA := Lib.hid (HB9.out.trans (hbA.mono HB9.out.size)); clear hbA))
                  go_roundw
                  case rel => exact ⟨i + 1, by omega, by go_num, by rw [HS1.out]; go_num, HBA.out⟩
                  case measure => simp [intOf]; omega
              · have hs' : soG g i = false := by simpa using hs
                have hs2 : (fl (soG g) (i + 1)).length = (fl (soG g) i).length := by rw [hs1, if_neg hs]; rfl
                clear hs1
                rw [hs', Bool.false_and, if_neg (by simp)] at hRd
                rw [show (g i).isSome = false from hs'] at hr1
                generalize (fl (soG g) i).length = k at *
                generalize (f i).getD 0 = x at *
                generalize (g i).getD 0 = y at *
                have HS1 := Lib.hid hs2
                clear hs2 hs hs' HK HK8
                go_wp2_with (first
                  | (go_at_call 29; refine hRd.mono ?_; rintro e w9 ⟨rfl, hb9⟩; have HB9 := Lib.hid (HBW.out.trans (hb9.mono HBW.out.size)); clear hb9)
                  | (go_at_call 25; refine (hFi _ _).mono ?_; rintro e wA ⟨rfl, hbA⟩; have HBA := Lib.hid (HB9.out.trans (hbA.mono HB9.out.size)); clear hbA))
                go_roundw
                case rel => exact ⟨i + 1, by omega, by go_num, by rw [HS1.out], HBA.out⟩
                case measure => simp [intOf]; omega
            · obtain rfl : i = 8 := by omega
              have hE := sw_empty HK.out
              have h8 : (fl (soG g) 8).length = lw.length := by rw [← HLW.out]
              rw [h8]
              clear h8
              have HKE := Lib.hid HK.out.k.be
              clear HK HK8 HLW hlt hi
              go_wp2_with (go_at_call 15; refine hE.mono ?_; rintro e w9 ⟨rfl, hb9⟩)
              go_ret
              exact ⟨rfl, HKE.out.trans (hb9.mono HKE.out.size)⟩
end Go.Proofs.Ytmbjcphhfnemgaa
