/- Pools: PoolAgain. -/
import Derived.Test.YtmnjcmpikbihaaaPoolL
import Derived.Test.YtmnjcmpikbihaaaPoolI
namespace Go.Proofs.Ytmnjcmpikbihaaa
open Go.RowKit Go.Maps

theorem own_ap {S : Nat → Prop} {w w' : World} {base e s n : Nat} {v : Value} {xs : List Value} (h : w.ownsRow base e s v n xs) (a : Ap S w w') (hs : ∀ g, v.ownBlock = some g → ¬ S g) : w'.ownsRow base e s v n xs := by
  refine ⟨h.1, ?_⟩
  rcases h.2 with h0 | ⟨g, cap, cur, hv, hg, hh, r⟩
  · exact .inl h0
  · exact .inr ⟨g, cap, cur, hv, hg, (a.block g (Array.getElem?_eq_some_iff.1 hh).1 (hs g (by rw [hv]; rfl))).trans hh, r⟩
theorem strInfo : ∃ i, Try.prog.info? 9 = some i ∧ i.zero = some (.string ⟨#[]⟩) ∧ i.size = 1 ∧ i.bytes = 16 := by
  have e : (Try.prog.info? 9).map (fun i => (i.zero, i.size, i.bytes)) = some (some (.string ⟨#[]⟩), 1, 16) := by kernel_rfl
  obtain ⟨i, hi, hz⟩ := Option.map_eq_some_iff.1 e
  simp only [Prod.mk.injEq] at hz
  exact ⟨i, hi, hz.1, hz.2.1, hz.2.2⟩
/-- The texts that were given, in a row apart from the pool. -/
structure Texts (w W : World) (b m : Nat) (z : Value) (T : List ByteArray) : Prop where
  own : W.ownsRow w.heap.size 9 1 z T.length (T.map Value.string)
  apart : ∀ g, z.ownBlock = some g → g ≠ b ∧ g ≠ m
theorem Texts.below {w W W' : World} {b m : Nat} {z : Value} {T : List ByteArray} (h : Texts w W b m z T) (a : Below W.heap.size W W') : Texts w W' b m z T := ⟨ownS_keep h.own a, h.apart⟩
theorem Texts.ap {w W W' : World} {b m m' : Nat} {z : Value} {T : List ByteArray} (h : Texts w W b m z T) (a : Ap (fun k => k = b ∨ k = m) W W') (hm : m' = m ∨ W.heap.size ≤ m') : Texts w W' b m' z T := by
  refine ⟨own_ap h.own a (fun g hg => by have := h.apart g hg; rintro (e | e) <;> omega), fun g hg => ⟨(h.apart g hg).1, ?_⟩⟩
  have h2 := (World.ownsRow.lt h.own g hg).2
  have h3 := (h.apart g hg).2
  rcases hm with rfl | hm
  · exact h3
  · omega
/-- What is known after some acts. -/
structure Again (w W : World) (b m : Nat) (L : PL) (n : Nat) (z : Value) (T : List ByteArray) : Prop where
  pool : PoolNew w W b m L n
  texts : Texts w W b m z T
  len : T.length = n + 1
  say : ∀ p ∈ L, (T.getD p.1.toNat ⟨#[]⟩).data.toList = p.2
theorem Again.below {w W W' : World} {b m n : Nat} {L : PL} {z : Value} {T : List ByteArray} (h : Again w W b m L n z T) (a : Below W.heap.size W W') : Again w W' b m L n z T := ⟨h.pool.below a, h.texts.below a, h.len, h.say⟩
theorem Again.keep {w W W' : World} {b m n : Nat} {L : PL} {K : List Int} {z : Value} {T : List ByteArray} (h : Again w W b m L n z T) (d : PoolAt W' b W.heap.size (keepP L K) n) (a : Ap (fun k => k = b) W W') : Again w W' b W.heap.size (keepP L K) n z T :=
  ⟨h.pool.ap d h.pool.be.size (a.weak (fun _ e => .inl e)), h.texts.ap (a.weak (fun _ e => .inl e)) (.inr (Nat.le_refl _)), h.len, fun p hp => h.say p (keepP_mem.1 hp).1⟩
theorem Again.refused {w W W' : World} {b m n : Nat} {L : PL} {z : Value} {T : List ByteArray} {s : ByteArray} (h : Again w W b m L n z T) (he : addE n s ≠ 0) (d : PoolAt W' b m (addL L n s) (addN n s)) (a : Ap (fun k => k = b ∨ k = m) W W') : Again w W' b m L n z T := by
  unfold addL addN at d
  rw [if_neg he, if_neg he] at d
  exact ⟨h.pool.ap d h.pool.hm a, h.texts.ap a (.inl rfl), h.len, h.say⟩
theorem say_snoc {L : PL} {n : Nat} {T : List ByteArray} (hl : T.length = n + 1) (hr : ∀ x ∈ idsP L, 1 ≤ x ∧ x ≤ n) (hs : ∀ p ∈ L, (T.getD p.1.toNat ⟨#[]⟩).data.toList = p.2) (s : ByteArray) : ∀ p ∈ L ++ [((n : Int) + 1, s.data.toList)], ((T ++ [s]).getD p.1.toNat ⟨#[]⟩).data.toList = p.2 := by
  intro p hp
  rcases List.mem_append.1 hp with hp | hp
  · have := hr p.1 (List.mem_map.2 ⟨p, hp, rfl⟩)
    rw [List.getD, List.getElem?_append_left (by omega)]
    exact hs p hp
  · rw [List.mem_singleton] at hp
    subst hp
    rw [show ((n : Int) + 1).toNat = T.length by omega, List.getD, List.getElem?_append_right (Nat.le_refl _)]
    simp
/-- Added, but not yet put to the texts. -/
structure Mid (w W : World) (b m : Nat) (L : PL) (n : Nat) (z : Value) (T : List ByteArray) (s : ByteArray) : Prop where
  pool : PoolNew w W b m (L ++ [((n : Int) + 1, s.data.toList)]) (n + 1)
  texts : Texts w W b m z T
  len : T.length = n + 1
  say : ∀ p ∈ L ++ [((n : Int) + 1, s.data.toList)], ((T ++ [s]).getD p.1.toNat ⟨#[]⟩).data.toList = p.2
theorem Again.added {w W W' : World} {b m n : Nat} {L : PL} {z : Value} {T : List ByteArray} {s : ByteArray} (h : Again w W b m L n z T) (he : addE n s = 0) (d : PoolAt W' b m (addL L n s) (addN n s)) (a : Ap (fun k => k = b ∨ k = m) W W') : Mid w W' b m L n z T s := by
  unfold addL addN at d
  rw [if_pos he, if_pos he] at d
  exact ⟨h.pool.ap d h.pool.hm a, h.texts.ap a (.inl rfl), h.len, say_snoc h.len h.pool.at'.rng h.say s⟩
theorem Mid.below {w W W' : World} {b m n : Nat} {L : PL} {z : Value} {T : List ByteArray} {s : ByteArray} (h : Mid w W b m L n z T s) (a : Below W.heap.size W W') : Mid w W' b m L n z T s := ⟨h.pool.below a, h.texts.below a, h.len, h.say⟩
/-- .. and put there. -/
theorem Mid.done {w W W' : World} {b m n : Nat} {L : PL} {z v' : Value} {T : List ByteArray} {s : ByteArray} (h : Mid w W b m L n z T s) (ho : W'.ownsRow w.heap.size 9 1 v' (T.length + 1) (T.map Value.string ++ [.string s])) (hg : W.grownBy W' z.ownBlock) (hb : v'.ownBlock = z.ownBlock ∨ v'.ownBlock = some W.heap.size) :
    Again w W' b m (L ++ [((n : Int) + 1, s.data.toList)]) (n + 1) v' (T ++ [s]) := by
  have ha : Ap (fun k => z.ownBlock = some k) W W' := Ap.grown (S := fun k => z.ownBlock = some k) (Ap.refl W) hg (fun k hk => .inl hk)
  have hp := h.pool.at'.ap ha (fun e => (h.texts.apart b e).1 rfl) (fun e => (h.texts.apart m e).2 rfl)
  have hmlt := h.pool.at'.map.lt
  have hblt := h.pool.at'.lt
  refine ⟨⟨hp, h.pool.hb, h.pool.hm, h.pool.be.trans (ha.below h.pool.be.size (fun k hk => (World.ownsRow.lt h.texts.own k hk).1))⟩, ⟨by rw [List.length_append, List.map_append]; exact ho, fun g hg' => ?_⟩, by rw [List.length_append, h.len]; rfl, h.say⟩
  rcases hb with hb | hb
  · exact h.texts.apart g (hb ▸ hg')
  · rw [hb] at hg'
    injection hg' with hg'
    omega
theorem Again.start {w W : World} (d : PoolNew w W (w.heap.size + 1) w.heap.size [] 0) : Again w (W.alloc (.cells #[.string ⟨#[]⟩] 9)) (w.heap.size + 1) w.heap.size [] 0 (.slice (some ⟨W.heap.size, 0, none⟩) 1 1) [⟨#[]⟩] := by
  have hb := below1P W (.cells #[.string ⟨#[]⟩] 9)
  have h1 := d.at'.lt
  refine ⟨d.below hb, ⟨⟨rfl, .inr ⟨W.heap.size, 1, #[.string ⟨#[]⟩], rfl, d.be.size, heap_alloc_new W _, Nat.le_refl _, by unfold maxLen; omega, rfl, rfl⟩⟩, fun g hg => ?_⟩, rfl, fun p hp => by cases hp⟩
  have hg' : some W.heap.size = some g := hg
  injection hg' with hg'
  omega
theorem Again.text {w W : World} {b m n : Nat} {L : PL} {z : Value} {T : List ByteArray} (h : Again w W b m L n z T) : ∃ g cap, z = .slice (some ⟨g, 0, none⟩) (n + 1) cap ∧ n + 1 ≤ cap ∧ cap ≤ maxLen ∧ g < W.heap.size ∧ ∀ x, x < n + 1 → W.cell? ⟨g, x, none⟩ = some (.string (T.getD x ⟨#[]⟩)) := by
  have hl := h.len
  rcases h.texts.own.2 with ⟨_, h0⟩ | ⟨g, cap, cur, hv, hg, hh, hn, hm, hs, ht⟩
  · omega
  · rw [hl] at hv hn
    refine ⟨g, cap, hv, hn, hm, (Array.getElem?_eq_some_iff.1 hh).1, fun x hx => ?_⟩
    have hx' : x < T.length := by omega
    rw [Nat.mul_one] at ht
    rw [cell_of_row W g x cur _ (0, 0) hh]
    have h1 : (T.map Value.string)[x]? = some (.string (T.getD x ⟨#[]⟩)) := by rw [List.getElem?_map, List.getD, List.getElem?_eq_getElem hx']; rfl
    rw [← ht, List.getElem?_take, if_pos hx'] at h1
    rw [← h1]; simp
theorem bytes_of {s : ByteArray} {l : List UInt8} (h : s.data.toList = l) : (⟨l.toArray⟩ : ByteArray) = s := by rw [← h, Array.toArray_toList]
theorem Again.get {w W : World} {b m n : Nat} {L : PL} {z : Value} {T : List ByteArray} (h : Again w W b m L n z T) {y : Nat} (hy : (y : Int) ∈ idsP L) (hn : n ≤ 1073741824) :
    Calls Try.prog 9 #[.pointer (some ⟨b, 0, none⟩), .int .i64 (y : Int)] W fun e w' => e = .returned (.tuple #[.string (T.getD y ⟨#[]⟩), .int .i64 0]) ∧ Below W.heap.size W w' := by
  have hr := h.pool.at'.rng _ hy
  have hg := poolGet_any h.pool.at' (y : Int) (by omega)
  unfold idsP at hy
  obtain ⟨p, hp, he⟩ := List.mem_map.1 hy
  have e1 := getP_some h.pool.at'.rise hp
  rw [he] at e1
  have e2 := h.say p hp
  rw [he, Int.toNat_natCast] at e2
  rw [show getV L y = p.2 by unfold getV; rw [e1]; rfl, show getE L y = 0 by unfold getE; rw [e1]; rfl, bytes_of e2] at hg
  exact hg
theorem nextP (j : Nat) (h : j ≤ 1000) : wrap64 ((j : Int) + 1) = (j : Int) + 1 ∧ IntKind.i64.wrap ((j : Int) + 1) = (j : Int) + 1 := by
  have h1 : wrap64 ((j : Int) + 1) = (j : Int) + 1 := by unfold wrap64; omega
  exact ⟨h1, by rw [IntKind.wrap_i64]; unfold wrap64 at h1; exact h1⟩
end Go.Proofs.Ytmnjcmpikbihaaa
