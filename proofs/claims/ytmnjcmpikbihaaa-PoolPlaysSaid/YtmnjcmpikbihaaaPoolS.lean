/- Pools: what is known after some acts of PoolPlays. -/
import Derived.Test.YtmnjcmpikbihaaaPoolR
import Derived.Test.YtmnjcmpikbihaaaPoolG
namespace Go.Proofs.Ytmnjcmpikbihaaa
open Go.RowKit Go.Maps

/-- No text is long. -/
def Sized (L : PL) : Prop := ∀ p ∈ L, p.2.length ≤ 65536
theorem bytes_sized : ∀ {L : PL}, Sized L → bytesP L ≤ L.length * 65536
  | [], _ => Nat.le_refl _
  | p :: r, h => by
    have h1 := bytes_sized (L := r) (fun q hq => h q (List.mem_cons_of_mem _ hq))
    have h2 := h p (List.mem_cons_self ..)
    have e : bytesP (p :: r) = p.2.length + bytesP r := by simp [bytesP]
    rw [e, List.length_cons]; omega
theorem Sized.keep {L : PL} (h : Sized L) (K : List Int) : Sized (keepP L K) := fun p hp => h p (keepP_mem.1 hp).1
theorem Sized.add {L : PL} (h : Sized L) (n : Nat) (s : ByteArray) : Sized (addL L n s) := by
  unfold addL
  split
  · rename_i he
    intro p hp
    rcases List.mem_append.1 hp with hp | hp
    · exact h p hp
    · rw [List.mem_singleton] at hp
      subst hp
      have : ¬ 65536 < s.size := fun hc => by unfold addE at he; rw [if_pos hc] at he; cases he
      show s.data.toList.length ≤ 65536
      rw [Array.length_toList]; exact Nat.le_of_not_lt this
  · exact h
/-- A pool, and the document's in its box. -/
structure KP (w W : World) (bx b m : Nat) (L : PL) (n : Nat) (v : Value) : Prop where
  pool : PoolNew w W b m L n
  lt : bx < W.heap.size
  hx : w.heap.size ≤ bx
  c0 : W.cell? ⟨bx, 0, none⟩ = some v
  c1 : W.cell? ⟨bx, 1, none⟩ = some (.int .i64 (n : Int))
  f0 : W.frozen? ⟨bx, 0, none⟩ = false
  f1 : W.frozen? ⟨bx, 1, none⟩ = false
  row : W.ownsRow w.heap.size 52 2 v L.length (L.flatMap enc1)
  apart : ∀ g, v.ownBlock = some g → g ≠ b ∧ g ≠ m ∧ g ≠ bx
  nb : bx ≠ b
  nm : bx ≠ m
  sz : Sized L
theorem KP.below {w W W' : World} {bx b m n : Nat} {L : PL} {v : Value} (h : KP w W bx b m L n v) (a : Below W.heap.size W W') : KP w W' bx b m L n v :=
  have ap : Ap (fun _ => False) W W' := Ap.of_below a
  ⟨h.pool.below a, Nat.lt_of_lt_of_le h.lt a.size, h.hx, (ap.cell h.lt id 0).trans h.c0, (ap.cell h.lt id 1).trans h.c1, (ap.frozen h.lt id 0).trans h.f0, (ap.frozen h.lt id 1).trans h.f1, ownS_keep h.row a, h.apart, h.nb, h.nm, h.sz⟩
theorem KP.one {w W : World} {bx b m n : Nat} {L : PL} {v : Value} (h : KP w W bx b m L n v) : OneS W v L := StS.of_own enc1_len h.row
theorem KP.bytes {w W : World} {bx b m n : Nat} {L : PL} {v : Value} (h : KP w W bx b m L n v) (hn : n ≤ 1000) : (bytesP L : Int) ≤ 4611686018427387904 := by
  have h1 := bytes_sized h.sz
  have h2 := h.pool.at'.len
  omega
/-- The start: both are empty. -/
theorem KP.start {w W : World} (d : PoolNew w W (w.heap.size + 1) w.heap.size [] 0) : KP w (W.alloc (.cells #[.slice none 0 0, .int .i64 0] 28)) W.heap.size (w.heap.size + 1) w.heap.size [] 0 (.slice none 0 0) := by
  have hb := below1P W (.cells #[.slice none 0 0, .int .i64 0] 28)
  have hh := heap_alloc_new W (.cells #[.slice none 0 0, .int .i64 0] 28)
  have h1 := d.at'.lt
  exact ⟨d.below hb, by simp, d.be.size, by rw [cell_of_row _ _ _ _ _ (0, 0) hh]; rfl, by rw [cell_of_row _ _ _ _ _ (0, 0) hh]; rfl, frozen_of_row _ _ _ _ _ hh, frozen_of_row _ _ _ _ _ hh, World.ownsRow_nil _ _ _ _, fun g hg => (by cases hg), by omega, by omega, fun p hp => (by cases hp)⟩
/-- Both have turned, but the document's lies in a box of its own yet. -/
structure KM (w W : World) (bx b m : Nat) (L : PL) (n : Nat) (v : Value) (b7 : Nat) : Prop where
  pool : PoolNew w W b m L n
  lt : bx < W.heap.size
  hx : w.heap.size ≤ bx
  c : ∃ A k c x, W.cell? ⟨bx, 0, none⟩ = some (.slice A k c) ∧ W.cell? ⟨bx, 1, none⟩ = some (.int .i64 x)
  f0 : W.frozen? ⟨bx, 0, none⟩ = false
  f1 : W.frozen? ⟨bx, 1, none⟩ = false
  y0 : W.cell? ⟨b7, 0, none⟩ = some v
  y1 : W.cell? ⟨b7, 1, none⟩ = some (.int .i64 (n : Int))
  row : W.ownsRow w.heap.size 52 2 v L.length (L.flatMap enc1)
  apart : ∀ g, v.ownBlock = some g → g ≠ b ∧ g ≠ m ∧ g ≠ bx
  nb : bx ≠ b
  nm : bx ≠ m
  sz : Sized L
theorem KP.turn {w W0 W1 W3 : World} {bx b m m' : Nat} {L L' : PL} {n n' : Nat} {v v' : Value} (h : KP w W0 bx b m L n v) (hb : Below W0.heap.size W0 W1) (ho : W1.ownsRow w.heap.size 52 2 v' L'.length (L'.flatMap enc1)) (hv : ∀ g, v'.ownBlock = some g → v.ownBlock = some g ∨ W0.heap.size ≤ g)
    (hp : PoolAt W3 b m' L' n') (hm : m' = m ∨ W1.heap.size + 1 ≤ m') (ha : Ap (fun k => k = b ∨ k = m) (W1.alloc (.cells #[v', .int .i64 (n' : Int)] 28)) W3) (hs : Sized L') : KM w W3 bx b m' L' n' v' W1.heap.size := by
  have hbn := below1P W1 (.cells #[v', .int .i64 (n' : Int)] 28)
  have hh := heap_alloc_new W1 (.cells #[v', .int .i64 (n' : Int)] 28)
  have k1 := h.below hb
  have k2 := k1.below hbn
  have hblt := h.pool.at'.lt
  have hmlt := h.pool.at'.map.lt
  have hxlt := h.lt
  have hsz := hb.size
  have h7 : W1.heap.size < (W1.alloc (.cells #[v', .int .i64 (n' : Int)] 28)).heap.size := by simp
  have n7 : ¬ (W1.heap.size = b ∨ W1.heap.size = m) := by omega
  have nx : ¬ (bx = b ∨ bx = m) := by have := h.nb; have := h.nm; omega
  have hg : ∀ g, v'.ownBlock = some g → g ≠ b ∧ g ≠ m ∧ g ≠ bx := fun g hg => by
    rcases hv g hg with h1 | h1
    · exact h.apart g h1
    · exact ⟨by omega, by omega, by omega⟩
  have hform := ownS_form h.row
  obtain ⟨A, k, rfl, -, -⟩ := hform
  have hpn : PoolNew w W3 b m' L' n' := k2.pool.ap hp (by rcases hm with e | e
                                                          · rw [e]; exact h.pool.hm
                                                          · have := h.pool.be.size; omega) ha
  have hc0 : W3.cell? ⟨W1.heap.size, 0, none⟩ = some v' := (ha.cell h7 n7 0).trans (by rw [cell_of_row _ _ _ _ _ (0, 0) hh]; rfl)
  have hc1 : W3.cell? ⟨W1.heap.size, 1, none⟩ = some (.int .i64 (n' : Int)) := (ha.cell h7 n7 1).trans (by rw [cell_of_row _ _ _ _ _ (0, 0) hh]; rfl)
  refine ⟨hpn, Nat.lt_of_lt_of_le k2.lt ha.size, h.hx, ⟨_, _, _, _, (ha.cell k2.lt nx 0).trans k2.c0, (ha.cell k2.lt nx 1).trans k2.c1⟩, (ha.frozen k2.lt nx 0).trans k2.f0, (ha.frozen k2.lt nx 1).trans k2.f1, hc0, hc1, own_ap (ownS_keep ho hbn) ha (fun g e => by have := hg g e; omega), fun g e => ⟨(hg g e).1, ?_, (hg g e).2.2⟩, h.nb, ?_, hs⟩
  · rcases hm with e2 | e2
    · rw [e2]; exact (hg g e).2.1
    · have := (World.ownsRow.lt ho g e).2; omega
  · rcases hm with e2 | e2
    · rw [e2]; exact h.nm
    · omega
theorem KM.done {w W : World} {bx b m n : Nat} {L : PL} {v : Value} {b7 : Nat} (h : KM w W bx b m L n v b7) : KP w ((W.setCell ⟨bx, 0, none⟩ v).setCell ⟨bx, 1, none⟩ (.int .i64 (n : Int))) bx b m L n v := by
  have ha : Ap (fun k => k = bx) W ((W.setCell ⟨bx, 0, none⟩ v).setCell ⟨bx, 1, none⟩ (.int .i64 (n : Int))) := Ap.setCell (S := fun k => k = bx) (p := ⟨bx, 1, none⟩) (Ap.setCell (S := fun k => k = bx) (p := ⟨bx, 0, none⟩) (Ap.refl W) (.inl rfl) _) (.inl rfl) _
  obtain ⟨A, k, c, x, c0, c1⟩ := h.c
  have f0 := h.f0
  have f1 := h.f1
  refine ⟨⟨h.pool.at'.ap ha (fun e => h.nb e.symm) (fun e => h.nm e.symm), h.pool.hb, h.pool.hm, h.pool.be.trans (ha.below h.pool.be.size (fun k hk => by rw [hk]; exact h.hx))⟩, Nat.lt_of_lt_of_le h.lt ha.size, h.hx, by go_cell, by go_cell, by rw [World.frozen?_setCell, World.frozen?_setCell]; exact f0, by rw [World.frozen?_setCell, World.frozen?_setCell]; exact f1, own_ap h.row ha (fun g e => (h.apart g e).2.2), h.apart, h.nb, h.nm, h.sz⟩
/-- Goes on with a clone; the old one is gone another way. -/
theorem KP.clone {w W0 W2 W3 : World} {bx b m b' m' n : Nat} {L : PL} {v : Value} (h : KP w W0 bx b m L n v) (hp : PoolAt W2 b' m' L n) (h1 : W0.heap.size ≤ b') (h2 : W0.heap.size ≤ m') (hb : Below W0.heap.size W0 W2) (ha : Ap (fun k => k = b ∨ k = m) W2 W3) : KP w W3 bx b' m' L n v := by
  have k := h.below hb
  have hblt := h.pool.at'.lt
  have hmlt := h.pool.at'.map.lt
  have hxlt := h.lt
  have nx : ¬ (bx = b ∨ bx = m) := by have := h.nb; have := h.nm; omega
  refine ⟨⟨hp.ap ha (by omega) (by omega), Nat.le_trans h.pool.be.size h1, Nat.le_trans h.pool.be.size h2, (h.pool.be.trans (hb.mono h.pool.be.size)).trans (ha.below (Nat.le_trans h.pool.be.size hb.size) (fun q hq => by have := h.pool.hb; have := h.pool.hm; omega))⟩, Nat.lt_of_lt_of_le k.lt ha.size, h.hx, (ha.cell k.lt nx 0).trans k.c0, (ha.cell k.lt nx 1).trans k.c1, (ha.frozen k.lt nx 0).trans k.f0, (ha.frozen k.lt nx 1).trans k.f1, own_ap k.row ha (fun g e => by have := h.apart g e; omega), fun g e => ?_, by omega, by omega, h.sz⟩
  have h3 := h.apart g e
  have h4 := (World.ownsRow.lt h.row g e).2
  exact ⟨by omega, by omega, h3.2.2⟩
end Go.Proofs.Ytmnjcmpikbihaaa
