/- A call, done to both: the device, and the document's answer. -/
import Derived.Test.YtmbjcphhfnemgaaRdK
namespace Go.Proofs.Ytmbjcphhfnemgaa
open Go.RowKit Go.Maps

theorem RowS.apart {W : World} {b n : Nat} {f : Nat → SM} {h : DH} {M : DM} (k : RowS W b n f) (hn : 1 ≤ n) (d : DevAt W h M) : ¬ h.S b := by
  have c := (k.2.1 0 (by omega)).c0
  rw [Nat.zero_mul] at c
  rintro (rfl | rfl | rfl | rfl)
  · rw [d.c0] at c; cases c
  · have := (d.rows 0 d.n1).2 0 (by rw [d.lens 0 d.n1]; omega)
    rw [Nat.zero_mul, Nat.zero_add, c] at this
    cases this.1
  · obtain ⟨D, ⟨es, clock, hb, _⟩, _⟩ := d.wait
    simp [World.cell?, hb] at c
  · obtain ⟨D, ⟨es, clock, hb, _⟩, _⟩ := d.badm
    simp [World.cell?, hb] at c
theorem RG.ap {W W' : World} {v : Value} {n : Nat} {f : Nat → SM} {off : Bool} {left : Int} {wr : Nat} {h : DH} {M : DM} (k : RG W v n f off left wr) (hn : 1 ≤ n) (d : DevAt W h M) (a : Ap h.S W W') : RG W' v n f off left wr := by
  obtain ⟨b, cap, hv, h1, h2, h3⟩ := k
  exact ⟨b, cap, hv, h1, h2, h3.ap a (h3.apart hn d)⟩
/-- An act, as a block of its own holds it. -/
structure AF (W : World) (b : Nat) (x : AM) : Prop where
  lt : b < W.heap.size
  c0 : W.cell? ⟨b, 0, none⟩ = some (.int .i64 x.kind)
  c1 : W.cell? ⟨b, 1, none⟩ = some (.int .i64 x.pos)
  c2 : W.cell? ⟨b, 2, none⟩ = some (.int .u8 (x.c.toNat : Int))
  c3 : W.cell? ⟨b, 3, none⟩ = some x.kv
  c4 : W.cell? ⟨b, 4, none⟩ = some (.int .i64 x.num)
  c5 : W.cell? ⟨b, 5, none⟩ = some (.int .u32 x.turn)
theorem AF.ap {S : Nat → Prop} {W W' : World} {b : Nat} {x : AM} (k : AF W b x) (a : Ap S W W') (hn : ¬ S b) : AF W' b x :=
  ⟨Nat.lt_of_lt_of_le k.lt a.size, (a.cell k.lt hn _).trans k.c0, (a.cell k.lt hn _).trans k.c1, (a.cell k.lt hn _).trans k.c2, (a.cell k.lt hn _).trans k.c3, (a.cell k.lt hn _).trans k.c4, (a.cell k.lt hn _).trans k.c5⟩
theorem AF.below {W W' : World} {b : Nat} {x : AM} (k : AF W b x) (hb : Below W.heap.size W W') : AF W' b x := k.ap (S := fun _ => False) (Ap.of_below hb) id
def AM.v (x : AM) : Value := .agg #[.int .i64 x.kind, .int .i64 x.pos, .int .u8 (x.c.toNat : Int), x.kv, .int .i64 x.num, .int .u32 x.turn]
theorem AF.new (w : World) (x : AM) (t : Nat) : AF (w.alloc (.cells #[.int .i64 x.kind, .int .i64 x.pos, .int .u8 (x.c.toNat : Int), x.kv, .int .i64 x.num, .int .u32 x.turn] t)) w.heap.size x :=
  ⟨by simp, by simp [go_sem], by simp [go_sem], by simp [go_sem], by simp [go_sem], by simp [go_sem], by simp [go_sem]⟩
/-- What comes of a step. -/
def Both (w : World) (h : DH) (M : DM) (e : Ending) (w' : World) : Prop :=
  ∃ (v' : Value) (M' : DM), e = .returned (.tuple #[v', .bool true]) ∧ DevAt w' h M' ∧ RefAt w' v' M' ∧ Nrm M' ∧ M'.n = M.n ∧ M'.writes ≤ M.writes + 1 ∧ Ap h.S w w'
/-- The places at the start of does. -/
structure DS (w W : World) (h : DH) (M : DM) (v0 v1 v2 v3 : Value) (x : AM) : Prop where
  d : DevAt W h M
  r : RefAt W (.agg #[v0, v1, v2, v3]) M
  b4 : Bx W w.heap.size v0 v1 v2 v3
  b5 : AF W (w.heap.size + 1) x
  b6 : Bx W (w.heap.size + 1 + 1) (.slice none 0 0) (.bool false) (.int .i64 0) (.int .i64 0)
  a : Ap h.S w W
theorem does_start {w : World} {h : DH} {M : DM} {v0 v1 v2 v3 : Value} (d : DevAt w h M) (k : RefAt w (.agg #[v0, v1, v2, v3]) M) (x : AM) :
    DS w (((w.alloc (.cells #[v0, v1, v2, v3] 30)).alloc (.cells #[.int .i64 x.kind, .int .i64 x.pos, .int .u8 (x.c.toNat : Int), x.kv, .int .i64 x.num, .int .u32 x.turn] 36)).alloc (.cells #[.slice none 0 0, .bool false, .int .i64 0, .int .i64 0] 30)) h M v0 v1 v2 v3 x := by
  have B1 := below1 w (.cells #[v0, v1, v2, v3] 30)
  have B2 := below1 (w.alloc (.cells #[v0, v1, v2, v3] 30)) (.cells #[.int .i64 x.kind, .int .i64 x.pos, .int .u8 (x.c.toNat : Int), x.kv, .int .i64 x.num, .int .u32 x.turn] 36)
  have B3 := below1 ((w.alloc (.cells #[v0, v1, v2, v3] 30)).alloc (.cells #[.int .i64 x.kind, .int .i64 x.pos, .int .u8 (x.c.toNat : Int), x.kv, .int .i64 x.num, .int .u32 x.turn] 36)) (.cells #[.slice none 0 0, .bool false, .int .i64 0, .int .i64 0] 30)
  have B := (B1.trans (B2.mono (by simp))).trans (B3.mono (by simp; omega))
  refine ⟨d.below B, k.below B, ((Bx.new w v0 v1 v2 v3 _).below B2).below B3, ?_, ?_, Ap.of_below B⟩
  · have h1 := (AF.new (w.alloc (.cells #[v0, v1, v2, v3] 30)) x 36).below B3
    rw [show (w.alloc (.cells #[v0, v1, v2, v3] 30)).heap.size = w.heap.size + 1 by simp] at h1
    exact h1
  · have h1 := Bx.new ((w.alloc (.cells #[v0, v1, v2, v3] 30)).alloc (.cells #[.int .i64 x.kind, .int .i64 x.pos, .int .u8 (x.c.toNat : Int), x.kv, .int .i64 x.num, .int .u32 x.turn] 36)) (.slice none 0 0) (.bool false) (.int .i64 0) (.int .i64 0) 30
    rw [show ((w.alloc (.cells #[v0, v1, v2, v3] 30)).alloc (.cells #[.int .i64 x.kind, .int .i64 x.pos, .int .u8 (x.c.toNat : Int), x.kv, .int .i64 x.num, .int .u32 x.turn] 36)).heap.size = w.heap.size + 1 + 1 by simp] at h1
    exact h1
/-- The end: the answer is stored. -/
theorem does_stored {w W : World} {h : DH} {M' : DM} {z1 z2 z3 u0 u1 u2 u3 : Value} (hz : Bx W (w.heap.size + 1 + 1) (.slice none 0 0) z1 z2 z3) (d : DevAt W h M') (r : RefAt W (.agg #[u0, u1, u2, u3]) M') (a : Ap h.S w W) (hS : ∀ k, h.S k → k < w.heap.size) :
    Bx (put4 W (w.heap.size + 1 + 1) u0 u1 u2 u3) (w.heap.size + 1 + 1) u0 u1 u2 u3 ∧ DevAt (put4 W (w.heap.size + 1 + 1) u0 u1 u2 u3) h M' ∧ RefAt (put4 W (w.heap.size + 1 + 1) u0 u1 u2 u3) (.agg #[u0, u1, u2, u3]) M' ∧ Ap h.S w (put4 W (w.heap.size + 1 + 1) u0 u1 u2 u3) := by
  have A := ap_put4 W (w.heap.size + 1 + 1) u0 u1 u2 u3
  refine ⟨hz.put u0 u1 u2 u3, d.ap A (fun k hk e => by have := hS k hk; omega), ?_, ?_⟩
  · obtain ⟨b, cap, hv, h1, h2, h3⟩ := r
    refine ⟨b, cap, hv, h1, h2, h3.ap A (fun e => ?_)⟩
    subst e
    have c := (h3.2.1 0 d.n1).c0
    rw [Nat.zero_mul, hz.c0] at c
    cases c
  · have q (i : Nat) : h.S (Addr.mk (w.heap.size + 1 + 1) i none).block ∨ w.heap.size ≤ (Addr.mk (w.heap.size + 1 + 1) i none).block := .inr (by show w.heap.size ≤ w.heap.size + 1 + 1; omega)
    exact (((a.setCell (q 0) u0).setCell (q 1) u1).setCell (q 2) u2).setCell (q 3) u3
theorem DS.below {w W W' : World} {h : DH} {M : DM} {v0 v1 v2 v3 : Value} {x : AM} (k : DS w W h M v0 v1 v2 v3 x) (hb : Below W.heap.size W W') : DS w W' h M v0 v1 v2 v3 x :=
  ⟨k.d.below hb, k.r.below hb, k.b4.below hb, k.b5.below hb, k.b6.below hb, k.a.trans (Ap.of_below hb)⟩
theorem DS.drew {w W : World} {h : DH} {M : DM} {v0 v1 v2 v3 : Value} {x : AM} (k : DS w W h M v0 v1 v2 v3 x) : DS w W.drew h M v0 v1 v2 v3 x := k.below ((Below.refl _ _).drew)
end Go.Proofs.Ytmbjcphhfnemgaa
