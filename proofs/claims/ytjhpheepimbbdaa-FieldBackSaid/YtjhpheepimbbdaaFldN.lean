/- The walk of FieldTells. -/
import Derived.Test.YtjhpheepimbbdaaFldL
namespace Go.Proofs.Ytjhpheepimbbdaa
open Go.RowKit

def IW (a : Int) : Prop := -9223372036854775808 ≤ a ∧ a ≤ 9223372036854775807
set_option maxRecDepth 100000 in
set_option maxHeartbeats 4000000 in
theorem fieldTells_walk {w : World} {k a b : Int} {n c : Nat} {s : ByteArray} (hn : n < 18446744073709551616) (hc : c < 4294967296) (ha : IW a) (hb : IW b) :
    Calls Try.prog 3 #[.int .i64 k, .int .u64 (n : Int), .string s, .agg #[.int .i64 a, .int .i64 b, .int .u32 (c : Int)]] w fun e w' => e = .returned (.bool true) ∧ Below w.heap.size w w' := by
  have h1 := fldPut_any k n
  have h2 := refPut_any k n hn
  have h3 := fldGet_any k s
  have h4 := refGet_any k s
  have h5 := fldText_any s
  have h6 := refText_any s
  have h7 := fldPtr_any a b c hc
  have h8 := refPtr_any a b c hc ha.1 hb.1
  have h9 := fldGetPtr_any s
  have h10 := refGetPtr_any s
  unfold getPV at h9 h10
  generalize (⟨(putS k n).toArray⟩ : ByteArray) = z1 at *
  generalize putE k n = e1 at *
  generalize getN k s.data.toList = z2 at *
  generalize getE k s.data.toList = e2 at *
  generalize (⟨(textS s.data.toList).toArray⟩ : ByteArray) = z3 at *
  generalize textE s.data.toList = e3 at *
  generalize (⟨(ptrS a b c).toArray⟩ : ByteArray) = z4 at *
  generalize ptrE a b c = e4 at *
  generalize getA s.data.toList 0 = x0 at *
  generalize getA s.data.toList 1 = x1 at *
  generalize getA s.data.toList 2 = x2 at *
  generalize getPE s.data.toList = e5 at *
  clear hn hc ha hb
  have HX0 := Lib.hid (B3.new w (.int .i64 a) (.int .i64 b) (.int .u32 (c : Int)) 25)
  have HB0 : Hid (Below w.heap.size w (w.alloc (.cells #[.int .i64 a, .int .i64 b, .int .u32 (c : Int)] 25))) := Lib.hid ((Below.refl _ _).alloc (Nat.le_refl _) _)
  go_enter Try.func3, Try.ntmps3
  go_upto_region 1 with fail
  generalize w.alloc (.cells #[.int .i64 a, .int .i64 b, .int .u32 (c : Int)] 25) = w0 at HX0 HB0 ⊢
  go_wp2_with (first
    | (go_at_call 6; with_reducible refine (h1 _).mono ?_; rintro e w1 ⟨rfl, hb1⟩; have HX1 := Lib.hid (HX0.out.below hb1 HX0.out.lt); have HB1 := Lib.hid (HB0.out.trans (hb1.mono HB0.out.size)); clear hb1)
    | (go_at_call 7; with_reducible refine (h2 _).mono ?_; rintro e w2 ⟨rfl, hb2⟩; have HX2 := Lib.hid (HX1.out.below hb2 HX1.out.lt); have HB2 := Lib.hid (HB1.out.trans (hb2.mono HB1.out.size)); clear hb2)
    | (go_at_call 8; with_reducible refine (h3 _).mono ?_; rintro e w3 ⟨rfl, hb3⟩; have HX3 := Lib.hid (HX2.out.below hb3 HX2.out.lt); have HB3 := Lib.hid (HB2.out.trans (hb3.mono HB2.out.size)); clear hb3)
    | (go_at_call 9; with_reducible refine (h4 _).mono ?_; rintro e w4 ⟨rfl, hb4⟩; have HX4 := Lib.hid (HX3.out.below hb4 HX3.out.lt); have HB4 := Lib.hid (HB3.out.trans (hb4.mono HB3.out.size)); clear hb4)
    | (go_at_call 10; with_reducible refine (h5 _).mono ?_; rintro e w5 ⟨rfl, hb5⟩; have HX5 := Lib.hid (HX4.out.below hb5 HX4.out.lt); have HB5 := Lib.hid (HB4.out.trans (hb5.mono HB4.out.size)); clear hb5)
    | (go_at_call 11; with_reducible refine (h6 _).mono ?_; rintro e w6 ⟨rfl, hb6⟩; have HX6 := Lib.hid (HX5.out.below hb6 HX5.out.lt); have HB6 := Lib.hid (HB5.out.trans (hb6.mono HB5.out.size)); obtain ⟨_, q0, q1, q2, _, _, _⟩ := HX6.out; clear hb6)
    | (go_at_call 12; with_reducible refine (h7 _).mono ?_; rintro e w7 ⟨rfl, hb7⟩; have HX7 := Lib.hid (HX6.out.below hb7 HX6.out.lt); have HB7 := Lib.hid (HB6.out.trans (hb7.mono HB6.out.size)); obtain ⟨_, q0, q1, q2, _, _, _⟩ := HX7.out; clear hb7)
    | (go_at_call 13; with_reducible refine (h8 _).mono ?_; rintro e w8 ⟨rfl, hb8⟩; have HB8 := Lib.hid (HB7.out.trans (hb8.mono HB7.out.size)); clear hb8)
    | (go_at_call 14; with_reducible refine (h9 _).mono ?_; rintro e w9 ⟨rfl, hb9⟩; have HB9 := Lib.hid (HB8.out.trans (hb9.mono HB8.out.size)); clear hb9)
    | (go_at_call 15; with_reducible refine (h10 _).mono ?_; rintro e w10 ⟨rfl, hb10⟩; have HY := Lib.hid ((B3.new w9 (.int .i64 (x0 : Int)) (.int .i64 (x1 : Int)) (.int .u32 (x2 : Int)) 25).below hb10 (by simp)); have HB10 := Lib.hid ((HB9.out.alloc HB9.out.size _).trans (hb10.mono (by rw [World.size_alloc]; have := HB9.out.size; omega))); clear hb10)
    | (go_at_call 16; with_reducible refine (fldLives_any _).mono ?_; rintro e w11 ⟨rfl, hb11⟩; obtain ⟨_, r0, r1, r2, _, _, _⟩ := (B3.new w10 (.int .i64 (x0 : Int)) (.int .i64 (x1 : Int)) (.int .u32 (x2 : Int)) 25).below hb11 (by simp)
       obtain ⟨_, t0, t1, t2, _, _, _⟩ := (HY.out.below ((Below.refl w10.heap.size w10).alloc (Nat.le_refl _) _) HY.out.lt).below hb11 (by rw [World.size_alloc]; have := HY.out.lt; omega)
       have HB11 := Lib.hid ((HB10.out.alloc HB10.out.size _).trans (hb11.mono (by rw [World.size_alloc]; have := HB10.out.size; omega))); clear hb11))
  go_ret
  exact ⟨rfl, HB11.out⟩
end Go.Proofs.Ytjhpheepimbbdaa
