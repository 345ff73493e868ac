/- What comes back of a stripe some of whose pieces are lost; what one changed byte changes. -/
import Derived.Test.YtpldnbfbpajbkabDoorRsMath
namespace Go.Proofs.YtpldnbfbpajbkabDoor
open Go.RowKit
open Caulk.Lin (Fn2 invM sx sx_congr sx_xor sx_single stack)
open Caulk.Gf (mul mul_xorR mul_zeroR)

/-- The pieces, those that are lost left out. -/
def pcL (T : List ByteArray) (q : Nat → Bool) (c : Nat) : List (Bool × ByteArray) := (List.range c).map fun i => if q i then (false, ByteArray.empty) else (true, T.getD i ByteArray.empty)
theorem pcL_len (T : List ByteArray) (q : Nat → Bool) (c : Nat) : (pcL T q c).length = c := by simp [pcL]
theorem pcL_at (T : List ByteArray) (q : Nat → Bool) {c i : Nat} (h : i < c) : (pcL T q c).getD i (false, ByteArray.empty) = if q i then (false, ByteArray.empty) else (true, T.getD i ByteArray.empty) := by simp [pcL, List.getD, h]
theorem pcL_succ (T : List ByteArray) (q : Nat → Bool) (c : Nat) : pcL T q (c + 1) = pcL T q c ++ [if q c then (false, ByteArray.empty) else (true, T.getD c ByteArray.empty)] := by simp [pcL, List.range_succ]
theorem pcL_q (T : List ByteArray) (q : Nat → Bool) {c i : Nat} (h : i < c) : thQ (pcL T q c) i = !q i := by
  unfold thQ
  rw [pcL_at T q h]
  cases q i <;> rfl
/-- How many are there. -/
def cntB (q : Nat → Bool) : Nat → Nat
  | 0 => 0
  | c + 1 => cntB q c + (if q c then 0 else 1)
theorem cntB_le (q : Nat → Bool) : ∀ c, cntB q c ≤ c
  | 0 => Nat.le_refl _
  | c + 1 => by have := cntB_le q c; unfold cntB; split <;> omega
theorem thL_cnt (T : List ByteArray) (q : Nat → Bool) (c : Nat) : (thL (pcL T q c)).length = cntB q c := by
  unfold thL
  rw [pcL_len]
  have e : thAt (thQ (pcL T q c)) c = thAt (fun i => !q i) c := by
    unfold thAt
    exact List.filter_congr (fun i hi => pcL_q T q (List.mem_range.1 hi))
  rw [e]
  clear e
  induction c with
  | zero => rfl
  | succ c ih =>
    rw [thAt_succ, List.length_append, ih, show cntB q (c + 1) = cntB q c + (if q c then 0 else 1) from rfl]
    cases q c <;> rfl
theorem thL_there (T : List ByteArray) (q : Nat → Bool) (c : Nat) {x : Nat} (h : x ∈ thL (pcL T q c)) : x < c ∧ thD (pcL T q c) x = T.getD x ByteArray.empty := by
  have hlt := thL_lt _ x h
  rw [pcL_len] at hlt
  refine ⟨hlt, ?_⟩
  unfold thL thAt at h
  have h2 := (List.mem_filter.1 h).2
  rw [pcL_q T q hlt] at h2
  have h3 : q x = false := by simpa using h2
  unfold thD
  rw [pcL_at T q hlt, h3]; rfl
theorem thS_at (T : List ByteArray) (q : Nat → Bool) (c : Nat) {j : Nat} (h : j < (thL (pcL T q c)).length) : (thS (pcL T q c)).getD j ByteArray.empty = T.getD ((thL (pcL T q c)).getD j 0) ByteArray.empty := by
  have e : (thL (pcL T q c)).getD j 0 = (thL (pcL T q c))[j] := by rw [List.getD, List.getElem?_eq_getElem h]; rfl
  have hm : (thL (pcL T q c)).getD j 0 ∈ thL (pcL T q c) := by rw [e]; exact List.getElem_mem h
  rw [← (thL_there T q c hm).2, e]
  unfold thS
  rw [List.getD, List.getElem?_map, List.getElem?_eq_getElem h]; rfl
theorem thS_len (P : List (Bool × ByteArray)) : (thS P).length = (thL P).length := by simp [thS]
theorem stripe_alike {K M n : Nat} {D : List ByteArray} (hk : 1 ≤ K) (hl : D.length = K) (hn : ∀ j, j < K → (D.getD j ByteArray.empty).size = n) (q : Nat → Bool) : ∀ j, j < (thS (pcL (stripeL K M D) q (K + M))).length → ((thS (pcL (stripeL K M D) q (K + M))).getD j ByteArray.empty).size = n := fun j hj => by
  rw [thS_len] at hj
  rw [thS_at _ q _ hj]
  have hm : (thL (pcL (stripeL K M D) q (K + M))).getD j 0 ∈ thL (pcL (stripeL K M D) q (K + M)) := by rw [List.getD, List.getElem?_eq_getElem hj]; exact List.getElem_mem hj
  exact stripe_size hl hk hn (thL_there _ q _ hm).1
theorem back_res {K M n : Nat} {D : List ByteArray} (hk : 1 ≤ K) (hkm : K + M ≤ 255) (hl : D.length = K) (hn : ∀ j, j < K → (D.getD j ByteArray.empty).size = n) (hn2 : n ≤ 65536) (q : Nat → Bool) :
    (cntB q (K + M) < K → decE K M (pcL (stripeL K M D) q (K + M)) = 10 ∧ decL K M (pcL (stripeL K M D) q (K + M)) = []) ∧
    (K ≤ cntB q (K + M) → decE K M (pcL (stripeL K M D) q (K + M)) = 0 ∧ decL K M (pcL (stripeL K M D) q (K + M)) = stripeL K M D) := by
  have h0 : rsE (K : Int) (M : Int) = 0 := if_pos (by omega)
  have hsz := stripe_alike (M := M) hk hl hn q
  have hcnt := thL_cnt (stripeL K M D) q (K + M)
  obtain ⟨P, hP⟩ : ∃ P, P = pcL (stripeL K M D) q (K + M) := ⟨_, rfl⟩
  have hlen : P.length = K + M := by rw [hP, pcL_len]
  have hat : ∀ j, j < (thL P).length → (thS P).getD j ByteArray.empty = (stripeL K M D).getD ((thL P).getD j 0) ByteArray.empty := fun j hj => by rw [hP] at hj ⊢; exact thS_at _ q _ hj
  rw [← hP] at hsz hcnt ⊢
  clear hP
  have hal : alikeB (thS P) = true := alikeB_true (alike_of rfl hsz hn2)
  have hc : (P.length : Int) = K + M ∧ alikeB (thS P) = true := ⟨by omega, hal⟩
  refine ⟨fun h => ?_, fun h => ?_⟩
  · have e : decE K M P = 10 := by
      unfold decE
      rw [if_pos h0, if_pos hc, if_pos (by omega)]
    exact ⟨e, by unfold decL; rw [if_neg (by rw [e]; decide)]⟩
  · have e : decE K M P = 0 := by
      unfold decE
      rw [if_pos h0, if_pos hc, if_neg (by omega)]
    refine ⟨e, ?_⟩
    unfold decL
    rw [if_pos e]
    exact dec_stripe (n := n) hk hkm (by omega) (fun x hx => by have := thL_lt P x hx; omega) hl hn (fun i hi => hat i (by omega)) (back_X hkm hlen (by omega))
theorem cauF_ne {k i j : Nat} (hj : j < k) (hk : k + i < 256) : cauF k i j ≠ 0 := by
  have h := cauX_ne (k := k) (i := i) hj hk
  unfold cauF invB
  rw [if_neg h]
  intro e
  have h2 := Caulk.Gf.mul_inv _ h
  rw [e, mul_zeroR] at h2
  exact absurd h2 (by decide)
/-- A byte that is put to one place of one piece of data changes that place of each piece of parity. -/
theorem weave_each {k n i p at' b : Nat} {by' : UInt8} {f : Fn2} {D E : List ByteArray} (hp : p < k) (hb : b < n)
    (h : ∀ j, j < k → byteAt (E.getD j ByteArray.empty) b = byteAt (D.getD j ByteArray.empty) b ^^^ (if j = p ∧ b = at' then by' else 0)) :
    byteAt (weaveS k n f E i) b = byteAt (weaveS k n f D i) b ^^^ (if b = at' then mul (f i p) by' else 0) := by
  rw [byteAt_weave _ _ _ hb, byteAt_weave _ _ _ hb]
  unfold weaveF
  have e : sx k (fun j => mul (f i j) (byteAt (E.getD j ByteArray.empty) b)) = sx k (fun j => mul (f i j) (byteAt (D.getD j ByteArray.empty) b) ^^^ mul (f i j) (if j = p ∧ b = at' then by' else 0)) :=
    sx_congr (fun j hj => by rw [h j hj, mul_xorR])
  have e2 : sx k (fun j => mul (f i j) (if j = p ∧ b = at' then by' else 0)) = mul (f i p) (if p = p ∧ b = at' then by' else 0) :=
    sx_single (f := fun j => mul (f i j) (if j = p ∧ b = at' then by' else 0)) (p := p) hp (fun j _ hne => by
      show mul (f i j) (if j = p ∧ b = at' then by' else 0) = 0
      rw [if_neg (fun q => hne q.1), mul_zeroR])
  rw [e, sx_xor, e2]
  congr 1
  by_cases g : b = at'
  · rw [if_pos g, if_pos ⟨rfl, g⟩]
  · rw [if_neg g, if_neg (fun q => g q.2), mul_zeroR]
/-- Whether both bytes of parity are alike. -/
theorem each_alike {k n i p at' b : Nat} {by' : UInt8} {D E : List ByteArray} (hp : p < k) (hb : b < n) (hk : k + i < 256)
    (h : ∀ j, j < k → byteAt (E.getD j ByteArray.empty) b = byteAt (D.getD j ByteArray.empty) b ^^^ (if j = p ∧ b = at' then by' else 0)) :
    byteAt (weaveS k n (cauF k) D i) b = byteAt (weaveS k n (cauF k) E i) b ↔ (b ≠ at' ∨ by' = 0) := by
  rw [weave_each (f := cauF k) (i := i) hp hb h]
  by_cases g : b = at'
  · rw [if_pos g]
    constructor
    · intro e
      right
      have e2 : mul (cauF k i p) by' = 0 := by
        have := congrArg (byteAt (weaveS k n (cauF k) D i) b ^^^ ·) e
        simp only [← UInt8.xor_assoc, UInt8.xor_self, UInt8.zero_xor] at this
        exact this.symm
      exact ((Caulk.Gf.mul_eq_zero _ _).1 e2).resolve_left (cauF_ne hp hk)
    · rintro (e | e)
      · exact absurd g e
      · rw [e, mul_zeroR, UInt8.xor_zero]
  · rw [if_neg g, UInt8.xor_zero]
    exact ⟨fun _ => .inl g, fun _ => rfl⟩
/-- What there is where the parity is made. -/
theorem enc_zero {k m : Int} {S : List ByteArray} (h : encE k m S = 0) : ∃ K M n : Nat, k = K ∧ m = M ∧ 1 ≤ K ∧ K + M ≤ 255 ∧ S.length = K ∧ (∀ j, j < K → (S.getD j ByteArray.empty).size = n) ∧ n ≤ 65536 ∧ encL k m S = weaveL M K n (cauF K) S := by
  have h' := h
  unfold encE at h'
  split at h'
  case isFalse => cases h'
  case isTrue h0 =>
    split at h'
    case isFalse => cases h'
    case isTrue h1 =>
      have hb : 1 ≤ k ∧ 0 ≤ m ∧ k + m ≤ 255 := by
        unfold rsE at h0
        by_cases g : 1 ≤ k ∧ 0 ≤ m ∧ k + m ≤ 255
        · exact g
        · rw [if_neg g] at h0; cases h0
      obtain ⟨K, rfl⟩ := Int.eq_ofNat_of_zero_le (show 0 ≤ k by omega)
      obtain ⟨M, rfl⟩ := Int.eq_ofNat_of_zero_le (show 0 ≤ m by omega)
      have hl : S.length = K := by have := h1.1; omega
      have hal := alikeB_iff.1 h1.2
      refine ⟨K, M, (S.getD 0 ByteArray.empty).size, rfl, rfl, by omega, by omega, hl, fun j hj => (hal j (by omega)).1, (hal 0 (by omega)).2, ?_⟩
      unfold encL
      rw [if_pos h]; rfl
theorem enc_fine {K M n : Nat} {S : List ByteArray} (hk : 1 ≤ K) (hkm : K + M ≤ 255) (hl : S.length = K) (hn : ∀ j, j < K → (S.getD j ByteArray.empty).size = n) (hn2 : n ≤ 65536) : encE K M S = 0 ∧ encL K M S = weaveL M K n (cauF K) S := by
  have he : encE K M S = 0 := by
    unfold encE
    rw [if_pos (show rsE (K : Int) (M : Int) = 0 from if_pos (by omega)), if_pos ⟨by omega, alikeB_true (alike_of hl hn hn2)⟩]
  refine ⟨he, ?_⟩
  unfold encL
  rw [if_pos he]
  show weaveL M K (S.getD 0 ByteArray.empty).size (cauF K) S = _
  rw [hn 0 (by omega)]
theorem StrsS.cellsOf {w : World} {ad : Addr} {n c : Nat} {L : List ByteArray} (h : StrsS w (.slice (some ad) n c) L) : ∀ j u, (L.map Value.string)[j]? = some u → w.cell? (ad.add j) = some u := fun j u hu => by
  have hj : j < L.length := by
    by_cases g : j < L.length
    · exact g
    · rw [List.getElem?_eq_none (by simp; omega)] at hu; cases hu
  obtain ⟨b, o, c', e, _, _, r⟩ := h.reads (by omega)
  injection e with e _ _
  injection e with e
  subst e
  rw [adr_add, (r w (Below.refl _ _) j hj).1]
  simp [hj] at hu
  simp [List.getD, hj, hu]
theorem strs_ones (L : List ByteArray) : ∀ u, u ∈ L.map Value.string → u.oneCell' = true := fun u hu => by obtain ⟨i, _, rfl⟩ := List.mem_map.1 hu; rfl
theorem strs_own {w : World} {B n : Nat} {v : Value} {S : List ByteArray} (h : w.ownsRow B 9 1 v n (S.map Value.string)) (hl : S.length = n) (hs : ∀ s, s ∈ S → s.size ≤ maxLen) : StrsS w v S := by
  subst hl
  have e : S.map Value.string = leftV (fun i => S.getD i ByteArray.empty) (List.range S.length) := by
    apply List.ext_getElem
    · simp [leftV]
    · intro i h1 h2
      have h3 : i < S.length := by simpa using h1
      simp [leftV, List.getD, h3]
  have hl : (List.range S.length).length = S.length := List.length_range
  have h2 := own_strs (vl := v) (d := fun i => S.getD i ByteArray.empty) (l := List.range S.length) (B := B) (w := w) (by rw [hl, ← e]; exact h) (fun i hi => by
    have hi' := List.mem_range.1 hi
    show (S.getD i ByteArray.empty).size ≤ maxLen
    rw [List.getD, List.getElem?_eq_getElem hi']
    exact hs _ (List.getElem_mem hi'))
  have e2 : (List.range S.length).map (fun i => S.getD i ByteArray.empty) = S := by
    apply List.ext_getElem
    · simp
    · intro i h1 h3
      simp [List.getD, h3]
  rw [e2] at h2
  exact h2
/-- A stripe's pieces are short. -/
theorem stripe_short {K M n : Nat} {D : List ByteArray} (hk : 1 ≤ K) (hl : D.length = K) (hn : ∀ j, j < K → (D.getD j ByteArray.empty).size = n) (hn2 : n ≤ 65536) : ∀ s, s ∈ stripeL K M D → s.size ≤ maxLen := fun s hs => by
  obtain ⟨i, hi, rfl⟩ := List.mem_iff_getElem.1 hs
  have hi2 : i < K + M := by rwa [stripeL_len hl] at hi
  have := stripe_size (m := M) hl hk hn hi2
  rw [List.getD, List.getElem?_eq_getElem hi] at this
  unfold maxLen
  simp only [Option.getD_some] at this
  omega
theorem infoPiece : (Tryd.prog.info? 36).map (fun i => (i.zero, i.size, i.bytes)) = some (some (.agg #[.bool false, .string ByteArray.empty]), 2, 24) := by kernel_rfl
/-- Pieces, as their cells. -/
def pcF (P : List (Bool × ByteArray)) : List Value := P.flatMap fun p => [.bool p.1, .string p.2]
theorem pcF_snoc (P : List (Bool × ByteArray)) (p : Bool × ByteArray) : pcF (P ++ [p]) = pcF P ++ [.bool p.1, .string p.2] := by simp [pcF]
theorem pcF_at : ∀ (P : List (Bool × ByteArray)) (j : Nat), j < P.length → (pcF P)[j * 2]? = some (.bool (P.getD j (false, ByteArray.empty)).1) ∧ (pcF P)[j * 2 + 1]? = some (.string (P.getD j (false, ByteArray.empty)).2)
  | [], j, h => by simp at h
  | p :: P, 0, _ => ⟨rfl, rfl⟩
  | p :: P, j + 1, h => by
    have := pcF_at P j (by simpa using h)
    have e : pcF (p :: P) = .bool p.1 :: .string p.2 :: pcF P := by simp [pcF]
    rw [e, show (j + 1) * 2 = j * 2 + 1 + 1 by omega]
    simpa using this
theorem own_pieces {w : World} {B n : Nat} {v : Value} {P : List (Bool × ByteArray)} (h : w.ownsRow B 36 2 v n (pcF P)) (hl : P.length = n) (hs : ∀ p, p ∈ P → p.2.size ≤ maxLen) : PiecesS w v P := by
  subst hl
  rcases h.2 with ⟨rfl, e⟩ | ⟨g, c, cur, rfl, hb, hh, hn, hm, hs2, ht⟩
  · have : P = [] := List.eq_nil_of_length_eq_zero e
    subst this
    exact ⟨none, 0, rfl, fun _ => rfl, Nat.le_refl _, Nat.zero_le _, fun p hp => by simp at hp, .inl rfl⟩
  · refine ⟨some ⟨g, 0, none⟩, c, rfl, by simp, hn, hm, hs, .inr ⟨g, 0, rfl, (Array.getElem?_eq_some_iff.1 hh).1, fun j hj => ?_⟩⟩
    obtain ⟨h1, h2⟩ := pcF_at P j hj
    have c1 := World.ownsRow.cells h (g := g) rfl _ _ h1
    have c2 := World.ownsRow.cells h (g := g) rfl _ _ h2
    rw [adr_add] at c1 c2
    exact ⟨c1, c2⟩
theorem cell_two_new (w : World) (x y : Value) (t : TypeId) : ∀ j u, [x, y][j]? = some u → (w.alloc (.cells #[x, y] t)).cell? ((⟨w.heap.size, 0, none⟩ : Addr).add j) = some u := fun j u hu => by
  rw [adr_add, Nat.zero_add, World.cell?_alloc_at _ _ _ _ rfl]
  match j, hu with
  | 0, hu => simpa using hu
  | 1, hu => simpa using hu
  | j + 2, hu => simp at hu
theorem pcL_short {T : List ByteArray} {q : Nat → Bool} {c : Nat} (h : ∀ s, s ∈ T → s.size ≤ maxLen) (hc : c ≤ T.length) : ∀ p, p ∈ pcL T q c → p.2.size ≤ maxLen := fun p hp => by
  obtain ⟨i, hi, rfl⟩ := List.mem_map.1 hp
  have hi2 := List.mem_range.1 hi
  cases q i with
  | true => exact Nat.zero_le _
  | false =>
    refine h _ ?_
    show T.getD i ByteArray.empty ∈ T
    rw [List.getD, List.getElem?_eq_getElem (by omega)]
    exact List.getElem_mem _
end Go.Proofs.YtpldnbfbpajbkabDoor
