import Derived.Test.YtpldnbfbpajbkabDoorCau
namespace Caulk.Lin
open Caulk.Gf

theorem cs_append (a : UInt8) : ∀ l m : List (UInt8 × UInt8), cs a (l ++ m) = cs a l ^^^ cs a m
  | [], m => by simp [cs]
  | p :: l, m => by simp only [List.cons_append, cs]; rw [cs_append a l m, UInt8.xor_assoc]
theorem cs_range (a : UInt8) (q : Nat → Bool) (v : Nat → UInt8) : ∀ k, cs a (((List.range k).filter q).map fun j => (UInt8.ofNat j, v j)) = sx k (fun j => if q j then mul (v j) (inv (a ^^^ UInt8.ofNat j)) else 0)
  | 0 => rfl
  | k + 1 => by
    rw [List.range_succ, List.filter_append, List.map_append, cs_append, cs_range a q v k]
    simp only [sx]
    congr 1
    cases h : q k with
    | true => simp [h, cs]
    | false => simp [h, cs]
theorem nodup_le : ∀ (l s : List Nat), l.Nodup → (∀ x, x ∈ l → x ∈ s) → l.length ≤ s.length
  | [], _, _, _ => Nat.zero_le _
  | a :: l, s, hn, hs => by
    rw [List.nodup_cons] at hn
    have h1 := nodup_le l (s.erase a) hn.2 (fun x hx => by
      rw [List.mem_erase_of_ne (fun e => hn.1 (by rw [← e]; exact hx))]
      exact hs x (List.mem_cons_of_mem _ hx))
    have ha := hs a (List.mem_cons_self)
    rw [List.length_erase_of_mem ha] at h1
    have : 0 < s.length := List.length_pos_of_mem ha
    simp only [List.length_cons]
    omega
theorem filter_len (q : Nat → Bool) : ∀ l : List Nat, (l.filter q).length + (l.filter (fun x => !q x)).length = l.length
  | [] => rfl
  | a :: l => by
    have := filter_len q l
    cases h : q a <;> simp [h] <;> omega
theorem nodup_map {f : Nat → Nat} : ∀ (l : List Nat), l.Nodup → (∀ x, x ∈ l → ∀ y, y ∈ l → f x = f y → x = y) → (l.map f).Nodup
  | [], _, _ => List.nodup_nil
  | a :: l, hn, hi => by
    rw [List.nodup_cons] at hn
    rw [List.map_cons, List.nodup_cons]
    refine ⟨fun h => ?_, nodup_map l hn.2 (fun x hx y hy => hi x (List.mem_cons_of_mem _ hx) y (List.mem_cons_of_mem _ hy))⟩
    obtain ⟨b, hb, he⟩ := List.mem_map.1 h
    have := hi a (List.mem_cons_self) b (List.mem_cons_of_mem _ hb) he.symm
    exact hn.1 (by rw [this]; exact hb)
theorem nodup_map8 {f : Nat → UInt8} : ∀ (l : List Nat), l.Nodup → (∀ x, x ∈ l → ∀ y, y ∈ l → f x = f y → x = y) → (l.map f).Nodup
  | [], _, _ => List.nodup_nil
  | a :: l, hn, hi => by
    rw [List.nodup_cons] at hn
    rw [List.map_cons, List.nodup_cons]
    refine ⟨fun h => ?_, nodup_map8 l hn.2 (fun x hx y hy => hi x (List.mem_cons_of_mem _ hx) y (List.mem_cons_of_mem _ hy))⟩
    obtain ⟨b, hb, he⟩ := List.mem_map.1 h
    have := hi a (List.mem_cons_self) b (List.mem_cons_of_mem _ hb) he.symm
    exact hn.1 (by rw [this]; exact hb)
theorem ofNat_inj {x y : Nat} (hx : x < 256) (hy : y < 256) (h : UInt8.ofNat x = UInt8.ofNat y) : x = y := by
  have := congrArg UInt8.toNat h
  rw [UInt8.toNat_ofNat', UInt8.toNat_ofNat'] at this
  omega
/-- The unit with Cauchy's matrix below it. -/
def stack (k : Nat) : Fn2 := fun r j => if r < k then (if r = j then 1 else 0) else inv (UInt8.ofNat r ^^^ UInt8.ofNat j)
/-- Any k rows of it have an inverse. -/
theorem any_inv {k n : Nat} (hn : n ≤ 255) {pick : Nat → Nat} (hlt : ∀ i, i < k → pick i < n) (hk : k ≤ n) (hinj : ∀ i, i < k → ∀ j, j < k → pick i = pick j → i = j) :
    ∃ X, invM k (fun i j => stack k (pick i) j) = some X := by
  refine inv_of_ker (fun v hv => ?_)
  have hpick : ∀ i, i < k → pick i < k → v (pick i) = 0 := fun i hi hp => by
    have := hv i hi
    unfold vec at this
    rw [sx_single (p := pick i) hp] at this
    · simp only [stack, if_pos hp, if_true] at this
      rwa [one_mul] at this
    · intro c _ hc
      simp only [stack, if_pos hp]
      rw [if_neg (fun e => hc e.symm), mul_zeroL]
  let un : Nat → Bool := fun j => !(List.range k).any (fun i => pick i == j)
  have hun : ∀ j, un j = false → v j = 0 ∨ k ≤ j := fun j hj => by
    simp only [un, Bool.not_eq_false', List.any_eq_true, List.mem_range, beq_iff_eq] at hj
    obtain ⟨i, hi, he⟩ := hj
    by_cases h : j < k
    · left; rw [← he]; exact hpick i hi (by omega)
    · right; omega
  let l := ((List.range k).filter un).map fun j => (UInt8.ofNat j, v j)
  let as := ((List.range k).filter (fun i => decide (k ≤ pick i))).map fun i => UInt8.ofNat (pick i)
  have hcs : ∀ a, a ∈ as → cs a l = 0 := fun a ha => by
    obtain ⟨i, hi, rfl⟩ := List.mem_map.1 ha
    rw [List.mem_filter, List.mem_range] at hi
    have hik := of_decide_eq_true hi.2
    rw [cs_range]
    have h0 := hv i hi.1
    unfold vec at h0
    refine Eq.trans (sx_congr (fun j hj => ?_)) h0
    show _ = mul (stack k (pick i) j) (v j)
    simp only [stack, if_neg (show ¬ pick i < k by omega)]
    cases hu : un j with
    | true => rw [if_pos rfl, mul_comm]
    | false =>
      rcases hun j hu with h | h
      · rw [h, mul_zeroR]; rfl
      · omega
  have hlen : l.length ≤ as.length := by
    simp only [l, as, List.length_map]
    have f1 := filter_len un (List.range k)
    have f2 := filter_len (fun i => decide (k ≤ pick i)) (List.range k)
    rw [List.length_range] at f1 f2
    have h1 : (((List.range k).filter (fun i => !decide (k ≤ pick i))).map pick).length ≤ ((List.range k).filter (fun x => !un x)).length := by
      refine nodup_le _ _ (nodup_map _ ((List.nodup_range).filter _) (fun x hx y hy => ?_)) (fun x hx => ?_)
      · rw [List.mem_filter, List.mem_range] at hx hy
        exact hinj x hx.1 y hy.1
      · obtain ⟨i, hi, rfl⟩ := List.mem_map.1 hx
        rw [List.mem_filter, List.mem_range] at hi
        rw [List.mem_filter, List.mem_range]
        have hi2 : pick i < k := by have := hi.2; simp at this; exact this
        refine ⟨hi2, ?_⟩
        simp only [un, Bool.not_not, List.any_eq_true, List.mem_range, beq_iff_eq]
        exact ⟨i, hi.1, rfl⟩
    rw [List.length_map] at h1
    omega
  have hz := cau_zero l as hlen
    (by
      simp only [l, List.map_map]
      refine nodup_map8 _ ((List.nodup_range).filter _) (fun x hx y hy h => ?_)
      rw [List.mem_filter, List.mem_range] at hx hy
      exact ofNat_inj (by omega) (by omega) h)
    (by
      refine nodup_map8 _ ((List.nodup_range).filter _) (fun x hx y hy h => ?_)
      rw [List.mem_filter, List.mem_range] at hx hy
      exact hinj x hx.1 y hy.1 (ofNat_inj (by have := hlt x hx.1; omega) (by have := hlt y hy.1; omega) h))
    (fun a ha p hp e => by
      obtain ⟨i, hi, rfl⟩ := List.mem_map.1 ha
      obtain ⟨j, hj, rfl⟩ := List.mem_map.1 hp
      rw [List.mem_filter, List.mem_range] at hi hj
      have hik := of_decide_eq_true hi.2
      have := ofNat_inj (by have := hlt i hi.1; omega) (by omega) e
      omega) hcs
  intro r hr
  cases hu : un r with
  | true => exact hz (UInt8.ofNat r, v r) (List.mem_map.2 ⟨r, by rw [List.mem_filter, List.mem_range]; exact ⟨hr, hu⟩, rfl⟩)
  | false =>
    rcases hun r hu with h | h
    · exact h
    · omega
end Caulk.Lin
