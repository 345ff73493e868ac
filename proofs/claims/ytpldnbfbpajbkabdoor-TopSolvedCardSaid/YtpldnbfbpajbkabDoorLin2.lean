import Derived.Test.YtpldnbfbpajbkabDoorLin
namespace Caulk.Lin
open Caulk.Gf

/-- The column that has 1 at j alone. -/
def col (j : Nat) : Nat → UInt8 := fun r => if r = j then 1 else 0
theorem vec_col {n : Nat} (m : Fn2) {j : Nat} (hj : j < n) (r : Nat) : vec n m (col j) r = m r j := by
  unfold vec
  rw [sx_single (p := j) hj]
  · unfold col; rw [if_pos rfl, mul_comm, one_mul]
  · intro c _ hc; unfold col; rw [if_neg hc, mul_zeroR]
theorem vec_zero {n : Nat} (m : Fn2) {v : Nat → UInt8} (h : ∀ c, c < n → v c = 0) (r : Nat) : vec n m v r = 0 :=
  sx_none (fun c hc => by rw [h c hc, mul_zeroR])
theorem vec_congrM {n : Nat} {m m' : Fn2} (h : ∀ r, r < n → ∀ c, c < n → m r c = m' r c) (v : Nat → UInt8) : ∀ r, r < n → vec n m v r = vec n m' v r :=
  fun r hr => sx_congr (fun c hc => by rw [h r hr c hc])
theorem vec_mul {n : Nat} (f g : Fn2) (v : Nat → UInt8) (r : Nat) : vec n (fun i j => sx n (fun t => mul (f i t) (g t j))) v r = vec n f (vec n g v) r := by
  unfold vec
  have e1 : ∀ c, c < n → mul (sx n (fun t => mul (f r t) (g t c))) (v c) = sx n (fun t => mul (f r t) (mul (g t c) (v c))) := fun c _ => by
    rw [mul_comm, ← sx_mul]
    exact sx_congr (fun t _ => by rw [mul_comm (v c), mul_assoc])
  rw [sx_congr e1, sx_swap]
  exact sx_congr (fun t _ => sx_mul _ _ _)
theorem inv_ker {n : Nat} {m X : Fn2} (h : invM n m = some X) {v : Nat → UInt8} (hv : ∀ r, r < n → vec n m v r = 0) : ∀ r, r < n → v r = 0 := by
  have := (inv_some h v (fun _ => 0)).1 (fun r hr => (hv r hr).symm)
  intro r hr
  rw [this r hr]
  exact vec_zero X (fun _ _ => rfl) r
theorem inv_kerX {n : Nat} {m X : Fn2} (h : invM n m = some X) {u : Nat → UInt8} (hu : ∀ r, r < n → vec n X u r = 0) : ∀ r, r < n → u r = 0 := by
  have := (inv_some h (fun _ => 0) u).2 (fun r hr => (hu r hr).symm)
  intro r hr
  rw [this r hr]
  exact vec_zero m (fun _ _ => rfl) r
/-- A matrix that takes no column but 0 to 0 has an inverse. -/
theorem inv_of_ker {n : Nat} {m : Fn2} (h : ∀ v : Nat → UInt8, (∀ r, r < n → vec n m v r = 0) → ∀ r, r < n → v r = 0) : ∃ X, invM n m = some X := by
  cases hX : invM n m with
  | some X => exact ⟨X, rfl⟩
  | none =>
    obtain ⟨v, ⟨c, hc, hne⟩, hv⟩ := inv_none hX
    exact absurd (h v hv c hc) hne
/-- What the inverse is, column by column. -/
theorem inv_col {n : Nat} {m X : Fn2} (h : invM n m = some X) {j : Nat} (hj : j < n) : ∀ r, r < n → vec n m (fun r => X r j) r = col j r := by
  have := (inv_some h (fun r => X r j) (col j)).2 (fun r _ => (vec_col X hj r).symm)
  exact fun r hr => (this r hr).symm
/-- m times X is the unit. -/
theorem inv_right {n : Nat} {m X : Fn2} (h : invM n m = some X) {i j : Nat} (hi : i < n) (hj : j < n) : sx n (fun t => mul (m i t) (X t j)) = col j i := inv_col h hj i hi
/-- X times m is the unit. -/
theorem inv_left {n : Nat} {m X : Fn2} (h : invM n m = some X) {i j : Nat} (hi : i < n) (hj : j < n) : sx n (fun t => mul (X i t) (m t j)) = col j i := by
  have := (inv_some h (col j) (fun r => m r j)).1 (fun r _ => (vec_col m hj r).symm)
  exact (this i hi).symm
/-- The inverse's inverse. -/
theorem inv_back {n : Nat} {m X X2 : Fn2} (h : invM n m = some X) (he : ∀ r, r < n → ∀ c, c < n → X2 r c = X r c) : ∃ Y, invM n X2 = some Y ∧ ∀ r, r < n → ∀ c, c < n → Y r c = m r c := by
  obtain ⟨Y, hY⟩ := inv_of_ker (n := n) (m := X2) (fun v hv => inv_kerX h (fun r hr => by rw [← vec_congrM he v r hr]; exact hv r hr))
  refine ⟨Y, hY, fun r hr c hc => ?_⟩
  have h1 : ∀ r, r < n → col c r = vec n X (fun r => Y r c) r := fun r hr => by rw [← vec_congrM he _ r hr]; exact (inv_col hY hc r hr).symm
  have h2 := (inv_some h (col c) (fun r => Y r c)).2 h1 r hr
  rw [h2, vec_col m hc]
/-- The product's inverse. -/
theorem inv_prod {n : Nat} {a b XA XB P : Fn2} (hA : invM n a = some XA) (hB : invM n b = some XB) (he : ∀ r, r < n → ∀ c, c < n → P r c = sx n (fun t => mul (a r t) (b t c))) :
    ∃ Z, invM n P = some Z ∧ ∀ r, r < n → ∀ c, c < n → Z r c = sx n (fun t => mul (XB r t) (XA t c)) := by
  have hP : ∀ v r, r < n → vec n P v r = vec n a (vec n b v) r := fun v r hr => by
    rw [vec_congrM (m' := fun i j => sx n (fun t => mul (a i t) (b t j))) he v r hr, vec_mul]
  obtain ⟨Z, hZ⟩ := inv_of_ker (n := n) (m := P) (fun v hv => inv_ker hB (fun r hr => inv_ker hA (fun r hr => by rw [← hP v r hr]; exact hv r hr) r hr))
  refine ⟨Z, hZ, fun r hr c hc => ?_⟩
  have h1 : ∀ r, r < n → col c r = vec n a (vec n b (fun r => Z r c)) r := fun r hr => by rw [← hP _ r hr]; exact (inv_col hZ hc r hr).symm
  have h2 := (inv_some hA (vec n b (fun r => Z r c)) (col c)).1 h1
  have h3 := (inv_some hB (fun r => Z r c) (vec n XA (col c))).1 (fun r hr => (h2 r hr).symm)
  rw [h3 r hr]
  exact sx_congr (fun t _ => by rw [vec_col XA hc])
end Caulk.Lin
