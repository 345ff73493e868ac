/- Spans of bytes, and ranges of blocks: the models (no program). -/
namespace Go.Proofs.Ytdcpgjkaimekbaa

/-- A span. -/
structure SP where
  b : Int
  f : Int
  t : Int
deriving DecidableEq
def SP.zero : SP := ⟨0, 0, 0⟩
/-- A range of blocks. -/
structure RG where
  f : Int
  t : Int
deriving DecidableEq
def RG.zero : RG := ⟨0, 0⟩
/-- There is such a size. -/
def szOk (s : Int) : Bool := decide (1 ≤ s) && decide (s ≤ 65536)
/-- There are such bytes. -/
def byOk (n : Int) : Bool := decide (0 ≤ n) && decide (n ≤ 1099511627776)
def cutE (s off n : Int) : Int := if szOk s = true ∧ byOk off = true ∧ byOk n = true then (if n ≤ 1048576 then 0 else 7) else 1
/-- How many bytes of the block at off are taken. -/
def stp (s off n : Nat) : Nat := min (s - off % s) n
/-- The spans of n bytes from off on. -/
def cutF (s : Nat) : Nat → Nat → Nat → List SP
  | 0, _, _ => []
  | k + 1, off, n => if n = 0 then [] else ⟨((off / s : Nat) : Int), ((off % s : Nat) : Int), ((off % s + stp s off n : Nat) : Int)⟩ :: cutF s k (off + stp s off n) (n - stp s off n)
def cutN (s off n : Nat) : List SP := cutF s n off n
def cutL (s off n : Int) : List SP := if cutE s off n = 0 then cutN s.toNat off.toNat n.toNat else []
theorem stp_pos {s off n : Nat} (hs : 0 < s) (hn : n ≠ 0) : 0 < stp s off n := by
  have := Nat.mod_lt off hs
  unfold stp; omega
theorem stp_le (s off n : Nat) : stp s off n ≤ n := by unfold stp; omega
theorem cutF_more {s : Nat} (hs : 0 < s) : ∀ (k off n : Nat), n ≤ k → cutF s k off n = cutF s n off n
  | k, off, 0, _ => by cases k <;> rfl
  | 0, _, n + 1, h => absurd h (by omega)
  | k + 1, off, n + 1, h => by
    rw [cutF, cutF, if_neg (by omega), if_neg (by omega)]
    congr 1
    have h1 := stp_pos (off := off) hs (n := n + 1) (by omega)
    rw [cutF_more hs k _ _ (by omega), cutF_more hs n _ _ (by omega)]
theorem cutN_zero (s off : Nat) : cutN s off 0 = [] := rfl
theorem cutN_step {s off n : Nat} (hs : 0 < s) (hn : n ≠ 0) : cutN s off n = ⟨((off / s : Nat) : Int), ((off % s : Nat) : Int), ((off % s + stp s off n : Nat) : Int)⟩ :: cutN s (off + stp s off n) (n - stp s off n) := by
  unfold cutN
  obtain ⟨m, rfl⟩ : ∃ m, n = m + 1 := ⟨n - 1, by omega⟩
  rw [cutF, if_neg (by omega)]
  congr 1
  have h1 := stp_pos (off := off) hs (n := m + 1) (by omega)
  exact cutF_more hs _ _ _ (by omega)
theorem cutN_len {s : Nat} (hs : 0 < s) : ∀ (n off : Nat), (cutN s off n).length ≤ n := by
  intro n
  induction n using Nat.strongRecOn with
  | _ n ih =>
    intro off
    by_cases h : n = 0
    · subst h; rw [cutN_zero]; exact Nat.le_refl _
    · rw [cutN_step hs h, List.length_cons]
      have h1 := stp_pos (off := off) hs h
      have h2 := stp_le s off n
      have := ih (n - stp s off n) (by omega) (off + stp s off n)
      omega
/-- The state ahead of the k-th span: what is left. -/
theorem cut_drop {s : Nat} (hs : 0 < s) {L : List SP} {k off n : Nat} (h : L.drop k = cutN s off n) (hn : n ≠ 0) :
    k < L.length ∧ L.getD k SP.zero = ⟨((off / s : Nat) : Int), ((off % s : Nat) : Int), ((off % s + stp s off n : Nat) : Int)⟩ ∧ L.drop (k + 1) = cutN s (off + stp s off n) (n - stp s off n) := by
  rw [cutN_step hs hn] at h
  have hlt : k < L.length := by
    by_cases hk : k < L.length
    · exact hk
    · rw [List.drop_eq_nil_of_le (by omega)] at h; cases h
  rw [List.drop_eq_getElem_cons hlt] at h
  injection h with h1 h2
  exact ⟨hlt, by rw [List.getD, List.getElem?_eq_getElem hlt]; exact h1, h2⟩
theorem cut_done {s : Nat} {L : List SP} {k off : Nat} (h : L.drop k = cutN s off 0) : L.length ≤ k := by
  rw [cutN_zero] at h
  exact List.drop_eq_nil_iff.1 h
/-- The whole blocks. -/
def whoE (s off n : Int) : Int := if szOk s = true ∧ byOk off = true ∧ byOk n = true then 0 else 1
def whoR (s off n : Int) : RG := if whoE s off n = 0 then (if (off + n) / s ≤ (off + s - 1) / s then RG.zero else ⟨(off + s - 1) / s, (off + n) / s⟩) else RG.zero
theorem up_div {o s : Nat} (hs : 0 < s) : (o + s - 1) / s = if o % s = 0 then o / s else o / s + 1 := by
  have h1 := Nat.div_add_mod o s
  have h2 := Nat.mod_lt o hs
  obtain ⟨q, hq⟩ : ∃ q, q = o / s := ⟨_, rfl⟩
  obtain ⟨r, hr⟩ : ∃ r, r = o % s := ⟨_, rfl⟩
  rw [← hq, ← hr] at h1
  rw [← hr] at h2
  rw [← hq, ← hr]
  have hc : s * (q + 1) = s * q + s := by rw [Nat.mul_add, Nat.mul_one]
  by_cases h0 : r = 0
  · rw [if_pos h0]
    apply Nat.div_eq_of_lt_le
    · rw [Nat.mul_comm]; omega
    · rw [Nat.mul_comm, hc]; omega
  · rw [if_neg h0]
    have hc2 : s * (q + 1 + 1) = s * q + s + s := by rw [Nat.mul_add, hc, Nat.mul_one]
    apply Nat.div_eq_of_lt_le
    · rw [Nat.mul_comm, hc]; omega
    · rw [Nat.mul_comm, hc2]; omega
/-! ### blocks of ranges -/
def rgOk (r : RG) : Bool := decide (0 ≤ r.f) && decide (r.f ≤ r.t) && decide (r.t ≤ 65536)
/-- The blocks of a range. -/
def rgB (r : RG) : List Int := (List.range (r.t - r.f).toNat).map fun (j : Nat) => r.f + (j : Int)
def many (l : List RG) : Int := (l.map fun r => r.t - r.f).sum
def blkOk (l : List RG) : Bool := l.all rgOk && decide (many l ≤ 65536)
def blkE (l : List RG) : Int := if blkOk l = true then 0 else 1
def blkL (l : List RG) : List Int := if blkOk l = true then l.flatMap rgB else []
theorem rgB_len (r : RG) : (rgB r).length = (r.t - r.f).toNat := by unfold rgB; simp
theorem many_snoc (l : List RG) (r : RG) : many (l ++ [r]) = many l + (r.t - r.f) := by unfold many; simp
theorem many_nonneg : ∀ (l : List RG), (∀ r ∈ l, rgOk r = true) → 0 ≤ many l
  | [], _ => Int.le_refl _
  | r :: l, h => by
    have h1 := h r (List.mem_cons_self ..)
    have h2 := many_nonneg l (fun x hx => h x (List.mem_cons_of_mem _ hx))
    unfold rgOk at h1
    simp only [Bool.and_eq_true, decide_eq_true_eq] at h1
    unfold many at h2 ⊢
    rw [List.map_cons, List.sum_cons]; omega
theorem many_le : ∀ (l : List RG), (∀ r ∈ l, rgOk r = true) → many l ≤ 65536 * (l.length : Int)
  | [], _ => by simp [many]
  | r :: l, h => by
    have h1 := h r (List.mem_cons_self ..)
    have h2 := many_le l (fun x hx => h x (List.mem_cons_of_mem _ hx))
    unfold rgOk at h1
    simp only [Bool.and_eq_true, decide_eq_true_eq] at h1
    unfold many at h2 ⊢
    rw [List.map_cons, List.sum_cons, List.length_cons]; push_cast; omega
theorem flat_rg_len : ∀ (l : List RG), (∀ r ∈ l, rgOk r = true) → ((l.flatMap rgB).length : Int) = many l
  | [], _ => rfl
  | r :: l, h => by
    have h1 := h r (List.mem_cons_self ..)
    have h2 := flat_rg_len l (fun x hx => h x (List.mem_cons_of_mem _ hx))
    unfold rgOk at h1
    simp only [Bool.and_eq_true, decide_eq_true_eq] at h1
    rw [List.flatMap_cons, List.length_append, rgB_len]
    unfold many at h2 ⊢
    rw [List.map_cons, List.sum_cons]; push_cast; rw [h2]; omega
theorem many_mono (l : List RG) (k : Nat) (h : ∀ r ∈ l, rgOk r = true) : many (l.take k) ≤ many l := by
  have h1 : many l = many (l.take k) + many (l.drop k) := by
    unfold many
    rw [← List.sum_append, ← List.map_append, List.take_append_drop]
  have := many_nonneg (l.drop k) (fun r hr => h r (List.mem_of_mem_drop hr))
  omega
/-! ### ranges of blocks -/
/-- Rising numbers as ranges: what stands is r, then more. -/
def merA : List RG → Int → List RG
  | l, b => match l.getLast? with
    | none => [⟨b, b + 1⟩]
    | some r => if r.t = b then l.dropLast ++ [⟨r.f, b + 1⟩] else l ++ [⟨b, b + 1⟩]
def merL (l : List Int) : List RG := l.foldl merA []
end Go.Proofs.Ytdcpgjkaimekbaa
