/- The walk of MatrixAny. -/
import Derived.Test.YtpldnbfbpajbkaaLawB
import Derived.Test.YtpldnbfbpajbkaaRsF
import Derived.Test.YtpldnbfbpajbkaaIsBytes
import Derived.Deep.RegionLaw
import Derived.Deep.AppendLies
import Derived.Deep.Cut
import Derived.Laws.OwnMore
namespace Go.Proofs.Ytpldnbfbpajbkaa
open Go.RowKit
open Caulk.Lin (Fn2 stack invM any_inv)

theorem step_append_own_at {P : Program} {ops : Array Oper} {o : Oper} {a : Act} {K : Act → World → Prop} {Q : Exit → Act → World → Prop} {E : Prop} (w : World) (hgd : o.guard = none) (s x : Operand) (t : TypeId)
    (ho : o.op = .call { callee := .builtin .append, args := #[s, x], argTypes := #[t, t] })
    (base : Nat) (e : TypeId) (i : TypeInfo) (z : Value) (size bytes : Nat) (ht : P.underlying t = some (.slice e)) (hi : P.info? e = some i) (hz : i.zero = some z)
    (hsize : i.size = size) (hby : i.bytes = bytes) (hzs : z.cells.size = size) (hsz : 0 < size)
    (v : Value) (n : Nat) (xs : List Value) (hs : a.eval s = v) (hown : w.ownsRow base e size v n xs)
    (ad : Addr) (m c : Nat) (news : List Value) (hx : a.eval x = .slice (some ad) m c) (hl : news.length = m * size) (hnews : ∀ j u, news[j]? = some u → w.cell? (ad.add j) = some u) (h1 : ∀ u ∈ news, u.oneCell' = true)
    (h63 : n + m ≤ maxLen) (hbytes : (n + m) * bytes ≤ 140737488355328) (hbase : base ≤ w.heap.size)
    (h : ∀ v' w', w'.ownsRow base e size v' (n + m) (xs ++ news) → w.grownBy w' v.ownBlock → (v'.ownBlock = v.ownBlock ∨ v'.ownBlock = some w.heap.size) → K (a.put o.dst v') w') :
    if Region.wanted o (yielded ops a.tmps) = true then Oper.wp P o a w K Q else E := by
  have hw : Region.wanted o (yielded ops a.tmps) = true := by simp [Region.wanted, hgd]
  rw [if_pos hw]
  obtain ⟨v', w', hr, h2, h3, h4, h5⟩ := run_append_own_at (P := P) w base t o.type e i z size bytes ht hi hz hsize hby hzs hsz v n xs hown ad m c news hl hnews h1 h63 hbytes hbase
  unfold Oper.wp execOp
  simp only [ho, resolve, invoke, builtin, Sem.run_bind, Sem.run_pure, Result.andThen_ok, List.map_toArray, List.map_cons, List.map_nil, hs, hx, hr]
  exact h _ _ h2 h3 h5
/-- Heads of a unit, and of parity's matrix behind them, copied to one slice. -/
theorem stack_copy {w1 w2 w3 : World} {B1 B2 B k m : Nat} {v v2 v' : Value} {pl pl2 : Nat → Nat × Nat × Nat} (hkm : k + m ≤ 255) (h1 : GridP w1 B1 v k k unitF pl) (h2 : GridP w2 B2 v2 m k (cauF k) pl2)
    (hb1 : Below w1.heap.size w1 w3) (hb2 : Below w2.heap.size w2 w3) (ho : w3.ownsRow B 37 1 v' (k + m) (hdL k k pl ++ hdL m k pl2)) : MatS w3 v' (rowsL (k + m) k (stack k)) := by
  refine own_mat ho (rowsL_len _ _ _) (fun i hi => ?_)
  rw [rowsL_len] at hi
  rw [rowsL_getD _ hi]
  by_cases e : i < k
  · obtain ⟨a1, a2, a3, a4, a5⟩ := (h1.below hb1).2.1 i e
    refine ⟨_, by rw [List.getElem?_append_left (by rw [hdL_len]; exact e)]; exact hdL_at pl e, ?_⟩
    rw [rowL_congr (g := unitF i) (fun j _ => stack_unit e)]
    exact ⟨_, _, by rw [rowL_len], by simp, by rw [rowL_len]; exact a2, a3, .inr ⟨_, _, rfl, a5.1, fun j hj => (a5.2 j hj).1⟩⟩
  · obtain ⟨a1, a2, a3, a4, a5⟩ := (h2.below hb2).2.1 (i - k) (by omega)
    refine ⟨_, by rw [List.getElem?_append_right (by rw [hdL_len]; omega), hdL_len]; exact hdL_at pl2 (by omega), ?_⟩
    rw [rowL_congr (f := stack k i) (g := cauF k (i - k)) (fun j hj => by have := stack_cau (k := k) (i := i - k) hj (by omega); rwa [show k + (i - k) = i by omega] at this)]
    exact ⟨_, _, by rw [rowL_len], by simp, by rw [rowL_len]; exact a2, a3, .inr ⟨_, _, rfl, a5.1, fun j hj => (a5.2 j hj).1⟩⟩
/-- What is picked, and what is left. -/
structure PickL (n i : Nat) (L R : List Nat) : Prop where
  len : R.length = i
  sum : R.length + L.length = n
  nodup : (R ++ L).Nodup
  lt : ∀ x, x ∈ R ++ L → x < n
theorem PickL.next {n i p : Nat} {L R : List Nat} (h : PickL n i L R) (hp : p < L.length) : PickL n (i + 1) (L.take p ++ L.drop (p + 1)) (R ++ [L.getD p 0]) := by
  have e : L.getD p 0 = L[p] := by rw [List.getD, List.getElem?_eq_getElem hp]; rfl
  have hperm : List.Perm ((R ++ [L.getD p 0]) ++ (L.take p ++ L.drop (p + 1))) (R ++ L) := by
    rw [List.append_assoc, e]
    refine List.Perm.append_left R ?_
    have h1 : L = L.take p ++ L[p] :: L.drop (p + 1) := by
      have := (List.take_append_drop p L).symm
      rw [List.drop_eq_getElem_cons hp] at this
      exact this
    conv => rhs; rw [h1]
    exact (List.perm_middle (l₁ := L.take p) (l₂ := L.drop (p + 1)) (a := L[p])).symm
  refine ⟨by rw [List.length_append, h.len]; rfl, ?_, hperm.nodup_iff.2 h.nodup, fun x hx => h.lt x (hperm.mem_iff.1 hx)⟩
  have := h.sum
  simp only [List.length_append, List.length_take, List.length_drop, List.length_cons, List.length_nil]
  omega
theorem atV_app (l k : List Nat) : atV (l ++ k) = atV l ++ atV k := by simp [atV]
theorem i64_of_wf' {n : Int} (h : (Lit.int .i64 n).wf = true) : -9223372036854775808 ≤ n ∧ n ≤ 9223372036854775807 := by
  simp [Lit.wf, IntKind.min, IntKind.max, IntKind.signed, IntKind.bits] at h
  omega
theorem addr_plus (b off j : Nat) : (⟨b, off, none⟩ : Addr).add j = ⟨b, off + j, none⟩ := by unfold Addr.add; split <;> simp_all
theorem atV_len (l : List Nat) : (atV l).length = l.length := by simp [atV]
theorem atV_ones (l : List Nat) : ∀ u, u ∈ atV l → u.oneCell' = true := fun u hu => by obtain ⟨i, _, rfl⟩ := List.mem_map.1 hu; rfl
def PickS (w : World) (B n i : Nat) (vl vr : Value) : Prop :=
  ∃ L R, PickL n i L R ∧ w.ownsRow B 3 1 vl L.length (atV L) ∧ w.ownsRow B 3 1 vr R.length (atV R) ∧ (vr.ownBlock = none ∨ vr.ownBlock ≠ vl.ownBlock)
set_option maxRecDepth 100000 in
set_option maxHeartbeats 4000000 in
theorem matrixAny_walk {w : World} {k m : Int} {A0 : Option Addr} {plen pcap : Nat} {zs : List UInt8} (hkw : -9223372036854775808 ≤ k ∧ k ≤ 9223372036854775807) (hmw : -9223372036854775808 ≤ m ∧ m ≤ 9223372036854775807) (hin : IsBytes w A0 plen pcap zs) :
    Calls Try.prog 6 #[.int .i64 k, .int .i64 m, .slice A0 plen pcap] w fun e w' => e = .returned (.bool true) ∧ Below w.heap.size w w' := by
  obtain ⟨hzl, hpm, hA⟩ := hin
  have HIN : Hid (∀ i, i < plen → ∃ b o, A0 = some ⟨b, o, none⟩ ∧ ∀ W, Below w.heap.size w W → W.cell? ⟨b, o + i, none⟩ = some (.int .u8 ((zs.getD i 0).toNat : Int))) := Lib.hid (fun i hi => by
    rcases hA with ⟨_, h, _⟩ | ⟨ad, rfl, h | ⟨b, o, rfl, hlt, hc⟩⟩
    · omega
    · omega
    · exact ⟨b, o, rfl, fun W hW => (hW.cell (p := ⟨b, o + i, none⟩) hlt).trans (hc i hi)⟩)
  obtain ⟨hk1, hk2⟩ := hkw
  obtain ⟨hm1, hm2⟩ := hmw
  unfold maxLen at hpm
  clear hzl hA
  go_enter Try.func6, Try.ntmps6
  go_wp2_with fail
  (with_reducible refine (lives3_any _).mono ?_)
  rintro e w1 ⟨rfl, hb⟩
  have HB := Lib.hid hb
  clear hb
  by_cases h1 : k < 1
  case pos =>
    have e1 : decide (k < 1) = true := decide_eq_true h1
    go_wp2
    go_ret
    exact ⟨rfl, HB.out⟩
  case neg =>
  have e1 : decide (k < 1) = false := decide_eq_false h1
  by_cases h2 : 12 < k
  case pos =>
    have e2 : decide ((12 : Int) < k) = true := decide_eq_true h2
    go_wp2
    go_ret
    exact ⟨rfl, HB.out⟩
  case neg =>
  have e2 : decide ((12 : Int) < k) = false := decide_eq_false h2
  by_cases h3 : m < 1
  case pos =>
    have e3 : decide (m < 1) = true := decide_eq_true h3
    go_wp2
    go_ret
    exact ⟨rfl, HB.out⟩
  case neg =>
  have e3 : decide (m < 1) = false := decide_eq_false h3
  by_cases h4 : 30 < m
  case pos =>
    have e4 : decide ((30 : Int) < m) = true := decide_eq_true h4
    go_wp2
    go_ret
    exact ⟨rfl, HB.out⟩
  case neg =>
  have e4 : decide ((30 : Int) < m) = false := decide_eq_false h4
  obtain ⟨K, rfl⟩ : ∃ K : Nat, k = (K : Int) := ⟨k.toNat, by omega⟩
  obtain ⟨M, rfl⟩ : ∃ M : Nat, m = (M : Int) := ⟨m.toNat, by omega⟩
  go_wp2_with fail
  (with_reducible refine (unit_any K (by omega) (by omega) _).mono ?_)
  rintro e w2 ⟨vu, rfl, hg, hb⟩
  have HU := Lib.hid hg
  replace HB := Lib.hid (HB.out.trans (hb.mono HB.out.size))
  clear hb hg
  go_wp2_with fail
  (with_reducible refine (cauchy_any K M (by omega) (by omega) (by omega) _).mono ?_)
  rintro e w3 ⟨vc, rfl, hg, hb⟩
  obtain ⟨bu, cu, rfl, hcu1, hcu2, _⟩ := HU.out.shape
  obtain ⟨bc, cc, rfl, hcc1, hcc2, _⟩ := hg.shape
  obtain ⟨pl, hp1⟩ := HU.out.own
  obtain ⟨pl2, hp2⟩ := hg.own
  have hp1' := GridP.below (pl := pl) hp1 hb
  have HP1 : Hid (GridP w3 w1.heap.size (.slice (some ⟨bu, 0, none⟩) K cu) K K unitF pl) := Lib.hid hp1'
  have HP2 : Hid (GridP w3 w2.heap.size (.slice (some ⟨bc, 0, none⟩) M cc) M K (cauF K) pl2) := Lib.hid hp2
  replace HB := Lib.hid (HB.out.trans (hb.mono HB.out.size))
  obtain ⟨i1, hi1, hz3, hz4, hz5⟩ := info_parts infoRow
  have hmade : (w3.alloc (.cells #[] 37)).ownsRow w3.heap.size 37 1 (.slice (some ⟨w3.heap.size, 0, none⟩) 0 0) 0 [] := World.ownsRow_made w3 #[] 0 (Nat.le_refl _) (by decide) rfl
  have HM := Lib.hid hmade
  have HBM := Lib.hid (below_alloc w3 (.cells #[] 37))
  have HX1 : Hid (∀ j u, (hdL K K pl)[j]? = some u → (w3.alloc (.cells #[] 37)).cell? ((⟨bu, 0, none⟩ : Addr).add j) = some u) := Lib.hid (World.ownsRow.cells (GridP.below (pl := pl) hp1' HBM.out).1 (g := bu) rfl)
  have HX2 : Hid (∀ u, u ∈ hdL K K pl → u.oneCell' = true) := Lib.hid (fun u hu => by obtain ⟨i, _, rfl⟩ := List.mem_map.1 hu; rfl)
  have HX3 : Hid ((hdL K K pl).length = K * 1) := Lib.hid (by rw [hdL_len, Nat.mul_one])
  have HY2 : Hid (∀ u, u ∈ hdL M K pl2 → u.oneCell' = true) := Lib.hid (fun u hu => by obtain ⟨i, _, rfl⟩ := List.mem_map.1 hu; rfl)
  have HY3 : Hid ((hdL M K pl2).length = M * 1) := Lib.hid (by rw [hdL_len, Nat.mul_one])
  unfold maxLen at hcu2 hcc2
  clear hb hg hp1 hp1' hp2 hmade HU
  go_wp2_with (first
    | (at_builtin; (with_reducible refine wpList_append_own_at _ ?g0 (.tmp 54) (.tmp 55) 23 ?g1 w3.heap.size 37 i1 (.slice none 0 0) 1 24 Try.underlying23 hi1 hz3 hz4 hz5 ?g2 (by decide) (.slice (some ⟨w3.heap.size, 0, none⟩) 0 0) 0 [] ?g3 HM.out ⟨bu, 0, none⟩ K cu (hdL K K pl) ?g4 ?g5 ?c1 ?c2 ?c3 ?c4 ?c5 ?_); (case g0 => rfl); (case g1 => rfl); (case g2 => rfl); (case g3 => rfl); (case g4 => rfl); (case g5 => exact HX3.out); (case c1 => exact HX1.out); (case c2 => exact HX2.out); (case c3 => unfold maxLen; omega); (case c4 => omega); (case c5 => simp)
       intro v4 w4 hown1 hgrow1 _ _
       rw [List.nil_append, Nat.zero_add] at hown1
       have hb4 : Below w3.heap.size w3 w4 := HBM.out.grown hgrow1 (by simp) (fun g hg => by simp [Value.ownBlock] at hg; omega)
       have HB4 := Lib.hid hb4
       have HO4 := Lib.hid hown1
       have HY1 : Hid (∀ j u, (hdL M K pl2)[j]? = some u → w4.cell? ((⟨bc, 0, none⟩ : Addr).add j) = some u) := Lib.hid (World.ownsRow.cells (GridP.below (pl := pl2) HP2.out hb4).1 (g := bc) rfl)
       clear hown1 hgrow1 hb4)
    | (at_builtin; (with_reducible refine wpList_append_own_at _ ?h0 (.tmp 56) (.tmp 57) 23 ?h1 w3.heap.size 37 i1 (.slice none 0 0) 1 24 Try.underlying23 hi1 hz3 hz4 hz5 ?h2 (by decide) v4 K (hdL K K pl) ?h3 HO4.out ⟨bc, 0, none⟩ M cc (hdL M K pl2) ?h4 ?h5 ?d1 ?d2 ?d3 ?d4 ?d5 ?_); (case h0 => rfl); (case h1 => rfl); (case h2 => rfl); (case h3 => rfl); (case h4 => rfl); (case h5 => exact HY3.out); (case d1 => exact HY1.out); (case d2 => exact HY2.out); (case d3 => unfold maxLen; omega); (case d4 => omega); (case d5 => exact HB4.out.size)
       intro v5 w5 hown1 hgrow1 _ _
       have hb5 : Below w3.heap.size w3 w5 := HB4.out.grown hgrow1 HB4.out.size (fun g hg => (World.ownsRow.lt HO4.out g hg).1)
       have hmat := stack_copy (k := K) (m := M) (by omega) HP1.out HP2.out hb5 hb5 hown1
       have HMAT := Lib.hid hmat
       have HB5 := Lib.hid (HB.out.trans (hb5.mono HB.out.size))
       clear hown1 hgrow1 hb5 hmat HY1))
  obtain ⟨i0, hi0, hy0, hy1, hy2⟩ := info_parts infoInt
  clear HX1 HX2 HX3 HY2 HY3 HM HBM HP1 HP2 HB4 HO4
  have hKM : K + M ≤ 42 := by omega
  obtain ⟨N, hN⟩ : ∃ N, N = K + M := ⟨_, rfl⟩
  have hNI : (K : Int) + (M : Int) = (N : Int) := by omega
  have HNN := Lib.hid hN
  clear e1 e2 e3 e4
  rw [← hN] at hKM
  rw [hNI]
  clear hN hNI
  go_loopw [12, 62] (fun zl i wr => ∃ (x : Nat) (vl : Value), x ≤ N ∧ i = .int .i64 x ∧ vl = zl ∧ wr.ownsRow w5.heap.size 3 1 vl x (atV (List.range x)) ∧ Below w5.heap.size w5 wr) (fun _ i _ => N - (intOf i).toNat)
  case atStart => exact ⟨0, .slice none 0 0, by omega, rfl, rfl, World.ownsRow_nil _ _ _ _, Below.refl _ _⟩
  case round =>
    obtain ⟨x, vl, hxn, rfl, rfl, how, hbe⟩ := hrel
    have HOW := Lib.hid how
    have HBE := Lib.hid hbe
    clear how hbe
    by_cases hlt : x < N
    · have hs1 := HBE.out.size
      have HOL := Lib.hid (World.ownsRow.alloc HOW.out (.cells #[.int .i64 (x : Int)] 3))
      obtain ⟨xs, hxs⟩ : ∃ xs, xs = atV (List.range x) := ⟨_, rfl⟩
      have HXS := Lib.hid hxs
      rw [← hxs] at HOL
      clear hxs
      go_wp2_with (at_builtin; (with_reducible refine wpList_append_own_at _ ?g0 (.tmp 65) (.tmp 67) 24 ?g1 w5.heap.size 3 i0 (.int .i64 0) 1 8 Try.underlying24 hi0 hy0 hy1 hy2 ?g2 (by decide) vl x xs ?g3 HOL.out ⟨wr.heap.size, 0, none⟩ 1 1 [.int .i64 (x : Int)] ?g4 ?g5 ?c1 ?c2 ?c3 ?c4 ?c5 ?_); (case g0 => rfl); (case g1 => rfl); (case g2 => rfl); (case g3 => rfl); (case g4 => rfl); (case g5 => rfl); (case c1 => exact cell_one_new _ _ _); (case c2 => simp [Value.oneCell']); (case c3 => unfold maxLen; omega); (case c4 => omega); (case c5 => simp; omega); intro v6; intro w6; intro hown5; intro hgrow5; intro hx5; intro hat5; have HO6 := Lib.hid hown5; have HG6 := Lib.hid hgrow5; clear hown5 hgrow5 hx5 hat5)
      have HB6 : Hid (Below w5.heap.size w5 w6) := Lib.hid ((HBE.out.alloc hs1 _).grown HG6.out (by simp; omega) (fun g hg => (World.ownsRow.lt HOL.out g hg).1))
      go_roundw
      case rel => exact ⟨x + 1, v6, by omega, by go_num, rfl, by rw [List.range_succ, atV_snoc, ← HXS.out]; exact HO6.out, HB6.out⟩
      case measure => simp [intOf]; omega
    · obtain rfl : x = N := by omega
      have HST : Hid (PickS wr w5.heap.size x 0 vl (.slice none 0 0)) := Lib.hid ⟨List.range x, [], ⟨rfl, by simp, by simpa using List.nodup_range, fun y hy => by simpa using hy⟩, by rw [List.length_range]; exact HOW.out, World.ownsRow_nil _ _ _ _, .inl rfl⟩
      have HB0 := HBE
      clear HOW
      go_wp2_with fail
      go_loopw [12, 13, 71] (fun zl zr c wr => ∃ (i : Nat) (vl vr : Value), i ≤ K ∧ c = .int .i64 i ∧ vl = zl ∧ vr = zr ∧ PickS wr w5.heap.size x i vl vr ∧ Below w5.heap.size w5 wr) (fun _ _ c _ => K - (intOf c).toNat)
      case atStart => exact ⟨0, vl, .slice none 0 0, by omega, rfl, rfl, rfl, HST.out, HB0.out⟩
      case round =>
        clear HST HB0 HBE
        obtain ⟨i, vl, vr, hi, rfl, rfl, rfl, hst, hbe⟩ := hrel
        have HBE := Lib.hid hbe
        obtain ⟨L, R, hpk, hol, hor, hap⟩ := hst
        have HPK := Lib.hid hpk
        have HOL := Lib.hid hol
        have HAP := Lib.hid hap
        have hRl := hpk.len
        have hSl := hpk.sum
        by_cases hlt : i < K
        · have hLl : 0 < L.length := by have := HNN.out; omega
          obtain ⟨gl, cl, rfl, hgl, hgls⟩ := hol.form hLl
          have hcl : L.length ≤ cl ∧ cl ≤ 9223372036854775807 := by
            rcases hol.2 with ⟨e, _⟩ | ⟨g, c, cur, e, _, _, a1, a2, _⟩
            · simp at e
            · simp at e
              unfold maxLen at a2
              omega
          obtain ⟨hcl1, hcl2⟩ := hcl
          have HRL := Lib.hid hRl
          have HSL := Lib.hid hSl
          clear hbe hol hap hpk
          by_cases hip : i < plen
          · obtain ⟨b0, o0, rfl, hcz⟩ := HIN.out i hip
            have hcz2 := hcz wr (HB5.out.trans (HBE.out.mono HB5.out.size))
            clear hcz
            have dp : decide ((i : Int) < (plen : Int)) = true := by simp; omega
            obtain ⟨z, hz⟩ : ∃ z : UInt8, z = zs.getD i 0 := ⟨_, rfl⟩
            rw [← hz] at hcz2
            obtain ⟨p, hp1⟩ : ∃ p : Nat, p = z.toNat % L.length := ⟨_, rfl⟩
            have hpL : p < L.length := by rw [hp1]; exact Nat.mod_lt _ hLl
            have hm1 : Int.tmod (z.toNat : Int) (L.length : Int) = ((p : Nat) : Int) := by rw [Int.tmod_eq_emod_of_nonneg (by omega), hp1, Int.natCast_emod]
            have hm2 : (z.toNat : Int) % (L.length : Int) = ((p : Nat) : Int) := by rw [hp1, Int.natCast_emod]
            have hm3 : ((L.length : Int) == 0) = false := beq_eq_false_iff_ne.2 (by omega)
            have hm4 : ¬ L.length = 0 := by omega
            have hzb := z.toNat_lt
            have HOR := Lib.hid hor
            clear hor hz hp1
            go_upto_region 22 with fail
            clear hm1 hm2 hm3 hm4 hcz2 dp hip
            have hy : wr.cell? ⟨gl, p, none⟩ = some (.int .i64 ((L.getD p 0 : Nat) : Int)) := by
              rw [HOL.out.cellAt p (by rw [Nat.mul_one]; exact hpL)]
              simp [atV, List.getD, hpL]
            obtain ⟨y, hye⟩ : ∃ y, y = L.getD p 0 := ⟨_, rfl⟩
            rw [← hye] at hy
            have HYE := Lib.hid hye
            have HOR2 := Lib.hid (World.ownsRow.alloc HOR.out (.cells #[.int .i64 (y : Int)] 3))
            have hs1 := HBE.out.size
            have hRK : R.length ≤ 42 := by have := HRL.out; have := HSL.out; omega
            clear hye
            obtain ⟨ra, hra⟩ : ∃ ra, ra = atV R := ⟨_, rfl⟩
            obtain ⟨rl, hrl⟩ : ∃ rl, rl = R.length := ⟨_, rfl⟩
            rw [← hra, ← hrl] at HOR2
            rw [← hrl] at hRK
            have HRA := Lib.hid hra
            have HRLL := Lib.hid hrl
            clear hra hrl
            go_wp2_with (at_builtin; (with_reducible refine wpList_append_own_at _ ?g0 (.tmp 86) (.tmp 91) 24 ?g1 w5.heap.size 3 i0 (.int .i64 0) 1 8 Try.underlying24 hi0 hy0 hy1 hy2 ?g2 (by decide) vr rl ra ?g3 HOR2.out ⟨wr.heap.size, 0, none⟩ 1 1 [.int .i64 (y : Int)] ?g4 ?g5 ?c1 ?c2 ?c3 ?c4 ?c5 ?_); (case g0 => rfl); (case g1 => rfl); (case g2 => rfl); (case g3 => rfl); (case g4 => rfl); (case g5 => rfl); (case c1 => exact cell_one_new _ _ _); (case c2 => simp [Value.oneCell']); (case c3 => unfold maxLen; omega); (case c4 => omega); (case c5 => simp; omega); intro vr'; intro w6; intro hown1; intro hgrow1; intro hx1; intro hat1; have HO6 := Lib.hid hown1; have HG6 := Lib.hid hgrow1; have HAT6 := Lib.hid hat1; clear hown1 hgrow1 hx1 hat1)
            have HS6 : Hid (wr.heap.size + 1 ≤ w6.heap.size) := Lib.hid (by have := HG6.out.size; simpa using this)
            have HB6 : Hid (Below w5.heap.size w5 w6) := Lib.hid ((HBE.out.alloc hs1 _).grown HG6.out (by simp; omega) (fun g hg => (World.ownsRow.lt HOR2.out g hg).1))
            have HOL6 : Hid (w6.ownsRow w5.heap.size 3 1 (.slice (some ⟨gl, 0, none⟩) L.length cl) L.length (atV L)) := Lib.hid ((World.ownsRow.alloc HOL.out (.cells #[.int .i64 (y : Int)] 3)).kept HG6.out (by
              right
              rcases HAP.out with e | e
              · rw [e]; simp [Value.ownBlock]
              · exact Ne.symm e))
            have hs6 : w5.heap.size ≤ w6.heap.size := by have := HS6.out; omega
            have hg6 : gl < w6.heap.size := by have := HS6.out; omega
            have HMD : Hid (((w6.alloc (.cells #[] 3)).drew).ownsRow w5.heap.size 3 1 (.slice (some ⟨w6.heap.size, 0, none⟩) 0 0) 0 []) := Lib.hid (World.ownsRow.drew (World.ownsRow_made w6 #[] 0 hs6 (by decide) rfl))
            have HOL6A := Lib.hid (World.ownsRow.drew (World.ownsRow.alloc HOL6.out (.cells #[] 3)))
            have HN1 : Hid (∀ j u, (atV (L.take p))[j]? = some u → ((w6.alloc (.cells #[] 3)).drew).cell? ((⟨gl, 0, none⟩ : Addr).add j) = some u) := Lib.hid (fun j u hu => by
              refine World.ownsRow.cells HOL6A.out (g := gl) rfl j u ?_
              have hj : j < p := by
                by_cases g : j < p
                · exact g
                · rw [List.getElem?_eq_none (by rw [atV_len, List.length_take]; omega)] at hu; cases hu
              rw [← hu]
              simp [atV, hj])
            have HN2 := Lib.hid (atV_ones (L.take p))
            have HN3 : Hid ((atV (L.take p)).length = p * 1) := Lib.hid (by rw [atV_len, List.length_take, Nat.mul_one]; omega)
            have HD2 := Lib.hid (atV_ones (L.drop (p + 1)))
            have HD3 : Hid ((atV (L.drop (p + 1))).length = (L.length - (p + 1)) * 1) := Lib.hid (by rw [atV_len, List.length_drop, Nat.mul_one])
            obtain ⟨n, hn⟩ : ∃ n, n = L.length := ⟨_, rfl⟩
            rw [← hn] at HD3 hpL hcl1 hLl
            have HNN2 := Lib.hid hn
            have hnb : n ≤ 42 := by have := HSL.out; omega
            rw [← hn]
            clear hn
            obtain ⟨ta, hta⟩ : ∃ ta, ta = atV (L.take p) := ⟨_, rfl⟩
            obtain ⟨da, hda⟩ : ∃ da, da = atV (L.drop (p + 1)) := ⟨_, rfl⟩
            rw [← hta] at HN1 HN2 HN3
            rw [← hda] at HD2 HD3
            have HTA := Lib.hid hta
            have HDA := Lib.hid hda
            have hpn1 : ((p : Int) + 1).toNat = p + 1 := by omega
            have hpw : IntKind.i64.wrap ((p : Int) + 1) = (p : Int) + 1 := by rw [IntKind.wrap_i64]; omega
            have hq0 : (p : Int) ≤ (p : Int) + 1 := by omega
            have hq1 : (0 : Int) ≤ (p : Int) + 1 := by omega
            have hq2 : (p : Int) + 1 ≤ (n : Int) := by omega
            have hpn2 : p + 1 ≤ n := by omega
            have hpn3 : p ≤ cl := by omega
            clear hta hda hy
            by_cases hcap : cl = p + 1
            · have hn1 : n = p + 1 := by omega
              subst hcap
              subst hn1
              go_region_law (first
                | (refine step_append_own_at _ (by rfl) (.tmp 97) (.tmp 101) 24 (by rfl) w5.heap.size 3 i0 (.int .i64 0) 1 8 Try.underlying24 hi0 hy0 hy1 hy2 (by rfl) (by decide) v7 p ta (by rfl) HO7.out (⟨gl, 0, none⟩ : Addr) 0 0 da (by rfl) (by have := HD3.out; omega) HD1.out HD2.out (by unfold maxLen; omega) (by omega) (by have := HS7.out; omega) ?_
                   intro v8 w8 hown8 hgrow8 hat8)
                | (refine step_append_own_at _ (by rfl) (.tmp 93) (.tmp 96) 24 (by rfl) w5.heap.size 3 i0 (.int .i64 0) 1 8 Try.underlying24 hi0 hy0 hy1 hy2 (by rfl) (by decide) (.slice (some ⟨w6.heap.size, 0, none⟩) 0 0) 0 [] (by rfl) HMD.out ⟨gl, 0, none⟩ p (p + 1) ta (by rfl) HN3.out HN1.out HN2.out (by unfold maxLen; omega) (by omega) (by simp; omega) ?_
                   intro v7 w7 hown7 hgrow7 hat7
                   rw [List.nil_append, Nat.zero_add] at hown7
                   have HO7 := Lib.hid hown7
                   have HG7 := Lib.hid hgrow7
                   have HAT7 := Lib.hid hat7
                   have HS7 : Hid (w6.heap.size + 1 ≤ w7.heap.size) := Lib.hid (by have := hgrow7.size; simpa using this)
                   have HOL7 := HOL6A.out.kept hgrow7 (by right; simp [Value.ownBlock]; omega)
                   have HD1 : Hid (∀ j u, da[j]? = some u → w7.cell? ((⟨gl, 0, none⟩ : Addr).add j) = some u) := Lib.hid (fun j u hu => by
                     rw [List.getElem?_eq_none (by have := HD3.out; omega)] at hu; cases hu)
                   clear hown7 hgrow7 hat7))
              all_goals
                have HO8 := Lib.hid hown8
                have HG8 := Lib.hid hgrow8
                have HAT8 := Lib.hid hat8
                clear hown8 hgrow8 hat8
                have HV7 : Hid (∀ g, v7.ownBlock = some g → w6.heap.size ≤ g) := Lib.hid (fun g hg => by
                  rcases HAT7.out with e | e
                  · rw [e] at hg; simp [Value.ownBlock] at hg; omega
                  · rw [e] at hg; simp at hg; omega)
                have HB8 : Hid (Below w5.heap.size w5 w8) := Lib.hid (by
                  have h6 : Below w5.heap.size w5 ((w6.alloc (.cells #[] 3)).drew) := (HB6.out.alloc hs6 _).drew
                  have h7 := h6.grown HG7.out (by simp; omega) (fun g hg => by simp [Value.ownBlock] at hg; omega)
                  exact h7.grown HG8.out (by have := HS7.out; omega) (fun g hg => by have := HV7.out g hg; omega))
                have hvr : ∀ g, vr'.ownBlock = some g → g < w6.heap.size := fun g hg => (World.ownsRow.lt HO6.out g hg).2
                have HVR := Lib.hid hvr
                clear hvr
                have HST : Hid (PickS w8 w5.heap.size x (i + 1) v8 vr') := Lib.hid (by
                  refine ⟨L.take p ++ L.drop (p + 1), R ++ [L.getD p 0], HPK.out.next (by rw [← HNN2.out]; exact hpL), ?_, ?_, ?_⟩
                  · have hl : (L.take p ++ L.drop (p + 1)).length = p + 0 := by rw [List.length_append, List.length_take, List.length_drop, ← HNN2.out]; omega
                    rw [hl, atV_app, ← HTA.out, ← HDA.out]; exact HO8.out
                  · rw [List.length_append, show ([L.getD p 0] : List Nat).length = 1 from rfl, atV_snoc, ← HYE.out, ← HRA.out, ← HRLL.out]
                    have h1 := World.ownsRow.drew (World.ownsRow.alloc HO6.out (.cells #[] 3))
                    refine (h1.kept HG7.out ?_).kept HG8.out ?_
                    · cases hv : vr'.ownBlock with
                      | none => exact .inl rfl
                      | some g => right; have := HVR.out g hv; simp [Value.ownBlock]; omega
                    · cases hv : vr'.ownBlock with
                      | none => exact .inl rfl
                      | some g =>
                        right
                        intro e
                        have h1 := HVR.out g hv
                        have h2 := HV7.out g e.symm
                        omega
                  · cases hv : vr'.ownBlock with
                    | none => exact .inl rfl
                    | some g =>
                      right
                      intro e
                      have h1 := HVR.out g hv
                      rcases HAT8.out with e2 | e2
                      · rw [e2] at e
                        have h2 := HV7.out g e.symm
                        omega
                      · rw [e2] at e
                        injection e with e
                        have := HS7.out
                        omega)
                clear HO8 HG8 HAT8
                try (have hp0 := HP0.out; clear HP0; subst hp0)
                go_wp2
                go_roundw
              all_goals first | exact ⟨i + 1, v8, vr', by omega, by go_num, rfl, rfl, HST.out, HB8.out⟩ | (simp [intOf]; omega)
            · have hcap2 : ¬ cl - (p + 1) = 0 := by omega
              go_region_law (first
                | (refine step_append_own_at _ (by rfl) (.tmp 97) (.tmp 101) 24 (by rfl) w5.heap.size 3 i0 (.int .i64 0) 1 8 Try.underlying24 hi0 hy0 hy1 hy2 (by rfl) (by decide) v7 p ta (by rfl) HO7.out (⟨gl, p + 1, none⟩ : Addr) (n - (p + 1)) (cl - (p + 1)) da (by rfl) HD3.out HD1.out HD2.out (by unfold maxLen; omega) (by omega) (by have := HS7.out; omega) ?_
                   intro v8 w8 hown8 hgrow8 hat8)
                | (refine step_append_own_at _ (by rfl) (.tmp 93) (.tmp 96) 24 (by rfl) w5.heap.size 3 i0 (.int .i64 0) 1 8 Try.underlying24 hi0 hy0 hy1 hy2 (by rfl) (by decide) (.slice (some ⟨w6.heap.size, 0, none⟩) 0 0) 0 [] (by rfl) HMD.out ⟨gl, 0, none⟩ p cl ta (by rfl) HN3.out HN1.out HN2.out (by unfold maxLen; omega) (by omega) (by simp; omega) ?_
                   intro v7 w7 hown7 hgrow7 hat7
                   rw [List.nil_append, Nat.zero_add] at hown7
                   have HO7 := Lib.hid hown7
                   have HG7 := Lib.hid hgrow7
                   have HAT7 := Lib.hid hat7
                   have HS7 : Hid (w6.heap.size + 1 ≤ w7.heap.size) := Lib.hid (by have := hgrow7.size; simpa using this)
                   have HOL7 := HOL6A.out.kept hgrow7 (by right; simp [Value.ownBlock]; omega)
                   have HD1 : Hid (∀ j u, da[j]? = some u → w7.cell? ((⟨gl, p + 1, none⟩ : Addr).add j) = some u) := Lib.hid (fun j u hu => by
                     have hu2 : (atV L)[p + 1 + j]? = some u := by
                       rw [← hu, HDA.out]
                       unfold atV
                       rw [List.getElem?_map, List.getElem?_map, List.getElem?_drop]
                     have := World.ownsRow.cells HOL7 (g := gl) rfl (p + 1 + j) u hu2
                     rw [addr_plus] at this
                     rw [addr_plus, ← this]
                     congr 2
                     omega)
                   clear hown7 hgrow7 hat7))
              all_goals
                have HO8 := Lib.hid hown8
                have HG8 := Lib.hid hgrow8
                have HAT8 := Lib.hid hat8
                clear hown8 hgrow8 hat8
                have HV7 : Hid (∀ g, v7.ownBlock = some g → w6.heap.size ≤ g) := Lib.hid (fun g hg => by
                  rcases HAT7.out with e | e
                  · rw [e] at hg; simp [Value.ownBlock] at hg; omega
                  · rw [e] at hg; simp at hg; omega)
                have HB8 : Hid (Below w5.heap.size w5 w8) := Lib.hid (by
                  have h6 : Below w5.heap.size w5 ((w6.alloc (.cells #[] 3)).drew) := (HB6.out.alloc hs6 _).drew
                  have h7 := h6.grown HG7.out (by simp; omega) (fun g hg => by simp [Value.ownBlock] at hg; omega)
                  exact h7.grown HG8.out (by have := HS7.out; omega) (fun g hg => by have := HV7.out g hg; omega))
                have hvr : ∀ g, vr'.ownBlock = some g → g < w6.heap.size := fun g hg => (World.ownsRow.lt HO6.out g hg).2
                have HVR := Lib.hid hvr
                clear hvr
                have HST : Hid (PickS w8 w5.heap.size x (i + 1) v8 vr') := Lib.hid (by
                  refine ⟨L.take p ++ L.drop (p + 1), R ++ [L.getD p 0], HPK.out.next (by rw [← HNN2.out]; exact hpL), ?_, ?_, ?_⟩
                  · have hl : (L.take p ++ L.drop (p + 1)).length = p + (n - (p + 1)) := by rw [List.length_append, List.length_take, List.length_drop, ← HNN2.out]; omega
                    rw [hl, atV_app, ← HTA.out, ← HDA.out]; exact HO8.out
                  · rw [List.length_append, show ([L.getD p 0] : List Nat).length = 1 from rfl, atV_snoc, ← HYE.out, ← HRA.out, ← HRLL.out]
                    have h1 := World.ownsRow.drew (World.ownsRow.alloc HO6.out (.cells #[] 3))
                    refine (h1.kept HG7.out ?_).kept HG8.out ?_
                    · cases hv : vr'.ownBlock with
                      | none => exact .inl rfl
                      | some g => right; have := HVR.out g hv; simp [Value.ownBlock]; omega
                    · cases hv : vr'.ownBlock with
                      | none => exact .inl rfl
                      | some g =>
                        right
                        intro e
                        have h1 := HVR.out g hv
                        have h2 := HV7.out g e.symm
                        omega
                  · cases hv : vr'.ownBlock with
                    | none => exact .inl rfl
                    | some g =>
                      right
                      intro e
                      have h1 := HVR.out g hv
                      rcases HAT8.out with e2 | e2
                      · rw [e2] at e
                        have h2 := HV7.out g e.symm
                        omega
                      · rw [e2] at e
                        injection e with e
                        have := HS7.out
                        omega)
                clear HO8 HG8 HAT8
                try (have hp0 := HP0.out; clear HP0; subst hp0)
                go_wp2
                go_roundw
              all_goals first | exact ⟨i + 1, v8, vr', by omega, by go_num, rfl, rfl, HST.out, HB8.out⟩ | (simp [intOf]; omega)
          · have dp : decide ((i : Int) < (plen : Int)) = false := by simp; omega
            obtain ⟨p, hp0⟩ : ∃ p : Nat, p = 0 := ⟨_, rfl⟩
            have hpL : p < L.length := by omega
            have HOR := Lib.hid hor
            clear hor
            go_upto_region 22 with fail
            rw [show (0 : Int) = ((p : Nat) : Int) by rw [hp0]; rfl]
            have HP0 := Lib.hid hp0
            clear dp hip hp0
            have hy : wr.cell? ⟨gl, p, none⟩ = some (.int .i64 ((L.getD p 0 : Nat) : Int)) := by
              rw [HOL.out.cellAt p (by rw [Nat.mul_one]; exact hpL)]
              simp [atV, List.getD, hpL]
            obtain ⟨y, hye⟩ : ∃ y, y = L.getD p 0 := ⟨_, rfl⟩
            rw [← hye] at hy
            have HYE := Lib.hid hye
            have HOR2 := Lib.hid (World.ownsRow.alloc HOR.out (.cells #[.int .i64 (y : Int)] 3))
            have hs1 := HBE.out.size
            have hRK : R.length ≤ 42 := by have := HRL.out; have := HSL.out; omega
            clear hye
            obtain ⟨ra, hra⟩ : ∃ ra, ra = atV R := ⟨_, rfl⟩
            obtain ⟨rl, hrl⟩ : ∃ rl, rl = R.length := ⟨_, rfl⟩
            rw [← hra, ← hrl] at HOR2
            rw [← hrl] at hRK
            have HRA := Lib.hid hra
            have HRLL := Lib.hid hrl
            clear hra hrl
            go_wp2_with (at_builtin; (with_reducible refine wpList_append_own_at _ ?g0 (.tmp 86) (.tmp 91) 24 ?g1 w5.heap.size 3 i0 (.int .i64 0) 1 8 Try.underlying24 hi0 hy0 hy1 hy2 ?g2 (by decide) vr rl ra ?g3 HOR2.out ⟨wr.heap.size, 0, none⟩ 1 1 [.int .i64 (y : Int)] ?g4 ?g5 ?c1 ?c2 ?c3 ?c4 ?c5 ?_); (case g0 => rfl); (case g1 => rfl); (case g2 => rfl); (case g3 => rfl); (case g4 => rfl); (case g5 => rfl); (case c1 => exact cell_one_new _ _ _); (case c2 => simp [Value.oneCell']); (case c3 => unfold maxLen; omega); (case c4 => omega); (case c5 => simp; omega); intro vr'; intro w6; intro hown1; intro hgrow1; intro hx1; intro hat1; have HO6 := Lib.hid hown1; have HG6 := Lib.hid hgrow1; have HAT6 := Lib.hid hat1; clear hown1 hgrow1 hx1 hat1)
            have HS6 : Hid (wr.heap.size + 1 ≤ w6.heap.size) := Lib.hid (by have := HG6.out.size; simpa using this)
            have HB6 : Hid (Below w5.heap.size w5 w6) := Lib.hid ((HBE.out.alloc hs1 _).grown HG6.out (by simp; omega) (fun g hg => (World.ownsRow.lt HOR2.out g hg).1))
            have HOL6 : Hid (w6.ownsRow w5.heap.size 3 1 (.slice (some ⟨gl, 0, none⟩) L.length cl) L.length (atV L)) := Lib.hid ((World.ownsRow.alloc HOL.out (.cells #[.int .i64 (y : Int)] 3)).kept HG6.out (by
              right
              rcases HAP.out with e | e
              · rw [e]; simp [Value.ownBlock]
              · exact Ne.symm e))
            have hs6 : w5.heap.size ≤ w6.heap.size := by have := HS6.out; omega
            have hg6 : gl < w6.heap.size := by have := HS6.out; omega
            have HMD : Hid (((w6.alloc (.cells #[] 3)).drew).ownsRow w5.heap.size 3 1 (.slice (some ⟨w6.heap.size, 0, none⟩) 0 0) 0 []) := Lib.hid (World.ownsRow.drew (World.ownsRow_made w6 #[] 0 hs6 (by decide) rfl))
            have HOL6A := Lib.hid (World.ownsRow.drew (World.ownsRow.alloc HOL6.out (.cells #[] 3)))
            have HN1 : Hid (∀ j u, (atV (L.take p))[j]? = some u → ((w6.alloc (.cells #[] 3)).drew).cell? ((⟨gl, 0, none⟩ : Addr).add j) = some u) := Lib.hid (fun j u hu => by
              refine World.ownsRow.cells HOL6A.out (g := gl) rfl j u ?_
              have hj : j < p := by
                by_cases g : j < p
                · exact g
                · rw [List.getElem?_eq_none (by rw [atV_len, List.length_take]; omega)] at hu; cases hu
              rw [← hu]
              simp [atV, hj])
            have HN2 := Lib.hid (atV_ones (L.take p))
            have HN3 : Hid ((atV (L.take p)).length = p * 1) := Lib.hid (by rw [atV_len, List.length_take, Nat.mul_one]; omega)
            have HD2 := Lib.hid (atV_ones (L.drop (p + 1)))
            have HD3 : Hid ((atV (L.drop (p + 1))).length = (L.length - (p + 1)) * 1) := Lib.hid (by rw [atV_len, List.length_drop, Nat.mul_one])
            obtain ⟨n, hn⟩ : ∃ n, n = L.length := ⟨_, rfl⟩
            rw [← hn] at HD3 hpL hcl1 hLl
            have HNN2 := Lib.hid hn
            have hnb : n ≤ 42 := by have := HSL.out; omega
            rw [← hn]
            clear hn
            obtain ⟨ta, hta⟩ : ∃ ta, ta = atV (L.take p) := ⟨_, rfl⟩
            obtain ⟨da, hda⟩ : ∃ da, da = atV (L.drop (p + 1)) := ⟨_, rfl⟩
            rw [← hta] at HN1 HN2 HN3
            rw [← hda] at HD2 HD3
            have HTA := Lib.hid hta
            have HDA := Lib.hid hda
            have hpn1 : ((p : Int) + 1).toNat = p + 1 := by omega
            have hpw : IntKind.i64.wrap ((p : Int) + 1) = (p : Int) + 1 := by rw [IntKind.wrap_i64]; omega
            have hq0 : (p : Int) ≤ (p : Int) + 1 := by omega
            have hq1 : (0 : Int) ≤ (p : Int) + 1 := by omega
            have hq2 : (p : Int) + 1 ≤ (n : Int) := by omega
            have hpn2 : p + 1 ≤ n := by omega
            have hpn3 : p ≤ cl := by omega
            clear hta hda hy
            by_cases hcap : cl = p + 1
            · have hn1 : n = p + 1 := by omega
              subst hcap
              subst hn1
              go_region_law (first
                | (refine step_append_own_at _ (by rfl) (.tmp 97) (.tmp 101) 24 (by rfl) w5.heap.size 3 i0 (.int .i64 0) 1 8 Try.underlying24 hi0 hy0 hy1 hy2 (by rfl) (by decide) v7 p ta (by rfl) HO7.out (⟨gl, 0, none⟩ : Addr) 0 0 da (by rfl) (by have := HD3.out; omega) HD1.out HD2.out (by unfold maxLen; omega) (by omega) (by have := HS7.out; omega) ?_
                   intro v8 w8 hown8 hgrow8 hat8)
                | (refine step_append_own_at _ (by rfl) (.tmp 93) (.tmp 96) 24 (by rfl) w5.heap.size 3 i0 (.int .i64 0) 1 8 Try.underlying24 hi0 hy0 hy1 hy2 (by rfl) (by decide) (.slice (some ⟨w6.heap.size, 0, none⟩) 0 0) 0 [] (by rfl) HMD.out ⟨gl, 0, none⟩ p (p + 1) ta (by rfl) HN3.out HN1.out HN2.out (by unfold maxLen; omega) (by omega) (by simp; omega) ?_
                   intro v7 w7 hown7 hgrow7 hat7
                   rw [List.nil_append, Nat.zero_add] at hown7
                   have HO7 := Lib.hid hown7
                   have HG7 := Lib.hid hgrow7
                   have HAT7 := Lib.hid hat7
                   have HS7 : Hid (w6.heap.size + 1 ≤ w7.heap.size) := Lib.hid (by have := hgrow7.size; simpa using this)
                   have HOL7 := HOL6A.out.kept hgrow7 (by right; simp [Value.ownBlock]; omega)
                   have HD1 : Hid (∀ j u, da[j]? = some u → w7.cell? ((⟨gl, 0, none⟩ : Addr).add j) = some u) := Lib.hid (fun j u hu => by
                     rw [List.getElem?_eq_none (by have := HD3.out; omega)] at hu; cases hu)
                   clear hown7 hgrow7 hat7))
              all_goals
                have HO8 := Lib.hid hown8
                have HG8 := Lib.hid hgrow8
                have HAT8 := Lib.hid hat8
                clear hown8 hgrow8 hat8
                have HV7 : Hid (∀ g, v7.ownBlock = some g → w6.heap.size ≤ g) := Lib.hid (fun g hg => by
                  rcases HAT7.out with e | e
                  · rw [e] at hg; simp [Value.ownBlock] at hg; omega
                  · rw [e] at hg; simp at hg; omega)
                have HB8 : Hid (Below w5.heap.size w5 w8) := Lib.hid (by
                  have h6 : Below w5.heap.size w5 ((w6.alloc (.cells #[] 3)).drew) := (HB6.out.alloc hs6 _).drew
                  have h7 := h6.grown HG7.out (by simp; omega) (fun g hg => by simp [Value.ownBlock] at hg; omega)
                  exact h7.grown HG8.out (by have := HS7.out; omega) (fun g hg => by have := HV7.out g hg; omega))
                have hvr : ∀ g, vr'.ownBlock = some g → g < w6.heap.size := fun g hg => (World.ownsRow.lt HO6.out g hg).2
                have HVR := Lib.hid hvr
                clear hvr
                have HST : Hid (PickS w8 w5.heap.size x (i + 1) v8 vr') := Lib.hid (by
                  refine ⟨L.take p ++ L.drop (p + 1), R ++ [L.getD p 0], HPK.out.next (by rw [← HNN2.out]; exact hpL), ?_, ?_, ?_⟩
                  · have hl : (L.take p ++ L.drop (p + 1)).length = p + 0 := by rw [List.length_append, List.length_take, List.length_drop, ← HNN2.out]; omega
                    rw [hl, atV_app, ← HTA.out, ← HDA.out]; exact HO8.out
                  · rw [List.length_append, show ([L.getD p 0] : List Nat).length = 1 from rfl, atV_snoc, ← HYE.out, ← HRA.out, ← HRLL.out]
                    have h1 := World.ownsRow.drew (World.ownsRow.alloc HO6.out (.cells #[] 3))
                    refine (h1.kept HG7.out ?_).kept HG8.out ?_
                    · cases hv : vr'.ownBlock with
                      | none => exact .inl rfl
                      | some g => right; have := HVR.out g hv; simp [Value.ownBlock]; omega
                    · cases hv : vr'.ownBlock with
                      | none => exact .inl rfl
                      | some g =>
                        right
                        intro e
                        have h1 := HVR.out g hv
                        have h2 := HV7.out g e.symm
                        omega
                  · cases hv : vr'.ownBlock with
                    | none => exact .inl rfl
                    | some g =>
                      right
                      intro e
                      have h1 := HVR.out g hv
                      rcases HAT8.out with e2 | e2
                      · rw [e2] at e
                        have h2 := HV7.out g e.symm
                        omega
                      · rw [e2] at e
                        injection e with e
                        have := HS7.out
                        omega)
                clear HO8 HG8 HAT8
                try (have hp0 := HP0.out; clear HP0; subst hp0)
                go_wp2
                go_roundw
              all_goals first | exact ⟨i + 1, v8, vr', by omega, by go_num, rfl, rfl, HST.out, HB8.out⟩ | (simp [intOf]; omega)
            · have hcap2 : ¬ cl - (p + 1) = 0 := by omega
              go_region_law (first
                | (refine step_append_own_at _ (by rfl) (.tmp 97) (.tmp 101) 24 (by rfl) w5.heap.size 3 i0 (.int .i64 0) 1 8 Try.underlying24 hi0 hy0 hy1 hy2 (by rfl) (by decide) v7 p ta (by rfl) HO7.out (⟨gl, p + 1, none⟩ : Addr) (n - (p + 1)) (cl - (p + 1)) da (by rfl) HD3.out HD1.out HD2.out (by unfold maxLen; omega) (by omega) (by have := HS7.out; omega) ?_
                   intro v8 w8 hown8 hgrow8 hat8)
                | (refine step_append_own_at _ (by rfl) (.tmp 93) (.tmp 96) 24 (by rfl) w5.heap.size 3 i0 (.int .i64 0) 1 8 Try.underlying24 hi0 hy0 hy1 hy2 (by rfl) (by decide) (.slice (some ⟨w6.heap.size, 0, none⟩) 0 0) 0 [] (by rfl) HMD.out ⟨gl, 0, none⟩ p cl ta (by rfl) HN3.out HN1.out HN2.out (by unfold maxLen; omega) (by omega) (by simp; omega) ?_
                   intro v7 w7 hown7 hgrow7 hat7
                   rw [List.nil_append, Nat.zero_add] at hown7
                   have HO7 := Lib.hid hown7
                   have HG7 := Lib.hid hgrow7
                   have HAT7 := Lib.hid hat7
                   have HS7 : Hid (w6.heap.size + 1 ≤ w7.heap.size) := Lib.hid (by have := hgrow7.size; simpa using this)
                   have HOL7 := HOL6A.out.kept hgrow7 (by right; simp [Value.ownBlock]; omega)
                   have HD1 : Hid (∀ j u, da[j]? = some u → w7.cell? ((⟨gl, p + 1, none⟩ : Addr).add j) = some u) := Lib.hid (fun j u hu => by
                     have hu2 : (atV L)[p + 1 + j]? = some u := by
                       rw [← hu, HDA.out]
                       unfold atV
                       rw [List.getElem?_map, List.getElem?_map, List.getElem?_drop]
                     have := World.ownsRow.cells HOL7 (g := gl) rfl (p + 1 + j) u hu2
                     rw [addr_plus] at this
                     rw [addr_plus, ← this]
                     congr 2
                     omega)
                   clear hown7 hgrow7 hat7))
              all_goals
                have HO8 := Lib.hid hown8
                have HG8 := Lib.hid hgrow8
                have HAT8 := Lib.hid hat8
                clear hown8 hgrow8 hat8
                have HV7 : Hid (∀ g, v7.ownBlock = some g → w6.heap.size ≤ g) := Lib.hid (fun g hg => by
                  rcases HAT7.out with e | e
                  · rw [e] at hg; simp [Value.ownBlock] at hg; omega
                  · rw [e] at hg; simp at hg; omega)
                have HB8 : Hid (Below w5.heap.size w5 w8) := Lib.hid (by
                  have h6 : Below w5.heap.size w5 ((w6.alloc (.cells #[] 3)).drew) := (HB6.out.alloc hs6 _).drew
                  have h7 := h6.grown HG7.out (by simp; omega) (fun g hg => by simp [Value.ownBlock] at hg; omega)
                  exact h7.grown HG8.out (by have := HS7.out; omega) (fun g hg => by have := HV7.out g hg; omega))
                have hvr : ∀ g, vr'.ownBlock = some g → g < w6.heap.size := fun g hg => (World.ownsRow.lt HO6.out g hg).2
                have HVR := Lib.hid hvr
                clear hvr
                have HST : Hid (PickS w8 w5.heap.size x (i + 1) v8 vr') := Lib.hid (by
                  refine ⟨L.take p ++ L.drop (p + 1), R ++ [L.getD p 0], HPK.out.next (by rw [← HNN2.out]; exact hpL), ?_, ?_, ?_⟩
                  · have hl : (L.take p ++ L.drop (p + 1)).length = p + (n - (p + 1)) := by rw [List.length_append, List.length_take, List.length_drop, ← HNN2.out]; omega
                    rw [hl, atV_app, ← HTA.out, ← HDA.out]; exact HO8.out
                  · rw [List.length_append, show ([L.getD p 0] : List Nat).length = 1 from rfl, atV_snoc, ← HYE.out, ← HRA.out, ← HRLL.out]
                    have h1 := World.ownsRow.drew (World.ownsRow.alloc HO6.out (.cells #[] 3))
                    refine (h1.kept HG7.out ?_).kept HG8.out ?_
                    · cases hv : vr'.ownBlock with
                      | none => exact .inl rfl
                      | some g => right; have := HVR.out g hv; simp [Value.ownBlock]; omega
                    · cases hv : vr'.ownBlock with
                      | none => exact .inl rfl
                      | some g =>
                        right
                        intro e
                        have h1 := HVR.out g hv
                        have h2 := HV7.out g e.symm
                        omega
                  · cases hv : vr'.ownBlock with
                    | none => exact .inl rfl
                    | some g =>
                      right
                      intro e
                      have h1 := HVR.out g hv
                      rcases HAT8.out with e2 | e2
                      · rw [e2] at e
                        have h2 := HV7.out g e.symm
                        omega
                      · rw [e2] at e
                        injection e with e
                        have := HS7.out
                        omega)
                clear HO8 HG8 HAT8
                try (have hp0 := HP0.out; clear HP0; subst hp0)
                go_wp2
                go_roundw
              all_goals first | exact ⟨i + 1, v8, vr', by omega, by go_num, rfl, rfl, HST.out, HB8.out⟩ | (simp [intOf]; omega)
        · obtain rfl : i = K := by omega
          have hRle : R.length = i := hRl
          obtain ⟨gr, cr, rfl, hgr, hgrs⟩ := hor.form (by omega)
          have hcr : R.length ≤ cr ∧ cr ≤ maxLen := by
            rcases hor.2 with ⟨e, _⟩ | ⟨g, c, cur, e, _, _, a1, a2, _⟩
            · simp at e
            · simp at e
              omega
          have hnd : R.Nodup := (List.nodup_append.1 hpk.nodup).1
          have hlt2 : ∀ y, y ∈ R → y < x := fun y hy => hpk.lt y (List.mem_append_left _ hy)
          obtain ⟨ga, ca, ea, hca, hcam, hints⟩ := own_ints hor (fun y hy => by have := hlt2 y hy; omega) i (by omega) (by omega)
          injection ea with ea1 ea2 ea3
          injection ea1 with ea1
          injection ea1 with ea1
          subst ea1; subst ea3
          clear ea2
          have htk : R.take i = R := by rw [← hRle, List.take_length]
          rw [htk] at hints
          have hIL : (R.map fun z : Nat => (z : Int)).length = i := by rw [List.length_map, hRle]
          have hIN : InRows (i + M) (R.map fun z : Nat => (z : Int)) := fun j hj => by
            rw [hIL] at hj
            have hj2 : j < R.length := by omega
            have hg : (R.map fun z : Nat => (z : Int)).getD j 0 = (R[j] : Int) := by simp [List.getD, hj2]
            rw [hg]
            have := hlt2 _ (List.getElem_mem hj2)
            have := HNN.out
            omega
          obtain ⟨X, hX⟩ := pick_inv (k := i) (n := i + M) (by have := HNN.out; omega) hnd (fun y hy => by have := hlt2 y hy; have := HNN.out; omega) (by omega) (by omega)
          rw [htk] at hX
          have hmat := HMAT.out.below hbe
          have hrows := rows_any hmat (Nat.le_refl _) (by omega) (by have := HNN.out; omega) (by omega) (by omega) hints (Nat.le_refl _) (by rw [hIL]; omega) (by rw [hIL]; omega)
          have HR := Lib.hid hrows
          have HIN2 := Lib.hid hIN
          have HIL := Lib.hid hIL
          have HX := Lib.hid hX
          have HBB := Lib.hid (HB5.out.trans (HBE.out.mono HB5.out.size))
          obtain ⟨aM, cM, rfl, hlM, hmM⟩ : ∃ A c, v5 = .slice A (i + M) c ∧ i + M ≤ c ∧ c ≤ 9223372036854775807 := by
            obtain ⟨A, c, rfl, _, h2, h3, _⟩ := HMAT.out
            rw [rowsL_len] at *
            unfold maxLen at h3
            exact ⟨A, c, rfl, h2, h3⟩
          rw [hRle]
          rw [hRle] at hcr
          clear hrows hIN hIL hX hmat hints hor hol hpk hap hbe hnd hlt2 htk HMAT HPK HOL HAP hca hcam
          obtain ⟨hcr1, hcr2⟩ := hcr
          unfold maxLen at hcr2
          go_wp2_with fail
          refine HR.out.mono ?_
          rintro e w6 ⟨hyes, _⟩
          obtain ⟨v6, rfl, hg, hb⟩ := hyes HIN2.out
          have hm := hg.mat
          rw [HIL.out] at hm
          have h2 := invert_any (F := pickF (stack i) (R.map fun z : Nat => (z : Int))) hm (Nat.le_refl _) (by omega) (by omega)
          have H2 := Lib.hid h2
          have HB6 := Lib.hid (HBB.out.trans (hb.mono HBB.out.size))
          clear hyes hg hb hm h2
          go_wp2_with fail
          refine H2.out.mono ?_
          rintro e w7 ⟨hyes, _⟩
          obtain ⟨v7, rfl, hg, hb⟩ := hyes X HX.out
          have HB7 : Hid (Below w.heap.size w w7) := Lib.hid (HB6.out.trans (hb.mono HB6.out.size))
          clear hyes hg hb
          go_wp2
          go_ret
          exact ⟨rfl, HB7.out⟩
theorem matrixAny_any {w : World} (k : Int) (hk : (Lit.int .i64 k).wf = true) (m : Int) (hm : (Lit.int .i64 m).wf = true) (A0 : Option Addr) (plen pcap : Nat) (zs : List UInt8) (hin : IsBytes w A0 plen pcap zs) :
    Calls Try.prog 6 #[.int .i64 k, .int .i64 m, .slice A0 plen pcap] w fun e w' => e = .returned (.bool true) ∧ Below w.heap.size w w' := matrixAny_walk (i64_of_wf' hk) (i64_of_wf' hm) hin
end Go.Proofs.Ytpldnbfbpajbkaa
