/-
  Plain mathematics: the texts of the trees that lead to a number.
-/
import Derived.Test.YticagncemlnafaaRA
namespace Go.Proofs.Yticagncemlnafaa
open Go.RowKit
set_option linter.unusedVariables false
set_option linter.unusedSimpArgs false

/-- The numbers off the cycles that lead to x. -/
def ch (f : Nat → Nat) (n x : Nat) : List Nat := (befL f x n).filter fun y => !cyc f n y
theorem mem_ch {f : Nat → Nat} {n x y : Nat} : y ∈ ch f n x ↔ y < n ∧ f y = x ∧ cyc f n y = false := by
  unfold ch befL
  simp only [List.mem_filter, List.mem_range, beq_iff_eq, Bool.not_eq_true']
  exact and_assoc
theorem ch_nodup (f : Nat → Nat) (n x : Nat) : (ch f n x).Nodup := List.Pairwise.filter _ (List.Pairwise.filter _ List.nodup_range)
theorem ch_len (f : Nat → Nat) (n x : Nat) : (ch f n x).length ≤ n := Nat.le_trans (List.length_filter_le _ _) (befL_len f x n)

theorem ch_dep {f : Nat → Nat} {n x y : Nat} (h : Into f n) (hx : x < n) (hy : y ∈ ch f n x) : dep f n y = dep f n x + 1 := by
  obtain ⟨y1, y2, y3⟩ := mem_ch.1 hy
  obtain ⟨d1, d2, d3⟩ := dep_spec (f := f) hx
  refine dep_eq y1 ?_ fun j hj => ?_
  · rw [it_in, y2]; exact d2
  · cases j with
    | zero => exact y3
    | succ j => rw [it_in, y2]; exact d3 j (by omega)

def tt (f : Nat → Nat) (n : Nat) : Nat → Nat → Txt
  | 0, _ => [40, 41]
  | N + 1, x => 40 :: (srtT ((ch f n x).map (tt f n N))).flatten ++ [41]
/-- The text of x and of all numbers that come to it before any other on a cycle. -/
def tr (f : Nat → Nat) (n x : Nat) : Txt := tt f n (n - dep f n x) x

theorem srtT_nil : srtT [] = [] := by simp [srtT]

theorem tr_eq {f : Nat → Nat} {n x : Nat} (h : Into f n) (hx : x < n) : tr f n x = 40 :: (srtT ((ch f n x).map (tr f n))).flatten ++ [41] := by
  unfold tr
  have hd := (dep_spec (f := f) hx).1
  cases hN : n - dep f n x with
  | zero =>
    have : ch f n x = [] := by
      rw [List.eq_nil_iff_forall_not_mem]
      intro y hy
      have h1 := ch_dep h hx hy
      have h2 := (dep_spec (f := f) (mem_ch.1 hy).1).1
      omega
    rw [this]
    simp [tt, srtT_nil]
  | succ M =>
    simp only [tt]
    have : (ch f n x).map (tt f n M) = (ch f n x).map fun y => tt f n (n - dep f n y) y := by
      refine List.map_congr_left fun y hy => ?_
      have h1 := ch_dep h hx hy
      rw [show n - dep f n y = M by omega]
    rw [this]

/-- z comes to x first among the numbers of x's depth. -/
def rch (f : Nat → Nat) (n x z : Nat) : Bool := decide (dep f n x ≤ dep f n z) && (it f (dep f n z - dep f n x) z == x)

theorem sum_cnt {P : Nat → Nat → Bool} {Q : Nat → Bool} (l : List Nat) (hl : l.Nodup) (h1 : ∀ y ∈ l, ∀ z, P y z = true → Q z = true) (h2 : ∀ y ∈ l, ∀ y' ∈ l, ∀ z, P y z = true → P y' z = true → y = y') :
    ∀ n, (l.map fun y => cnt n (P y)).sum ≤ cnt n Q
  | 0 => by
    have : ∀ m : List Nat, (m.map fun y => cnt 0 (P y)).sum = 0 := fun m => by induction m <;> simp_all [cnt]
    rw [this]; exact Nat.zero_le _
  | n + 1 => by
    have ih := sum_cnt l hl h1 h2 n
    have key : ∀ m : List Nat, m.Nodup → (∀ y ∈ m, y ∈ l) → (m.map fun y => cnt (n + 1) (P y)).sum ≤ (m.map fun y => cnt n (P y)).sum + (if m.any (fun y => P y n) = true then 1 else 0) := by
      intro m
      induction m with
      | nil => intro _ _; simp
      | cons a m ihm =>
        intro hn hs
        rw [List.nodup_cons] at hn
        have hi := ihm hn.2 fun y hy => hs y (List.mem_cons_of_mem _ hy)
        rw [List.map_cons, List.sum_cons, List.map_cons, List.sum_cons, List.any_cons, cnt_succ]
        by_cases ha : P a n = true
        · have hno : m.any (fun y => P y n) = false := by
            rw [List.any_eq_false]
            intro y hy hp
            exact hn.1 (h2 a (hs a (by simp)) y (hs y (List.mem_cons_of_mem _ hy)) n ha hp ▸ hy)
          rw [hno] at hi
          simp only [ha, if_true, Bool.true_or]
          simp only [Bool.false_eq_true, if_false] at hi
          omega
        · rw [if_neg ha]
          have ha' : P a n = false := by simpa using ha
          rw [ha', Bool.false_or]
          omega
    have hk := key l hl fun y hy => hy
    rw [cnt_succ]
    by_cases hq : l.any (fun y => P y n) = true
    · obtain ⟨y, hy, hp⟩ := List.any_eq_true.1 hq
      rw [if_pos hq] at hk
      rw [if_pos (h1 y hy n hp)]
      omega
    · rw [if_neg hq] at hk
      omega

theorem flat_sum (ss : List Txt) : ss.flatten.length = (ss.map List.length).sum := List.length_flatten

theorem srtT_flat (ss : List Txt) : (srtT ss).flatten.length = (ss.map List.length).sum := by
  rw [flat_sum]
  exact ((List.mergeSort_perm ss leB).map _).sum_nat

theorem rch_sub {f : Nat → Nat} {n x y z : Nat} (h : Into f n) (hx : x < n) (hy : y ∈ ch f n x) (hz : rch f n y z = true) : (adj (rch f n x) x false) z = true := by
  have hd := ch_dep h hx hy
  unfold rch at hz
  rw [Bool.and_eq_true, decide_eq_true_iff, beq_iff_eq] at hz
  obtain ⟨z1, z2⟩ := hz
  have hne : z ≠ x := fun e => by subst e; omega
  unfold adj
  rw [if_neg hne]
  unfold rch
  rw [Bool.and_eq_true, decide_eq_true_iff, beq_iff_eq]
  refine ⟨by omega, ?_⟩
  rw [show dep f n z - dep f n x = (dep f n z - dep f n y) + 1 by omega]
  show f (it f (dep f n z - dep f n y) z) = x
  rw [z2]
  exact (mem_ch.1 hy).2.1

theorem rch_one {f : Nat → Nat} {n y y' z : Nat} (hd : dep f n y = dep f n y') (h1 : rch f n y z = true) (h2 : rch f n y' z = true) : y = y' := by
  unfold rch at h1 h2
  rw [Bool.and_eq_true, beq_iff_eq] at h1 h2
  rw [← h1.2, ← h2.2, hd]

theorem tt_len {f : Nat → Nat} {n : Nat} (h : Into f n) : ∀ (N x : Nat), x < n → n - dep f n x = N → (tt f n N x).length ≤ 2 * cnt n (rch f n x)
  | 0, x, hx, hN => by
    have : 1 ≤ cnt n (rch f n x) := cnt_pos hx (by simp [rch, it])
    simp only [tt, List.length_cons, List.length_nil]
    omega
  | N + 1, x, hx, hN => by
    have h1 : ((ch f n x).map fun y => cnt n (rch f n y)).sum ≤ cnt n (adj (rch f n x) x false) :=
      sum_cnt (ch f n x) (ch_nodup f n x) (fun y hy z hz => rch_sub h hx hy hz) (fun y hy y' hy' z h1 h2 => rch_one (by rw [ch_dep h hx hy, ch_dep h hx hy']) h1 h2) n
    have h2 := cnt_del (rch f n x) x n hx
    have h3 : rch f n x x = true := by simp [rch, it]
    rw [h3] at h2
    simp only [if_true] at h2
    have h4 : (((ch f n x).map (tt f n N)).map List.length).sum ≤ 2 * ((ch f n x).map fun y => cnt n (rch f n y)).sum := by
      have key : ∀ m : List Nat, (∀ y ∈ m, y ∈ ch f n x) → ((m.map (tt f n N)).map List.length).sum ≤ 2 * (m.map fun y => cnt n (rch f n y)).sum := by
        intro m
        induction m with
        | nil => intro _; simp
        | cons a m ihm =>
          intro hs
          have hi := ihm fun y hy => hs y (List.mem_cons_of_mem _ hy)
          have ha := hs a (by simp)
          have hda := ch_dep h hx ha
          have hla := tt_len h N a (mem_ch.1 ha).1 (by omega)
          simp only [List.map_cons, List.sum_cons]
          omega
      exact key _ fun y hy => hy
    simp only [tt, List.length_append, List.length_cons, List.length_nil, srtT_flat]
    omega

theorem tr_len {f : Nat → Nat} {n x : Nat} (h : Into f n) (hx : x < n) : (tr f n x).length ≤ 2 * n := by
  have := tt_len h (n - dep f n x) x hx rfl
  have h2 := cnt_le n (rch f n x)
  unfold tr
  omega

end Go.Proofs.Yticagncemlnafaa
