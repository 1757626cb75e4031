/-
  The told cycles hold each number on a cycle once: sums over cycles are sums over numbers.
-/
import Derived.Test.YticagncemlnafaaQC
namespace Go.Proofs.Yticagncemlnafaa
open Go.RowKit
set_option linter.unusedVariables false
set_option linter.unusedSimpArgs false

theorem flat_nodup {f : Nat → Nat} {n : Nat} (h : Into f n) : (cycs f n).flatten.Nodup := by
  unfold List.Nodup
  rw [List.pairwise_flatten]
  refine ⟨fun l hl => ?_, ?_⟩
  · obtain ⟨i, hi⟩ := List.getElem?_of_mem hl
    obtain ⟨x, _, rfl, lx, _⟩ := cycs_get hi
    exact rnd_nodup h ((lead_iff h).1 lx).1
  · unfold cycs cycsTo
    rw [List.pairwise_map]
    have hp : ((List.range n).filter (lead f n)).Pairwise (· < ·) := List.Pairwise.filter _ List.pairwise_lt_range
    refine hp.imp_of_mem ?_
    intro a b ha hb hab y hy z hz e
    subst e
    have := lead_one h (List.mem_filter.1 ha).2 (List.mem_filter.1 hb).2 hy hz
    omega

theorem mem_flat {f : Nat → Nat} {n y : Nat} (h : Into f n) : y ∈ (cycs f n).flatten ↔ y < n ∧ cyc f n y = true := by
  rw [List.mem_flatten]
  constructor
  · rintro ⟨l, hl, hy⟩
    obtain ⟨i, hi⟩ := List.getElem?_of_mem hl
    obtain ⟨h1, h2⟩ := cycs_cyc h hi hy
    exact ⟨h2, h1⟩
  · rintro ⟨_, hc⟩
    obtain ⟨i, l, h1, h2, _⟩ := cycs_has h hc
    exact ⟨l, List.mem_of_getElem? h1, h2⟩

theorem flat_perm {f : Nat → Nat} {n : Nat} (h : Into f n) : (cycs f n).flatten.Perm ((List.range n).filter (cyc f n)) :=
  (List.perm_ext_iff_of_nodup (flat_nodup h) (List.Pairwise.filter _ List.nodup_range)).2 fun y => by
    rw [mem_flat h, List.mem_filter, List.mem_range]

theorem flat_len {f : Nat → Nat} {n : Nat} (h : Into f n) : ((cycs f n).map List.length).sum ≤ n := by
  rw [← List.length_flatten, (flat_perm h).length_eq]
  exact cnt_le n (cyc f n)

/-- How many numbers lie on cycles whose lengths divide K. -/
def sumC (K : Nat) (ls : List (List Nat)) : Nat := (ls.map fun l => if K % l.length = 0 then l.length else 0).sum

theorem sumC_snoc (K : Nat) (ls : List (List Nat)) (l : List Nat) : sumC K (ls ++ [l]) = sumC K ls + if K % l.length = 0 then l.length else 0 := by simp [sumC]

theorem sumC_le (K : Nat) : ∀ (ls : List (List Nat)), sumC K ls ≤ (ls.map List.length).sum
  | [] => Nat.le_refl _
  | l :: ls => by
    have := sumC_le K ls
    simp only [sumC, List.map_cons, List.sum_cons] at this ⊢
    split <;> omega

theorem sumC_take (K : Nat) (ls : List (List Nat)) (i : Nat) : sumC K (ls.take i) ≤ sumC K ls := by
  have h : sumC K ls = sumC K (ls.take i) + sumC K (ls.drop i) := by
    conv => lhs; rw [← List.take_append_drop i ls]
    simp only [sumC, List.map_append, List.sum_append]
  omega

theorem fixed_sum {f : Nat → Nat} {n K : Nat} (h : Into f n) (hK : 1 ≤ K) : sumC K (cycs f n) = cnt n (fun x => it f K x == x) := by
  have h1 : List.countP (fun x => it f K x == x) (cycs f n).flatten = sumC K (cycs f n) := by
    rw [List.countP_flatten]
    unfold sumC
    congr 1
    refine List.map_congr_left fun l hl => ?_
    obtain ⟨i, hi⟩ := List.getElem?_of_mem hl
    have hall : ∀ y ∈ l, (it f K y == y) = decide (K % l.length = 0) := fun y hy => by
      obtain ⟨hc, _⟩ := cycs_cyc h hi hy
      rw [cycs_per h hi hy, Bool.eq_iff_iff, beq_iff_eq, decide_eq_true_iff]
      exact per_mod h hc K
    by_cases hz : K % l.length = 0
    · rw [if_pos hz, List.countP_eq_length]
      intro y hy
      rw [hall y hy]; simpa using hz
    · rw [if_neg hz, List.countP_eq_zero]
      intro y hy
      rw [hall y hy]; simpa using hz
  rw [← h1, (flat_perm h).countP_eq, List.countP_filter]
  unfold cnt
  rw [← List.countP_eq_length_filter]
  refine List.countP_congr fun x hx => ?_
  simp only [Bool.and_eq_true, beq_iff_eq]
  constructor
  · exact fun h => h.1
  · exact fun he => ⟨he, cyc_of_per h (List.mem_range.1 hx) hK he⟩

end Go.Proofs.Yticagncemlnafaa
