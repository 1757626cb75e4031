/-
  Functions that only read a slice of integers: tests.
-/
import Derived.Test.YtnniiobiedfmoaaR
import Derived.Test.YtnniiobiedfmoaaA
namespace Go.Proofs.Ytnniiobiedfmoaa
open Go.RowKit
set_option linter.unusedVariables false
set_option linter.unusedSimpArgs false

theorem areD_nil (b : Int) : areD b [] = false := rfl
theorem areD_head (b : Int) (xs : List Int) (h1 : 1 < xs.length) (h0 : xs[0] = 0) : areD b xs = false := by
  cases xs with
  | nil => simp at h1
  | cons a t => simp at h0 h1; subst h0; cases t with
    | nil => simp at h1
    | cons c u => simp [areD]
theorem areD_ok (b : Int) (xs : List Int) (h0 : 0 < xs.length) (h : xs.length = 1 ∨ xs[0] ≠ 0) : areD b xs = allIn 0 (b - 1) xs := by
  cases xs with
  | nil => simp at h0
  | cons a t =>
    simp only [areD, List.headD_cons]
    simp at h
    rcases h with h | h <;> simp [h]

/-- The two results of a list of digits: its number, if they are digits and it is not too great. -/
def numD (b : Int) (xs : List Int) : Option Int := if areD b xs = true then numF b xs 0 else none

theorem areD_all {b : Int} {xs : List Int} (h : areD b xs = true) : ∀ x ∈ xs, 0 ≤ x ∧ x ≤ b - 1 := by
  simp only [areD, Bool.and_eq_true] at h
  exact (allIn_iff _ _ _).1 h.2

end Go.Proofs.Ytnniiobiedfmoaa
