/-
  Products, reversed digits.
-/
import Derived.Test.YtnniiobiedfmoaaC
import Derived.Test.YtnniiobiedfmoaaE
namespace Go.Proofs.Ytnniiobiedfmoaa
open Go.RowKit
set_option linter.unusedVariables false
set_option linter.unusedSimpArgs false

/-- What is left of a list, from the end on, in the other order. -/
theorem back_step (xs : List Int) (j : Nat) (h : j < xs.length) : (xs.drop j).reverse = (xs.drop (j + 1)).reverse ++ [xs[j]] := by
  rw [drop_cons xs j h, List.reverse_cons]

theorem rev_all {b n : Int} (h : ∀ x ∈ dgs b n, 0 ≤ x ∧ x ≤ b - 1) : ∀ x ∈ (dgs b n).reverse, 0 ≤ x ∧ x ≤ b - 1 := fun x hx => h x (List.mem_reverse.1 hx)

end Go.Proofs.Ytnniiobiedfmoaa
