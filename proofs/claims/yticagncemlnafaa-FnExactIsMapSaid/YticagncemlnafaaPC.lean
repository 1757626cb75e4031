/-
  IsMap, the program's and the model's.
-/
import Derived.Test.YticagncemlnafaaPB
namespace Go.Proofs.Yticagncemlnafaa
open Go.RowKit
set_option linter.unusedVariables false
set_option linter.unusedSimpArgs false

theorem spec_IsMap (v : Value) (xs : List Int) (B : Nat) (w : World) (h : Rd w B v xs) (hl : xs.length ≤ 1048576) :
    Calls Try.prog 19 #[v] w fun e w' => e = .returned (.bool (goodM xs)) ∧ Below w.heap.size w w' := by
  refine (specIsMap_any v xs B w h (by omega)).mono ?_
  rintro e w' ⟨rfl, rfl⟩
  exact ⟨rfl, Below.refl _ _⟩

theorem impl_IsMap (v : Value) (xs : List Int) (B : Nat) (w : World) (h : Rd w B v xs) (hl : xs.length ≤ 1048576) :
    Calls Try.prog 21 #[v] w fun e w' => e = .returned (.bool (goodM xs)) ∧ Below w.heap.size w w' := by
  refine (IsMap_any v xs B w h (by omega)).mono ?_
  rintro e w' ⟨rfl, rfl⟩
  exact ⟨rfl, Below.refl _ _⟩

end Go.Proofs.Yticagncemlnafaa
