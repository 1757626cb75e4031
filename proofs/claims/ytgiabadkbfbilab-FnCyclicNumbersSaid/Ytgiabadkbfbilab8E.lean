/-
  Sums and numbers of divisors: the program's, made of powers, and the model's, made of stretches of equal factors.
-/
import Derived.Test.Ytgiabadkbfbilab8P
import Derived.BigQuiet
namespace Go.Proofs.Ytgiabadkbfbilab
open Go.RowKit
set_option linter.unusedVariables false
set_option linter.unusedSimpArgs false
set_option maxRecDepth 100000

theorem take_next {α : Type} (X : List α) (j : Nat) (h : j < X.length) : X.take (j + 1) = X.take j ++ [X[j]] ∧ X.take (j + 1) ++ X.drop (j + 1) = X := by
  refine ⟨?_, List.take_append_drop _ _⟩
  rw [List.take_add_one, List.getElem?_eq_getElem h]; simp

/-- Results up to a place, as the program's loops have them. -/
theorem sum_round {n : Int} (hn : Dv n) {j : Nat} (h : j < (pp n).length) :
    ∃ (p : Int) (t : Nat), (pp n)[j]? = some (p, t) ∧ 2 ≤ p ∧ p ≤ 1000000000 ∧ 0 < t ∧ t < 30 ∧ sgP p t ≤ 2000000000 ∧ 1 ≤ sgP p t ∧ sgL ((pp n).take (j + 1)) = sgL ((pp n).take j) * sgP p t ∧ ctL ((pp n).take (j + 1)) = ctL ((pp n).take j) * ((t : Int) + 1) ∧
      1 ≤ sgL ((pp n).take (j + 1)) ∧ sgL ((pp n).take (j + 1)) ≤ 1000000000000000000 ∧ 1 ≤ ctL ((pp n).take (j + 1)) ∧ ctL ((pp n).take (j + 1)) ≤ 1000000000 ∧ 1 ≤ sgL ((pp n).take j) ∧ sgL ((pp n).take j) ≤ 1000000000000000000 ∧ 1 ≤ ctL ((pp n).take j) ∧ ctL ((pp n).take j) ≤ 1000000000 := by
  obtain ⟨n0, n1⟩ := hn
  obtain ⟨t1, t2⟩ := take_next (pp n) j h
  obtain ⟨b1, b2, b3, b4, b5, b6, b7⟩ := one_bd (n := n) (by omega) n1 (List.getElem_mem h)
  have p1 := part_bd (n := n) (by omega) n1 t2
  have p2 := part_bd (n := n) (by omega) n1 (List.take_append_drop j (pp n))
  refine ⟨(pp n)[j].1, (pp n)[j].2, List.getElem?_eq_getElem h, b1, b2, b3, b4, b6, b5, ?_, ?_, p1.1, p1.2.1, p1.2.2.1, p1.2.2.2, p2.1, p2.2.1, p2.2.2.1, p2.2.2.2⟩
  · rw [t1, sgL_snoc]
  · rw [t1, ctL_snoc]

/-- What kind a number is. -/
def knd (n : Int) : Int := if prop n < n then -1 else if n < prop n then 1 else 0
end Go.Proofs.Ytgiabadkbfbilab
