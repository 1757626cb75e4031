/-
  The model's sums and numbers of divisors, by stretches of equal factors.
-/
import Derived.Test.Ytgiabadkbfbilab8E
namespace Go.Proofs.Ytgiabadkbfbilab
open Go.RowKit
set_option linter.unusedVariables false
set_option linter.unusedSimpArgs false
set_option maxRecDepth 100000

/-- One more power of a number, as the model's loops have it. -/
theorem stretch {n : Int} (hn : Dv n) {a b : List (Int × Nat)} {p : Int} {t : Nat} (h : a ++ (p, t) :: b = pp n) :
    2 ≤ p ∧ p ≤ 1000000000 ∧ 0 < t ∧ t < 30 ∧ sgP p t ≤ 2000000000 ∧ p ^ t ≤ 1000000000 ∧ 1 ≤ sgL a ∧ 1 ≤ ctL a ∧ sgL a * sgP p t ≤ 1000000000000000000 ∧ ctL a * ((t : Int) + 1) ≤ 1000000000 ∧ sgL (a ++ [(p, t)]) = sgL a * sgP p t ∧ ctL (a ++ [(p, t)]) = ctL a * ((t : Int) + 1) ∧ 1 ≤ sgL (a ++ [(p, t)]) ∧ 1 ≤ ctL (a ++ [(p, t)]) ∧
      (∀ j, j < t → (flt (pp n)).getD ((flt a).length + j) 0 = p ∧ (flt a).length + j < (flt (pp n)).length) ∧ ((flt a).length + t < (flt (pp n)).length → (flt (pp n)).getD ((flt a).length + t) 0 ≠ p) ∧ (flt a).length + t ≤ (flt (pp n)).length ∧ (flt (a ++ [(p, t)])).length = (flt a).length + t ∧ (a ++ [(p, t)]) ++ b = pp n := by
  obtain ⟨n0, n1⟩ := hn
  have hm : (p, t) ∈ pp n := by rw [← h]; simp
  obtain ⟨b1, b2, b3, b4, b5, b6, b7⟩ := one_bd (n := n) (by omega) n1 hm
  have e2 : (a ++ [(p, t)]) ++ b = pp n := by rw [← h]; simp
  have p1 := part_bd (n := n) (by omega) n1 e2
  have p2 := part_bd (n := n) (by omega) n1 h
  have s1 := sgL_snoc a (p, t)
  have s2 := ctL_snoc a (p, t)
  have hup := pp_up (n := n) (by omega)
  rw [← h] at hup
  refine ⟨b1, b2, b3, b4, b6, b7, p2.1, p2.2.2.1, ?_, ?_, s1, s2, p1.1, p1.2.2.1, ?_, ?_, ?_, flt_end a (p, t), e2⟩
  · have := p1.2.1; rw [s1] at this; exact this
  · have := p1.2.2.2; rw [s2] at this; exact this
  · intro j hj
    rw [← h]
    exact flt_at a (p, t) b j hj
  · intro hl
    rw [← h] at hl ⊢
    exact flt_next a (p, t) b hup hl
  · rw [← h, flt_mid]
    simp

end Go.Proofs.Ytgiabadkbfbilab
