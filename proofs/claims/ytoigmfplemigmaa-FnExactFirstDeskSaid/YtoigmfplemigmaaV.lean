/-
  slices.Reverse; the program's digits.
-/
import Derived.Test.YtoigmfplemigmaaM
import Derived.BigRegion
namespace Go.Proofs.Ytoigmfplemigmaa
open Go.RowKit
set_option linter.unusedVariables false
set_option linter.unusedSimpArgs false

/-- A list whose first and last k elements have been exchanged. -/
def RevK (xs ys : List Int) (k : Nat) : Prop := ys.length = xs.length ∧ ∀ t, t < xs.length → ys[t]? = if t < k ∨ xs.length - k ≤ t then xs[xs.length - 1 - t]? else xs[t]?

theorem RevK.zero (xs : List Int) : RevK xs xs 0 := ⟨rfl, fun t ht => by rw [if_neg (by omega)]⟩

theorem RevK.done {xs ys : List Int} {k : Nat} (h : RevK xs ys k) (hk : xs.length ≤ 2 * k + 1) : ys = xs.reverse := by
  apply List.ext_getElem?
  intro t
  by_cases ht : t < xs.length
  · rw [h.2 t ht, List.getElem?_reverse ht]
    split
    · rfl
    · rw [show xs.length - 1 - t = t by omega]
  · rw [List.getElem?_eq_none (by rw [h.1]; omega), List.getElem?_eq_none (by simp; omega)]

theorem RevK.step {xs ys : List Int} {k : Nat} (h : RevK xs ys k) (hk : 2 * k + 1 < xs.length) (p q : Int) (hp : ys[k]? = some p) (hq : ys[xs.length - 1 - k]? = some q) :
    RevK xs ((ys.set k q).set (xs.length - 1 - k) p) (k + 1) := by
  refine ⟨by simp [h.1], fun t ht => ?_⟩
  have h1 := h.2 k (by omega)
  have h2 := h.2 (xs.length - 1 - k) (by omega)
  rw [if_neg (by omega)] at h1 h2
  rw [hp] at h1
  rw [hq] at h2
  rw [List.getElem?_set]
  by_cases e1 : xs.length - 1 - k = t
  · rw [if_pos e1, if_pos (by simp [h.1]; omega), if_pos (by omega), show xs.length - 1 - t = k by omega]
    exact h1
  · rw [if_neg e1, List.getElem?_set]
    by_cases e2 : k = t
    · rw [if_pos e2, if_pos (by rw [h.1]; omega), if_pos (by omega), ← e2]
      exact h2
    · rw [if_neg e2, h.2 t ht]
      by_cases e3 : t < k ∨ xs.length - k ≤ t
      · rw [if_pos e3, if_pos (by omega)]
      · rw [if_neg e3, if_neg (by omega)]

end Go.Proofs.Ytoigmfplemigmaa
