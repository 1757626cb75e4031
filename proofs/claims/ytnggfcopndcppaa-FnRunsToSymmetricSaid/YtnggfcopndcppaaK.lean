/-
  Marks that the laws lay into a result, and look for again.
-/
import Derived.Test.YtnggfcopndcppaaE
namespace Go.Proofs.Ytnggfcopndcppaa
open Go.RowKit
set_option linter.unusedVariables false
set_option linter.unusedSimpArgs false

def seqF (k : Int) (n : Nat) : List Int := (List.range n).map fun (i : Nat) => k + (i : Int)

theorem seqF_len (k : Int) (n : Nat) : (seqF k n).length = n := by simp [seqF]
theorem seqF_at (k : Int) (n j : Nat) (h : j < (seqF k n).length) : (seqF k n)[j] = k + j := by simp [seqF]

/-- The first j cells bear marks. -/
def Mk (k : Int) (xs ys : List Int) (j : Nat) : Prop := ys.length = xs.length ∧ ∀ t, t < j → ys[t]? = some (k + (t : Int))

theorem Mk.step {k : Int} {xs ys : List Int} {j : Nat} (h : Mk k xs ys j) (hj : j < xs.length) : Mk k xs (ys.set j (k + (j : Int))) (j + 1) := by
  refine ⟨by simp [h.1], fun t ht => ?_⟩
  rw [List.getElem?_set]
  by_cases e : j = t
  · subst e
    rw [if_pos rfl, if_pos (by rw [h.1]; omega)]
  · rw [if_neg e]
    exact h.2 t (by omega)

theorem Mk.done {k : Int} {xs ys : List Int} (h : Mk k xs ys xs.length) : ys = seqF k xs.length := by
  apply List.ext_getElem?
  intro t
  by_cases ht : t < xs.length
  · rw [h.2 t ht]
    simp [seqF, ht]
  · rw [List.getElem?_eq_none (by rw [h.1]; omega), List.getElem?_eq_none (by rw [seqF_len]; omega)]

theorem Rd.apart {w : World} {B : Nat} {u v : Value} {xs : List Int} (hu : ∀ k, u.ownBlock = some k → k < B) (hv : Rd w B v xs) : u.ownBlock = none ∨ u.ownBlock ≠ v.ownBlock := by
  cases h : u.ownBlock with
  | none => exact .inl rfl
  | some k =>
    right
    intro hc
    have h1 := hu k h
    have h2 := hv.lt k hc.symm
    omega

end Go.Proofs.Ytnggfcopndcppaa
