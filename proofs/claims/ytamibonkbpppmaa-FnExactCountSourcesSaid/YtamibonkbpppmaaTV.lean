/-
  How many times are needed: the program and the model.
-/
import Derived.Test.YtamibonkbpppmaaTU
namespace Go.Proofs.Ytamibonkbpppmaa
open Go.RowKit
set_option linter.unusedVariables false
set_option linter.unusedSimpArgs false
set_option maxRecDepth 100000

/-- Times that may be asked for. -/
def okM (m : Int) : Bool := decide (0 ≤ m ∧ m ≤ 100)

/-- The program's number of times, -1 for none. -/
def tmN (o : Option Nat) : Int := match o with
  | some k => (k : Int)
  | none => -1

theorem tmN_of {b : Int} {most : Nat} {x0 cur : List Int} {ls : List (List Int)} (h : ls ++ [cur] = rvR b most x0) : (if palB cur = true then (ls.length : Int) else -1) = tmN (rvT b most x0) := by
  rw [rvT_of h]
  by_cases hp : palB cur = true
  · rw [if_pos hp, if_pos hp]; rfl
  · rw [if_neg hp, if_neg hp]; rfl
theorem ls_le {b : Int} {most : Nat} {x0 cur : List Int} {ls : List (List Int)} (h : ls ++ [cur] = rvR b most x0) : ls.length ≤ most := by
  have := (rvR_len b most x0).2
  rw [← h, List.length_append, List.length_singleton] at this
  omega

end Go.Proofs.Ytamibonkbpppmaa
