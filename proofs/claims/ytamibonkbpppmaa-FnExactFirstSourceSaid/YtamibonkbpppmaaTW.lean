/-
  Answers of StepsToSymmetric.
-/
import Derived.Test.YtamibonkbpppmaaTV
import Derived.Test.YtamibonkbpppmaaTI
namespace Go.Proofs.Ytamibonkbpppmaa
open Go.RowKit
set_option linter.unusedVariables false
set_option linter.unusedSimpArgs false
set_option maxRecDepth 100000

/-- How many times digits need, if they may be asked for. -/
def R_Steps (xs : List Int) (b m : Int) : Option Nat := if okR b xs = true ∧ okM m = true then rvT b m.toNat xs else none
abbrev VAL_StepsToSymmetric (xs : List Int) (b m : Int) : Value := .tuple #[.int .i64 (((R_Steps xs b m).getD 0 : Nat) : Int), .bool (R_Steps xs b m).isSome]

theorem R_Steps_yes {xs : List Int} {b m : Int} (h1 : okR b xs = true) (h2 : okM m = true) : R_Steps xs b m = rvT b m.toNat xs := if_pos ⟨h1, h2⟩
theorem R_Steps_no1 {xs : List Int} {b m : Int} (h1 : okR b xs = false) : R_Steps xs b m = none := if_neg (fun h => by rw [h1] at h; cases h.1)
theorem R_Steps_no2 {xs : List Int} {b m : Int} (h1 : okM m = false) : R_Steps xs b m = none := if_neg (fun h => by rw [h1] at h; cases h.2)
theorem okM_nat {m : Int} (h : okM m = true) : ∃ k : Nat, m = (k : Int) ∧ k ≤ 100 := by
  have := of_decide_eq_true h
  exact ⟨m.toNat, by omega, by omega⟩

end Go.Proofs.Ytamibonkbpppmaa
