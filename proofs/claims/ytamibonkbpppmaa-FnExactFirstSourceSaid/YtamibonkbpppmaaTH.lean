/-
  Carries, symmetric digits, sums: the program's methods.
-/
import Derived.Test.YtamibonkbpppmaaTG
import Derived.Test.YtamibonkbpppmaaS2
import Derived.Lib.Slices
namespace Go.Proofs.Ytamibonkbpppmaa
open Go.RowKit
set_option linter.unusedVariables false
set_option linter.unusedSimpArgs false
set_option maxRecDepth 100000

theorem noCarry_iff {b : Int} {xs : List Int} (hd : Dg b xs) : (∀ x ∈ cyA b (smA 1 1 xs) 0, x = 0) ↔ ¬ 1 ∈ cyA b (smA 1 1 xs) 0 := by
  have h := cyA_all b hd.b2 _ 0 (smA_pos b xs hd.all) (by omega) (by omega)
  constructor
  · intro h2 hc
    have := h2 1 hc
    omega
  · intro h2 x hx
    have h3 := h x hx
    by_cases e : x = 1
    · rw [e] at hx; exact absurd hx h2
    · omega

/-- Nothing is carried. -/
def ncB (b : Int) (xs : List Int) : Bool := allIn 0 0 (cyA b (smA 1 1 xs) 0)
theorem ncB_not {b : Int} {xs : List Int} (hd : Dg b xs) : ncB b xs = !decide (1 ∈ cyA b (smA 1 1 xs) 0) := by
  have h := noCarry_iff hd
  by_cases h1 : 1 ∈ cyA b (smA 1 1 xs) 0
  · rw [decide_eq_true h1]
    show ncB b xs = false
    refine Bool.eq_false_iff.2 (fun hc => ?_)
    have := (allIn_iff _ _ _).1 hc 1 h1
    omega
  · rw [decide_eq_false h1]
    show ncB b xs = true
    refine (allIn_iff _ _ _).2 (fun x hx => ?_)
    have := h.2 h1 x hx
    omega

end Go.Proofs.Ytamibonkbpppmaa
