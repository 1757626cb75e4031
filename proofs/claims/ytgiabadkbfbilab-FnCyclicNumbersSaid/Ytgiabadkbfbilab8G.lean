/-
  Answers about one number: its sum and number of divisors, its proper sum, its kind; the laws.
-/
import Derived.Test.Ytgiabadkbfbilab8F
namespace Go.Proofs.Ytgiabadkbfbilab
open Go.RowKit
set_option linter.unusedVariables false
set_option linter.unusedSimpArgs false
set_option maxRecDepth 100000

/-- What a number is asked: none for others. -/
def dvR (f : Int → Int) (n : Int) : Option Int := if Dv n then some (f n) else none
theorem dvR_yes {f : Int → Int} {n : Int} (h : Dv n) : dvR f n = some (f n) := if_pos h
theorem dvR_no {f : Int → Int} {n : Int} (h : ¬ Dv n) : dvR f n = none := if_neg h
theorem mkf (fn : Fn) (first cap : Array Value) (w : World) : (Instr.makeFunc fn first cap).run Try.prog w = .ok (.func fn first cap) w := rfl
def sgN (n : Int) : Int := sgL (pp n)
def ctN (n : Int) : Int := ctL (pp n)

end Go.Proofs.Ytgiabadkbfbilab
