/-
  The program's questions, one by one.
-/
import Derived.Test.YtadjjmlneghklaaT
namespace Go.Proofs.Ytadjjmlneghklaa
open Go.RowKit
set_option linter.unusedVariables false
set_option linter.unusedSimpArgs false

/-- What a function of a number and a base answers: nothing unless both are valid. -/
def askI (R : Int → Int → Int) (n b : Int) : Option Int := if Num n ∧ Bas b then some (R b n) else none
def askF (R : Int → Int → Option Int) (n b : Int) : Option Int := if Num n ∧ Bas b then R b n else none
def RCountDigits (b n : Int) : Int := (dgs b n).length
def RDigitSum (b n : Int) : Int := (dgs b n).sum
def RDigitProduct (b n : Int) : Int := prodW (dgs b n) 1
def RReverseNumber (b n : Int) : Option Int := numF b (dgs b n).reverse 0

def okq (n b : Int) : Bool := decide (Num n ∧ Bas b)
theorem okq_yes {n b : Int} (h : Num n ∧ Bas b) : okq n b = true := decide_eq_true h
theorem okq_no {n b : Int} (h : ¬ (Num n ∧ Bas b)) : okq n b = false := decide_eq_false h
def askL (L : Int → Int → List Int) (n b : Int) : List Int := if Num n ∧ Bas b then L b n else []

theorem below_refl (w : World) : Below w.heap.size w w := Below.refl _ _

end Go.Proofs.Ytadjjmlneghklaa
