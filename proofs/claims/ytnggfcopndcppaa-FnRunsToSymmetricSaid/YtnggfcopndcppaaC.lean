/-
  The program's questions, one by one.
-/
import Derived.Test.YtnggfcopndcppaaT
namespace Go.Proofs.Ytnggfcopndcppaa
open Go.RowKit
set_option linter.unusedVariables false
set_option linter.unusedSimpArgs false

/-- What a function of a number and a base answers: nothing unless both are valid. -/
def askI (R : Int → Int → Int) (n b : Int) : Option Int := if Num n ∧ Bas b then some (R b n) else none
def askF (R : Int → Int → Option Int) (n b : Int) : Option Int := if Num n ∧ Bas b then R b n else none
def RCountDigits (b n : Int) : Int := (dgs b n).length
def RDigitSum (b n : Int) : Int := (dgs b n).sum
def RDigitProduct (b n : Int) : Int := prodW (dgs b n) 1
def RReverseNumber (b n : Int) : Option Int := numF b (dgs b n).reverse 0

theorem dgOf_s (n b : Int) (w : World) (h0 : 0 ≤ n) (h1 : n ≤ 1000000000000) (hb : 2 ≤ b) (hb' : b ≤ 16) :
    Calls Try.prog 76 #[.int .i64 n, .int .i64 b] w fun e w' => ∃ g cap, e = .returned (.slice (some ⟨g, 0, none⟩) (dgs b n).length cap) ∧ Rd w' w.heap.size (.slice (some ⟨g, 0, none⟩) (dgs b n).length cap) (dgs b n) ∧ Below w.heap.size w w' := by
  refine (dgOf_any n b w h0 h1 hb hb').mono ?_
  rintro e w' ⟨u, rfl, hr, hbl⟩
  rcases hr.cases with ⟨_, hx⟩ | ⟨g, cap, rfl, _⟩
  · exact absurd hx (dgs_ne _ _)
  · exact ⟨g, cap, rfl, hr, hbl⟩

def okq (n b : Int) : Bool := decide (Num n ∧ Bas b)
theorem okq_yes {n b : Int} (h : Num n ∧ Bas b) : okq n b = true := decide_eq_true h
theorem okq_no {n b : Int} (h : ¬ (Num n ∧ Bas b)) : okq n b = false := decide_eq_false h
def askL (L : Int → Int → List Int) (n b : Int) : List Int := if Num n ∧ Bas b then L b n else []

theorem digits_l (n b : Int) (w : World) (h0 : 0 ≤ n) (h1 : n ≤ 1000000000000) (hb : 2 ≤ b) (hb' : b ≤ 16) :
    Calls Try.prog 99 #[.int .i64 b, .int .i64 n] w fun e w' => ∃ v, e = .returned v ∧ Rd w' w.heap.size v (dgs b n) ∧ Below w.heap.size w w' :=
  (digits_any n b w h0 (by omega) hb hb').mono fun _ _ ⟨_, _, h1, h2, h3⟩ => ⟨_, h1, h2, h3⟩

theorem below_refl (w : World) : Below w.heap.size w w := Below.refl _ _

end Go.Proofs.Ytnggfcopndcppaa
