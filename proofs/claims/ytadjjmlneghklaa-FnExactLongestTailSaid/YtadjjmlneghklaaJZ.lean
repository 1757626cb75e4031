/-
  Answers of TailOf.
-/
import Derived.Test.YtadjjmlneghklaaJW
import Derived.Test.YtadjjmlneghklaaJY
namespace Go.Proofs.Ytadjjmlneghklaa
open Go.RowKit
set_option linter.unusedVariables false
set_option linter.unusedSimpArgs false
set_option maxRecDepth 100000

/-- The value of a word. -/
def vN (b : Int) (xs : List Int) : Nat := (vl b xs).toNat
/-- The words of its run, how many they are, and how many are in no cycle. -/
abbrev fR (xs : List Int) (b : Int) : Nat → List Int := rw' b xs.length (vN b xs)
abbrev nL (xs : List Int) (b : Int) : Nat := rl (sN b xs.length) RM (vN b xs)
abbrev nT (xs : List Int) (b : Int) : Nat := tl (sN b xs.length) RM (vN b xs)
theorem vN_bd {b : Int} {xs : List Int} (hb : 2 ≤ b) (hx : ∀ x ∈ xs, 0 ≤ x ∧ x ≤ b - 1) : ((vN b xs : Nat) : Int) = vl b xs ∧ ((vN b xs : Nat) : Int) < b ^ xs.length := by
  have := vl_bd hb xs.length xs rfl hx
  unfold vN; omega
theorem fR_zero {b : Int} {xs : List Int} (hb : 2 ≤ b) (hx : ∀ x ∈ xs, 0 ≤ x ∧ x ≤ b - 1) : fR xs b 0 = xs := by
  show wd b xs.length ((vN b xs : Nat) : Int) = xs
  rw [(vN_bd hb hx).1]
  exact wd_vl hb xs.length xs rfl hx
theorem rn_word {b : Int} {xs : List Int} (hb : 2 ≤ b) (hb' : b ≤ 16) (hl : xs.length ≤ 8) (hx : ∀ x ∈ xs, 0 ≤ x ∧ x ≤ b - 1) : Rn (fR xs b) (nL xs b) (nT xs b) xs.length b :=
  rn_of (M := (b - 1).toNat) (by omega) (by omega) (by omega) hl (vN_bd hb hx).2

def VA_TailOf (xs : List Int) (b : Int) : Int := if okW xs b = true then ((nT xs b : Nat) : Int) else 0
def VB_TailOf (xs : List Int) (b : Int) : Int := if okW xs b = true then ((nL xs b - nT xs b : Nat) : Int) else 0
abbrev VAL_TailOf (xs : List Int) (b : Int) : Value := .tuple #[.int .i64 (VA_TailOf xs b), .int .i64 (VB_TailOf xs b), .bool (okW xs b)]

end Go.Proofs.Ytadjjmlneghklaa
