/-
  Answers: words of values, steps by gaps.
-/
import Derived.Test.YtadjjmlneghklaaJK
namespace Go.Proofs.Ytadjjmlneghklaa
open Go.RowKit
set_option linter.unusedVariables false
set_option linter.unusedSimpArgs false
set_option maxRecDepth 100000

/-- Is there a word of a width with this value? -/
def okN (n W b : Int) : Bool := okS W b && decide (0 ≤ n ∧ n < b ^ W.toNat)
abbrev OK_WordOf (n W b : Int) : Bool := okN n W b
def LF_WordOf (n W b : Int) : List Int := if okN n W b = true then wd b W.toNat n else []
theorem okN_cases (n W b : Int) : (okN n W b = true ∧ ∃ w : Nat, W = (w : Int) ∧ 1 ≤ w ∧ w ≤ 8 ∧ 2 ≤ b ∧ b ≤ 16 ∧ 0 ≤ n ∧ n < b ^ w) ∨ okN n W b = false := by
  cases h : okN n W b
  · exact .inr rfl
  · unfold okN at h
    rw [Bool.and_eq_true, okS_iff, decide_eq_true_eq] at h
    obtain ⟨⟨⟨h1, h2⟩, h3, h4⟩, h5, h6⟩ := h
    exact .inl ⟨rfl, W.toNat, by omega, by omega, by omega, h3, h4, h5, h6⟩
theorem LF_WordOf_len (n W b : Int) : (LF_WordOf n W b).length ≤ 2000000 := by
  unfold LF_WordOf
  rcases okN_cases n W b with ⟨h, w, rfl, h1, h2, _⟩ | h
  · rw [h, if_pos rfl, wd_len]; simp; omega
  · rw [h]; simp

end Go.Proofs.Ytadjjmlneghklaa
