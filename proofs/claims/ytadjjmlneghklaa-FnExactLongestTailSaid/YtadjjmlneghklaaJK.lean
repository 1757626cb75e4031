/-
  Answers: values, words, gaps, steps.
-/
import Derived.Test.YtadjjmlneghklaaJJ
import Derived.BigQuiet
import Derived.Deep.QuietTactic
namespace Go.Proofs.Ytadjjmlneghklaa
open Go.RowKit
set_option linter.unusedVariables false
set_option linter.unusedSimpArgs false
set_option maxRecDepth 100000

theorem apart_symm {u v : Value} (h : u.ownBlock = none ∨ u.ownBlock ≠ v.ownBlock) : v.ownBlock = none ∨ v.ownBlock ≠ u.ownBlock := by
  cases hv : v.ownBlock with
  | none => exact .inl rfl
  | some k =>
    right
    rcases h with h | h
    · rw [h]; simp
    · rw [hv] at h; exact fun e => h e.symm
theorem apart_sym2 {u v : Value} (h : u.ownBlock = none ∨ u.ownBlock ≠ v.ownBlock) : v.ownBlock = none ∨ v.ownBlock ≠ u.ownBlock := apart_symm h

abbrev OK_ValueOf (xs : List Int) (b : Int) : Bool := okW xs b
def V_ValueOf (xs : List Int) (b : Int) : Int := if okW xs b = true then vl b xs else 0
abbrev VAL_ValueOf (xs : List Int) (b : Int) : Value := .tuple #[.int .i64 (V_ValueOf xs b), .bool (okW xs b)]
def LF_GapsOf (xs : List Int) (b : Int) : List Int := if okW xs b = true then gp xs else []
def LF_SortedStep (xs : List Int) (b : Int) : List Int := if okW xs b = true then wd b xs.length (stv b xs) else []
abbrev OK_GapsOf (xs : List Int) (b : Int) : Bool := okW xs b
abbrev OK_SortedStep (xs : List Int) (b : Int) : Bool := okW xs b
theorem LF_GapsOf_len (xs : List Int) (b : Int) (h : xs.length ≤ 1048576) : (LF_GapsOf xs b).length ≤ 2000000 := by
  unfold LF_GapsOf; split
  · rw [gp_len]; omega
  · simp
theorem LF_SortedStep_len (xs : List Int) (b : Int) (h : xs.length ≤ 1048576) : (LF_SortedStep xs b).length ≤ 2000000 := by
  unfold LF_SortedStep; split
  · rw [wd_len]; omega
  · simp

end Go.Proofs.Ytadjjmlneghklaa
