/-
  Facts of the whole translation that every statement's frame asks, checked once.
-/
import Derived.Test.YtnggfcopndcppaaRows
import Derived.ProofKit
namespace Go.Proofs.Ytnggfcopndcppaa.whole
set_option linter.unusedVariables false

theorem laid : laidOutB Try.pinned.checked.prog = true := by kernel_rfl
theorem rowed : mapsRowed Try.pinned.checked.prog = true := by kernel_rfl
theorem plain : Try.pinned.checked.prog.plainKeys = true := by kernel_rfl
theorem heard : Try.pinned.checked.prog.stopsHeard = true := by kernel_rfl
theorem heads : (Try.pinned.checked.prog.mayEnter && (!Try.pinned.checked.prog.liftsFinal && (Try.pinned.checked.prog.make == some .cut))) = true := by kernel_rfl
theorem enter : Try.pinned.checked.prog.mayEnter = true := (Bool.and_eq_true _ _ ▸ heads).1
theorem lifts : Try.pinned.checked.prog.liftsFinal = false := by have h := heads; simp only [Bool.and_eq_true, Bool.not_eq_true'] at h; exact h.2.1
theorem made : Try.pinned.checked.prog.make = some .cut := by have h := heads; simp only [Bool.and_eq_true, beq_iff_eq] at h; exact h.2.2

end Go.Proofs.Ytnggfcopndcppaa.whole
