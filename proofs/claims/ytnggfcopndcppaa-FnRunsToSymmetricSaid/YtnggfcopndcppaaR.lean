/-
  Functions that only read a slice of integers.
-/
import Derived.Test.YtnggfcopndcppaaW
namespace Go.Proofs.Ytnggfcopndcppaa
open Go.RowKit
set_option linter.unusedVariables false
set_option linter.unusedSimpArgs false

end Go.Proofs.Ytnggfcopndcppaa
