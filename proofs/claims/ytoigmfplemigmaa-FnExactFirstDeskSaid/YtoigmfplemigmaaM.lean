/-
  Functions that make a slice: the copy of an argument; digits.
-/
import Derived.Test.YtoigmfplemigmaaW2
import Derived.Test.YtoigmfplemigmaaD
namespace Go.Proofs.Ytoigmfplemigmaa
open Go.RowKit
set_option linter.unusedVariables false
set_option linter.unusedSimpArgs false

end Go.Proofs.Ytoigmfplemigmaa
