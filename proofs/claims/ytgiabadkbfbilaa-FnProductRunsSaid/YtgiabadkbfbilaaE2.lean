/-
  Two slices held against each other: the program's and the model's tests.
-/
import Derived.Test.YtgiabadkbfbilaaE
namespace Go.Proofs.Ytgiabadkbfbilaa
open Go.RowKit
set_option linter.unusedVariables false
set_option linter.unusedSimpArgs false

end Go.Proofs.Ytgiabadkbfbilaa
