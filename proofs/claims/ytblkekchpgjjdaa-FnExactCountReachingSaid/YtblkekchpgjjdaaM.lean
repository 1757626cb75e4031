/-
  Functions that make a slice: the copy of an argument; digits.
-/
import Derived.Test.YtblkekchpgjjdaaW2
import Derived.Test.YtblkekchpgjjdaaD
namespace Go.Proofs.Ytblkekchpgjjdaa
open Go.RowKit
set_option linter.unusedVariables false
set_option linter.unusedSimpArgs false

end Go.Proofs.Ytblkekchpgjjdaa
