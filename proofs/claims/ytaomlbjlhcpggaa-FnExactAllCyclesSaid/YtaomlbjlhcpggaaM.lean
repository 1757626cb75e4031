/-
  Functions that make a slice: the copy of an argument; digits.
-/
import Derived.Test.YtaomlbjlhcpggaaW2
import Derived.Test.YtaomlbjlhcpggaaD
namespace Go.Proofs.Ytaomlbjlhcpggaa
open Go.RowKit
set_option linter.unusedVariables false
set_option linter.unusedSimpArgs false

end Go.Proofs.Ytaomlbjlhcpggaa
