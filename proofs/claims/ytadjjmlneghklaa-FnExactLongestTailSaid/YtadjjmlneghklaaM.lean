/-
  Functions that make a slice: the copy of an argument; digits.
-/
import Derived.Test.YtadjjmlneghklaaW2
import Derived.Test.YtadjjmlneghklaaD
namespace Go.Proofs.Ytadjjmlneghklaa
open Go.RowKit
set_option linter.unusedVariables false
set_option linter.unusedSimpArgs false

end Go.Proofs.Ytadjjmlneghklaa
