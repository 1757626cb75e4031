/-
  Functions that make a slice: the copy of an argument; digits.
-/
import Derived.Test.YtdjemoekkjbkiaaW2
import Derived.Test.YtdjemoekkjbkiaaD
namespace Go.Proofs.Ytdjemoekkjbkiaa
open Go.RowKit
set_option linter.unusedVariables false
set_option linter.unusedSimpArgs false

end Go.Proofs.Ytdjemoekkjbkiaa
