/-
  Functions that make a slice: the copy of an argument; digits.
-/
import Derived.Test.YtjfcbelbpgmokaaW2
import Derived.Test.YtjfcbelbpgmokaaD
namespace Go.Proofs.Ytjfcbelbpgmokaa
open Go.RowKit
set_option linter.unusedVariables false
set_option linter.unusedSimpArgs false

end Go.Proofs.Ytjfcbelbpgmokaa
