/-
  Functions that only read a slice of integers.
-/
import Derived.Test.YtjfcbelbpgmokaaW
namespace Go.Proofs.Ytjfcbelbpgmokaa
open Go.RowKit
set_option linter.unusedVariables false
set_option linter.unusedSimpArgs false

end Go.Proofs.Ytjfcbelbpgmokaa
