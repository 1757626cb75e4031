/-
  The program's sums of digits with the same backwards.
-/
import Derived.Test.YtamibonkbpppmaaTI
import Derived.Test.YtamibonkbpppmaaTM
namespace Go.Proofs.Ytamibonkbpppmaa
open Go.RowKit
set_option linter.unusedVariables false
set_option linter.unusedSimpArgs false
set_option maxRecDepth 100000

end Go.Proofs.Ytamibonkbpppmaa
