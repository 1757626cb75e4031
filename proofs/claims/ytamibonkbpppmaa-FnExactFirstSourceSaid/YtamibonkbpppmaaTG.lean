/-
  The model's sums place by place; the answers that are asked of digits: carries, symmetric ones.
-/
import Derived.Test.YtamibonkbpppmaaTF
namespace Go.Proofs.Ytamibonkbpppmaa
open Go.RowKit
set_option linter.unusedVariables false
set_option linter.unusedSimpArgs false
set_option maxRecDepth 100000

end Go.Proofs.Ytamibonkbpppmaa
