/-
  Functions that make a slice: the copy of an argument; digits.
-/
import Derived.Test.YtmdjmbmkgboeaaaW2
import Derived.Test.YtmdjmbmkgboeaaaD
namespace Go.Proofs.Ytmdjmbmkgboeaaa
open Go.RowKit
set_option linter.unusedVariables false
set_option linter.unusedSimpArgs false

end Go.Proofs.Ytmdjmbmkgboeaaa
