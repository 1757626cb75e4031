/-
  The numbers that the laws of chapter 8 draw.
-/
import Derived.Test.Ytmdjmbmkgboeaaa0B
namespace Go.Proofs.Ytmdjmbmkgboeaaa
open Go.RowKit
set_option linter.unusedVariables false
set_option linter.unusedSimpArgs false
set_option maxRecDepth 100000

end Go.Proofs.Ytmdjmbmkgboeaaa
