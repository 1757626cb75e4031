/-
  The program's run of a word as lists.
-/
import Derived.Test.YtadjjmlneghklaaKC
namespace Go.Proofs.Ytadjjmlneghklaa
open Go.RowKit
set_option linter.unusedVariables false
set_option linter.unusedSimpArgs false
set_option maxRecDepth 100000

theorem rls_congr {F G : Nat → List Int} {n : Nat} (h : ∀ j, j < n → F j = G j) : rls F n = rls G n := List.map_congr_left fun j hj => h j (List.mem_range.1 hj)
theorem WC.part {w : World} {g n t m : Nat} {F : Nat → List Int} (h : WC w g 0 n F) (hm : t + m ≤ n) : WC w g (t * 8) m (fun j => F (t + j)) := fun j hj i hi => by
  have := h (t + j) (by omega) i hi
  rwa [show 0 + (t + j) * 8 + i = t * 8 + j * 8 + i by omega] at this
theorem WC.srcW {w : World} {g off n cap : Nat} {F : Nat → List Int} (h : WC w g off n F) : SrcW w (.slice (some ⟨g, off, none⟩) n cap) n F := .inr ⟨g, off, cap, rfl, h⟩

end Go.Proofs.Ytadjjmlneghklaa
