/-
  A draw among literals right behind a cursor's making, and draws of two or three numbers.
-/
import Derived.Test.Ytnggfcopndcppaa0D
import Derived.Test.Ytnggfcopndcppaa0B
namespace Go.Proofs.Ytnggfcopndcppaa
open Go.RowKit
set_option linter.unusedVariables false
set_option linter.unusedSimpArgs false
set_option maxRecDepth 100000

/-- As among_lit, the block's number, the length and the cells told as the walk has them. -/
theorem among_at (g : Nat) (v : Value) (xs : List Int) (K : Nat) (ys : List Int) (w : World) (h : Cu w g v xs K) (hK : K ≤ 1000000) (h1 : 1 ≤ ys.length) (h2 : ys.length ≤ 1000)
    {s n : Nat} {cs : Array Value} (hs : s = w.heap.size) (hn : n = ys.length) (hcs : cs = (ys.map (Value.int .i64)).toArray) :
    Calls Try.prog 70 #[.pointer (some ⟨g, 0, none⟩), .slice (some ⟨s, 0, none⟩) n n] (w.alloc (.cells cs 3)) fun e w' => ∃ x : Int, e = .returned (.int .i64 x) ∧ Cu w' g v xs (K + 2) ∧ w.grownBy w' (some g) := by
  subst hs hn hcs
  exact among_lit g v xs K ys w h hK h1 h2

end Go.Proofs.Ytnggfcopndcppaa
