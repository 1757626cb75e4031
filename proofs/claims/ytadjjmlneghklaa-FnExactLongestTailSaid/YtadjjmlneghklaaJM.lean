/-
  Answers: steps by gaps.
-/
import Derived.Test.YtadjjmlneghklaaJL
namespace Go.Proofs.Ytadjjmlneghklaa
open Go.RowKit
set_option linter.unusedVariables false
set_option linter.unusedSimpArgs false
set_option maxRecDepth 100000

theorem below_drewN' {B : Nat} {a w : World} (h : Below B a w) (n : Nat) : Below B a (w.drewN n) := ⟨h.1, h.2, h.3, h.4, h.5⟩
/-- A list's cells. -/
def GC (w : World) (a : Option Addr) (g : List Int) : Prop := g = [] ∨ ∃ ga off, a = some ⟨ga, off, none⟩ ∧ ∀ j (hj : j < g.length), w.cell? ⟨ga, off + j, none⟩ = some (.int .i64 g[j])
theorem GC.drewN {w : World} {a : Option Addr} {g : List Int} (h : GC w a g) (n : Nat) : GC (w.drewN n) a g := h

end Go.Proofs.Ytadjjmlneghklaa
