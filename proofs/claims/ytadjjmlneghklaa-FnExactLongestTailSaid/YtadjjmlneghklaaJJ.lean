/-
  The program's answers about one word: its step, its gaps, its value.
-/
import Derived.Test.YtadjjmlneghklaaJG
import Derived.Test.YtadjjmlneghklaaJI
namespace Go.Proofs.Ytadjjmlneghklaa
open Go.RowKit
set_option linter.unusedVariables false
set_option linter.unusedSimpArgs false
set_option maxRecDepth 100000

/-- Zeros with digits laid over them. -/
theorem splice_dw (xs : List Int) (hl : xs.length ≤ 8) : (splice [.int .i64 0, .int .i64 0, .int .i64 0, .int .i64 0, .int .i64 0, .int .i64 0, .int .i64 0, .int .i64 0] 0 (xs.map (Value.int .i64))).toArray = dw xs := by
  show (splice (List.replicate 8 (Value.int .i64 0)) 0 (xs.map (Value.int .i64))).toArray = dw xs
  unfold splice dw
  congr 1
  rw [List.take_zero, List.nil_append, Nat.zero_add, List.drop_replicate, List.length_map, List.map_append, List.map_replicate]

end Go.Proofs.Ytadjjmlneghklaa
