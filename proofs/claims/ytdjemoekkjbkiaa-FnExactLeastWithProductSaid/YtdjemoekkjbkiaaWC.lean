/-
  Runs of products and of sums, the program's and the model's (written by wip/tools/gen_wc.py).
-/
import Derived.Test.YtdjemoekkjbkiaaWB
import Derived.Test.YtdjemoekkjbkiaaB
namespace Go.Proofs.Ytdjemoekkjbkiaa
open Go.RowKit
set_option linter.unusedVariables false
set_option linter.unusedSimpArgs false
set_option maxRecDepth 100000

theorem al_below (w : World) (o : Obj) : Below w.heap.size w (w.alloc o) := (Below.refl _ _).alloc (Nat.le_refl _) o

theorem run_len {pre rs full : List Int} (h : pre ++ rs = full) (hf : full.length ≤ 1000) : pre.length + rs.length ≤ 1000 := by
  rw [← List.length_append, h]; exact hf

theorem sd_lt (b n : Int) (hb : 2 ≤ b) (hb' : b ≤ 16) (h0 : 0 ≤ n) (h1 : n ≤ 1000000000000) : 0 ≤ sd b n ∧ sd b n ≤ n ∧ (b ≤ n → sd b n < n) :=
  let ⟨a, c, _, d⟩ := sd_bd b n hb hb' h0 h1
  ⟨a, c, d⟩

theorem lastD_at (xs : List Int) (h : 1 ≤ xs.length) : xs[xs.length - 1]'(by omega) = lastD xs := by
  unfold lastD; rw [List.getD_eq_getElem?_getD, List.getElem?_eq_getElem (by omega)]; rfl

end Go.Proofs.Ytdjemoekkjbkiaa
