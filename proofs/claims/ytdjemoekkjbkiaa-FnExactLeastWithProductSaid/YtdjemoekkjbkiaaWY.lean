/-
  The program's count of lists with a product; the model's, for small ones.
-/
import Derived.Test.YtdjemoekkjbkiaaWX
namespace Go.Proofs.Ytdjemoekkjbkiaa
open Go.RowKit
set_option linter.unusedVariables false
set_option linter.unusedSimpArgs false
set_option maxRecDepth 100000

theorem of_any (b : Nat) (hb : 2 ≤ b) (hb' : b ≤ 16) : ∀ p : Nat, 1 ≤ p → p ≤ 1000000000000 → ∀ (m : Nat) (s : Nat → Bool) (w : World), Sm w b m s → s 1 = true →
    Calls Try.prog 19 #[.agg #[.int .i64 (b : Int), .map (some m)], .int .i64 (p : Int)] w fun e w' => ∃ s', e = .returned (spV b p) ∧ Sm w' b m s' ∧ s' 1 = true ∧ w.grownBy w' (some m) := by
  intro p
  induction p using Nat.strongRecOn with
  | ind p ih =>
    intro hp hp' m s w hs h1
    by_cases hit : s p = true
    · exact of_hit b p m s w hb hb' hp hp' hs h1 hit
    · have hp2 : 2 ≤ p := by
        by_cases e : p = 1
        · subst e; exact absurd h1 hit
        · omega
      exact of_miss b p m s w hb hb' hp2 hp' hs h1 (by simpa using hit) (fun q hq1 hq m s w hs h1 => ih q hq hq1 (by omega) m s w hs h1)

end Go.Proofs.Ytdjemoekkjbkiaa
