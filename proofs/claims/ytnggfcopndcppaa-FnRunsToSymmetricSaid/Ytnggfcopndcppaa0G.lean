/-
  The numbers and bases that the laws draw in most chapters.
-/
import Derived.Test.Ytnggfcopndcppaa0B
namespace Go.Proofs.Ytnggfcopndcppaa
open Go.RowKit
set_option linter.unusedVariables false
set_option linter.unusedSimpArgs false
set_option maxRecDepth 100000

theorem base_any (g : Nat) (v : Value) (xs : List Int) (K : Nat) (w : World) (h : Cu w g v xs K) (hK : K ≤ 1000) :
    Calls Try.prog 67 #[.pointer (some ⟨g, 0, none⟩)] w fun e w' => ∃ z : Int, e = .returned (.int .i64 z) ∧ Cu w' g v xs (K + 2) ∧ w.grownBy w' (some g) := by
  have HA := Lib.hid (among_lit g v xs K [10, 10, 10, 2, 3, 5, 7, 16, 12, 10, 10, 16, 1, 17, 0] w h (by omega) (by simp) (by simp))
  clear h
  go_enter Try.func67, Try.ntmps67
  go_wp2_with (go_at_call 70; refine HA.out.mono ?_; rintro e w2 ⟨z, rfl, hc, hg⟩; have C2 := Lib.hid hc; have G2 := Lib.hid hg; clear hc hg)
  go_ret
  exact ⟨z, rfl, C2.out, G2.out⟩

end Go.Proofs.Ytnggfcopndcppaa
