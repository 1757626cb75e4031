/-
  The law of SlowestNumber, walked call by call (written by wip/tools/gen_lawm.py).
-/
import Derived.Test.YteadgaecjoenlaaT5
import Derived.Test.YteadgaecjoenlaaTK
namespace Go.Proofs.Yteadgaecjoenlaa
open Go.RowKit
set_option linter.unusedVariables false
set_option linter.unusedSimpArgs false

theorem law_SlowestNumber (a0 : Int) (a1 : Int) (a2 : Int) (W : World) :
    Calls Try.prog 12 #[.int .i64 a0, .int .i64 a1, .int .i64 a2] W fun e w' => e = .returned (.bool true) ∧ Below W.heap.size W w' := by
  go_enter Try.func12, Try.ntmps12
  go_wp2_with fail
  refine (spec_SlowestNumber   a0 a1 a2  _  ).mono ?_
  rintro e w1 ⟨rfl, hb⟩
  have B2 := Lib.hid hb
  clear hb
  go_wp2_with fail
  refine (impl_SlowestNumber   a0 a1 a2  _  ).mono ?_
  rintro e w3 ⟨rfl, hb⟩
  have B4 := Lib.hid (Below.step B2.out B2.out.size hb)
  clear hb
  go_wp2
  go_ret
  exact ⟨rfl, B4.out⟩

end Go.Proofs.Yteadgaecjoenlaa
