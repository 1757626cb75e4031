/-
  The law of CyclicOf, walked call by call (written by wip/tools/gen_lawm.py).
-/
import Derived.Test.Ytpfifeceeebhlaa9J
import Derived.Test.YtpfifeceeebhlaaK
namespace Go.Proofs.Ytpfifeceeebhlaa
open Go.RowKit
set_option linter.unusedVariables false
set_option linter.unusedSimpArgs false

theorem law_CyclicOf (a0 : Int) (a1 : Int) (W : World) :
    Calls Try.prog 16 #[.int .i64 a0, .int .i64 a1] W fun e w' => e = .returned (.bool true) ∧ Below W.heap.size W w' := by
  obtain ⟨rs, hxs⟩ : ∃ rs, rs = LF_CyclicOf  a0 a1 := ⟨_, rfl⟩
  have hl : rs.length ≤ 2000000 := by rw [hxs]; exact LF_CyclicOf_len  a0 a1
  have HX := Lib.hid hxs
  clear hxs
  go_enter Try.func16, Try.ntmps16
  go_wp2_with fail
  refine (spec_CyclicOf   a0 a1  _  ).mono ?_
  rintro e w1 ⟨u2, rfl, hr, hb⟩
  rw [← HX.out] at hr
  have B3 := Lib.hid hb
  have R4 := Lib.hid hr
  clear hr hb
  go_wp2_with fail
  refine (impl_CyclicOf   a0 a1  _  ).mono ?_
  rintro e w5 ⟨u6, rfl, hr, hb⟩
  rw [← HX.out] at hr
  have A7 := Lib.hid (Rn.apart (fun k hk => (R4.out.lt k hk).2) hr)
  have R8 := Lib.hid (R4.out.keep hb)
  have B9 := Lib.hid (Below.step B3.out B3.out.size hb)
  have R10 := Lib.hid (hr.mono B3.out.size)
  clear hr hb
  go_wp2_with fail
  refine (eqIntS_any _ _ rs rs _ R10.out.sl R8.out.sl (by omega) (by omega)).mono ?_
  rintro e w11 ⟨rfl, hb⟩
  have R12 := Lib.hid (R8.out.keep hb)
  have R13 := Lib.hid (R10.out.keep hb)
  have B14 := Lib.hid (Below.step B9.out B9.out.size hb)
  clear hb
  go_wp2_with fail
  refine (markIntS_n _ rs _ _ _ R13.out B14.out.size (by omega) (by omega) (by omega)).mono ?_
  rintro e w15 ⟨rfl, hr, hg⟩
  have R16 := Lib.hid (R12.out.grown hg A7.out)
  have B17 := Lib.hid (B14.out.grown hg B14.out.size (fun k hk => (R13.out.lt k hk).1))
  have R18 := Lib.hid hr
  clear hr hg
  go_wp2_with fail
  refine (heldIntS_n _ _ _ _ _ R18.out (by omega) (by omega) (by omega)).mono ?_
  rintro e w19 ⟨rfl, rfl⟩
  go_wp2_with fail
  refine (impl_CyclicOf   a0 a1  _  ).mono ?_
  rintro e w20 ⟨u21, rfl, hr, hb⟩
  rw [← HX.out] at hr
  have A22 := Lib.hid (Rn.apart (fun k hk => (R16.out.lt k hk).2) hr)
  have A23 := Lib.hid (Rn.apart (fun k hk => (R18.out.lt k hk).2) hr)
  have R24 := Lib.hid (R16.out.keep hb)
  have R25 := Lib.hid (R18.out.keep hb)
  have B26 := Lib.hid (Below.step B17.out B17.out.size hb)
  have R27 := Lib.hid (hr.mono B17.out.size)
  clear hr hb
  go_wp2_with fail
  refine (eqIntS_any _ _ rs rs _ R27.out.sl R24.out.sl (by omega) (by omega)).mono ?_
  rintro e w28 ⟨rfl, hb⟩
  have R29 := Lib.hid (R24.out.keep hb)
  have R30 := Lib.hid (R25.out.keep hb)
  have R31 := Lib.hid (R27.out.keep hb)
  have B32 := Lib.hid (Below.step B26.out B26.out.size hb)
  clear hb
  go_wp2_with fail
  refine (heldIntS_n _ _ _ _ _ R30.out (by omega) (by omega) (by omega)).mono ?_
  rintro e w33 ⟨rfl, rfl⟩
  go_wp2
  go_ret
  exact ⟨rfl, B32.out⟩

end Go.Proofs.Ytpfifeceeebhlaa
