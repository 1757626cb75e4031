/-
  The law of IsSelfTelling, walked call by call (written by wip/tools/gen_lawm.py).
-/
import Derived.Test.Ytpfifeceeebhlaa9U
import Derived.Test.Ytpfifeceeebhlaa8L
namespace Go.Proofs.Ytpfifeceeebhlaa
open Go.RowKit
set_option linter.unusedVariables false
set_option linter.unusedSimpArgs false

theorem law_IsSelfTelling {W : World} (v0 : Value) (xs0 : List Int) (hs0 : Sl W v0 xs0) :
    Calls Try.prog 7 #[v0] W fun e w' => e = .returned (.bool true) ∧ Below W.heap.size W w' := by
  obtain ⟨b0, cap0, rfl⟩ := hs0.len
  have HS0 := Lib.hid hs0
  clear hs0
  by_cases hl0 : xs0.length ≤ 1048576
  · skip
    go_enter Try.func7, Try.ntmps7
    go_wp2_with fail
    refine (toIntS_any _ _ _ HS0.out (by omega)).mono ?_
    rintro e w2 ⟨u1, rfl, hr, hb⟩
    have B3 := Lib.hid hb
    have R4 := Lib.hid hr
    clear hr hb
    go_wp2_with fail
    refine (spec_IsSelfTelling _ xs0  _ _ R4.out hl0).mono ?_
    rintro e w5 ⟨rfl, hb⟩
    have R6 := Lib.hid (R4.out.keep hb)
    have B7 := Lib.hid (Below.step B3.out B3.out.size hb)
    clear hb
    go_wp2_with fail
    refine (toIntS_any _ _ _ (HS0.out.keep B7.out) (by omega)).mono ?_
    rintro e w9 ⟨u8, rfl, hr, hb⟩
    have B10 := Lib.hid (Below.step B7.out B7.out.size hb)
    have R11 := Lib.hid (hr.mono B7.out.size)
    clear hr hb
    go_wp2_with fail
    refine (impl_IsSelfTelling _ xs0  _ _ R11.out hl0).mono ?_
    rintro e w12 ⟨rfl, hb⟩
    have R13 := Lib.hid (R11.out.keep hb)
    have B14 := Lib.hid (Below.step B10.out B10.out.size hb)
    clear hb
    go_wp2_with fail
    refine (toIntS_any _ _ _ (HS0.out.keep B14.out) (by omega)).mono ?_
    rintro e w16 ⟨u15, rfl, hr, hb⟩
    have A17 := Lib.hid (Rd.apart (fun k hk => (R13.out.lt k hk).2) hr)
    have R18 := Lib.hid (R13.out.keep hb)
    have B19 := Lib.hid (Below.step B14.out B14.out.size hb)
    have R20 := Lib.hid (hr.mono B14.out.size)
    clear hr hb
    go_wp2_with fail
    refine (eqIntS_any _ _ xs0 xs0 _ R18.out.sl R20.out.sl (by omega) (by omega)).mono ?_
    rintro e w21 ⟨rfl, hb⟩
    have R22 := Lib.hid (R18.out.keep hb)
    have R23 := Lib.hid (R20.out.keep hb)
    have B24 := Lib.hid (Below.step B19.out B19.out.size hb)
    clear hb
    go_wp2
    go_ret
    exact ⟨rfl, B24.out⟩
  · go_enter Try.func7, Try.ntmps7
    go_wp2
    go_ret
    exact ⟨rfl, Below.refl _ _⟩

end Go.Proofs.Ytpfifeceeebhlaa
