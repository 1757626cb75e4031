/-
  The law of AreMapsAlike, walked call by call (written by wip/tools/gen_lawm.py).
-/
import Derived.Test.YticagncemlnafaaRL
import Derived.Test.YticagncemlnafaaPT
namespace Go.Proofs.Yticagncemlnafaa
open Go.RowKit
set_option linter.unusedVariables false
set_option linter.unusedSimpArgs false

theorem law_AreMapsAlike {W : World} (v0 : Value) (xs0 : List Int) (hs0 : Sl W v0 xs0) (v1 : Value) (xs1 : List Int) (hs1 : Sl W v1 xs1) :
    Calls Try.prog 18 #[v0, v1] W fun e w' => e = .returned (.bool true) ∧ Below W.heap.size W w' := by
  obtain ⟨b0, cap0, rfl⟩ := hs0.len
  have HS0 := Lib.hid hs0
  clear hs0
  obtain ⟨b1, cap1, rfl⟩ := hs1.len
  have HS1 := Lib.hid hs1
  clear hs1
  by_cases hl0 : xs0.length ≤ 1048576
  · skip
    by_cases hl1 : xs1.length ≤ 1048576
    · skip
      go_enter Try.func18, Try.ntmps18
      go_wp2_with fail
      refine (toIntS_any _ _ _ HS0.out (by omega)).mono ?_
      rintro e w2 ⟨u1, rfl, hr, hb⟩
      have B3 := Lib.hid hb
      have R4 := Lib.hid hr
      clear hr hb
      go_wp2_with fail
      refine (toIntS_any _ _ _ (HS1.out.keep B3.out) (by omega)).mono ?_
      rintro e w6 ⟨u5, rfl, hr, hb⟩
      have A7 := Lib.hid (Rd.apart (fun k hk => (R4.out.lt k hk).2) hr)
      have R8 := Lib.hid (R4.out.keep hb)
      have B9 := Lib.hid (Below.step B3.out B3.out.size hb)
      have R10 := Lib.hid (hr.mono B3.out.size)
      clear hr hb
      go_wp2_with fail
      refine (spec_AreMapsAlike _ _ xs0 xs1  _ _ _ R8.out R10.out hl0 hl1).mono ?_
      rintro e w11 ⟨rfl, hb⟩
      have R12 := Lib.hid (R8.out.keep hb)
      have R13 := Lib.hid (R10.out.keep hb)
      have B14 := Lib.hid (Below.step B9.out B9.out.size hb)
      clear hb
      go_wp2_with fail
      refine (toIntS_any _ _ _ (HS0.out.keep B14.out) (by omega)).mono ?_
      rintro e w16 ⟨u15, rfl, hr, hb⟩
      have B17 := Lib.hid (Below.step B14.out B14.out.size hb)
      have R18 := Lib.hid (hr.mono B14.out.size)
      clear hr hb
      go_wp2_with fail
      refine (toIntS_any _ _ _ (HS1.out.keep B17.out) (by omega)).mono ?_
      rintro e w20 ⟨u19, rfl, hr, hb⟩
      have A21 := Lib.hid (Rd.apart (fun k hk => (R18.out.lt k hk).2) hr)
      have R22 := Lib.hid (R18.out.keep hb)
      have B23 := Lib.hid (Below.step B17.out B17.out.size hb)
      have R24 := Lib.hid (hr.mono B17.out.size)
      clear hr hb
      go_wp2_with fail
      refine (impl_AreMapsAlike _ _ xs0 xs1  _ _ _ R22.out R24.out hl0 hl1).mono ?_
      rintro e w25 ⟨rfl, hb⟩
      have R26 := Lib.hid (R22.out.keep hb)
      have R27 := Lib.hid (R24.out.keep hb)
      have B28 := Lib.hid (Below.step B23.out B23.out.size hb)
      clear hb
      go_wp2_with fail
      refine (toIntS_any _ _ _ (HS0.out.keep B28.out) (by omega)).mono ?_
      rintro e w30 ⟨u29, rfl, hr, hb⟩
      have A31 := Lib.hid (Rd.apart (fun k hk => (R26.out.lt k hk).2) hr)
      have A32 := Lib.hid (Rd.apart (fun k hk => (R27.out.lt k hk).2) hr)
      have R33 := Lib.hid (R26.out.keep hb)
      have R34 := Lib.hid (R27.out.keep hb)
      have B35 := Lib.hid (Below.step B28.out B28.out.size hb)
      have R36 := Lib.hid (hr.mono B28.out.size)
      clear hr hb
      go_wp2_with fail
      refine (eqIntS_any _ _ xs0 xs0 _ R33.out.sl R36.out.sl (by omega) (by omega)).mono ?_
      rintro e w37 ⟨rfl, hb⟩
      have R38 := Lib.hid (R33.out.keep hb)
      have R39 := Lib.hid (R34.out.keep hb)
      have R40 := Lib.hid (R36.out.keep hb)
      have B41 := Lib.hid (Below.step B35.out B35.out.size hb)
      clear hb
      go_wp2_with fail
      refine (toIntS_any _ _ _ (HS1.out.keep B41.out) (by omega)).mono ?_
      rintro e w43 ⟨u42, rfl, hr, hb⟩
      have A44 := Lib.hid (Rd.apart (fun k hk => (R38.out.lt k hk).2) hr)
      have A45 := Lib.hid (Rd.apart (fun k hk => (R39.out.lt k hk).2) hr)
      have R46 := Lib.hid (R38.out.keep hb)
      have R47 := Lib.hid (R39.out.keep hb)
      have B48 := Lib.hid (Below.step B41.out B41.out.size hb)
      have R49 := Lib.hid (hr.mono B41.out.size)
      clear hr hb
      go_wp2_with fail
      refine (eqIntS_any _ _ xs1 xs1 _ R47.out.sl R49.out.sl (by omega) (by omega)).mono ?_
      rintro e w50 ⟨rfl, hb⟩
      have R51 := Lib.hid (R46.out.keep hb)
      have R52 := Lib.hid (R47.out.keep hb)
      have R53 := Lib.hid (R49.out.keep hb)
      have B54 := Lib.hid (Below.step B48.out B48.out.size hb)
      clear hb
      go_wp2
      go_ret
      exact ⟨rfl, B54.out⟩
    · go_enter Try.func18, Try.ntmps18
      go_wp2
      go_ret
      exact ⟨rfl, Below.refl _ _⟩
  · go_enter Try.func18, Try.ntmps18
    go_wp2
    go_ret
    exact ⟨rfl, Below.refl _ _⟩

end Go.Proofs.Yticagncemlnafaa
