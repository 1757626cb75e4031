/-
  The law of UnsayWord, walked call by call (written by wip/tools/gen_lawm.py).
-/
import Derived.Test.Ytpfifeceeebhlaa96
import Derived.Test.Ytpfifeceeebhlaa8L
namespace Go.Proofs.Ytpfifeceeebhlaa
open Go.RowKit
set_option linter.unusedVariables false
set_option linter.unusedSimpArgs false

theorem law_UnsayWord {W : World} (v0 : Value) (xs0 : List Int) (hs0 : Sl W v0 xs0) :
    Calls Try.prog 4 #[v0] W fun e w' => e = .returned (.bool true) ∧ Below W.heap.size W w' := by
  obtain ⟨b0, cap0, rfl⟩ := hs0.len
  have HS0 := Lib.hid hs0
  clear hs0
  by_cases hl0 : xs0.length ≤ 1048576
  · skip
    obtain ⟨rs, hxs⟩ : ∃ rs, rs = LF_UnsayWord xs0  := ⟨_, rfl⟩
    have hl : rs.length ≤ 2000000 := by rw [hxs]; exact LF_UnsayWord_len xs0  hl0
    have HX := Lib.hid hxs
    clear hxs
    go_enter Try.func4, Try.ntmps4
    go_wp2_with fail
    refine (toIntS_any _ _ _ HS0.out (by omega)).mono ?_
    rintro e w2 ⟨u1, rfl, hr, hb⟩
    have B3 := Lib.hid hb
    have R4 := Lib.hid hr
    clear hr hb
    go_wp2_with fail
    refine (spec_UnsayWord _ xs0  _ _ R4.out hl0).mono ?_
    rintro e w5 ⟨u6, rfl, hr, hb⟩
    rw [← HX.out] at hr
    have A7 := Lib.hid (Rd.apart (fun k hk => (R4.out.lt k hk).2) hr)
    have R8 := Lib.hid (R4.out.keep hb)
    have B9 := Lib.hid (Below.step B3.out B3.out.size hb)
    have R10 := Lib.hid (hr.mono B3.out.size)
    clear hr hb
    go_wp2_with fail
    refine (toIntS_any _ _ _ (HS0.out.keep B9.out) (by omega)).mono ?_
    rintro e w12 ⟨u11, rfl, hr, hb⟩
    have A13 := Lib.hid (Rd.apart (fun k hk => (R10.out.lt k hk).2) hr)
    have R14 := Lib.hid (R10.out.keep hb)
    have B15 := Lib.hid (Below.step B9.out B9.out.size hb)
    have R16 := Lib.hid (hr.mono B9.out.size)
    clear hr hb
    go_wp2_with fail
    refine (impl_UnsayWord _ xs0  _ _ R16.out hl0).mono ?_
    rintro e w17 ⟨u18, rfl, hr, hb⟩
    rw [← HX.out] at hr
    have A19 := Lib.hid (Rd.apart (fun k hk => (R14.out.lt k hk).2) hr)
    have A20 := Lib.hid (Rd.apart (fun k hk => (R16.out.lt k hk).2) hr)
    have R21 := Lib.hid (R14.out.keep hb)
    have R22 := Lib.hid (R16.out.keep hb)
    have B23 := Lib.hid (Below.step B15.out B15.out.size hb)
    have R24 := Lib.hid (hr.mono B15.out.size)
    clear hr hb
    go_wp2_with fail
    refine (eqIntS_any _ _ rs rs _ R24.out.sl R21.out.sl (by omega) (by omega)).mono ?_
    rintro e w25 ⟨rfl, hb⟩
    have R26 := Lib.hid (R21.out.keep hb)
    have R27 := Lib.hid (R22.out.keep hb)
    have R28 := Lib.hid (R24.out.keep hb)
    have B29 := Lib.hid (Below.step B23.out B23.out.size hb)
    clear hb
    go_wp2_with fail
    refine (toIntS_any _ _ _ (HS0.out.keep B29.out) (by omega)).mono ?_
    rintro e w31 ⟨u30, rfl, hr, hb⟩
    have A32 := Lib.hid (Rd.apart (fun k hk => (R26.out.lt k hk).2) hr)
    have A33 := Lib.hid (Rd.apart (fun k hk => (R27.out.lt k hk).2) hr)
    have A34 := Lib.hid (Rd.apart (fun k hk => (R28.out.lt k hk).2) hr)
    have R35 := Lib.hid (R26.out.keep hb)
    have R36 := Lib.hid (R27.out.keep hb)
    have R37 := Lib.hid (R28.out.keep hb)
    have B38 := Lib.hid (Below.step B29.out B29.out.size hb)
    have R39 := Lib.hid (hr.mono B29.out.size)
    clear hr hb
    go_wp2_with fail
    refine (eqIntS_any _ _ xs0 xs0 _ R36.out.sl R39.out.sl (by omega) (by omega)).mono ?_
    rintro e w40 ⟨rfl, hb⟩
    have R41 := Lib.hid (R35.out.keep hb)
    have R42 := Lib.hid (R36.out.keep hb)
    have R43 := Lib.hid (R37.out.keep hb)
    have R44 := Lib.hid (R39.out.keep hb)
    have B45 := Lib.hid (Below.step B38.out B38.out.size hb)
    clear hb
    go_wp2_with fail
    refine (markIntS_any _ xs0 _ _ _ R42.out B45.out.size (by omega) (by omega) (by omega)).mono ?_
    rintro e w46 ⟨rfl, hr, hg⟩
    have R47 := Lib.hid (R41.out.grown hg A13.out)
    have R48 := Lib.hid (R43.out.grown hg (apart_symm A20.out))
    have B49 := Lib.hid (B45.out.grown hg B45.out.size (fun k hk => (R42.out.lt k hk).1))
    have R50 := Lib.hid hr
    clear hr hg
    go_wp2_with fail
    refine (eqIntS_any _ _ rs rs _ R48.out.sl R47.out.sl (by omega) (by omega)).mono ?_
    rintro e w51 ⟨rfl, hb⟩
    have R52 := Lib.hid (R47.out.keep hb)
    have R53 := Lib.hid (R48.out.keep hb)
    have B54 := Lib.hid (Below.step B49.out B49.out.size hb)
    clear hb
    go_wp2_with fail
    refine (markIntS_any _ rs _ _ _ R53.out B54.out.size (by omega) (by omega) (by omega)).mono ?_
    rintro e w55 ⟨rfl, hr, hg⟩
    have R56 := Lib.hid (R52.out.grown hg A19.out)
    have B57 := Lib.hid (B54.out.grown hg B54.out.size (fun k hk => (R53.out.lt k hk).1))
    have R58 := Lib.hid hr
    clear hr hg
    go_wp2_with fail
    refine (heldIntS_any _ _ _ _ _ R58.out (by omega) (by omega) (by omega)).mono ?_
    rintro e w59 ⟨rfl, rfl⟩
    go_wp2_with fail
    refine (toIntS_any _ _ _ (HS0.out.keep B57.out) (by omega)).mono ?_
    rintro e w61 ⟨u60, rfl, hr, hb⟩
    have A62 := Lib.hid (Rd.apart (fun k hk => (R56.out.lt k hk).2) hr)
    have A63 := Lib.hid (Rd.apart (fun k hk => (R58.out.lt k hk).2) hr)
    have R64 := Lib.hid (R56.out.keep hb)
    have R65 := Lib.hid (R58.out.keep hb)
    have B66 := Lib.hid (Below.step B57.out B57.out.size hb)
    have R67 := Lib.hid (hr.mono B57.out.size)
    clear hr hb
    go_wp2_with fail
    refine (impl_UnsayWord _ xs0  _ _ R67.out hl0).mono ?_
    rintro e w68 ⟨u69, rfl, hr, hb⟩
    rw [← HX.out] at hr
    have A70 := Lib.hid (Rd.apart (fun k hk => (R64.out.lt k hk).2) hr)
    have A71 := Lib.hid (Rd.apart (fun k hk => (R65.out.lt k hk).2) hr)
    have A72 := Lib.hid (Rd.apart (fun k hk => (R67.out.lt k hk).2) hr)
    have R73 := Lib.hid (R64.out.keep hb)
    have R74 := Lib.hid (R65.out.keep hb)
    have R75 := Lib.hid (R67.out.keep hb)
    have B76 := Lib.hid (Below.step B66.out B66.out.size hb)
    have R77 := Lib.hid (hr.mono B66.out.size)
    clear hr hb
    go_wp2_with fail
    refine (eqIntS_any _ _ rs rs _ R77.out.sl R73.out.sl (by omega) (by omega)).mono ?_
    rintro e w78 ⟨rfl, hb⟩
    have R79 := Lib.hid (R73.out.keep hb)
    have R80 := Lib.hid (R74.out.keep hb)
    have R81 := Lib.hid (R77.out.keep hb)
    have B82 := Lib.hid (Below.step B76.out B76.out.size hb)
    clear hb
    go_wp2_with fail
    refine (heldIntS_any _ _ _ _ _ R80.out (by omega) (by omega) (by omega)).mono ?_
    rintro e w83 ⟨rfl, rfl⟩
    go_wp2
    go_ret
    exact ⟨rfl, B82.out⟩
  · go_enter Try.func4, Try.ntmps4
    go_wp2
    go_ret
    exact ⟨rfl, Below.refl _ _⟩

end Go.Proofs.Ytpfifeceeebhlaa
