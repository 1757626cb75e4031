/-
  The law of ComposeMaps, walked call by call (written by wip/tools/gen_lawm.py).
-/
import Derived.Test.YticagncemlnafaaQCompose
import Derived.Test.YticagncemlnafaaPT
namespace Go.Proofs.Yticagncemlnafaa
open Go.RowKit
set_option linter.unusedVariables false
set_option linter.unusedSimpArgs false

theorem law_ComposeMaps {W : World} (v0 : Value) (xs0 : List Int) (hs0 : Sl W v0 xs0) (v1 : Value) (xs1 : List Int) (hs1 : Sl W v1 xs1) :
    Calls Try.prog 12 #[v0, v1] W fun e w' => e = .returned (.bool true) ∧ Below W.heap.size W w' := by
  obtain ⟨b0, cap0, rfl⟩ := hs0.len
  have HS0 := Lib.hid hs0
  clear hs0
  obtain ⟨b1, cap1, rfl⟩ := hs1.len
  have HS1 := Lib.hid hs1
  clear hs1
  by_cases hl0 : xs0.length ≤ 1048576
  · skip
    by_cases hl1 : xs1.length ≤ 1048576
    · skip
      obtain ⟨rs, hxs⟩ : ∃ rs, rs = LF_ComposeMaps xs0 xs1  := ⟨_, rfl⟩
      have hl : rs.length ≤ 2000000 := by rw [hxs]; exact LF_ComposeMaps_len xs0 xs1  hl0 hl1
      have HX := Lib.hid hxs
      clear hxs
      go_enter Try.func12, Try.ntmps12
      go_wp2_with fail
      refine (toIntS_any _ _ _ HS0.out (by omega)).mono ?_
      rintro e w2 ⟨u1, rfl, hr, hb⟩
      have B3 := Lib.hid hb
      have R4 := Lib.hid hr
      clear hr hb
      go_wp2_with fail
      refine (toIntS_any _ _ _ (HS1.out.keep B3.out) (by omega)).mono ?_
      rintro e w6 ⟨u5, rfl, hr, hb⟩
      have A7 := Lib.hid (Rd.apart (fun k hk => (R4.out.lt k hk).2) hr)
      have R8 := Lib.hid (R4.out.keep hb)
      have B9 := Lib.hid (Below.step B3.out B3.out.size hb)
      have R10 := Lib.hid (hr.mono B3.out.size)
      clear hr hb
      go_wp2_with fail
      refine (spec_ComposeMaps _ _ xs0 xs1  _ _ _ R8.out R10.out hl0 hl1).mono ?_
      rintro e w11 ⟨u12, rfl, hr, hb⟩
      rw [← HX.out] at hr
      have A13 := Lib.hid (Rd.apart (fun k hk => (R8.out.lt k hk).2) hr)
      have A14 := Lib.hid (Rd.apart (fun k hk => (R10.out.lt k hk).2) hr)
      have R15 := Lib.hid (R8.out.keep hb)
      have R16 := Lib.hid (R10.out.keep hb)
      have B17 := Lib.hid (Below.step B9.out B9.out.size hb)
      have R18 := Lib.hid (hr.mono B9.out.size)
      clear hr hb
      go_wp2_with fail
      refine (toIntS_any _ _ _ (HS0.out.keep B17.out) (by omega)).mono ?_
      rintro e w20 ⟨u19, rfl, hr, hb⟩
      have A21 := Lib.hid (Rd.apart (fun k hk => (R18.out.lt k hk).2) hr)
      have R22 := Lib.hid (R18.out.keep hb)
      have B23 := Lib.hid (Below.step B17.out B17.out.size hb)
      have R24 := Lib.hid (hr.mono B17.out.size)
      clear hr hb
      go_wp2_with fail
      refine (toIntS_any _ _ _ (HS1.out.keep B23.out) (by omega)).mono ?_
      rintro e w26 ⟨u25, rfl, hr, hb⟩
      have A27 := Lib.hid (Rd.apart (fun k hk => (R22.out.lt k hk).2) hr)
      have A28 := Lib.hid (Rd.apart (fun k hk => (R24.out.lt k hk).2) hr)
      have R29 := Lib.hid (R22.out.keep hb)
      have R30 := Lib.hid (R24.out.keep hb)
      have B31 := Lib.hid (Below.step B23.out B23.out.size hb)
      have R32 := Lib.hid (hr.mono B23.out.size)
      clear hr hb
      go_wp2_with fail
      refine (impl_ComposeMaps _ _ xs0 xs1  _ _ _ R30.out R32.out hl0 hl1).mono ?_
      rintro e w33 ⟨u34, rfl, hr, hb⟩
      rw [← HX.out] at hr
      have A35 := Lib.hid (Rd.apart (fun k hk => (R29.out.lt k hk).2) hr)
      have A36 := Lib.hid (Rd.apart (fun k hk => (R30.out.lt k hk).2) hr)
      have A37 := Lib.hid (Rd.apart (fun k hk => (R32.out.lt k hk).2) hr)
      have R38 := Lib.hid (R29.out.keep hb)
      have R39 := Lib.hid (R30.out.keep hb)
      have R40 := Lib.hid (R32.out.keep hb)
      have B41 := Lib.hid (Below.step B31.out B31.out.size hb)
      have R42 := Lib.hid (hr.mono B31.out.size)
      clear hr hb
      go_wp2_with fail
      refine (eqIntS_any _ _ rs rs _ R42.out.sl R38.out.sl (by omega) (by omega)).mono ?_
      rintro e w43 ⟨rfl, hb⟩
      have R44 := Lib.hid (R38.out.keep hb)
      have R45 := Lib.hid (R39.out.keep hb)
      have R46 := Lib.hid (R40.out.keep hb)
      have R47 := Lib.hid (R42.out.keep hb)
      have B48 := Lib.hid (Below.step B41.out B41.out.size hb)
      clear hb
      go_wp2_with fail
      refine (toIntS_any _ _ _ (HS0.out.keep B48.out) (by omega)).mono ?_
      rintro e w50 ⟨u49, rfl, hr, hb⟩
      have A51 := Lib.hid (Rd.apart (fun k hk => (R44.out.lt k hk).2) hr)
      have A52 := Lib.hid (Rd.apart (fun k hk => (R45.out.lt k hk).2) hr)
      have A53 := Lib.hid (Rd.apart (fun k hk => (R46.out.lt k hk).2) hr)
      have A54 := Lib.hid (Rd.apart (fun k hk => (R47.out.lt k hk).2) hr)
      have R55 := Lib.hid (R44.out.keep hb)
      have R56 := Lib.hid (R45.out.keep hb)
      have R57 := Lib.hid (R46.out.keep hb)
      have R58 := Lib.hid (R47.out.keep hb)
      have B59 := Lib.hid (Below.step B48.out B48.out.size hb)
      have R60 := Lib.hid (hr.mono B48.out.size)
      clear hr hb
      go_wp2_with fail
      refine (eqIntS_any _ _ xs0 xs0 _ R56.out.sl R60.out.sl (by omega) (by omega)).mono ?_
      rintro e w61 ⟨rfl, hb⟩
      have R62 := Lib.hid (R55.out.keep hb)
      have R63 := Lib.hid (R56.out.keep hb)
      have R64 := Lib.hid (R57.out.keep hb)
      have R65 := Lib.hid (R58.out.keep hb)
      have R66 := Lib.hid (R60.out.keep hb)
      have B67 := Lib.hid (Below.step B59.out B59.out.size hb)
      clear hb
      go_wp2_with fail
      refine (toIntS_any _ _ _ (HS1.out.keep B67.out) (by omega)).mono ?_
      rintro e w69 ⟨u68, rfl, hr, hb⟩
      have A70 := Lib.hid (Rd.apart (fun k hk => (R62.out.lt k hk).2) hr)
      have A71 := Lib.hid (Rd.apart (fun k hk => (R63.out.lt k hk).2) hr)
      have A72 := Lib.hid (Rd.apart (fun k hk => (R64.out.lt k hk).2) hr)
      have A73 := Lib.hid (Rd.apart (fun k hk => (R65.out.lt k hk).2) hr)
      have R74 := Lib.hid (R62.out.keep hb)
      have R75 := Lib.hid (R63.out.keep hb)
      have R76 := Lib.hid (R64.out.keep hb)
      have R77 := Lib.hid (R65.out.keep hb)
      have B78 := Lib.hid (Below.step B67.out B67.out.size hb)
      have R79 := Lib.hid (hr.mono B67.out.size)
      clear hr hb
      go_wp2_with fail
      refine (eqIntS_any _ _ xs1 xs1 _ R76.out.sl R79.out.sl (by omega) (by omega)).mono ?_
      rintro e w80 ⟨rfl, hb⟩
      have R81 := Lib.hid (R74.out.keep hb)
      have R82 := Lib.hid (R75.out.keep hb)
      have R83 := Lib.hid (R76.out.keep hb)
      have R84 := Lib.hid (R77.out.keep hb)
      have R85 := Lib.hid (R79.out.keep hb)
      have B86 := Lib.hid (Below.step B78.out B78.out.size hb)
      clear hb
      go_wp2_with fail
      refine (markIntS_any _ xs0 _ _ _ R82.out B86.out.size (by omega) (by omega) (by omega)).mono ?_
      rintro e w87 ⟨rfl, hr, hg⟩
      have R88 := Lib.hid (R81.out.grown hg A21.out)
      have R89 := Lib.hid (R83.out.grown hg (apart_symm A28.out))
      have R90 := Lib.hid (R84.out.grown hg (apart_symm A36.out))
      have B91 := Lib.hid (B86.out.grown hg B86.out.size (fun k hk => (R82.out.lt k hk).1))
      have R92 := Lib.hid hr
      clear hr hg
      go_wp2_with fail
      refine (markIntS_any _ xs1 _ _ _ R89.out B91.out.size (by omega) (by omega) (by omega)).mono ?_
      rintro e w93 ⟨rfl, hr, hg⟩
      have R94 := Lib.hid (R88.out.grown hg A27.out)
      have R95 := Lib.hid (R92.out.grown hg A28.out)
      have R96 := Lib.hid (R90.out.grown hg (apart_symm A37.out))
      have B97 := Lib.hid (B91.out.grown hg B91.out.size (fun k hk => (R89.out.lt k hk).1))
      have R98 := Lib.hid hr
      clear hr hg
      go_wp2_with fail
      refine (eqIntS_any _ _ rs rs _ R96.out.sl R94.out.sl (by omega) (by omega)).mono ?_
      rintro e w99 ⟨rfl, hb⟩
      have R100 := Lib.hid (R94.out.keep hb)
      have R101 := Lib.hid (R96.out.keep hb)
      have B102 := Lib.hid (Below.step B97.out B97.out.size hb)
      clear hb
      go_wp2_with fail
      refine (markIntS_any _ rs _ _ _ R101.out B102.out.size (by omega) (by omega) (by omega)).mono ?_
      rintro e w103 ⟨rfl, hr, hg⟩
      have R104 := Lib.hid (R100.out.grown hg A35.out)
      have B105 := Lib.hid (B102.out.grown hg B102.out.size (fun k hk => (R101.out.lt k hk).1))
      have R106 := Lib.hid hr
      clear hr hg
      go_wp2_with fail
      refine (heldIntS_any _ _ _ _ _ R106.out (by omega) (by omega) (by omega)).mono ?_
      rintro e w107 ⟨rfl, rfl⟩
      go_wp2_with fail
      refine (toIntS_any _ _ _ (HS0.out.keep B105.out) (by omega)).mono ?_
      rintro e w109 ⟨u108, rfl, hr, hb⟩
      have A110 := Lib.hid (Rd.apart (fun k hk => (R104.out.lt k hk).2) hr)
      have A111 := Lib.hid (Rd.apart (fun k hk => (R106.out.lt k hk).2) hr)
      have R112 := Lib.hid (R104.out.keep hb)
      have R113 := Lib.hid (R106.out.keep hb)
      have B114 := Lib.hid (Below.step B105.out B105.out.size hb)
      have R115 := Lib.hid (hr.mono B105.out.size)
      clear hr hb
      go_wp2_with fail
      refine (toIntS_any _ _ _ (HS1.out.keep B114.out) (by omega)).mono ?_
      rintro e w117 ⟨u116, rfl, hr, hb⟩
      have A118 := Lib.hid (Rd.apart (fun k hk => (R112.out.lt k hk).2) hr)
      have A119 := Lib.hid (Rd.apart (fun k hk => (R113.out.lt k hk).2) hr)
      have A120 := Lib.hid (Rd.apart (fun k hk => (R115.out.lt k hk).2) hr)
      have R121 := Lib.hid (R112.out.keep hb)
      have R122 := Lib.hid (R113.out.keep hb)
      have R123 := Lib.hid (R115.out.keep hb)
      have B124 := Lib.hid (Below.step B114.out B114.out.size hb)
      have R125 := Lib.hid (hr.mono B114.out.size)
      clear hr hb
      go_wp2_with fail
      refine (impl_ComposeMaps _ _ xs0 xs1  _ _ _ R123.out R125.out hl0 hl1).mono ?_
      rintro e w126 ⟨u127, rfl, hr, hb⟩
      rw [← HX.out] at hr
      have A128 := Lib.hid (Rd.apart (fun k hk => (R121.out.lt k hk).2) hr)
      have A129 := Lib.hid (Rd.apart (fun k hk => (R122.out.lt k hk).2) hr)
      have A130 := Lib.hid (Rd.apart (fun k hk => (R123.out.lt k hk).2) hr)
      have A131 := Lib.hid (Rd.apart (fun k hk => (R125.out.lt k hk).2) hr)
      have R132 := Lib.hid (R121.out.keep hb)
      have R133 := Lib.hid (R122.out.keep hb)
      have R134 := Lib.hid (R123.out.keep hb)
      have R135 := Lib.hid (R125.out.keep hb)
      have B136 := Lib.hid (Below.step B124.out B124.out.size hb)
      have R137 := Lib.hid (hr.mono B124.out.size)
      clear hr hb
      go_wp2_with fail
      refine (eqIntS_any _ _ rs rs _ R137.out.sl R132.out.sl (by omega) (by omega)).mono ?_
      rintro e w138 ⟨rfl, hb⟩
      have R139 := Lib.hid (R132.out.keep hb)
      have R140 := Lib.hid (R133.out.keep hb)
      have R141 := Lib.hid (R137.out.keep hb)
      have B142 := Lib.hid (Below.step B136.out B136.out.size hb)
      clear hb
      go_wp2_with fail
      refine (heldIntS_any _ _ _ _ _ R140.out (by omega) (by omega) (by omega)).mono ?_
      rintro e w143 ⟨rfl, rfl⟩
      go_wp2
      go_ret
      exact ⟨rfl, B142.out⟩
    · go_enter Try.func12, Try.ntmps12
      go_wp2
      go_ret
      exact ⟨rfl, Below.refl _ _⟩
  · go_enter Try.func12, Try.ntmps12
    go_wp2
    go_ret
    exact ⟨rfl, Below.refl _ _⟩

end Go.Proofs.Yticagncemlnafaa
