/-
  The law of SelfTelling, walked call by call (written by wip/tools/gen_lawll.py).
-/
import Derived.Test.Ytpfifeceeebhlaa9Y
namespace Go.Proofs.Ytpfifeceeebhlaa
open Go.RowKit
set_option linter.unusedVariables false
set_option linter.unusedSimpArgs false
set_option maxRecDepth 100000

theorem law_SelfTelling (a0 : Int) (W : World) :
    Calls Try.prog 8 #[.int .i64 a0] W fun e w' => e = .returned (.bool true) ∧ Below W.heap.size W w' := by
  obtain ⟨ls, hxs⟩ : ∃ ls, ls = LF_SelfTelling a0 := ⟨_, rfl⟩
  have HX := Lib.hid hxs
  have HBD := Lib.hid (LF_SelfTelling_bd a0)
  rw [← hxs] at HBD
  have HZ := Lib.hid (show ∀ i, (lsZ ls i).length ≤ 2000000 from fun i => Nat.le_trans (HBD.out.2 i) (by omega))
  have hln := HBD.out.1
  have HOF := Lib.hid (show ∀ i, i ≤ ls.length → 0 ≤ offZ 1 (lsZ ls) i ∧ offZ 1 (lsZ ls) i ≤ 100000000000 from fun i hi => by have := offZ_bd HBD.out.2 i; omega)
  clear hxs
  go_enter Try.func8, Try.ntmps8
  go_wp2_with fail
  refine (spec_SelfTelling a0 _).mono ?_
  rintro e w2 ⟨v2, vs2, rfl, hv, hb⟩
  rw [← HX.out] at hv
  have N2 := Lib.hid hv.len
  have L2 := Lib.hid hv.f
  have B2 := Lib.hid hb
  clear hv hb
  go_wp2_with fail
  refine (impl_SelfTelling a0 _).mono ?_
  rintro e w4 ⟨v4, vs4, rfl, hv, hb⟩
  rw [← HX.out] at hv
  have N4 := Lib.hid hv.len
  have G4 := Lib.hid hv.f
  have U4 := Lib.hid L2.out.und
  have L4 := Lib.hid (L2.out.keep hb)
  have B4 := Lib.hid (Below.step B2.out B2.out.size hb)
  have S4 := Lib.hid hb.size
  clear hv hb
  go_wp2_with fail
  refine (eqIntSS_same _ _ vs4 vs2 (lsZ ls) _ _ _ G4.out L4.out (by rw [N4.out, N2.out]) (by rw [N4.out]; exact hln) HZ.out).mono ?_
  rintro e w5 ⟨rfl, hb⟩
  have L5 := Lib.hid (L4.out.keep hb)
  have G5 := Lib.hid (G4.out.keep hb)
  have B5 := Lib.hid (Below.step B4.out B4.out.size hb)
  have S5 := Lib.hid (Nat.le_trans S4.out hb.size)
  clear hb
  go_wp2_with fail
  refine (markIntSS_any _ vs4 (lsZ ls) 1 _ _ G5.out S5.out (by rw [N4.out]; exact hln) HZ.out (by rw [N4.out]; exact HOF.out)).mono ?_
  obtain ⟨o, hoo⟩ : ∃ o, o = offZ 1 (lsZ ls) vs4.length := ⟨_, rfl⟩
  have HOO := Lib.hid hoo
  have ho0 : 0 ≤ o := by rw [hoo, N4.out]; exact (HOF.out _ (Nat.le_refl _)).1
  rw [← hoo]
  clear hoo
  rintro e w10 ⟨rfl, hg, hb⟩
  have G10 := Lib.hid hg
  have L10 := Lib.hid (L5.out.keepU U4.out hb)
  have B10 := Lib.hid (B5.out.trans (hb.mono B2.out.size))
  clear hg hb
  go_wp2_with fail
  refine (heldIntSS_any _ vs4 (lsZ ls) 1 _ _ G10.out (by rw [N4.out]; exact hln) HZ.out (by rw [N4.out]; exact HOF.out)).mono ?_
  rw [← HOO.out]
  rintro e w11 ⟨rfl, rfl⟩
  go_wp2_with fail
  refine (impl_SelfTelling a0 _).mono ?_
  rintro e w13 ⟨v13, vs13, rfl, hv, hb⟩
  rw [← HX.out] at hv
  have N13 := Lib.hid hv.len
  have H13 := Lib.hid hv.f
  have L13 := Lib.hid (L10.out.keep hb)
  have G13 := Lib.hid (G10.out.keep hb)
  have B13 := Lib.hid (Below.step B10.out B10.out.size hb)
  clear hv hb
  go_wp2_with fail
  refine (eqIntSS_same _ _ vs13 vs2 (lsZ ls) _ _ _ H13.out L13.out (by rw [N13.out, N2.out]) (by rw [N13.out]; exact hln) HZ.out).mono ?_
  rintro e w14 ⟨rfl, hb⟩
  have G14 := Lib.hid (G13.out.keep hb)
  have B14 := Lib.hid (Below.step B13.out B13.out.size hb)
  clear hb
  go_wp2_with fail
  refine (heldIntSS_any _ vs4 (lsZ ls) 1 _ _ G14.out (by rw [N4.out]; exact hln) HZ.out (by rw [N4.out]; exact HOF.out)).mono ?_
  rw [← HOO.out]
  rintro e w15 ⟨rfl, rfl⟩
  go_wp2
  go_ret
  exact ⟨rfl, B14.out⟩

end Go.Proofs.Ytpfifeceeebhlaa
