/-
  The law of SayRun, walked call by call (written by wip/tools/gen_lawll.py).
-/
import Derived.Test.Ytpfifeceeebhlaa9R
namespace Go.Proofs.Ytpfifeceeebhlaa
open Go.RowKit
set_option linter.unusedVariables false
set_option linter.unusedSimpArgs false
set_option maxRecDepth 100000

theorem law_SayRun {W : World} (v0 : Value) (xs0 : List Int) (hs0 : Sl W v0 xs0) (a0 : Int) :
    Calls Try.prog 5 #[v0, .int .i64 a0] W fun e w' => e = .returned (.bool true) ∧ Below W.heap.size W w' := by
  obtain ⟨b0, cap0, rfl⟩ := hs0.len
  have HS0 := Lib.hid hs0
  clear hs0
  by_cases hl0 : xs0.length ≤ 1048576
  · skip
    obtain ⟨ls, hxs⟩ : ∃ ls, ls = LF_SayRun xs0 a0 := ⟨_, rfl⟩
    have HX := Lib.hid hxs
    have HBD := Lib.hid (LF_SayRun_bd xs0 a0)
    rw [← hxs] at HBD
    have HZ := Lib.hid (show ∀ i, (lsZ ls i).length ≤ 2000000 from fun i => Nat.le_trans (HBD.out.2 i) (by omega))
    have hln := HBD.out.1
    have HOF := Lib.hid (show ∀ i, i ≤ ls.length → 0 ≤ offZ 1 (lsZ ls) i ∧ offZ 1 (lsZ ls) i ≤ 100000000000 from fun i hi => by have := offZ_bd HBD.out.2 i; omega)
    clear hxs
    go_enter Try.func5, Try.ntmps5
    go_wp2_with fail
    refine (toIntS_any _ _ _ HS0.out (by omega)).mono ?_
    rintro e w0 ⟨u0, rfl, hr, hb⟩
    have B0 := Lib.hid hb
    have R0 := Lib.hid hr
    clear hr hb
    go_wp2_with fail
    refine (spec_SayRun _ xs0 a0 _ _ R0.out hl0).mono ?_
    rintro e w2 ⟨v2, vs2, rfl, hv, hb⟩
    rw [← HX.out] at hv
    have N2 := Lib.hid hv.len
    have L2 := Lib.hid (hv.f.mono B0.out.size)
    have B2 := Lib.hid (Below.step B0.out B0.out.size hb)
    clear hv hb R0
    go_wp2_with fail
    refine (toIntS_any _ _ _ (HS0.out.keep B2.out) (by omega)).mono ?_
    rintro e w3 ⟨u3, rfl, hr, hb⟩
    have SZ3 := Lib.hid hb.size
    have AL3 := Lib.hid (Und.apartOld L2.out.und hr)
    have R3 := Lib.hid hr
    have L3 := Lib.hid (L2.out.keep hb)
    have B3 := Lib.hid (Below.step B2.out B2.out.size hb)
    clear hr hb
    go_wp2_with fail
    refine (impl_SayRun _ xs0 a0 _ _ R3.out hl0).mono ?_
    rintro e w4 ⟨v4, vs4, rfl, hv, hb⟩
    rw [← HX.out] at hv
    have N4 := Lib.hid hv.len
    have G4 := Lib.hid hv.f
    have AG4 := Lib.hid (LLf.apartNew hv.f (fun k hk => (R3.out.lt k hk).2))
    have U4 := Lib.hid L3.out.und
    have L4 := Lib.hid (L3.out.keep hb)
    have R4 := Lib.hid (R3.out.keep hb)
    have B4 := Lib.hid (Below.step B3.out B3.out.size hb)
    have S4 := Lib.hid hb.size
    clear hv hb
    go_wp2_with fail
    refine (eqIntSS_same _ _ vs4 vs2 (lsZ ls) _ _ _ G4.out L4.out (by rw [N4.out, N2.out]) (by rw [N4.out]; exact hln) HZ.out).mono ?_
    rintro e wa ⟨rfl, hb⟩
    have La := Lib.hid (L4.out.keep hb)
    have Ga := Lib.hid (G4.out.keep hb)
    have Ra := Lib.hid (R4.out.keep hb)
    have Ba := Lib.hid (Below.step B4.out B4.out.size hb)
    have Sa := Lib.hid (Nat.le_trans S4.out hb.size)
    clear hb
    go_wp2_with fail
    refine (toIntS_any _ _ _ (HS0.out.keep Ba.out) (by omega)).mono ?_
    rintro e wb ⟨ub, rfl, hr, hb⟩
    have Rb' := Lib.hid (Ra.out.keep hb)
    have Tb := Lib.hid hr
    have Lb := Lib.hid (La.out.keep hb)
    have Gb := Lib.hid (Ga.out.keep hb)
    have Bb := Lib.hid (Below.step Ba.out Ba.out.size hb)
    have Sb := Lib.hid (Nat.le_trans Sa.out hb.size)
    clear hr hb
    go_wp2_with fail
    refine (eqIntS_any _ _ xs0 xs0 _ Rb'.out.sl Tb.out.sl (by omega) (by omega)).mono ?_
    rintro e wc ⟨rfl, hb⟩
    have Rc := Lib.hid (Rb'.out.keep hb)
    have Lc := Lib.hid (Lb.out.keep hb)
    have Gc := Lib.hid (Gb.out.keep hb)
    have Bc := Lib.hid (Below.step Bb.out Bb.out.size hb)
    have Sc := Lib.hid (Nat.le_trans Sb.out hb.size)
    clear hb Tb
    go_wp2_with fail
    refine (markIntS_any _ xs0 _ _ _ Rc.out (Nat.le_trans SZ3.out Sc.out) (by omega) (by omega) (by omega)).mono ?_
    rintro e wd ⟨rfl, hr, hg⟩
    have Ld := Lib.hid (Lc.out.grownR Rc.out hg AL3.out)
    have Gd := Lib.hid (Gc.out.grownR Rc.out hg AG4.out)
    have Bd := Lib.hid (Bc.out.grown hg Bc.out.size (fun k hk => Nat.le_trans B2.out.size (Rc.out.lt k hk).1))
    have Sd := Lib.hid (Nat.le_trans Sc.out hg.size)
    clear hr hg
    go_wp2_with fail
    refine (eqIntSS_same _ _ vs4 vs2 (lsZ ls) _ _ _ Gd.out Ld.out (by rw [N4.out, N2.out]) (by rw [N4.out]; exact hln) HZ.out).mono ?_
    rintro e w5 ⟨rfl, hb⟩
    have L5 := Lib.hid (Ld.out.keep hb)
    have G5 := Lib.hid (Gd.out.keep hb)
    have B5 := Lib.hid (Below.step Bd.out Bd.out.size hb)
    have S5 := Lib.hid (Nat.le_trans Sd.out hb.size)
    clear hb
    go_wp2_with fail
    refine (markIntSS_any _ vs4 (lsZ ls) 1 _ _ G5.out S5.out (by rw [N4.out]; exact hln) HZ.out (by rw [N4.out]; exact HOF.out)).mono ?_
    obtain ⟨o, hoo⟩ : ∃ o, o = offZ 1 (lsZ ls) vs4.length := ⟨_, rfl⟩
    have HOO := Lib.hid hoo
    have ho0 : 0 ≤ o := by rw [hoo, N4.out]; exact (HOF.out _ (Nat.le_refl _)).1
    rw [← hoo]
    clear hoo
    rintro e w10 ⟨rfl, hg, hb⟩
    have G10 := Lib.hid hg
    have L10 := Lib.hid (L5.out.keepU U4.out hb)
    have B10 := Lib.hid (B5.out.trans (hb.mono B3.out.size))
    clear hg hb
    go_wp2_with fail
    refine (heldIntSS_any _ vs4 (lsZ ls) 1 _ _ G10.out (by rw [N4.out]; exact hln) HZ.out (by rw [N4.out]; exact HOF.out)).mono ?_
    rw [← HOO.out]
    rintro e w11 ⟨rfl, rfl⟩
    go_wp2_with fail
    refine (toIntS_any _ _ _ (HS0.out.keep B10.out) (by omega)).mono ?_
    rintro e w12 ⟨u12, rfl, hr, hb⟩
    have R12 := Lib.hid hr
    have L12 := Lib.hid (L10.out.keep hb)
    have G12 := Lib.hid (G10.out.keep hb)
    have B12 := Lib.hid (Below.step B10.out B10.out.size hb)
    clear hr hb
    go_wp2_with fail
    refine (impl_SayRun _ xs0 a0 _ _ R12.out hl0).mono ?_
    rintro e w13 ⟨v13, vs13, rfl, hv, hb⟩
    rw [← HX.out] at hv
    have N13 := Lib.hid hv.len
    have H13 := Lib.hid hv.f
    have L13 := Lib.hid (L12.out.keep hb)
    have G13 := Lib.hid (G12.out.keep hb)
    have B13 := Lib.hid (Below.step B12.out B12.out.size hb)
    clear hv hb
    go_wp2_with fail
    refine (eqIntSS_same _ _ vs13 vs2 (lsZ ls) _ _ _ H13.out L13.out (by rw [N13.out, N2.out]) (by rw [N13.out]; exact hln) HZ.out).mono ?_
    rintro e w14 ⟨rfl, hb⟩
    have G14 := Lib.hid (G13.out.keep hb)
    have B14 := Lib.hid (Below.step B13.out B13.out.size hb)
    clear hb
    go_wp2_with fail
    refine (heldIntSS_any _ vs4 (lsZ ls) 1 _ _ G14.out (by rw [N4.out]; exact hln) HZ.out (by rw [N4.out]; exact HOF.out)).mono ?_
    rw [← HOO.out]
    rintro e w15 ⟨rfl, rfl⟩
    go_wp2
    go_ret
    exact ⟨rfl, B14.out⟩
  · go_enter Try.func5, Try.ntmps5
    go_wp2
    go_ret
    exact ⟨rfl, Below.refl _ _⟩

end Go.Proofs.Ytpfifeceeebhlaa
