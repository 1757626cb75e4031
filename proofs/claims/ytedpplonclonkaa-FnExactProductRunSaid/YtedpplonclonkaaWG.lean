/-
  Answers of stage 6 (written by wip/tools/gen_we.py).
-/
import Derived.Test.YtedpplonclonkaaWC
import Derived.Test.YtedpplonclonkaaK
namespace Go.Proofs.Ytedpplonclonkaa
open Go.RowKit
set_option linter.unusedVariables false
set_option linter.unusedSimpArgs false
set_option maxRecDepth 100000


theorem tell_productRun (n b : Int) (w : World) :
    Calls Try.prog 53 #[.int .i64 n, .int .i64 b, .func (Fn.func 54) #[] #[]] w fun e w' => ∃ v, e = .returned (.tuple #[v, .bool (okq n b)]) ∧ Rd w' w.heap.size v (askL pru n b) ∧ Below w.heap.size w w' := by
  by_cases hn : Num n
  · have a1 : decide (Num n) = true := decide_eq_true hn
    by_cases hB : Bas b
    · have a2 : decide (Bas b) = true := decide_eq_true hB
      have hR := Lib.hid (show askL pru n b = pru b n from if_pos ⟨hn, hB⟩)
      have hD := Lib.hid (okq_yes ⟨hn, hB⟩)
      obtain ⟨n0, n1⟩ := hn
      obtain ⟨b0, b1⟩ := hB
      go_enter Try.func53, Try.ntmps53
      go_wp2_with (first | (go_at_call 89; refine (isNumber_any _ _).mono ?_; rintro e w1 ⟨rfl, rfl⟩) | (go_at_call 72; refine (isBase_any _ _).mono ?_; rintro e w1 ⟨rfl, rfl⟩) | (go_at_call 54; refine (productRun_l _ _ _ n0 n1 b0 b1).mono ?_; rintro e w1 ⟨u, rfl, hr, hbl⟩; have HB := Lib.hid hbl; have HR := Lib.hid hr; clear hbl hr))
      go_ret2
      exact ⟨_, by rw [hD.out]; rfl, by rw [hR.out]; exact HR.out, HB.out⟩
    · have a2 : decide (Bas b) = false := decide_eq_false hB
      have hR := Lib.hid (show askL pru n b = [] from if_neg (fun h => hB h.2))
      have hD := Lib.hid (okq_no (n := n) (b := b) (fun h => hB h.2))
      clear hn hB
      go_enter Try.func53, Try.ntmps53
      go_wp2_with (first | (go_at_call 89; refine (isNumber_any _ _).mono ?_; rintro e w1 ⟨rfl, rfl⟩) | (go_at_call 72; refine (isBase_any _ _).mono ?_; rintro e w1 ⟨rfl, rfl⟩))
      go_ret2
      exact ⟨_, by rw [hD.out]; rfl, by rw [hR.out]; exact Rd.nil _ _, Below.refl _ _⟩
  · have a1 : decide (Num n) = false := decide_eq_false hn
    have hR := Lib.hid (show askL pru n b = [] from if_neg (fun h => hn h.1))
    have hD := Lib.hid (okq_no (n := n) (b := b) (fun h => hn h.1))
    clear hn
    go_enter Try.func53, Try.ntmps53
    go_wp2_with (first | (go_at_call 89; refine (isNumber_any _ _).mono ?_; rintro e w1 ⟨rfl, rfl⟩) | (go_at_call 72; refine (isBase_any _ _).mono ?_; rintro e w1 ⟨rfl, rfl⟩))
    go_ret2
    exact ⟨_, by rw [hD.out]; rfl, by rw [hR.out]; exact Rd.nil _ _, Below.refl _ _⟩

theorem impl_ProductRun (n b : Int) (w : World) :
    Calls Try.prog 19 #[.int .i64 n, .int .i64 b] w fun e w' => ∃ v, e = .returned (.tuple #[v, .bool (okq n b)]) ∧ Rd w' w.heap.size v (askL pru n b) ∧ Below w.heap.size w w' := by
  go_enter Try.func19, Try.ntmps19
  go_wp2_with (go_at_call 53; refine (tell_productRun _ _ _).mono ?_; rintro e w1 ⟨u, rfl, hr, hbl⟩; have HB := Lib.hid hbl; have HR := Lib.hid hr; clear hbl hr)
  go_ret2
  exact ⟨_, rfl, HR.out, HB.out⟩

theorem spec_ProductRun (n b : Int) (w : World) :
    Calls Try.prog 18 #[.int .i64 n, .int .i64 b] w fun e w' => ∃ v, e = .returned (.tuple #[v, .bool (okq n b)]) ∧ Rd w' w.heap.size v (askL pru n b) ∧ Below w.heap.size w w' := by
  by_cases hq : Num n ∧ Bas b
  · have a1 : decide (Num n ∧ Bas b) = true := decide_eq_true hq
    have hR := Lib.hid (show askL pru n b = pru b n from if_pos hq)
    have hD := Lib.hid (okq_yes hq)
    obtain ⟨⟨n0, n1⟩, b0, b1⟩ := hq
    have hall := Lib.hid (dgs_all b n b0 n0)
    have hlen := Lib.hid (dgs_len40 b n b0 n0 n1)
    go_enter Try.func18, Try.ntmps18
    go_wp2_with (first | (go_at_call 51; refine (dgAsked_any _ _ _).mono ?_; rintro e w1 ⟨rfl, rfl⟩) | (go_at_call 82; refine (dgOf_s _ _ _ n0 n1 b0 b1).mono ?_; rintro e w1 ⟨g, cap, rfl, hr, hbl⟩; have HB := Lib.hid hbl; have HR := Lib.hid hr; clear hbl hr) | (go_at_call 52; refine (prRun_p _ _ _ n0 n1 b0 b1).mono ?_; rintro e w1 ⟨g, cap, rfl, hr, hbl⟩; have HB := Lib.hid hbl; have HR := Lib.hid hr; clear hbl hr))
    go_ret2
    exact ⟨_, by rw [hD.out]; rfl, by rw [hR.out]; exact HR.out, HB.out⟩
  · have a1 : decide (Num n ∧ Bas b) = false := decide_eq_false hq
    have hR := Lib.hid (show askL pru n b = [] from if_neg hq)
    have hD := Lib.hid (okq_no hq)
    clear hq
    go_enter Try.func18, Try.ntmps18
    go_wp2_with (go_at_call 51; refine (dgAsked_any _ _ _).mono ?_; rintro e w1 ⟨rfl, rfl⟩)
    go_ret2
    exact ⟨_, by rw [hD.out]; rfl, by rw [hR.out]; exact Rd.nil _ _, Below.refl _ _⟩

theorem askL_pru_len (n b : Int) : (askL pru n b).length ≤ 2000000 := by
  unfold askL
  split
  · rename_i h; have := pru_len b n h.2.1 h.2.2 h.1.1 h.1.2; omega
  · simp

theorem law_ProductRun (n b : Int) (w : World) :
    Calls Try.prog 3 #[.int .i64 n, .int .i64 b] w fun e w' => e = .returned (.bool true) ∧ Below w.heap.size w w' := by
  obtain ⟨xs, hxs⟩ : ∃ xs, xs = askL pru n b := ⟨_, rfl⟩
  have hl : xs.length ≤ 2000000 := by rw [hxs]; exact askL_pru_len n b
  have HX := Lib.hid hxs
  clear hxs
  go_enter Try.func3, Try.ntmps3
  go_wp2_with fail
  refine (spec_ProductRun _ _ _).mono ?_
  rintro e w1 ⟨v0, rfl, hr, hb⟩
  rw [← HX.out] at hr
  have R0 := Lib.hid hr
  have B1 := Lib.hid hb
  clear hr hb
  go_wp2_with fail
  refine (impl_ProductRun _ _ _).mono ?_
  rintro e w2 ⟨v1, rfl, hr, hb⟩
  rw [← HX.out] at hr
  have R1 := Lib.hid hr
  have R0b := Lib.hid (R0.out.keep hb)
  have A01 := Lib.hid (Rd.apart (fun k hk => (R0.out.lt k hk).2) hr)
  have B2 := Lib.hid (Below.step B1.out B1.out.size hb)
  have Z2 := hb.size
  clear hr hb
  go_wp2_with fail
  refine (eqIntS_any _ _ xs xs _ R1.out.sl R0b.out.sl hl hl).mono ?_
  rintro e w3 ⟨rfl, hb⟩
  have R1c := Lib.hid (R1.out.keep hb)
  have R0c := Lib.hid (R0b.out.keep hb)
  have B3 := Lib.hid (Below.step B2.out B2.out.size hb)
  have Z3 := hb.size
  clear hb
  go_wp2_with fail
  refine (markIntS_any _ xs _ _ _ R1c.out (by omega) (by omega) (by omega) hl).mono ?_
  rintro e w4 ⟨rfl, hr, hg⟩
  have R1d := Lib.hid hr
  have R0d := Lib.hid (R0c.out.grown hg A01.out)
  have B4 := Lib.hid (B3.out.grown hg (by have := B1.out.size; omega) (fun k hk => by have := (R1c.out.lt k hk).1; have := B1.out.size; omega))
  have Z4 := hg.size
  clear hr hg
  go_wp2_with fail
  refine (heldIntS_any _ _ _ _ _ R1d.out (by omega) (by omega) hl).mono ?_
  rintro e w5 ⟨rfl, rfl⟩
  go_wp2_with fail
  refine (impl_ProductRun _ _ _).mono ?_
  rintro e w5 ⟨v2, rfl, hr, hb⟩
  rw [← HX.out] at hr
  have R2 := Lib.hid hr
  have R1e := Lib.hid (R1d.out.keep hb)
  have R0e := Lib.hid (R0d.out.keep hb)
  have B5 := Lib.hid (Below.step B4.out B4.out.size hb)
  clear hr hb
  go_wp2_with fail
  refine (eqIntS_any _ _ xs xs _ R2.out.sl R0e.out.sl hl hl).mono ?_
  rintro e w6 ⟨rfl, hb⟩
  have R1f := Lib.hid (R1e.out.keep hb)
  have B6 := Lib.hid (Below.step B5.out B5.out.size hb)
  clear hb
  go_wp2_with fail
  refine (heldIntS_any _ _ _ _ _ R1f.out (by omega) (by omega) hl).mono ?_
  rintro e w7 ⟨rfl, rfl⟩
  go_wp2
  go_ret
  exact ⟨rfl, B6.out⟩

theorem tell_sumRun (n b : Int) (w : World) :
    Calls Try.prog 53 #[.int .i64 n, .int .i64 b, .func (Fn.func 74) #[] #[]] w fun e w' => ∃ v, e = .returned (.tuple #[v, .bool (okq n b)]) ∧ Rd w' w.heap.size v (askL sru n b) ∧ Below w.heap.size w w' := by
  by_cases hn : Num n
  · have a1 : decide (Num n) = true := decide_eq_true hn
    by_cases hB : Bas b
    · have a2 : decide (Bas b) = true := decide_eq_true hB
      have hR := Lib.hid (show askL sru n b = sru b n from if_pos ⟨hn, hB⟩)
      have hD := Lib.hid (okq_yes ⟨hn, hB⟩)
      obtain ⟨n0, n1⟩ := hn
      obtain ⟨b0, b1⟩ := hB
      go_enter Try.func53, Try.ntmps53
      go_wp2_with (first | (go_at_call 89; refine (isNumber_any _ _).mono ?_; rintro e w1 ⟨rfl, rfl⟩) | (go_at_call 72; refine (isBase_any _ _).mono ?_; rintro e w1 ⟨rfl, rfl⟩) | (go_at_call 74; refine (sumRun_l _ _ _ n0 n1 b0 b1).mono ?_; rintro e w1 ⟨u, rfl, hr, hbl⟩; have HB := Lib.hid hbl; have HR := Lib.hid hr; clear hbl hr))
      go_ret2
      exact ⟨_, by rw [hD.out]; rfl, by rw [hR.out]; exact HR.out, HB.out⟩
    · have a2 : decide (Bas b) = false := decide_eq_false hB
      have hR := Lib.hid (show askL sru n b = [] from if_neg (fun h => hB h.2))
      have hD := Lib.hid (okq_no (n := n) (b := b) (fun h => hB h.2))
      clear hn hB
      go_enter Try.func53, Try.ntmps53
      go_wp2_with (first | (go_at_call 89; refine (isNumber_any _ _).mono ?_; rintro e w1 ⟨rfl, rfl⟩) | (go_at_call 72; refine (isBase_any _ _).mono ?_; rintro e w1 ⟨rfl, rfl⟩))
      go_ret2
      exact ⟨_, by rw [hD.out]; rfl, by rw [hR.out]; exact Rd.nil _ _, Below.refl _ _⟩
  · have a1 : decide (Num n) = false := decide_eq_false hn
    have hR := Lib.hid (show askL sru n b = [] from if_neg (fun h => hn h.1))
    have hD := Lib.hid (okq_no (n := n) (b := b) (fun h => hn h.1))
    clear hn
    go_enter Try.func53, Try.ntmps53
    go_wp2_with (first | (go_at_call 89; refine (isNumber_any _ _).mono ?_; rintro e w1 ⟨rfl, rfl⟩) | (go_at_call 72; refine (isBase_any _ _).mono ?_; rintro e w1 ⟨rfl, rfl⟩))
    go_ret2
    exact ⟨_, by rw [hD.out]; rfl, by rw [hR.out]; exact Rd.nil _ _, Below.refl _ _⟩

theorem impl_SumRun (n b : Int) (w : World) :
    Calls Try.prog 36 #[.int .i64 n, .int .i64 b] w fun e w' => ∃ v, e = .returned (.tuple #[v, .bool (okq n b)]) ∧ Rd w' w.heap.size v (askL sru n b) ∧ Below w.heap.size w w' := by
  go_enter Try.func36, Try.ntmps36
  go_wp2_with (go_at_call 53; refine (tell_sumRun _ _ _).mono ?_; rintro e w1 ⟨u, rfl, hr, hbl⟩; have HB := Lib.hid hbl; have HR := Lib.hid hr; clear hbl hr)
  go_ret2
  exact ⟨_, rfl, HR.out, HB.out⟩

theorem spec_SumRun (n b : Int) (w : World) :
    Calls Try.prog 35 #[.int .i64 n, .int .i64 b] w fun e w' => ∃ v, e = .returned (.tuple #[v, .bool (okq n b)]) ∧ Rd w' w.heap.size v (askL sru n b) ∧ Below w.heap.size w w' := by
  by_cases hq : Num n ∧ Bas b
  · have a1 : decide (Num n ∧ Bas b) = true := decide_eq_true hq
    have hR := Lib.hid (show askL sru n b = sru b n from if_pos hq)
    have hD := Lib.hid (okq_yes hq)
    obtain ⟨⟨n0, n1⟩, b0, b1⟩ := hq
    have hall := Lib.hid (dgs_all b n b0 n0)
    have hlen := Lib.hid (dgs_len40 b n b0 n0 n1)
    go_enter Try.func35, Try.ntmps35
    go_wp2_with (first | (go_at_call 51; refine (dgAsked_any _ _ _).mono ?_; rintro e w1 ⟨rfl, rfl⟩) | (go_at_call 82; refine (dgOf_s _ _ _ n0 n1 b0 b1).mono ?_; rintro e w1 ⟨g, cap, rfl, hr, hbl⟩; have HB := Lib.hid hbl; have HR := Lib.hid hr; clear hbl hr) | (go_at_call 52; refine (prRun_s _ _ _ n0 n1 b0 b1).mono ?_; rintro e w1 ⟨g, cap, rfl, hr, hbl⟩; have HB := Lib.hid hbl; have HR := Lib.hid hr; clear hbl hr))
    go_ret2
    exact ⟨_, by rw [hD.out]; rfl, by rw [hR.out]; exact HR.out, HB.out⟩
  · have a1 : decide (Num n ∧ Bas b) = false := decide_eq_false hq
    have hR := Lib.hid (show askL sru n b = [] from if_neg hq)
    have hD := Lib.hid (okq_no hq)
    clear hq
    go_enter Try.func35, Try.ntmps35
    go_wp2_with (go_at_call 51; refine (dgAsked_any _ _ _).mono ?_; rintro e w1 ⟨rfl, rfl⟩)
    go_ret2
    exact ⟨_, by rw [hD.out]; rfl, by rw [hR.out]; exact Rd.nil _ _, Below.refl _ _⟩

theorem askL_sru_len (n b : Int) : (askL sru n b).length ≤ 2000000 := by
  unfold askL
  split
  · rename_i h; have := sru_len b n h.2.1 h.2.2 h.1.1 h.1.2; omega
  · simp

theorem law_SumRun (n b : Int) (w : World) :
    Calls Try.prog 10 #[.int .i64 n, .int .i64 b] w fun e w' => e = .returned (.bool true) ∧ Below w.heap.size w w' := by
  obtain ⟨xs, hxs⟩ : ∃ xs, xs = askL sru n b := ⟨_, rfl⟩
  have hl : xs.length ≤ 2000000 := by rw [hxs]; exact askL_sru_len n b
  have HX := Lib.hid hxs
  clear hxs
  go_enter Try.func10, Try.ntmps10
  go_wp2_with fail
  refine (spec_SumRun _ _ _).mono ?_
  rintro e w1 ⟨v0, rfl, hr, hb⟩
  rw [← HX.out] at hr
  have R0 := Lib.hid hr
  have B1 := Lib.hid hb
  clear hr hb
  go_wp2_with fail
  refine (impl_SumRun _ _ _).mono ?_
  rintro e w2 ⟨v1, rfl, hr, hb⟩
  rw [← HX.out] at hr
  have R1 := Lib.hid hr
  have R0b := Lib.hid (R0.out.keep hb)
  have A01 := Lib.hid (Rd.apart (fun k hk => (R0.out.lt k hk).2) hr)
  have B2 := Lib.hid (Below.step B1.out B1.out.size hb)
  have Z2 := hb.size
  clear hr hb
  go_wp2_with fail
  refine (eqIntS_any _ _ xs xs _ R1.out.sl R0b.out.sl hl hl).mono ?_
  rintro e w3 ⟨rfl, hb⟩
  have R1c := Lib.hid (R1.out.keep hb)
  have R0c := Lib.hid (R0b.out.keep hb)
  have B3 := Lib.hid (Below.step B2.out B2.out.size hb)
  have Z3 := hb.size
  clear hb
  go_wp2_with fail
  refine (markIntS_any _ xs _ _ _ R1c.out (by omega) (by omega) (by omega) hl).mono ?_
  rintro e w4 ⟨rfl, hr, hg⟩
  have R1d := Lib.hid hr
  have R0d := Lib.hid (R0c.out.grown hg A01.out)
  have B4 := Lib.hid (B3.out.grown hg (by have := B1.out.size; omega) (fun k hk => by have := (R1c.out.lt k hk).1; have := B1.out.size; omega))
  have Z4 := hg.size
  clear hr hg
  go_wp2_with fail
  refine (heldIntS_any _ _ _ _ _ R1d.out (by omega) (by omega) hl).mono ?_
  rintro e w5 ⟨rfl, rfl⟩
  go_wp2_with fail
  refine (impl_SumRun _ _ _).mono ?_
  rintro e w5 ⟨v2, rfl, hr, hb⟩
  rw [← HX.out] at hr
  have R2 := Lib.hid hr
  have R1e := Lib.hid (R1d.out.keep hb)
  have R0e := Lib.hid (R0d.out.keep hb)
  have B5 := Lib.hid (Below.step B4.out B4.out.size hb)
  clear hr hb
  go_wp2_with fail
  refine (eqIntS_any _ _ xs xs _ R2.out.sl R0e.out.sl hl hl).mono ?_
  rintro e w6 ⟨rfl, hb⟩
  have R1f := Lib.hid (R1e.out.keep hb)
  have B6 := Lib.hid (Below.step B5.out B5.out.size hb)
  clear hb
  go_wp2_with fail
  refine (heldIntS_any _ _ _ _ _ R1f.out (by omega) (by omega) hl).mono ?_
  rintro e w7 ⟨rfl, rfl⟩
  go_wp2
  go_ret
  exact ⟨rfl, B6.out⟩

end Go.Proofs.Ytedpplonclonkaa
