/-
  The program's functions of a number and a base, from the questions' contracts (written by wip/tools/gen_ask.py).
-/
import Derived.Test.YtgiabadkbfbilaaB
import Derived.Test.YtgiabadkbfbilaaK
namespace Go.Proofs.Ytgiabadkbfbilaa
open Go.RowKit
set_option linter.unusedVariables false
set_option linter.unusedSimpArgs false


theorem tell_digitProduct (n b : Int) (w : World) :
    Calls Try.prog 94 #[.int .i64 n, .int .i64 b, .func (Fn.func 98) #[] #[]] w fun e w' => e = .returned (optRes (askI RDigitProduct n b)) ∧ Below w.heap.size w w' := by
  by_cases hn : Num n
  · have a1 : decide (Num n) = true := decide_eq_true hn
    by_cases hB : Bas b
    · have a2 : decide (Bas b) = true := decide_eq_true hB
      have hR := Lib.hid (show askI RDigitProduct n b = some (RDigitProduct b n) from if_pos ⟨hn, hB⟩)
      obtain ⟨n0, n1⟩ := hn
      obtain ⟨b0, b1⟩ := hB
      go_enter Try.func94, Try.ntmps94
      go_wp2_with (first | (go_at_call 140; refine (isNumber_any _ _).mono ?_; rintro e w1 ⟨rfl, rfl⟩) | (go_at_call 111; refine (isBase_any _ _).mono ?_; rintro e w1 ⟨rfl, rfl⟩) | (go_at_call 98; refine (digitProduct_any _ _ _ n0 n1 b0 b1).mono ?_; rintro e w1 ⟨rfl, hbl⟩; have HB := Lib.hid hbl; clear hbl))
      go_ret2
      exact ⟨by rw [hR.out]; rfl, HB.out⟩
    · have a2 : decide (Bas b) = false := decide_eq_false hB
      have hR := Lib.hid (show askI RDigitProduct n b = none from if_neg (fun h => hB h.2))
      clear hn hB
      go_enter Try.func94, Try.ntmps94
      go_wp2_with (first | (go_at_call 140; refine (isNumber_any _ _).mono ?_; rintro e w1 ⟨rfl, rfl⟩) | (go_at_call 111; refine (isBase_any _ _).mono ?_; rintro e w1 ⟨rfl, rfl⟩))
      go_ret2
      exact ⟨by rw [hR.out]; rfl, Below.refl _ _⟩
  · have a1 : decide (Num n) = false := decide_eq_false hn
    have hR := Lib.hid (show askI RDigitProduct n b = none from if_neg (fun h => hn h.1))
    clear hn
    go_enter Try.func94, Try.ntmps94
    go_wp2_with (first | (go_at_call 140; refine (isNumber_any _ _).mono ?_; rintro e w1 ⟨rfl, rfl⟩) | (go_at_call 111; refine (isBase_any _ _).mono ?_; rintro e w1 ⟨rfl, rfl⟩))
    go_ret2
    exact ⟨by rw [hR.out]; rfl, Below.refl _ _⟩

theorem impl_DigitProduct (n b : Int) (w : World) :
    Calls Try.prog 35 #[.int .i64 n, .int .i64 b] w fun e w' => e = .returned (optRes (askI RDigitProduct n b)) ∧ Below w.heap.size w w' := by
  go_enter Try.func35, Try.ntmps35
  go_wp2_with (go_at_call 94; refine (tell_digitProduct _ _ _).mono ?_; rintro e w1 ⟨rfl, hbl⟩; have HB := Lib.hid hbl; clear hbl)
  go_ret2
  exact ⟨rfl, HB.out⟩

theorem tell_digits (n b : Int) (w : World) :
    Calls Try.prog 90 #[.int .i64 n, .int .i64 b, .func (Fn.func 147) #[] #[]] w fun e w' => ∃ v, e = .returned (.tuple #[v, .bool (okq n b)]) ∧ Rd w' w.heap.size v (askL dgs n b) ∧ Below w.heap.size w w' := by
  by_cases hn : Num n
  · have a1 : decide (Num n) = true := decide_eq_true hn
    by_cases hB : Bas b
    · have a2 : decide (Bas b) = true := decide_eq_true hB
      have hR := Lib.hid (show askL dgs n b = dgs b n from if_pos ⟨hn, hB⟩)
      have hD := Lib.hid (okq_yes ⟨hn, hB⟩)
      obtain ⟨n0, n1⟩ := hn
      obtain ⟨b0, b1⟩ := hB
      go_enter Try.func90, Try.ntmps90
      go_wp2_with (first | (go_at_call 140; refine (isNumber_any _ _).mono ?_; rintro e w1 ⟨rfl, rfl⟩) | (go_at_call 111; refine (isBase_any _ _).mono ?_; rintro e w1 ⟨rfl, rfl⟩) | (go_at_call 147; refine (digits_l _ _ _ n0 n1 b0 b1).mono ?_; rintro e w1 ⟨u, rfl, hr, hbl⟩; have HB := Lib.hid hbl; have HR := Lib.hid hr; clear hbl hr))
      go_ret2
      exact ⟨_, by rw [hD.out]; rfl, by rw [hR.out]; exact HR.out, HB.out⟩
    · have a2 : decide (Bas b) = false := decide_eq_false hB
      have hR := Lib.hid (show askL dgs n b = [] from if_neg (fun h => hB h.2))
      have hD := Lib.hid (okq_no (n := n) (b := b) (fun h => hB h.2))
      clear hn hB
      go_enter Try.func90, Try.ntmps90
      go_wp2_with (first | (go_at_call 140; refine (isNumber_any _ _).mono ?_; rintro e w1 ⟨rfl, rfl⟩) | (go_at_call 111; refine (isBase_any _ _).mono ?_; rintro e w1 ⟨rfl, rfl⟩))
      go_ret2
      exact ⟨_, by rw [hD.out]; rfl, by rw [hR.out]; exact Rd.nil _ _, Below.refl _ _⟩
  · have a1 : decide (Num n) = false := decide_eq_false hn
    have hR := Lib.hid (show askL dgs n b = [] from if_neg (fun h => hn h.1))
    have hD := Lib.hid (okq_no (n := n) (b := b) (fun h => hn h.1))
    clear hn
    go_enter Try.func90, Try.ntmps90
    go_wp2_with (first | (go_at_call 140; refine (isNumber_any _ _).mono ?_; rintro e w1 ⟨rfl, rfl⟩) | (go_at_call 111; refine (isBase_any _ _).mono ?_; rintro e w1 ⟨rfl, rfl⟩))
    go_ret2
    exact ⟨_, by rw [hD.out]; rfl, by rw [hR.out]; exact Rd.nil _ _, Below.refl _ _⟩

theorem askL_dgs_len (n b : Int) : (askL dgs n b).length ≤ 2000000 := by
  unfold askL
  split
  · rename_i h; have := dgs_len40 b n h.2.1 h.1.1 h.1.2; omega
  · simp

end Go.Proofs.Ytgiabadkbfbilaa
