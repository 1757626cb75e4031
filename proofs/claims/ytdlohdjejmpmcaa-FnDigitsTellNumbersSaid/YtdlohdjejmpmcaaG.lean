/-
  The program's functions of a number and a base, from the questions' contracts (written by wip/tools/gen_ask.py).
-/
import Derived.Test.YtdlohdjejmpmcaaB
import Derived.Test.YtdlohdjejmpmcaaK
namespace Go.Proofs.Ytdlohdjejmpmcaa
open Go.RowKit
set_option linter.unusedVariables false
set_option linter.unusedSimpArgs false


theorem tell_countDigits (n b : Int) (w : World) :
    Calls Try.prog 58 #[.int .i64 n, .int .i64 b, .func (Fn.func 72) #[] #[]] w fun e w' => e = .returned (optRes (askI RCountDigits n b)) ∧ Below w.heap.size w w' := by
  by_cases hn : Num n
  · have a1 : decide (Num n) = true := decide_eq_true hn
    by_cases hB : Bas b
    · have a2 : decide (Bas b) = true := decide_eq_true hB
      have hR := Lib.hid (show askI RCountDigits n b = some (RCountDigits b n) from if_pos ⟨hn, hB⟩)
      obtain ⟨n0, n1⟩ := hn
      obtain ⟨b0, b1⟩ := hB
      go_enter Try.func58, Try.ntmps58
      go_wp2_with (first | (go_at_call 97; refine (isNumber_any _ _).mono ?_; rintro e w1 ⟨rfl, rfl⟩) | (go_at_call 69; refine (isBase_any _ _).mono ?_; rintro e w1 ⟨rfl, rfl⟩) | (go_at_call 72; refine (countDigits_any _ _ _ n0 n1 b0 b1).mono ?_; rintro e w1 ⟨rfl, hbl⟩; have HB := Lib.hid hbl; clear hbl))
      go_ret2
      exact ⟨by rw [hR.out]; rfl, HB.out⟩
    · have a2 : decide (Bas b) = false := decide_eq_false hB
      have hR := Lib.hid (show askI RCountDigits n b = none from if_neg (fun h => hB h.2))
      clear hn hB
      go_enter Try.func58, Try.ntmps58
      go_wp2_with (first | (go_at_call 97; refine (isNumber_any _ _).mono ?_; rintro e w1 ⟨rfl, rfl⟩) | (go_at_call 69; refine (isBase_any _ _).mono ?_; rintro e w1 ⟨rfl, rfl⟩))
      go_ret2
      exact ⟨by rw [hR.out]; rfl, Below.refl _ _⟩
  · have a1 : decide (Num n) = false := decide_eq_false hn
    have hR := Lib.hid (show askI RCountDigits n b = none from if_neg (fun h => hn h.1))
    clear hn
    go_enter Try.func58, Try.ntmps58
    go_wp2_with (first | (go_at_call 97; refine (isNumber_any _ _).mono ?_; rintro e w1 ⟨rfl, rfl⟩) | (go_at_call 69; refine (isBase_any _ _).mono ?_; rintro e w1 ⟨rfl, rfl⟩))
    go_ret2
    exact ⟨by rw [hR.out]; rfl, Below.refl _ _⟩

theorem impl_CountDigits (n b : Int) (w : World) :
    Calls Try.prog 23 #[.int .i64 n, .int .i64 b] w fun e w' => e = .returned (optRes (askI RCountDigits n b)) ∧ Below w.heap.size w w' := by
  go_enter Try.func23, Try.ntmps23
  go_wp2_with (go_at_call 58; refine (tell_countDigits _ _ _).mono ?_; rintro e w1 ⟨rfl, hbl⟩; have HB := Lib.hid hbl; clear hbl)
  go_ret2
  exact ⟨rfl, HB.out⟩

theorem tell_digitSum (n b : Int) (w : World) :
    Calls Try.prog 58 #[.int .i64 n, .int .i64 b, .func (Fn.func 59) #[] #[]] w fun e w' => e = .returned (optRes (askI RDigitSum n b)) ∧ Below w.heap.size w w' := by
  by_cases hn : Num n
  · have a1 : decide (Num n) = true := decide_eq_true hn
    by_cases hB : Bas b
    · have a2 : decide (Bas b) = true := decide_eq_true hB
      have hR := Lib.hid (show askI RDigitSum n b = some (RDigitSum b n) from if_pos ⟨hn, hB⟩)
      obtain ⟨n0, n1⟩ := hn
      obtain ⟨b0, b1⟩ := hB
      go_enter Try.func58, Try.ntmps58
      go_wp2_with (first | (go_at_call 97; refine (isNumber_any _ _).mono ?_; rintro e w1 ⟨rfl, rfl⟩) | (go_at_call 69; refine (isBase_any _ _).mono ?_; rintro e w1 ⟨rfl, rfl⟩) | (go_at_call 59; refine (digitSum_any _ _ _ n0 n1 b0 b1).mono ?_; rintro e w1 ⟨rfl, hbl⟩; have HB := Lib.hid hbl; clear hbl))
      go_ret2
      exact ⟨by rw [hR.out]; rfl, HB.out⟩
    · have a2 : decide (Bas b) = false := decide_eq_false hB
      have hR := Lib.hid (show askI RDigitSum n b = none from if_neg (fun h => hB h.2))
      clear hn hB
      go_enter Try.func58, Try.ntmps58
      go_wp2_with (first | (go_at_call 97; refine (isNumber_any _ _).mono ?_; rintro e w1 ⟨rfl, rfl⟩) | (go_at_call 69; refine (isBase_any _ _).mono ?_; rintro e w1 ⟨rfl, rfl⟩))
      go_ret2
      exact ⟨by rw [hR.out]; rfl, Below.refl _ _⟩
  · have a1 : decide (Num n) = false := decide_eq_false hn
    have hR := Lib.hid (show askI RDigitSum n b = none from if_neg (fun h => hn h.1))
    clear hn
    go_enter Try.func58, Try.ntmps58
    go_wp2_with (first | (go_at_call 97; refine (isNumber_any _ _).mono ?_; rintro e w1 ⟨rfl, rfl⟩) | (go_at_call 69; refine (isBase_any _ _).mono ?_; rintro e w1 ⟨rfl, rfl⟩))
    go_ret2
    exact ⟨by rw [hR.out]; rfl, Below.refl _ _⟩

theorem impl_DigitSum (n b : Int) (w : World) :
    Calls Try.prog 10 #[.int .i64 n, .int .i64 b] w fun e w' => e = .returned (optRes (askI RDigitSum n b)) ∧ Below w.heap.size w w' := by
  go_enter Try.func10, Try.ntmps10
  go_wp2_with (go_at_call 58; refine (tell_digitSum _ _ _).mono ?_; rintro e w1 ⟨rfl, hbl⟩; have HB := Lib.hid hbl; clear hbl)
  go_ret2
  exact ⟨rfl, HB.out⟩

theorem spec_DigitSum (n b : Int) (w : World) :
    Calls Try.prog 11 #[.int .i64 n, .int .i64 b] w fun e w' => e = .returned (optRes (askI RDigitSum n b)) ∧ Below w.heap.size w w' := by
  by_cases hq : Num n ∧ Bas b
  · have a1 : decide (Num n ∧ Bas b) = true := decide_eq_true hq
    have hR := Lib.hid (show askI RDigitSum n b = some (RDigitSum b n) from if_pos hq)
    obtain ⟨⟨n0, n1⟩, b0, b1⟩ := hq
    have hall := Lib.hid (dgs_all b n b0 n0)
    have hlen := Lib.hid (dgs_len40 b n b0 n0 n1)
    go_enter Try.func11, Try.ntmps11
    go_wp2_with (first | (go_at_call 56; refine (dgAsked_any _ _ _).mono ?_; rintro e w1 ⟨rfl, rfl⟩) | (go_at_call 57; refine (dgOf_s _ _ _ n0 n1 b0 b1).mono ?_; rintro e w1 ⟨g, cap, rfl, hr, hbl⟩; have HB := Lib.hid hbl; have HR := Lib.hid hr; clear hbl hr) | (go_at_call 60; refine (dgSum_any _ _ _ _ HR.out (fun x hx => by have := hall.out x hx; omega) (by have := hlen.out; omega)).mono ?_; rintro e w2 ⟨rfl, rfl⟩))
    go_ret2
    exact ⟨by rw [hR.out]; rfl, HB.out⟩
  · have a1 : decide (Num n ∧ Bas b) = false := decide_eq_false hq
    have hR := Lib.hid (show askI RDigitSum n b = none from if_neg hq)
    clear hq
    go_enter Try.func11, Try.ntmps11
    go_wp2_with (go_at_call 56; refine (dgAsked_any _ _ _).mono ?_; rintro e w1 ⟨rfl, rfl⟩)
    go_ret2
    exact ⟨by rw [hR.out]; rfl, Below.refl _ _⟩

theorem tell_digitProduct (n b : Int) (w : World) :
    Calls Try.prog 58 #[.int .i64 n, .int .i64 b, .func (Fn.func 61) #[] #[]] w fun e w' => e = .returned (optRes (askI RDigitProduct n b)) ∧ Below w.heap.size w w' := by
  by_cases hn : Num n
  · have a1 : decide (Num n) = true := decide_eq_true hn
    by_cases hB : Bas b
    · have a2 : decide (Bas b) = true := decide_eq_true hB
      have hR := Lib.hid (show askI RDigitProduct n b = some (RDigitProduct b n) from if_pos ⟨hn, hB⟩)
      obtain ⟨n0, n1⟩ := hn
      obtain ⟨b0, b1⟩ := hB
      go_enter Try.func58, Try.ntmps58
      go_wp2_with (first | (go_at_call 97; refine (isNumber_any _ _).mono ?_; rintro e w1 ⟨rfl, rfl⟩) | (go_at_call 69; refine (isBase_any _ _).mono ?_; rintro e w1 ⟨rfl, rfl⟩) | (go_at_call 61; refine (digitProduct_any _ _ _ n0 n1 b0 b1).mono ?_; rintro e w1 ⟨rfl, hbl⟩; have HB := Lib.hid hbl; clear hbl))
      go_ret2
      exact ⟨by rw [hR.out]; rfl, HB.out⟩
    · have a2 : decide (Bas b) = false := decide_eq_false hB
      have hR := Lib.hid (show askI RDigitProduct n b = none from if_neg (fun h => hB h.2))
      clear hn hB
      go_enter Try.func58, Try.ntmps58
      go_wp2_with (first | (go_at_call 97; refine (isNumber_any _ _).mono ?_; rintro e w1 ⟨rfl, rfl⟩) | (go_at_call 69; refine (isBase_any _ _).mono ?_; rintro e w1 ⟨rfl, rfl⟩))
      go_ret2
      exact ⟨by rw [hR.out]; rfl, Below.refl _ _⟩
  · have a1 : decide (Num n) = false := decide_eq_false hn
    have hR := Lib.hid (show askI RDigitProduct n b = none from if_neg (fun h => hn h.1))
    clear hn
    go_enter Try.func58, Try.ntmps58
    go_wp2_with (first | (go_at_call 97; refine (isNumber_any _ _).mono ?_; rintro e w1 ⟨rfl, rfl⟩) | (go_at_call 69; refine (isBase_any _ _).mono ?_; rintro e w1 ⟨rfl, rfl⟩))
    go_ret2
    exact ⟨by rw [hR.out]; rfl, Below.refl _ _⟩

theorem impl_DigitProduct (n b : Int) (w : World) :
    Calls Try.prog 12 #[.int .i64 n, .int .i64 b] w fun e w' => e = .returned (optRes (askI RDigitProduct n b)) ∧ Below w.heap.size w w' := by
  go_enter Try.func12, Try.ntmps12
  go_wp2_with (go_at_call 58; refine (tell_digitProduct _ _ _).mono ?_; rintro e w1 ⟨rfl, hbl⟩; have HB := Lib.hid hbl; clear hbl)
  go_ret2
  exact ⟨rfl, HB.out⟩

theorem spec_DigitProduct (n b : Int) (w : World) :
    Calls Try.prog 13 #[.int .i64 n, .int .i64 b] w fun e w' => e = .returned (optRes (askI RDigitProduct n b)) ∧ Below w.heap.size w w' := by
  by_cases hq : Num n ∧ Bas b
  · have a1 : decide (Num n ∧ Bas b) = true := decide_eq_true hq
    have hR := Lib.hid (show askI RDigitProduct n b = some (RDigitProduct b n) from if_pos hq)
    obtain ⟨⟨n0, n1⟩, b0, b1⟩ := hq
    have hall := Lib.hid (dgs_all b n b0 n0)
    have hlen := Lib.hid (dgs_len40 b n b0 n0 n1)
    go_enter Try.func13, Try.ntmps13
    go_wp2_with (first | (go_at_call 56; refine (dgAsked_any _ _ _).mono ?_; rintro e w1 ⟨rfl, rfl⟩) | (go_at_call 57; refine (dgOf_s _ _ _ n0 n1 b0 b1).mono ?_; rintro e w1 ⟨g, cap, rfl, hr, hbl⟩; have HB := Lib.hid hbl; have HR := Lib.hid hr; clear hbl hr) | (go_at_call 62; refine (dgProduct_any _ _ _ _ HR.out (by have := hlen.out; omega)).mono ?_; rintro e w2 ⟨rfl, rfl⟩))
    go_ret2
    exact ⟨by rw [hR.out]; rfl, HB.out⟩
  · have a1 : decide (Num n ∧ Bas b) = false := decide_eq_false hq
    have hR := Lib.hid (show askI RDigitProduct n b = none from if_neg hq)
    clear hq
    go_enter Try.func13, Try.ntmps13
    go_wp2_with (go_at_call 56; refine (dgAsked_any _ _ _).mono ?_; rintro e w1 ⟨rfl, rfl⟩)
    go_ret2
    exact ⟨by rw [hR.out]; rfl, Below.refl _ _⟩

theorem tell_digits (n b : Int) (w : World) :
    Calls Try.prog 54 #[.int .i64 n, .int .i64 b, .func (Fn.func 55) #[] #[]] w fun e w' => ∃ v, e = .returned (.tuple #[v, .bool (okq n b)]) ∧ Rd w' w.heap.size v (askL dgs n b) ∧ Below w.heap.size w w' := by
  by_cases hn : Num n
  · have a1 : decide (Num n) = true := decide_eq_true hn
    by_cases hB : Bas b
    · have a2 : decide (Bas b) = true := decide_eq_true hB
      have hR := Lib.hid (show askL dgs n b = dgs b n from if_pos ⟨hn, hB⟩)
      have hD := Lib.hid (okq_yes ⟨hn, hB⟩)
      obtain ⟨n0, n1⟩ := hn
      obtain ⟨b0, b1⟩ := hB
      go_enter Try.func54, Try.ntmps54
      go_wp2_with (first | (go_at_call 97; refine (isNumber_any _ _).mono ?_; rintro e w1 ⟨rfl, rfl⟩) | (go_at_call 69; refine (isBase_any _ _).mono ?_; rintro e w1 ⟨rfl, rfl⟩) | (go_at_call 55; refine (digits_l _ _ _ n0 n1 b0 b1).mono ?_; rintro e w1 ⟨u, rfl, hr, hbl⟩; have HB := Lib.hid hbl; have HR := Lib.hid hr; clear hbl hr))
      go_ret2
      exact ⟨_, by rw [hD.out]; rfl, by rw [hR.out]; exact HR.out, HB.out⟩
    · have a2 : decide (Bas b) = false := decide_eq_false hB
      have hR := Lib.hid (show askL dgs n b = [] from if_neg (fun h => hB h.2))
      have hD := Lib.hid (okq_no (n := n) (b := b) (fun h => hB h.2))
      clear hn hB
      go_enter Try.func54, Try.ntmps54
      go_wp2_with (first | (go_at_call 97; refine (isNumber_any _ _).mono ?_; rintro e w1 ⟨rfl, rfl⟩) | (go_at_call 69; refine (isBase_any _ _).mono ?_; rintro e w1 ⟨rfl, rfl⟩))
      go_ret2
      exact ⟨_, by rw [hD.out]; rfl, by rw [hR.out]; exact Rd.nil _ _, Below.refl _ _⟩
  · have a1 : decide (Num n) = false := decide_eq_false hn
    have hR := Lib.hid (show askL dgs n b = [] from if_neg (fun h => hn h.1))
    have hD := Lib.hid (okq_no (n := n) (b := b) (fun h => hn h.1))
    clear hn
    go_enter Try.func54, Try.ntmps54
    go_wp2_with (first | (go_at_call 97; refine (isNumber_any _ _).mono ?_; rintro e w1 ⟨rfl, rfl⟩) | (go_at_call 69; refine (isBase_any _ _).mono ?_; rintro e w1 ⟨rfl, rfl⟩))
    go_ret2
    exact ⟨_, by rw [hD.out]; rfl, by rw [hR.out]; exact Rd.nil _ _, Below.refl _ _⟩

theorem impl_DigitsOf (n b : Int) (w : World) :
    Calls Try.prog 8 #[.int .i64 n, .int .i64 b] w fun e w' => ∃ v, e = .returned (.tuple #[v, .bool (okq n b)]) ∧ Rd w' w.heap.size v (askL dgs n b) ∧ Below w.heap.size w w' := by
  go_enter Try.func8, Try.ntmps8
  go_wp2_with (go_at_call 54; refine (tell_digits _ _ _).mono ?_; rintro e w1 ⟨u, rfl, hr, hbl⟩; have HB := Lib.hid hbl; have HR := Lib.hid hr; clear hbl hr)
  go_ret2
  exact ⟨_, rfl, HR.out, HB.out⟩

theorem spec_DigitsOf (n b : Int) (w : World) :
    Calls Try.prog 9 #[.int .i64 n, .int .i64 b] w fun e w' => ∃ v, e = .returned (.tuple #[v, .bool (okq n b)]) ∧ Rd w' w.heap.size v (askL dgs n b) ∧ Below w.heap.size w w' := by
  by_cases hq : Num n ∧ Bas b
  · have a1 : decide (Num n ∧ Bas b) = true := decide_eq_true hq
    have hR := Lib.hid (show askL dgs n b = dgs b n from if_pos hq)
    have hD := Lib.hid (okq_yes hq)
    obtain ⟨⟨n0, n1⟩, b0, b1⟩ := hq
    have hall := Lib.hid (dgs_all b n b0 n0)
    have hlen := Lib.hid (dgs_len40 b n b0 n0 n1)
    go_enter Try.func9, Try.ntmps9
    go_wp2_with (first | (go_at_call 56; refine (dgAsked_any _ _ _).mono ?_; rintro e w1 ⟨rfl, rfl⟩) | (go_at_call 57; refine (dgOf_s _ _ _ n0 n1 b0 b1).mono ?_; rintro e w1 ⟨g, cap, rfl, hr, hbl⟩; have HB := Lib.hid hbl; have HR := Lib.hid hr; clear hbl hr))
    go_ret2
    exact ⟨_, by rw [hD.out]; rfl, by rw [hR.out]; exact HR.out, HB.out⟩
  · have a1 : decide (Num n ∧ Bas b) = false := decide_eq_false hq
    have hR := Lib.hid (show askL dgs n b = [] from if_neg hq)
    have hD := Lib.hid (okq_no hq)
    clear hq
    go_enter Try.func9, Try.ntmps9
    go_wp2_with (go_at_call 56; refine (dgAsked_any _ _ _).mono ?_; rintro e w1 ⟨rfl, rfl⟩)
    go_ret2
    exact ⟨_, by rw [hD.out]; rfl, by rw [hR.out]; exact Rd.nil _ _, Below.refl _ _⟩

theorem askL_dgs_len (n b : Int) : (askL dgs n b).length ≤ 2000000 := by
  unfold askL
  split
  · rename_i h; have := dgs_len40 b n h.2.1 h.1.1 h.1.2; omega
  · simp

end Go.Proofs.Ytdlohdjejmpmcaa
