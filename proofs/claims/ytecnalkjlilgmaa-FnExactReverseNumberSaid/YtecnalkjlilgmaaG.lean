/-
  The program's functions of a number and a base, from the questions' contracts (written by wip/tools/gen_ask.py).
-/
import Derived.Test.YtecnalkjlilgmaaB
import Derived.Test.YtecnalkjlilgmaaK
namespace Go.Proofs.Ytecnalkjlilgmaa
open Go.RowKit
set_option linter.unusedVariables false
set_option linter.unusedSimpArgs false


theorem tell_countDigits (n b : Int) (w : World) :
    Calls Try.prog 53 #[.int .i64 n, .int .i64 b, .func (Fn.func 54) #[] #[]] w fun e w' => e = .returned (optRes (askI RCountDigits n b)) ∧ Below w.heap.size w w' := by
  by_cases hn : Num n
  · have a1 : decide (Num n) = true := decide_eq_true hn
    by_cases hB : Bas b
    · have a2 : decide (Bas b) = true := decide_eq_true hB
      have hR := Lib.hid (show askI RCountDigits n b = some (RCountDigits b n) from if_pos ⟨hn, hB⟩)
      obtain ⟨n0, n1⟩ := hn
      obtain ⟨b0, b1⟩ := hB
      go_enter Try.func53, Try.ntmps53
      go_wp2_with (first | (go_at_call 73; refine (isNumber_any _ _).mono ?_; rintro e w1 ⟨rfl, rfl⟩) | (go_at_call 50; refine (isBase_any _ _).mono ?_; rintro e w1 ⟨rfl, rfl⟩) | (go_at_call 54; refine (countDigits_any _ _ _ n0 n1 b0 b1).mono ?_; rintro e w1 ⟨rfl, hbl⟩; have HB := Lib.hid hbl; clear hbl))
      go_ret2
      exact ⟨by rw [hR.out]; rfl, HB.out⟩
    · have a2 : decide (Bas b) = false := decide_eq_false hB
      have hR := Lib.hid (show askI RCountDigits n b = none from if_neg (fun h => hB h.2))
      clear hn hB
      go_enter Try.func53, Try.ntmps53
      go_wp2_with (first | (go_at_call 73; refine (isNumber_any _ _).mono ?_; rintro e w1 ⟨rfl, rfl⟩) | (go_at_call 50; refine (isBase_any _ _).mono ?_; rintro e w1 ⟨rfl, rfl⟩))
      go_ret2
      exact ⟨by rw [hR.out]; rfl, Below.refl _ _⟩
  · have a1 : decide (Num n) = false := decide_eq_false hn
    have hR := Lib.hid (show askI RCountDigits n b = none from if_neg (fun h => hn h.1))
    clear hn
    go_enter Try.func53, Try.ntmps53
    go_wp2_with (first | (go_at_call 73; refine (isNumber_any _ _).mono ?_; rintro e w1 ⟨rfl, rfl⟩) | (go_at_call 50; refine (isBase_any _ _).mono ?_; rintro e w1 ⟨rfl, rfl⟩))
    go_ret2
    exact ⟨by rw [hR.out]; rfl, Below.refl _ _⟩

theorem impl_CountDigits (n b : Int) (w : World) :
    Calls Try.prog 26 #[.int .i64 n, .int .i64 b] w fun e w' => e = .returned (optRes (askI RCountDigits n b)) ∧ Below w.heap.size w w' := by
  go_enter Try.func26, Try.ntmps26
  go_wp2_with (go_at_call 53; refine (tell_countDigits _ _ _).mono ?_; rintro e w1 ⟨rfl, hbl⟩; have HB := Lib.hid hbl; clear hbl)
  go_ret2
  exact ⟨rfl, HB.out⟩

theorem spec_CountDigits (n b : Int) (w : World) :
    Calls Try.prog 25 #[.int .i64 n, .int .i64 b] w fun e w' => e = .returned (optRes (askI RCountDigits n b)) ∧ Below w.heap.size w w' := by
  by_cases hq : Num n ∧ Bas b
  · have a1 : decide (Num n ∧ Bas b) = true := decide_eq_true hq
    have hR := Lib.hid (show askI RCountDigits n b = some (RCountDigits b n) from if_pos hq)
    obtain ⟨⟨n0, n1⟩, b0, b1⟩ := hq
    have hall := Lib.hid (dgs_all b n b0 n0)
    have hlen := Lib.hid (dgs_len40 b n b0 n0 n1)
    go_enter Try.func25, Try.ntmps25
    go_wp2_with (first | (go_at_call 43; refine (dgAsked_any _ _ _).mono ?_; rintro e w1 ⟨rfl, rfl⟩) | (go_at_call 44; refine (dgOf_s _ _ _ n0 n1 b0 b1).mono ?_; rintro e w1 ⟨g, cap, rfl, hr, hbl⟩; have HB := Lib.hid hbl; have HR := Lib.hid hr; clear hbl hr))
    go_ret2
    exact ⟨by rw [hR.out]; rfl, HB.out⟩
  · have a1 : decide (Num n ∧ Bas b) = false := decide_eq_false hq
    have hR := Lib.hid (show askI RCountDigits n b = none from if_neg hq)
    clear hq
    go_enter Try.func25, Try.ntmps25
    go_wp2_with (go_at_call 43; refine (dgAsked_any _ _ _).mono ?_; rintro e w1 ⟨rfl, rfl⟩)
    go_ret2
    exact ⟨by rw [hR.out]; rfl, Below.refl _ _⟩

theorem law_CountDigits (n b : Int) (w : World) :
    Calls Try.prog 6 #[.int .i64 n, .int .i64 b] w fun e w' => e = .returned (.bool true) ∧ Below w.heap.size w w' := by
  go_enter Try.func6, Try.ntmps6
  go_wp2_with (first | (go_at_call 25; refine (spec_CountDigits _ _ _).mono ?_; rintro e w1 ⟨rfl, hbl⟩; have HB1 := Lib.hid hbl; clear hbl) | (go_at_call 26; refine (impl_CountDigits _ _ _).mono ?_; rintro e w2 ⟨rfl, hbl⟩; have HB2 := Lib.hid hbl; clear hbl))
  go_ret
  exact ⟨by simp, Below.step HB1.out HB1.out.size HB2.out⟩

theorem tell_digitSum (n b : Int) (w : World) :
    Calls Try.prog 53 #[.int .i64 n, .int .i64 b, .func (Fn.func 56) #[] #[]] w fun e w' => e = .returned (optRes (askI RDigitSum n b)) ∧ Below w.heap.size w w' := by
  by_cases hn : Num n
  · have a1 : decide (Num n) = true := decide_eq_true hn
    by_cases hB : Bas b
    · have a2 : decide (Bas b) = true := decide_eq_true hB
      have hR := Lib.hid (show askI RDigitSum n b = some (RDigitSum b n) from if_pos ⟨hn, hB⟩)
      obtain ⟨n0, n1⟩ := hn
      obtain ⟨b0, b1⟩ := hB
      go_enter Try.func53, Try.ntmps53
      go_wp2_with (first | (go_at_call 73; refine (isNumber_any _ _).mono ?_; rintro e w1 ⟨rfl, rfl⟩) | (go_at_call 50; refine (isBase_any _ _).mono ?_; rintro e w1 ⟨rfl, rfl⟩) | (go_at_call 56; refine (digitSum_any _ _ _ n0 n1 b0 b1).mono ?_; rintro e w1 ⟨rfl, hbl⟩; have HB := Lib.hid hbl; clear hbl))
      go_ret2
      exact ⟨by rw [hR.out]; rfl, HB.out⟩
    · have a2 : decide (Bas b) = false := decide_eq_false hB
      have hR := Lib.hid (show askI RDigitSum n b = none from if_neg (fun h => hB h.2))
      clear hn hB
      go_enter Try.func53, Try.ntmps53
      go_wp2_with (first | (go_at_call 73; refine (isNumber_any _ _).mono ?_; rintro e w1 ⟨rfl, rfl⟩) | (go_at_call 50; refine (isBase_any _ _).mono ?_; rintro e w1 ⟨rfl, rfl⟩))
      go_ret2
      exact ⟨by rw [hR.out]; rfl, Below.refl _ _⟩
  · have a1 : decide (Num n) = false := decide_eq_false hn
    have hR := Lib.hid (show askI RDigitSum n b = none from if_neg (fun h => hn h.1))
    clear hn
    go_enter Try.func53, Try.ntmps53
    go_wp2_with (first | (go_at_call 73; refine (isNumber_any _ _).mono ?_; rintro e w1 ⟨rfl, rfl⟩) | (go_at_call 50; refine (isBase_any _ _).mono ?_; rintro e w1 ⟨rfl, rfl⟩))
    go_ret2
    exact ⟨by rw [hR.out]; rfl, Below.refl _ _⟩

theorem impl_DigitSum (n b : Int) (w : World) :
    Calls Try.prog 28 #[.int .i64 n, .int .i64 b] w fun e w' => e = .returned (optRes (askI RDigitSum n b)) ∧ Below w.heap.size w w' := by
  go_enter Try.func28, Try.ntmps28
  go_wp2_with (go_at_call 53; refine (tell_digitSum _ _ _).mono ?_; rintro e w1 ⟨rfl, hbl⟩; have HB := Lib.hid hbl; clear hbl)
  go_ret2
  exact ⟨rfl, HB.out⟩

theorem spec_DigitSum (n b : Int) (w : World) :
    Calls Try.prog 27 #[.int .i64 n, .int .i64 b] w fun e w' => e = .returned (optRes (askI RDigitSum n b)) ∧ Below w.heap.size w w' := by
  by_cases hq : Num n ∧ Bas b
  · have a1 : decide (Num n ∧ Bas b) = true := decide_eq_true hq
    have hR := Lib.hid (show askI RDigitSum n b = some (RDigitSum b n) from if_pos hq)
    obtain ⟨⟨n0, n1⟩, b0, b1⟩ := hq
    have hall := Lib.hid (dgs_all b n b0 n0)
    have hlen := Lib.hid (dgs_len40 b n b0 n0 n1)
    go_enter Try.func27, Try.ntmps27
    go_wp2_with (first | (go_at_call 43; refine (dgAsked_any _ _ _).mono ?_; rintro e w1 ⟨rfl, rfl⟩) | (go_at_call 44; refine (dgOf_s _ _ _ n0 n1 b0 b1).mono ?_; rintro e w1 ⟨g, cap, rfl, hr, hbl⟩; have HB := Lib.hid hbl; have HR := Lib.hid hr; clear hbl hr) | (go_at_call 55; refine (dgSum_any _ _ _ _ HR.out (fun x hx => by have := hall.out x hx; omega) (by have := hlen.out; omega)).mono ?_; rintro e w2 ⟨rfl, rfl⟩))
    go_ret2
    exact ⟨by rw [hR.out]; rfl, HB.out⟩
  · have a1 : decide (Num n ∧ Bas b) = false := decide_eq_false hq
    have hR := Lib.hid (show askI RDigitSum n b = none from if_neg hq)
    clear hq
    go_enter Try.func27, Try.ntmps27
    go_wp2_with (go_at_call 43; refine (dgAsked_any _ _ _).mono ?_; rintro e w1 ⟨rfl, rfl⟩)
    go_ret2
    exact ⟨by rw [hR.out]; rfl, Below.refl _ _⟩

theorem law_DigitSum (n b : Int) (w : World) :
    Calls Try.prog 7 #[.int .i64 n, .int .i64 b] w fun e w' => e = .returned (.bool true) ∧ Below w.heap.size w w' := by
  go_enter Try.func7, Try.ntmps7
  go_wp2_with (first | (go_at_call 27; refine (spec_DigitSum _ _ _).mono ?_; rintro e w1 ⟨rfl, hbl⟩; have HB1 := Lib.hid hbl; clear hbl) | (go_at_call 28; refine (impl_DigitSum _ _ _).mono ?_; rintro e w2 ⟨rfl, hbl⟩; have HB2 := Lib.hid hbl; clear hbl))
  go_ret
  exact ⟨by simp, Below.step HB1.out HB1.out.size HB2.out⟩

theorem tell_digitProduct (n b : Int) (w : World) :
    Calls Try.prog 53 #[.int .i64 n, .int .i64 b, .func (Fn.func 58) #[] #[]] w fun e w' => e = .returned (optRes (askI RDigitProduct n b)) ∧ Below w.heap.size w w' := by
  by_cases hn : Num n
  · have a1 : decide (Num n) = true := decide_eq_true hn
    by_cases hB : Bas b
    · have a2 : decide (Bas b) = true := decide_eq_true hB
      have hR := Lib.hid (show askI RDigitProduct n b = some (RDigitProduct b n) from if_pos ⟨hn, hB⟩)
      obtain ⟨n0, n1⟩ := hn
      obtain ⟨b0, b1⟩ := hB
      go_enter Try.func53, Try.ntmps53
      go_wp2_with (first | (go_at_call 73; refine (isNumber_any _ _).mono ?_; rintro e w1 ⟨rfl, rfl⟩) | (go_at_call 50; refine (isBase_any _ _).mono ?_; rintro e w1 ⟨rfl, rfl⟩) | (go_at_call 58; refine (digitProduct_any _ _ _ n0 n1 b0 b1).mono ?_; rintro e w1 ⟨rfl, hbl⟩; have HB := Lib.hid hbl; clear hbl))
      go_ret2
      exact ⟨by rw [hR.out]; rfl, HB.out⟩
    · have a2 : decide (Bas b) = false := decide_eq_false hB
      have hR := Lib.hid (show askI RDigitProduct n b = none from if_neg (fun h => hB h.2))
      clear hn hB
      go_enter Try.func53, Try.ntmps53
      go_wp2_with (first | (go_at_call 73; refine (isNumber_any _ _).mono ?_; rintro e w1 ⟨rfl, rfl⟩) | (go_at_call 50; refine (isBase_any _ _).mono ?_; rintro e w1 ⟨rfl, rfl⟩))
      go_ret2
      exact ⟨by rw [hR.out]; rfl, Below.refl _ _⟩
  · have a1 : decide (Num n) = false := decide_eq_false hn
    have hR := Lib.hid (show askI RDigitProduct n b = none from if_neg (fun h => hn h.1))
    clear hn
    go_enter Try.func53, Try.ntmps53
    go_wp2_with (first | (go_at_call 73; refine (isNumber_any _ _).mono ?_; rintro e w1 ⟨rfl, rfl⟩) | (go_at_call 50; refine (isBase_any _ _).mono ?_; rintro e w1 ⟨rfl, rfl⟩))
    go_ret2
    exact ⟨by rw [hR.out]; rfl, Below.refl _ _⟩

theorem impl_DigitProduct (n b : Int) (w : World) :
    Calls Try.prog 30 #[.int .i64 n, .int .i64 b] w fun e w' => e = .returned (optRes (askI RDigitProduct n b)) ∧ Below w.heap.size w w' := by
  go_enter Try.func30, Try.ntmps30
  go_wp2_with (go_at_call 53; refine (tell_digitProduct _ _ _).mono ?_; rintro e w1 ⟨rfl, hbl⟩; have HB := Lib.hid hbl; clear hbl)
  go_ret2
  exact ⟨rfl, HB.out⟩

theorem spec_DigitProduct (n b : Int) (w : World) :
    Calls Try.prog 29 #[.int .i64 n, .int .i64 b] w fun e w' => e = .returned (optRes (askI RDigitProduct n b)) ∧ Below w.heap.size w w' := by
  by_cases hq : Num n ∧ Bas b
  · have a1 : decide (Num n ∧ Bas b) = true := decide_eq_true hq
    have hR := Lib.hid (show askI RDigitProduct n b = some (RDigitProduct b n) from if_pos hq)
    obtain ⟨⟨n0, n1⟩, b0, b1⟩ := hq
    have hall := Lib.hid (dgs_all b n b0 n0)
    have hlen := Lib.hid (dgs_len40 b n b0 n0 n1)
    go_enter Try.func29, Try.ntmps29
    go_wp2_with (first | (go_at_call 43; refine (dgAsked_any _ _ _).mono ?_; rintro e w1 ⟨rfl, rfl⟩) | (go_at_call 44; refine (dgOf_s _ _ _ n0 n1 b0 b1).mono ?_; rintro e w1 ⟨g, cap, rfl, hr, hbl⟩; have HB := Lib.hid hbl; have HR := Lib.hid hr; clear hbl hr) | (go_at_call 57; refine (dgProduct_any _ _ _ _ HR.out (by have := hlen.out; omega)).mono ?_; rintro e w2 ⟨rfl, rfl⟩))
    go_ret2
    exact ⟨by rw [hR.out]; rfl, HB.out⟩
  · have a1 : decide (Num n ∧ Bas b) = false := decide_eq_false hq
    have hR := Lib.hid (show askI RDigitProduct n b = none from if_neg hq)
    clear hq
    go_enter Try.func29, Try.ntmps29
    go_wp2_with (go_at_call 43; refine (dgAsked_any _ _ _).mono ?_; rintro e w1 ⟨rfl, rfl⟩)
    go_ret2
    exact ⟨by rw [hR.out]; rfl, Below.refl _ _⟩

theorem law_DigitProduct (n b : Int) (w : World) :
    Calls Try.prog 8 #[.int .i64 n, .int .i64 b] w fun e w' => e = .returned (.bool true) ∧ Below w.heap.size w w' := by
  go_enter Try.func8, Try.ntmps8
  go_wp2_with (first | (go_at_call 29; refine (spec_DigitProduct _ _ _).mono ?_; rintro e w1 ⟨rfl, hbl⟩; have HB1 := Lib.hid hbl; clear hbl) | (go_at_call 30; refine (impl_DigitProduct _ _ _).mono ?_; rintro e w2 ⟨rfl, hbl⟩; have HB2 := Lib.hid hbl; clear hbl))
  go_ret
  exact ⟨by simp, Below.step HB1.out HB1.out.size HB2.out⟩

theorem tell_reversed (n b : Int) (w : World) :
    Calls Try.prog 60 #[.int .i64 n, .int .i64 b, .func (Fn.func 61) #[] #[]] w fun e w' => e = .returned (optRes (askF RReverseNumber n b)) ∧ Below w.heap.size w w' := by
  by_cases hn : Num n
  · have a1 : decide (Num n) = true := decide_eq_true hn
    by_cases hB : Bas b
    · have a2 : decide (Bas b) = true := decide_eq_true hB
      have hR := Lib.hid (show askF RReverseNumber n b = RReverseNumber b n from if_pos ⟨hn, hB⟩)
      obtain ⟨n0, n1⟩ := hn
      obtain ⟨b0, b1⟩ := hB
      go_enter Try.func60, Try.ntmps60
      go_wp2_with (first | (go_at_call 73; refine (isNumber_any _ _).mono ?_; rintro e w1 ⟨rfl, rfl⟩) | (go_at_call 50; refine (isBase_any _ _).mono ?_; rintro e w1 ⟨rfl, rfl⟩) | (go_at_call 61; refine (reversed_any _ _ _ n0 n1 b0 b1).mono ?_; rintro e w1 ⟨rfl, hbl⟩; have HB := Lib.hid hbl; clear hbl))
      go_ret2
      exact ⟨by rw [hR.out]; rfl, HB.out⟩
    · have a2 : decide (Bas b) = false := decide_eq_false hB
      have hR := Lib.hid (show askF RReverseNumber n b = none from if_neg (fun h => hB h.2))
      clear hn hB
      go_enter Try.func60, Try.ntmps60
      go_wp2_with (first | (go_at_call 73; refine (isNumber_any _ _).mono ?_; rintro e w1 ⟨rfl, rfl⟩) | (go_at_call 50; refine (isBase_any _ _).mono ?_; rintro e w1 ⟨rfl, rfl⟩))
      go_ret2
      exact ⟨by rw [hR.out]; rfl, Below.refl _ _⟩
  · have a1 : decide (Num n) = false := decide_eq_false hn
    have hR := Lib.hid (show askF RReverseNumber n b = none from if_neg (fun h => hn h.1))
    clear hn
    go_enter Try.func60, Try.ntmps60
    go_wp2_with (first | (go_at_call 73; refine (isNumber_any _ _).mono ?_; rintro e w1 ⟨rfl, rfl⟩) | (go_at_call 50; refine (isBase_any _ _).mono ?_; rintro e w1 ⟨rfl, rfl⟩))
    go_ret2
    exact ⟨by rw [hR.out]; rfl, Below.refl _ _⟩

theorem impl_ReverseNumber (n b : Int) (w : World) :
    Calls Try.prog 32 #[.int .i64 n, .int .i64 b] w fun e w' => e = .returned (optRes (askF RReverseNumber n b)) ∧ Below w.heap.size w w' := by
  go_enter Try.func32, Try.ntmps32
  go_wp2_with (go_at_call 60; refine (tell_reversed _ _ _).mono ?_; rintro e w1 ⟨rfl, hbl⟩; have HB := Lib.hid hbl; clear hbl)
  go_ret2
  exact ⟨rfl, HB.out⟩

theorem spec_ReverseNumber (n b : Int) (w : World) :
    Calls Try.prog 31 #[.int .i64 n, .int .i64 b] w fun e w' => e = .returned (optRes (askF RReverseNumber n b)) ∧ Below w.heap.size w w' := by
  by_cases hq : Num n ∧ Bas b
  · have a1 : decide (Num n ∧ Bas b) = true := decide_eq_true hq
    have hR := Lib.hid (show askF RReverseNumber n b = RReverseNumber b n from if_pos hq)
    obtain ⟨⟨n0, n1⟩, b0, b1⟩ := hq
    have hall := Lib.hid (dgs_all b n b0 n0)
    have hlen := Lib.hid (dgs_len40 b n b0 n0 n1)
    go_enter Try.func31, Try.ntmps31
    go_wp2_with (first | (go_at_call 43; refine (dgAsked_any _ _ _).mono ?_; rintro e w1 ⟨rfl, rfl⟩) | (go_at_call 44; refine (dgOf_s _ _ _ n0 n1 b0 b1).mono ?_; rintro e w1 ⟨g, cap, rfl, hr, hbl⟩; have HB := Lib.hid hbl; have HR := Lib.hid hr; clear hbl hr) | (go_at_call 59; refine (dgBack_any _ _ _ HR.out.sl (by have := hlen.out; omega)).mono ?_; rintro e w2 ⟨u2, rfl, hr2, hbl2⟩; have HR2 := Lib.hid hr2; have HB2 := Lib.hid (Below.step HB.out HB.out.size hbl2); clear hr2 hbl2) | (go_at_call 49; refine (dgFrom_any _ _ _ _ _ HR2.out (fun x hx => by have := rev_all hall.out x hx; omega) b0 b1 (by have := hlen.out; simp; omega)).mono ?_; rintro e w3 ⟨rfl, rfl⟩))
    go_ret2
    exact ⟨by rw [hR.out]; rfl, HB2.out⟩
  · have a1 : decide (Num n ∧ Bas b) = false := decide_eq_false hq
    have hR := Lib.hid (show askF RReverseNumber n b = none from if_neg hq)
    clear hq
    go_enter Try.func31, Try.ntmps31
    go_wp2_with (go_at_call 43; refine (dgAsked_any _ _ _).mono ?_; rintro e w1 ⟨rfl, rfl⟩)
    go_ret2
    exact ⟨by rw [hR.out]; rfl, Below.refl _ _⟩

theorem law_ReverseNumber (n b : Int) (w : World) :
    Calls Try.prog 9 #[.int .i64 n, .int .i64 b] w fun e w' => e = .returned (.bool true) ∧ Below w.heap.size w w' := by
  go_enter Try.func9, Try.ntmps9
  go_wp2_with (first | (go_at_call 31; refine (spec_ReverseNumber _ _ _).mono ?_; rintro e w1 ⟨rfl, hbl⟩; have HB1 := Lib.hid hbl; clear hbl) | (go_at_call 32; refine (impl_ReverseNumber _ _ _).mono ?_; rintro e w2 ⟨rfl, hbl⟩; have HB2 := Lib.hid hbl; clear hbl))
  go_ret
  exact ⟨by simp, Below.step HB1.out HB1.out.size HB2.out⟩

theorem tell_digits (n b : Int) (w : World) :
    Calls Try.prog 45 #[.int .i64 n, .int .i64 b, .func (Fn.func 46) #[] #[]] w fun e w' => ∃ v, e = .returned (.tuple #[v, .bool (okq n b)]) ∧ Rd w' w.heap.size v (askL dgs n b) ∧ Below w.heap.size w w' := by
  by_cases hn : Num n
  · have a1 : decide (Num n) = true := decide_eq_true hn
    by_cases hB : Bas b
    · have a2 : decide (Bas b) = true := decide_eq_true hB
      have hR := Lib.hid (show askL dgs n b = dgs b n from if_pos ⟨hn, hB⟩)
      have hD := Lib.hid (okq_yes ⟨hn, hB⟩)
      obtain ⟨n0, n1⟩ := hn
      obtain ⟨b0, b1⟩ := hB
      go_enter Try.func45, Try.ntmps45
      go_wp2_with (first | (go_at_call 73; refine (isNumber_any _ _).mono ?_; rintro e w1 ⟨rfl, rfl⟩) | (go_at_call 50; refine (isBase_any _ _).mono ?_; rintro e w1 ⟨rfl, rfl⟩) | (go_at_call 46; refine (digits_l _ _ _ n0 n1 b0 b1).mono ?_; rintro e w1 ⟨u, rfl, hr, hbl⟩; have HB := Lib.hid hbl; have HR := Lib.hid hr; clear hbl hr))
      go_ret2
      exact ⟨_, by rw [hD.out]; rfl, by rw [hR.out]; exact HR.out, HB.out⟩
    · have a2 : decide (Bas b) = false := decide_eq_false hB
      have hR := Lib.hid (show askL dgs n b = [] from if_neg (fun h => hB h.2))
      have hD := Lib.hid (okq_no (n := n) (b := b) (fun h => hB h.2))
      clear hn hB
      go_enter Try.func45, Try.ntmps45
      go_wp2_with (first | (go_at_call 73; refine (isNumber_any _ _).mono ?_; rintro e w1 ⟨rfl, rfl⟩) | (go_at_call 50; refine (isBase_any _ _).mono ?_; rintro e w1 ⟨rfl, rfl⟩))
      go_ret2
      exact ⟨_, by rw [hD.out]; rfl, by rw [hR.out]; exact Rd.nil _ _, Below.refl _ _⟩
  · have a1 : decide (Num n) = false := decide_eq_false hn
    have hR := Lib.hid (show askL dgs n b = [] from if_neg (fun h => hn h.1))
    have hD := Lib.hid (okq_no (n := n) (b := b) (fun h => hn h.1))
    clear hn
    go_enter Try.func45, Try.ntmps45
    go_wp2_with (first | (go_at_call 73; refine (isNumber_any _ _).mono ?_; rintro e w1 ⟨rfl, rfl⟩) | (go_at_call 50; refine (isBase_any _ _).mono ?_; rintro e w1 ⟨rfl, rfl⟩))
    go_ret2
    exact ⟨_, by rw [hD.out]; rfl, by rw [hR.out]; exact Rd.nil _ _, Below.refl _ _⟩

theorem impl_DigitsOf (n b : Int) (w : World) :
    Calls Try.prog 16 #[.int .i64 n, .int .i64 b] w fun e w' => ∃ v, e = .returned (.tuple #[v, .bool (okq n b)]) ∧ Rd w' w.heap.size v (askL dgs n b) ∧ Below w.heap.size w w' := by
  go_enter Try.func16, Try.ntmps16
  go_wp2_with (go_at_call 45; refine (tell_digits _ _ _).mono ?_; rintro e w1 ⟨u, rfl, hr, hbl⟩; have HB := Lib.hid hbl; have HR := Lib.hid hr; clear hbl hr)
  go_ret2
  exact ⟨_, rfl, HR.out, HB.out⟩

theorem spec_DigitsOf (n b : Int) (w : World) :
    Calls Try.prog 15 #[.int .i64 n, .int .i64 b] w fun e w' => ∃ v, e = .returned (.tuple #[v, .bool (okq n b)]) ∧ Rd w' w.heap.size v (askL dgs n b) ∧ Below w.heap.size w w' := by
  by_cases hq : Num n ∧ Bas b
  · have a1 : decide (Num n ∧ Bas b) = true := decide_eq_true hq
    have hR := Lib.hid (show askL dgs n b = dgs b n from if_pos hq)
    have hD := Lib.hid (okq_yes hq)
    obtain ⟨⟨n0, n1⟩, b0, b1⟩ := hq
    have hall := Lib.hid (dgs_all b n b0 n0)
    have hlen := Lib.hid (dgs_len40 b n b0 n0 n1)
    go_enter Try.func15, Try.ntmps15
    go_wp2_with (first | (go_at_call 43; refine (dgAsked_any _ _ _).mono ?_; rintro e w1 ⟨rfl, rfl⟩) | (go_at_call 44; refine (dgOf_s _ _ _ n0 n1 b0 b1).mono ?_; rintro e w1 ⟨g, cap, rfl, hr, hbl⟩; have HB := Lib.hid hbl; have HR := Lib.hid hr; clear hbl hr))
    go_ret2
    exact ⟨_, by rw [hD.out]; rfl, by rw [hR.out]; exact HR.out, HB.out⟩
  · have a1 : decide (Num n ∧ Bas b) = false := decide_eq_false hq
    have hR := Lib.hid (show askL dgs n b = [] from if_neg hq)
    have hD := Lib.hid (okq_no hq)
    clear hq
    go_enter Try.func15, Try.ntmps15
    go_wp2_with (go_at_call 43; refine (dgAsked_any _ _ _).mono ?_; rintro e w1 ⟨rfl, rfl⟩)
    go_ret2
    exact ⟨_, by rw [hD.out]; rfl, by rw [hR.out]; exact Rd.nil _ _, Below.refl _ _⟩

theorem askL_dgs_len (n b : Int) : (askL dgs n b).length ≤ 2000000 := by
  unfold askL
  split
  · rename_i h; have := dgs_len40 b n h.2.1 h.1.1 h.1.2; omega
  · simp

theorem law_DigitsOf (n b : Int) (w : World) :
    Calls Try.prog 3 #[.int .i64 n, .int .i64 b] w fun e w' => e = .returned (.bool true) ∧ Below w.heap.size w w' := by
  obtain ⟨xs, hxs⟩ : ∃ xs, xs = askL dgs n b := ⟨_, rfl⟩
  have hl : xs.length ≤ 2000000 := by rw [hxs]; exact askL_dgs_len n b
  have HX := Lib.hid hxs
  clear hxs
  go_enter Try.func3, Try.ntmps3
  go_wp2_with fail
  refine (spec_DigitsOf _ _ _).mono ?_
  rintro e w1 ⟨v0, rfl, hr, hb⟩
  rw [← HX.out] at hr
  have R0 := Lib.hid hr
  have B1 := Lib.hid hb
  clear hr hb
  go_wp2_with fail
  refine (impl_DigitsOf _ _ _).mono ?_
  rintro e w2 ⟨v1, rfl, hr, hb⟩
  rw [← HX.out] at hr
  have R1 := Lib.hid hr
  have R0b := Lib.hid (R0.out.keep hb)
  have A01 := Lib.hid (Rd.apart (fun k hk => (R0.out.lt k hk).2) hr)
  have B2 := Lib.hid (Below.step B1.out B1.out.size hb)
  have Z2 := hb.size
  clear hr hb
  go_wp2_with fail
  refine (eqIntS_any _ _ xs xs _ R1.out.sl R0b.out.sl hl hl).mono ?_
  rintro e w3 ⟨rfl, hb⟩
  have R1c := Lib.hid (R1.out.keep hb)
  have R0c := Lib.hid (R0b.out.keep hb)
  have B3 := Lib.hid (Below.step B2.out B2.out.size hb)
  have Z3 := hb.size
  clear hb
  go_wp2_with fail
  refine (markIntS_any _ xs _ _ _ R1c.out (by omega) (by omega) (by omega) hl).mono ?_
  rintro e w4 ⟨rfl, hr, hg⟩
  have R1d := Lib.hid hr
  have R0d := Lib.hid (R0c.out.grown hg A01.out)
  have B4 := Lib.hid (B3.out.grown hg (by have := B1.out.size; omega) (fun k hk => by have := (R1c.out.lt k hk).1; have := B1.out.size; omega))
  have Z4 := hg.size
  clear hr hg
  go_wp2_with fail
  refine (heldIntS_any _ _ _ _ _ R1d.out (by omega) (by omega) hl).mono ?_
  rintro e w5 ⟨rfl, rfl⟩
  go_wp2_with fail
  refine (impl_DigitsOf _ _ _).mono ?_
  rintro e w5 ⟨v2, rfl, hr, hb⟩
  rw [← HX.out] at hr
  have R2 := Lib.hid hr
  have R1e := Lib.hid (R1d.out.keep hb)
  have R0e := Lib.hid (R0d.out.keep hb)
  have B5 := Lib.hid (Below.step B4.out B4.out.size hb)
  clear hr hb
  go_wp2_with fail
  refine (eqIntS_any _ _ xs xs _ R2.out.sl R0e.out.sl hl hl).mono ?_
  rintro e w6 ⟨rfl, hb⟩
  have R1f := Lib.hid (R1e.out.keep hb)
  have B6 := Lib.hid (Below.step B5.out B5.out.size hb)
  clear hb
  go_wp2_with fail
  refine (heldIntS_any _ _ _ _ _ R1f.out (by omega) (by omega) hl).mono ?_
  rintro e w7 ⟨rfl, rfl⟩
  go_wp2
  go_ret
  exact ⟨rfl, B6.out⟩

end Go.Proofs.Ytecnalkjlilgmaa
