/-
  Answers about one number: its sum and number of divisors, its proper sum, its kind; the laws.
-/
import Derived.Test.Ytgfcabaihpongaa8F
namespace Go.Proofs.Ytgfcabaihpongaa
open Go.RowKit
set_option linter.unusedVariables false
set_option linter.unusedSimpArgs false
set_option maxRecDepth 100000

/-- What a number is asked: none for others. -/
def dvR (f : Int → Int) (n : Int) : Option Int := if Dv n then some (f n) else none
theorem dvR_yes {f : Int → Int} {n : Int} (h : Dv n) : dvR f n = some (f n) := if_pos h
theorem dvR_no {f : Int → Int} {n : Int} (h : ¬ Dv n) : dvR f n = none := if_neg h
theorem mkf (fn : Fn) (first cap : Array Value) (w : World) : (Instr.makeFunc fn first cap).run Try.prog w = .ok (.func fn first cap) w := rfl
def sgN (n : Int) : Int := sgL (pp n)
def ctN (n : Int) : Int := ctL (pp n)

theorem ask_SumOfDivisors (n : Int) (w : World) :
    Calls Try.prog 56 #[.int .i64 n, .func (.func 57) #[.int .i64 n] #[]] w fun e w' => e = .returned (optRes (dvR sgN n)) ∧ Below w.heap.size w w' := by
  by_cases h : Dv n
  · have a1 : decide (Dv n) = true := decide_eq_true h
    have HM := Lib.hid (show ∀ w' : World, Calls Try.prog 57 #[.int .i64 n] w' fun e w'' => e = .returned (.int .i64 (sgN n)) ∧ Below w'.heap.size w' w'' from fun w' => sumOfDivisors_any n w' h)
    have HR := Lib.hid (dvR_yes (f := sgN) h)
    rw [HR.out]
    obtain ⟨r, hr⟩ : ∃ r, r = sgN n := ⟨_, rfl⟩
    rw [← hr] at HM ⊢
    clear hr h
    go_enter Try.func56, Try.ntmps56
    go_wp2_with (first | (go_at_call 76; refine (isDivided_any _ _).mono ?_; rintro e w1 ⟨rfl, rfl⟩) | (go_at_call 57; refine (HM.out _).mono ?_; rintro e w2 ⟨rfl, hb⟩; have HB := Lib.hid hb; clear hb))
    go_ret2
    exact ⟨rfl, HB.out⟩
  · have a1 : decide (Dv n) = false := decide_eq_false h
    have HR := Lib.hid (dvR_no (f := sgN) h)
    rw [HR.out]
    clear h
    go_enter Try.func56, Try.ntmps56
    go_wp2_with (go_at_call 76; refine (isDivided_any _ _).mono ?_; rintro e w1 ⟨rfl, rfl⟩)
    go_ret2
    exact ⟨rfl, Below.refl _ _⟩

theorem impl_SumOfDivisors (n : Int) (w : World) :
    Calls Try.prog 23 #[.int .i64 n] w fun e w' => e = .returned (optRes (dvR sgN n)) ∧ Below w.heap.size w w' := by
  have HA := Lib.hid (fun w' => ask_SumOfDivisors n w')
  obtain ⟨R, hR⟩ : ∃ R, R = dvR sgN n := ⟨_, rfl⟩
  rw [← hR] at HA ⊢
  clear hR
  have hmf : ∀ (fn : Fn) (first cap : Array Value) (w : World), (Instr.makeFunc fn first cap).run Try.prog w = .ok (.func fn first cap) w := fun _ _ _ _ => rfl
  go_enter Try.func23, Try.ntmps23
  go_wp2_with (go_at_call 56; refine (HA.out _).mono ?_; rintro e w1 ⟨rfl, hb⟩; have HB := Lib.hid hb; clear hb)
  go_ret2
  exact ⟨rfl, HB.out⟩

theorem ask_CountDivisors (n : Int) (w : World) :
    Calls Try.prog 56 #[.int .i64 n, .func (.func 58) #[.int .i64 n] #[]] w fun e w' => e = .returned (optRes (dvR ctN n)) ∧ Below w.heap.size w w' := by
  by_cases h : Dv n
  · have a1 : decide (Dv n) = true := decide_eq_true h
    have HM := Lib.hid (show ∀ w' : World, Calls Try.prog 58 #[.int .i64 n] w' fun e w'' => e = .returned (.int .i64 (ctN n)) ∧ Below w'.heap.size w' w'' from fun w' => countDivisors_any n w' h)
    have HR := Lib.hid (dvR_yes (f := ctN) h)
    rw [HR.out]
    obtain ⟨r, hr⟩ : ∃ r, r = ctN n := ⟨_, rfl⟩
    rw [← hr] at HM ⊢
    clear hr h
    go_enter Try.func56, Try.ntmps56
    go_wp2_with (first | (go_at_call 76; refine (isDivided_any _ _).mono ?_; rintro e w1 ⟨rfl, rfl⟩) | (go_at_call 58; refine (HM.out _).mono ?_; rintro e w2 ⟨rfl, hb⟩; have HB := Lib.hid hb; clear hb))
    go_ret2
    exact ⟨rfl, HB.out⟩
  · have a1 : decide (Dv n) = false := decide_eq_false h
    have HR := Lib.hid (dvR_no (f := ctN) h)
    rw [HR.out]
    clear h
    go_enter Try.func56, Try.ntmps56
    go_wp2_with (go_at_call 76; refine (isDivided_any _ _).mono ?_; rintro e w1 ⟨rfl, rfl⟩)
    go_ret2
    exact ⟨rfl, Below.refl _ _⟩

theorem impl_CountDivisors (n : Int) (w : World) :
    Calls Try.prog 25 #[.int .i64 n] w fun e w' => e = .returned (optRes (dvR ctN n)) ∧ Below w.heap.size w w' := by
  have HA := Lib.hid (fun w' => ask_CountDivisors n w')
  obtain ⟨R, hR⟩ : ∃ R, R = dvR ctN n := ⟨_, rfl⟩
  rw [← hR] at HA ⊢
  clear hR
  have hmf : ∀ (fn : Fn) (first cap : Array Value) (w : World), (Instr.makeFunc fn first cap).run Try.prog w = .ok (.func fn first cap) w := fun _ _ _ _ => rfl
  go_enter Try.func25, Try.ntmps25
  go_wp2_with (go_at_call 56; refine (HA.out _).mono ?_; rintro e w1 ⟨rfl, hb⟩; have HB := Lib.hid hb; clear hb)
  go_ret2
  exact ⟨rfl, HB.out⟩

theorem ask_ProperSum (n : Int) (w : World) :
    Calls Try.prog 56 #[.int .i64 n, .func (.func 60) #[.int .i64 n] #[]] w fun e w' => e = .returned (optRes (dvR prop n)) ∧ Below w.heap.size w w' := by
  by_cases h : Dv n
  · have a1 : decide (Dv n) = true := decide_eq_true h
    have HM := Lib.hid (show ∀ w' : World, Calls Try.prog 60 #[.int .i64 n] w' fun e w'' => e = .returned (.int .i64 (prop n)) ∧ Below w'.heap.size w' w'' from fun w' => properSum_any n w' h)
    have HR := Lib.hid (dvR_yes (f := prop) h)
    rw [HR.out]
    obtain ⟨r, hr⟩ : ∃ r, r = prop n := ⟨_, rfl⟩
    rw [← hr] at HM ⊢
    clear hr h
    go_enter Try.func56, Try.ntmps56
    go_wp2_with (first | (go_at_call 76; refine (isDivided_any _ _).mono ?_; rintro e w1 ⟨rfl, rfl⟩) | (go_at_call 60; refine (HM.out _).mono ?_; rintro e w2 ⟨rfl, hb⟩; have HB := Lib.hid hb; clear hb))
    go_ret2
    exact ⟨rfl, HB.out⟩
  · have a1 : decide (Dv n) = false := decide_eq_false h
    have HR := Lib.hid (dvR_no (f := prop) h)
    rw [HR.out]
    clear h
    go_enter Try.func56, Try.ntmps56
    go_wp2_with (go_at_call 76; refine (isDivided_any _ _).mono ?_; rintro e w1 ⟨rfl, rfl⟩)
    go_ret2
    exact ⟨rfl, Below.refl _ _⟩

theorem impl_ProperSum (n : Int) (w : World) :
    Calls Try.prog 27 #[.int .i64 n] w fun e w' => e = .returned (optRes (dvR prop n)) ∧ Below w.heap.size w w' := by
  have HA := Lib.hid (fun w' => ask_ProperSum n w')
  obtain ⟨R, hR⟩ : ∃ R, R = dvR prop n := ⟨_, rfl⟩
  rw [← hR] at HA ⊢
  clear hR
  have hmf : ∀ (fn : Fn) (first cap : Array Value) (w : World), (Instr.makeFunc fn first cap).run Try.prog w = .ok (.func fn first cap) w := fun _ _ _ _ => rfl
  go_enter Try.func27, Try.ntmps27
  go_wp2_with (go_at_call 56; refine (HA.out _).mono ?_; rintro e w1 ⟨rfl, hb⟩; have HB := Lib.hid hb; clear hb)
  go_ret2
  exact ⟨rfl, HB.out⟩

theorem ask_KindOfNumber (n : Int) (w : World) :
    Calls Try.prog 56 #[.int .i64 n, .func (.func 61) #[.int .i64 n] #[]] w fun e w' => e = .returned (optRes (dvR knd n)) ∧ Below w.heap.size w w' := by
  by_cases h : Dv n
  · have a1 : decide (Dv n) = true := decide_eq_true h
    have HM := Lib.hid (show ∀ w' : World, Calls Try.prog 61 #[.int .i64 n] w' fun e w'' => e = .returned (.int .i64 (knd n)) ∧ Below w'.heap.size w' w'' from fun w' => kind_any n w' h)
    have HR := Lib.hid (dvR_yes (f := knd) h)
    rw [HR.out]
    obtain ⟨r, hr⟩ : ∃ r, r = knd n := ⟨_, rfl⟩
    rw [← hr] at HM ⊢
    clear hr h
    go_enter Try.func56, Try.ntmps56
    go_wp2_with (first | (go_at_call 76; refine (isDivided_any _ _).mono ?_; rintro e w1 ⟨rfl, rfl⟩) | (go_at_call 61; refine (HM.out _).mono ?_; rintro e w2 ⟨rfl, hb⟩; have HB := Lib.hid hb; clear hb))
    go_ret2
    exact ⟨rfl, HB.out⟩
  · have a1 : decide (Dv n) = false := decide_eq_false h
    have HR := Lib.hid (dvR_no (f := knd) h)
    rw [HR.out]
    clear h
    go_enter Try.func56, Try.ntmps56
    go_wp2_with (go_at_call 76; refine (isDivided_any _ _).mono ?_; rintro e w1 ⟨rfl, rfl⟩)
    go_ret2
    exact ⟨rfl, Below.refl _ _⟩

theorem impl_KindOfNumber (n : Int) (w : World) :
    Calls Try.prog 29 #[.int .i64 n] w fun e w' => e = .returned (optRes (dvR knd n)) ∧ Below w.heap.size w w' := by
  have HA := Lib.hid (fun w' => ask_KindOfNumber n w')
  obtain ⟨R, hR⟩ : ∃ R, R = dvR knd n := ⟨_, rfl⟩
  rw [← hR] at HA ⊢
  clear hR
  have hmf : ∀ (fn : Fn) (first cap : Array Value) (w : World), (Instr.makeFunc fn first cap).run Try.prog w = .ok (.func fn first cap) w := fun _ _ _ _ => rfl
  go_enter Try.func29, Try.ntmps29
  go_wp2_with (go_at_call 56; refine (HA.out _).mono ?_; rintro e w1 ⟨rfl, hb⟩; have HB := Lib.hid hb; clear hb)
  go_ret2
  exact ⟨rfl, HB.out⟩

theorem spec_SumOfDivisors (n : Int) (w : World) :
    Calls Try.prog 22 #[.int .i64 n] w fun e w' => e = .returned (optRes (dvR sgN n)) ∧ Below w.heap.size w w' := by
  by_cases h : Dv n
  · have a1 : decide (Dv n) = true := decide_eq_true h
    have HM := Lib.hid (show ∀ w' : World, Calls Try.prog 55 #[.int .i64 n] w' fun e w'' => e = .returned (.tuple #[.int .i64 (sgN n), .int .i64 (ctN n)]) ∧ Below w'.heap.size w' w'' from fun w' => dvSums_any n w' h)
    have HR := Lib.hid (dvR_yes (f := sgN) h)
    rw [HR.out]
    obtain ⟨r, hr⟩ : ∃ r, r = sgN n := ⟨_, rfl⟩
    obtain ⟨q, hq⟩ : ∃ q, q = ctN n := ⟨_, rfl⟩
    rw [← hr, ← hq] at HM
    rw [← hr]
    clear hr hq h
    go_enter Try.func22, Try.ntmps22
    go_wp2_with (first | (go_at_call 51; refine (dvNumber_any _ _).mono ?_; rintro e w1 ⟨rfl, rfl⟩) | (go_at_call 55; refine (HM.out _).mono ?_; rintro e w2 ⟨rfl, hb⟩; have HB := Lib.hid hb; clear hb))
    go_ret2
    exact ⟨rfl, HB.out⟩
  · have a1 : decide (Dv n) = false := decide_eq_false h
    have HR := Lib.hid (dvR_no (f := sgN) h)
    rw [HR.out]
    clear h
    go_enter Try.func22, Try.ntmps22
    go_wp2_with (go_at_call 51; refine (dvNumber_any _ _).mono ?_; rintro e w1 ⟨rfl, rfl⟩)
    go_ret2
    exact ⟨rfl, Below.refl _ _⟩

theorem spec_CountDivisors (n : Int) (w : World) :
    Calls Try.prog 24 #[.int .i64 n] w fun e w' => e = .returned (optRes (dvR ctN n)) ∧ Below w.heap.size w w' := by
  by_cases h : Dv n
  · have a1 : decide (Dv n) = true := decide_eq_true h
    have HM := Lib.hid (show ∀ w' : World, Calls Try.prog 55 #[.int .i64 n] w' fun e w'' => e = .returned (.tuple #[.int .i64 (sgN n), .int .i64 (ctN n)]) ∧ Below w'.heap.size w' w'' from fun w' => dvSums_any n w' h)
    have HR := Lib.hid (dvR_yes (f := ctN) h)
    rw [HR.out]
    obtain ⟨r, hr⟩ : ∃ r, r = sgN n := ⟨_, rfl⟩
    obtain ⟨q, hq⟩ : ∃ q, q = ctN n := ⟨_, rfl⟩
    rw [← hr, ← hq] at HM
    rw [← hq]
    clear hr hq h
    go_enter Try.func24, Try.ntmps24
    go_wp2_with (first | (go_at_call 51; refine (dvNumber_any _ _).mono ?_; rintro e w1 ⟨rfl, rfl⟩) | (go_at_call 55; refine (HM.out _).mono ?_; rintro e w2 ⟨rfl, hb⟩; have HB := Lib.hid hb; clear hb))
    go_ret2
    exact ⟨rfl, HB.out⟩
  · have a1 : decide (Dv n) = false := decide_eq_false h
    have HR := Lib.hid (dvR_no (f := ctN) h)
    rw [HR.out]
    clear h
    go_enter Try.func24, Try.ntmps24
    go_wp2_with (go_at_call 51; refine (dvNumber_any _ _).mono ?_; rintro e w1 ⟨rfl, rfl⟩)
    go_ret2
    exact ⟨rfl, Below.refl _ _⟩

theorem spec_ProperSum (n : Int) (w : World) :
    Calls Try.prog 26 #[.int .i64 n] w fun e w' => e = .returned (optRes (dvR prop n)) ∧ Below w.heap.size w w' := by
  by_cases h : Dv n
  · have a1 : decide (Dv n) = true := decide_eq_true h
    have HM := Lib.hid (fun w' => dvProper_any n w' h)
    have HR := Lib.hid (dvR_yes (f := prop) h)
    rw [HR.out]
    obtain ⟨r, hr⟩ : ∃ r, r = prop n := ⟨_, rfl⟩
    rw [← hr] at HM ⊢
    clear hr h
    go_enter Try.func26, Try.ntmps26
    go_wp2_with (first | (go_at_call 51; refine (dvNumber_any _ _).mono ?_; rintro e w1 ⟨rfl, rfl⟩) | (go_at_call 59; refine (HM.out _).mono ?_; rintro e w2 ⟨rfl, hb⟩; have HB := Lib.hid hb; clear hb))
    go_ret2
    exact ⟨rfl, HB.out⟩
  · have a1 : decide (Dv n) = false := decide_eq_false h
    have HR := Lib.hid (dvR_no (f := prop) h)
    rw [HR.out]
    clear h
    go_enter Try.func26, Try.ntmps26
    go_wp2_with (go_at_call 51; refine (dvNumber_any _ _).mono ?_; rintro e w1 ⟨rfl, rfl⟩)
    go_ret2
    exact ⟨rfl, Below.refl _ _⟩

theorem spec_KindOfNumber (n : Int) (w : World) :
    Calls Try.prog 28 #[.int .i64 n] w fun e w' => e = .returned (optRes (dvR knd n)) ∧ Below w.heap.size w w' := by
  by_cases h : Dv n
  · have a1 : decide (Dv n) = true := decide_eq_true h
    have HM := Lib.hid (fun w' => dvProper_any n w' h)
    have HR := Lib.hid (dvR_yes (f := knd) h)
    rw [HR.out]
    have HK := Lib.hid (show knd n = (if prop n < n then -1 else if n < prop n then 1 else 0) from rfl)
    rw [HK.out]
    obtain ⟨r, hr⟩ : ∃ r, r = prop n := ⟨_, rfl⟩
    rw [← hr] at HM ⊢
    clear hr h HK HR
    by_cases h1 : r < n
    · rw [if_pos h1]
      go_enter Try.func28, Try.ntmps28
      go_wp2_with (first | (go_at_call 51; refine (dvNumber_any _ _).mono ?_; rintro e w1 ⟨rfl, rfl⟩) | (go_at_call 59; refine (HM.out _).mono ?_; rintro e w2 ⟨rfl, hb⟩; have HB := Lib.hid hb; clear hb))
      go_ret2
      exact ⟨rfl, HB.out⟩
    · rw [if_neg h1]
      by_cases h2 : n < r
      · rw [if_pos h2]
        go_enter Try.func28, Try.ntmps28
        go_wp2_with (first | (go_at_call 51; refine (dvNumber_any _ _).mono ?_; rintro e w1 ⟨rfl, rfl⟩) | (go_at_call 59; refine (HM.out _).mono ?_; rintro e w2 ⟨rfl, hb⟩; have HB := Lib.hid hb; clear hb))
        go_ret2
        exact ⟨rfl, HB.out⟩
      · rw [if_neg h2]
        go_enter Try.func28, Try.ntmps28
        go_wp2_with (first | (go_at_call 51; refine (dvNumber_any _ _).mono ?_; rintro e w1 ⟨rfl, rfl⟩) | (go_at_call 59; refine (HM.out _).mono ?_; rintro e w2 ⟨rfl, hb⟩; have HB := Lib.hid hb; clear hb))
        go_ret2
        exact ⟨rfl, HB.out⟩
  · have a1 : decide (Dv n) = false := decide_eq_false h
    have HR := Lib.hid (dvR_no (f := knd) h)
    rw [HR.out]
    clear h
    go_enter Try.func28, Try.ntmps28
    go_wp2_with (go_at_call 51; refine (dvNumber_any _ _).mono ?_; rintro e w1 ⟨rfl, rfl⟩)
    go_ret2
    exact ⟨rfl, Below.refl _ _⟩

theorem law_SumOfDivisors (n : Int) (w : World) :
    Calls Try.prog 4 #[.int .i64 n] w fun e w' => e = .returned (.bool true) ∧ Below w.heap.size w w' := by
  have HS := Lib.hid (fun w' => spec_SumOfDivisors n w')
  have HI := Lib.hid (fun w' => impl_SumOfDivisors n w')
  obtain ⟨R, hR⟩ : ∃ R, R = dvR sgN n := ⟨_, rfl⟩
  rw [← hR] at HS HI
  clear hR
  go_enter Try.func4, Try.ntmps4
  go_wp2_with (first | (go_at_call 22; refine (HS.out _).mono ?_; rintro e w1 ⟨rfl, hbl⟩; have HB1 := Lib.hid hbl; clear hbl) | (go_at_call 23; refine (HI.out _).mono ?_; rintro e w2 ⟨rfl, hbl⟩; have HB2 := Lib.hid hbl; clear hbl))
  go_ret
  exact ⟨by simp, Below.step HB1.out HB1.out.size HB2.out⟩

theorem law_CountDivisors (n : Int) (w : World) :
    Calls Try.prog 5 #[.int .i64 n] w fun e w' => e = .returned (.bool true) ∧ Below w.heap.size w w' := by
  have HS := Lib.hid (fun w' => spec_CountDivisors n w')
  have HI := Lib.hid (fun w' => impl_CountDivisors n w')
  obtain ⟨R, hR⟩ : ∃ R, R = dvR ctN n := ⟨_, rfl⟩
  rw [← hR] at HS HI
  clear hR
  go_enter Try.func5, Try.ntmps5
  go_wp2_with (first | (go_at_call 24; refine (HS.out _).mono ?_; rintro e w1 ⟨rfl, hbl⟩; have HB1 := Lib.hid hbl; clear hbl) | (go_at_call 25; refine (HI.out _).mono ?_; rintro e w2 ⟨rfl, hbl⟩; have HB2 := Lib.hid hbl; clear hbl))
  go_ret
  exact ⟨by simp, Below.step HB1.out HB1.out.size HB2.out⟩

theorem law_ProperSum (n : Int) (w : World) :
    Calls Try.prog 6 #[.int .i64 n] w fun e w' => e = .returned (.bool true) ∧ Below w.heap.size w w' := by
  have HS := Lib.hid (fun w' => spec_ProperSum n w')
  have HI := Lib.hid (fun w' => impl_ProperSum n w')
  obtain ⟨R, hR⟩ : ∃ R, R = dvR prop n := ⟨_, rfl⟩
  rw [← hR] at HS HI
  clear hR
  go_enter Try.func6, Try.ntmps6
  go_wp2_with (first | (go_at_call 26; refine (HS.out _).mono ?_; rintro e w1 ⟨rfl, hbl⟩; have HB1 := Lib.hid hbl; clear hbl) | (go_at_call 27; refine (HI.out _).mono ?_; rintro e w2 ⟨rfl, hbl⟩; have HB2 := Lib.hid hbl; clear hbl))
  go_ret
  exact ⟨by simp, Below.step HB1.out HB1.out.size HB2.out⟩

theorem law_KindOfNumber (n : Int) (w : World) :
    Calls Try.prog 7 #[.int .i64 n] w fun e w' => e = .returned (.bool true) ∧ Below w.heap.size w w' := by
  have HS := Lib.hid (fun w' => spec_KindOfNumber n w')
  have HI := Lib.hid (fun w' => impl_KindOfNumber n w')
  obtain ⟨R, hR⟩ : ∃ R, R = dvR knd n := ⟨_, rfl⟩
  rw [← hR] at HS HI
  clear hR
  go_enter Try.func7, Try.ntmps7
  go_wp2_with (first | (go_at_call 28; refine (HS.out _).mono ?_; rintro e w1 ⟨rfl, hbl⟩; have HB1 := Lib.hid hbl; clear hbl) | (go_at_call 29; refine (HI.out _).mono ?_; rintro e w2 ⟨rfl, hbl⟩; have HB2 := Lib.hid hbl; clear hbl))
  go_ret
  exact ⟨by simp, Below.step HB1.out HB1.out.size HB2.out⟩

end Go.Proofs.Ytgfcabaihpongaa
