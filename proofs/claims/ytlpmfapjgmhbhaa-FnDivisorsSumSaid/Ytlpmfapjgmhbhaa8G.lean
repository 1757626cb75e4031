/-
  Answers about one number: its sum and number of divisors, its proper sum, its kind; the laws.
-/
import Derived.Test.Ytlpmfapjgmhbhaa8F
namespace Go.Proofs.Ytlpmfapjgmhbhaa
open Go.RowKit
set_option linter.unusedVariables false
set_option linter.unusedSimpArgs false
set_option maxRecDepth 100000

/-- What a number is asked: none for others. -/
def dvR (f : Int → Int) (n : Int) : Option Int := if Dv n then some (f n) else none
theorem dvR_yes {f : Int → Int} {n : Int} (h : Dv n) : dvR f n = some (f n) := if_pos h
theorem dvR_no {f : Int → Int} {n : Int} (h : ¬ Dv n) : dvR f n = none := if_neg h
theorem mkf (fn : Fn) (first cap : Array Value) (w : World) : (Instr.makeFunc fn first cap).run Try.prog w = .ok (.func fn first cap) w := rfl
def sgN (n : Int) : Int := sgL (pp n)
def ctN (n : Int) : Int := ctL (pp n)

theorem ask_SumOfDivisors (n : Int) (w : World) :
    Calls Try.prog 57 #[.int .i64 n, .func (.func 70) #[.int .i64 n] #[]] w fun e w' => e = .returned (optRes (dvR sgN n)) ∧ Below w.heap.size w w' := by
  by_cases h : Dv n
  · have a1 : decide (Dv n) = true := decide_eq_true h
    have HM := Lib.hid (show ∀ w' : World, Calls Try.prog 70 #[.int .i64 n] w' fun e w'' => e = .returned (.int .i64 (sgN n)) ∧ Below w'.heap.size w' w'' from fun w' => sumOfDivisors_any n w' h)
    have HR := Lib.hid (dvR_yes (f := sgN) h)
    rw [HR.out]
    obtain ⟨r, hr⟩ : ∃ r, r = sgN n := ⟨_, rfl⟩
    rw [← hr] at HM ⊢
    clear hr h
    go_enter Try.func57, Try.ntmps57
    go_wp2_with (first | (go_at_call 77; refine (isDivided_any _ _).mono ?_; rintro e w1 ⟨rfl, rfl⟩) | (go_at_call 70; refine (HM.out _).mono ?_; rintro e w2 ⟨rfl, hb⟩; have HB := Lib.hid hb; clear hb))
    go_ret2
    exact ⟨rfl, HB.out⟩
  · have a1 : decide (Dv n) = false := decide_eq_false h
    have HR := Lib.hid (dvR_no (f := sgN) h)
    rw [HR.out]
    clear h
    go_enter Try.func57, Try.ntmps57
    go_wp2_with (go_at_call 77; refine (isDivided_any _ _).mono ?_; rintro e w1 ⟨rfl, rfl⟩)
    go_ret2
    exact ⟨rfl, Below.refl _ _⟩

theorem impl_SumOfDivisors (n : Int) (w : World) :
    Calls Try.prog 37 #[.int .i64 n] w fun e w' => e = .returned (optRes (dvR sgN n)) ∧ Below w.heap.size w w' := by
  have HA := Lib.hid (fun w' => ask_SumOfDivisors n w')
  obtain ⟨R, hR⟩ : ∃ R, R = dvR sgN n := ⟨_, rfl⟩
  rw [← hR] at HA ⊢
  clear hR
  have hmf : ∀ (fn : Fn) (first cap : Array Value) (w : World), (Instr.makeFunc fn first cap).run Try.prog w = .ok (.func fn first cap) w := fun _ _ _ _ => rfl
  go_enter Try.func37, Try.ntmps37
  go_wp2_with (go_at_call 57; refine (HA.out _).mono ?_; rintro e w1 ⟨rfl, hb⟩; have HB := Lib.hid hb; clear hb)
  go_ret2
  exact ⟨rfl, HB.out⟩

theorem ask_CountDivisors (n : Int) (w : World) :
    Calls Try.prog 57 #[.int .i64 n, .func (.func 72) #[.int .i64 n] #[]] w fun e w' => e = .returned (optRes (dvR ctN n)) ∧ Below w.heap.size w w' := by
  by_cases h : Dv n
  · have a1 : decide (Dv n) = true := decide_eq_true h
    have HM := Lib.hid (show ∀ w' : World, Calls Try.prog 72 #[.int .i64 n] w' fun e w'' => e = .returned (.int .i64 (ctN n)) ∧ Below w'.heap.size w' w'' from fun w' => countDivisors_any n w' h)
    have HR := Lib.hid (dvR_yes (f := ctN) h)
    rw [HR.out]
    obtain ⟨r, hr⟩ : ∃ r, r = ctN n := ⟨_, rfl⟩
    rw [← hr] at HM ⊢
    clear hr h
    go_enter Try.func57, Try.ntmps57
    go_wp2_with (first | (go_at_call 77; refine (isDivided_any _ _).mono ?_; rintro e w1 ⟨rfl, rfl⟩) | (go_at_call 72; refine (HM.out _).mono ?_; rintro e w2 ⟨rfl, hb⟩; have HB := Lib.hid hb; clear hb))
    go_ret2
    exact ⟨rfl, HB.out⟩
  · have a1 : decide (Dv n) = false := decide_eq_false h
    have HR := Lib.hid (dvR_no (f := ctN) h)
    rw [HR.out]
    clear h
    go_enter Try.func57, Try.ntmps57
    go_wp2_with (go_at_call 77; refine (isDivided_any _ _).mono ?_; rintro e w1 ⟨rfl, rfl⟩)
    go_ret2
    exact ⟨rfl, Below.refl _ _⟩

theorem impl_CountDivisors (n : Int) (w : World) :
    Calls Try.prog 39 #[.int .i64 n] w fun e w' => e = .returned (optRes (dvR ctN n)) ∧ Below w.heap.size w w' := by
  have HA := Lib.hid (fun w' => ask_CountDivisors n w')
  obtain ⟨R, hR⟩ : ∃ R, R = dvR ctN n := ⟨_, rfl⟩
  rw [← hR] at HA ⊢
  clear hR
  have hmf : ∀ (fn : Fn) (first cap : Array Value) (w : World), (Instr.makeFunc fn first cap).run Try.prog w = .ok (.func fn first cap) w := fun _ _ _ _ => rfl
  go_enter Try.func39, Try.ntmps39
  go_wp2_with (go_at_call 57; refine (HA.out _).mono ?_; rintro e w1 ⟨rfl, hb⟩; have HB := Lib.hid hb; clear hb)
  go_ret2
  exact ⟨rfl, HB.out⟩

theorem ask_ProperSum (n : Int) (w : World) :
    Calls Try.prog 57 #[.int .i64 n, .func (.func 58) #[.int .i64 n] #[]] w fun e w' => e = .returned (optRes (dvR prop n)) ∧ Below w.heap.size w w' := by
  by_cases h : Dv n
  · have a1 : decide (Dv n) = true := decide_eq_true h
    have HM := Lib.hid (show ∀ w' : World, Calls Try.prog 58 #[.int .i64 n] w' fun e w'' => e = .returned (.int .i64 (prop n)) ∧ Below w'.heap.size w' w'' from fun w' => properSum_any n w' h)
    have HR := Lib.hid (dvR_yes (f := prop) h)
    rw [HR.out]
    obtain ⟨r, hr⟩ : ∃ r, r = prop n := ⟨_, rfl⟩
    rw [← hr] at HM ⊢
    clear hr h
    go_enter Try.func57, Try.ntmps57
    go_wp2_with (first | (go_at_call 77; refine (isDivided_any _ _).mono ?_; rintro e w1 ⟨rfl, rfl⟩) | (go_at_call 58; refine (HM.out _).mono ?_; rintro e w2 ⟨rfl, hb⟩; have HB := Lib.hid hb; clear hb))
    go_ret2
    exact ⟨rfl, HB.out⟩
  · have a1 : decide (Dv n) = false := decide_eq_false h
    have HR := Lib.hid (dvR_no (f := prop) h)
    rw [HR.out]
    clear h
    go_enter Try.func57, Try.ntmps57
    go_wp2_with (go_at_call 77; refine (isDivided_any _ _).mono ?_; rintro e w1 ⟨rfl, rfl⟩)
    go_ret2
    exact ⟨rfl, Below.refl _ _⟩

theorem impl_ProperSum (n : Int) (w : World) :
    Calls Try.prog 15 #[.int .i64 n] w fun e w' => e = .returned (optRes (dvR prop n)) ∧ Below w.heap.size w w' := by
  have HA := Lib.hid (fun w' => ask_ProperSum n w')
  obtain ⟨R, hR⟩ : ∃ R, R = dvR prop n := ⟨_, rfl⟩
  rw [← hR] at HA ⊢
  clear hR
  have hmf : ∀ (fn : Fn) (first cap : Array Value) (w : World), (Instr.makeFunc fn first cap).run Try.prog w = .ok (.func fn first cap) w := fun _ _ _ _ => rfl
  go_enter Try.func15, Try.ntmps15
  go_wp2_with (go_at_call 57; refine (HA.out _).mono ?_; rintro e w1 ⟨rfl, hb⟩; have HB := Lib.hid hb; clear hb)
  go_ret2
  exact ⟨rfl, HB.out⟩

theorem ask_KindOfNumber (n : Int) (w : World) :
    Calls Try.prog 57 #[.int .i64 n, .func (.func 66) #[.int .i64 n] #[]] w fun e w' => e = .returned (optRes (dvR knd n)) ∧ Below w.heap.size w w' := by
  by_cases h : Dv n
  · have a1 : decide (Dv n) = true := decide_eq_true h
    have HM := Lib.hid (show ∀ w' : World, Calls Try.prog 66 #[.int .i64 n] w' fun e w'' => e = .returned (.int .i64 (knd n)) ∧ Below w'.heap.size w' w'' from fun w' => kind_any n w' h)
    have HR := Lib.hid (dvR_yes (f := knd) h)
    rw [HR.out]
    obtain ⟨r, hr⟩ : ∃ r, r = knd n := ⟨_, rfl⟩
    rw [← hr] at HM ⊢
    clear hr h
    go_enter Try.func57, Try.ntmps57
    go_wp2_with (first | (go_at_call 77; refine (isDivided_any _ _).mono ?_; rintro e w1 ⟨rfl, rfl⟩) | (go_at_call 66; refine (HM.out _).mono ?_; rintro e w2 ⟨rfl, hb⟩; have HB := Lib.hid hb; clear hb))
    go_ret2
    exact ⟨rfl, HB.out⟩
  · have a1 : decide (Dv n) = false := decide_eq_false h
    have HR := Lib.hid (dvR_no (f := knd) h)
    rw [HR.out]
    clear h
    go_enter Try.func57, Try.ntmps57
    go_wp2_with (go_at_call 77; refine (isDivided_any _ _).mono ?_; rintro e w1 ⟨rfl, rfl⟩)
    go_ret2
    exact ⟨rfl, Below.refl _ _⟩

theorem impl_KindOfNumber (n : Int) (w : World) :
    Calls Try.prog 29 #[.int .i64 n] w fun e w' => e = .returned (optRes (dvR knd n)) ∧ Below w.heap.size w w' := by
  have HA := Lib.hid (fun w' => ask_KindOfNumber n w')
  obtain ⟨R, hR⟩ : ∃ R, R = dvR knd n := ⟨_, rfl⟩
  rw [← hR] at HA ⊢
  clear hR
  have hmf : ∀ (fn : Fn) (first cap : Array Value) (w : World), (Instr.makeFunc fn first cap).run Try.prog w = .ok (.func fn first cap) w := fun _ _ _ _ => rfl
  go_enter Try.func29, Try.ntmps29
  go_wp2_with (go_at_call 57; refine (HA.out _).mono ?_; rintro e w1 ⟨rfl, hb⟩; have HB := Lib.hid hb; clear hb)
  go_ret2
  exact ⟨rfl, HB.out⟩

theorem spec_SumOfDivisors (n : Int) (w : World) :
    Calls Try.prog 38 #[.int .i64 n] w fun e w' => e = .returned (optRes (dvR sgN n)) ∧ Below w.heap.size w w' := by
  by_cases h : Dv n
  · have a1 : decide (Dv n) = true := decide_eq_true h
    have HM := Lib.hid (show ∀ w' : World, Calls Try.prog 71 #[.int .i64 n] w' fun e w'' => e = .returned (.tuple #[.int .i64 (sgN n), .int .i64 (ctN n)]) ∧ Below w'.heap.size w' w'' from fun w' => dvSums_any n w' h)
    have HR := Lib.hid (dvR_yes (f := sgN) h)
    rw [HR.out]
    obtain ⟨r, hr⟩ : ∃ r, r = sgN n := ⟨_, rfl⟩
    obtain ⟨q, hq⟩ : ∃ q, q = ctN n := ⟨_, rfl⟩
    rw [← hr, ← hq] at HM
    rw [← hr]
    clear hr hq h
    go_enter Try.func38, Try.ntmps38
    go_wp2_with (first | (go_at_call 49; refine (dvNumber_any _ _).mono ?_; rintro e w1 ⟨rfl, rfl⟩) | (go_at_call 71; refine (HM.out _).mono ?_; rintro e w2 ⟨rfl, hb⟩; have HB := Lib.hid hb; clear hb))
    go_ret2
    exact ⟨rfl, HB.out⟩
  · have a1 : decide (Dv n) = false := decide_eq_false h
    have HR := Lib.hid (dvR_no (f := sgN) h)
    rw [HR.out]
    clear h
    go_enter Try.func38, Try.ntmps38
    go_wp2_with (go_at_call 49; refine (dvNumber_any _ _).mono ?_; rintro e w1 ⟨rfl, rfl⟩)
    go_ret2
    exact ⟨rfl, Below.refl _ _⟩

theorem spec_CountDivisors (n : Int) (w : World) :
    Calls Try.prog 40 #[.int .i64 n] w fun e w' => e = .returned (optRes (dvR ctN n)) ∧ Below w.heap.size w w' := by
  by_cases h : Dv n
  · have a1 : decide (Dv n) = true := decide_eq_true h
    have HM := Lib.hid (show ∀ w' : World, Calls Try.prog 71 #[.int .i64 n] w' fun e w'' => e = .returned (.tuple #[.int .i64 (sgN n), .int .i64 (ctN n)]) ∧ Below w'.heap.size w' w'' from fun w' => dvSums_any n w' h)
    have HR := Lib.hid (dvR_yes (f := ctN) h)
    rw [HR.out]
    obtain ⟨r, hr⟩ : ∃ r, r = sgN n := ⟨_, rfl⟩
    obtain ⟨q, hq⟩ : ∃ q, q = ctN n := ⟨_, rfl⟩
    rw [← hr, ← hq] at HM
    rw [← hq]
    clear hr hq h
    go_enter Try.func40, Try.ntmps40
    go_wp2_with (first | (go_at_call 49; refine (dvNumber_any _ _).mono ?_; rintro e w1 ⟨rfl, rfl⟩) | (go_at_call 71; refine (HM.out _).mono ?_; rintro e w2 ⟨rfl, hb⟩; have HB := Lib.hid hb; clear hb))
    go_ret2
    exact ⟨rfl, HB.out⟩
  · have a1 : decide (Dv n) = false := decide_eq_false h
    have HR := Lib.hid (dvR_no (f := ctN) h)
    rw [HR.out]
    clear h
    go_enter Try.func40, Try.ntmps40
    go_wp2_with (go_at_call 49; refine (dvNumber_any _ _).mono ?_; rintro e w1 ⟨rfl, rfl⟩)
    go_ret2
    exact ⟨rfl, Below.refl _ _⟩

theorem spec_ProperSum (n : Int) (w : World) :
    Calls Try.prog 41 #[.int .i64 n] w fun e w' => e = .returned (optRes (dvR prop n)) ∧ Below w.heap.size w w' := by
  by_cases h : Dv n
  · have a1 : decide (Dv n) = true := decide_eq_true h
    have HM := Lib.hid (fun w' => dvProper_any n w' h)
    have HR := Lib.hid (dvR_yes (f := prop) h)
    rw [HR.out]
    obtain ⟨r, hr⟩ : ∃ r, r = prop n := ⟨_, rfl⟩
    rw [← hr] at HM ⊢
    clear hr h
    go_enter Try.func41, Try.ntmps41
    go_wp2_with (first | (go_at_call 49; refine (dvNumber_any _ _).mono ?_; rintro e w1 ⟨rfl, rfl⟩) | (go_at_call 69; refine (HM.out _).mono ?_; rintro e w2 ⟨rfl, hb⟩; have HB := Lib.hid hb; clear hb))
    go_ret2
    exact ⟨rfl, HB.out⟩
  · have a1 : decide (Dv n) = false := decide_eq_false h
    have HR := Lib.hid (dvR_no (f := prop) h)
    rw [HR.out]
    clear h
    go_enter Try.func41, Try.ntmps41
    go_wp2_with (go_at_call 49; refine (dvNumber_any _ _).mono ?_; rintro e w1 ⟨rfl, rfl⟩)
    go_ret2
    exact ⟨rfl, Below.refl _ _⟩

theorem spec_KindOfNumber (n : Int) (w : World) :
    Calls Try.prog 42 #[.int .i64 n] w fun e w' => e = .returned (optRes (dvR knd n)) ∧ Below w.heap.size w w' := by
  by_cases h : Dv n
  · have a1 : decide (Dv n) = true := decide_eq_true h
    have HM := Lib.hid (fun w' => dvProper_any n w' h)
    have HR := Lib.hid (dvR_yes (f := knd) h)
    rw [HR.out]
    have HK := Lib.hid (show knd n = (if prop n < n then -1 else if n < prop n then 1 else 0) from rfl)
    rw [HK.out]
    obtain ⟨r, hr⟩ : ∃ r, r = prop n := ⟨_, rfl⟩
    rw [← hr] at HM ⊢
    clear hr h HK HR
    by_cases h1 : r < n
    · rw [if_pos h1]
      go_enter Try.func42, Try.ntmps42
      go_wp2_with (first | (go_at_call 49; refine (dvNumber_any _ _).mono ?_; rintro e w1 ⟨rfl, rfl⟩) | (go_at_call 69; refine (HM.out _).mono ?_; rintro e w2 ⟨rfl, hb⟩; have HB := Lib.hid hb; clear hb))
      go_ret2
      exact ⟨rfl, HB.out⟩
    · rw [if_neg h1]
      by_cases h2 : n < r
      · rw [if_pos h2]
        go_enter Try.func42, Try.ntmps42
        go_wp2_with (first | (go_at_call 49; refine (dvNumber_any _ _).mono ?_; rintro e w1 ⟨rfl, rfl⟩) | (go_at_call 69; refine (HM.out _).mono ?_; rintro e w2 ⟨rfl, hb⟩; have HB := Lib.hid hb; clear hb))
        go_ret2
        exact ⟨rfl, HB.out⟩
      · rw [if_neg h2]
        go_enter Try.func42, Try.ntmps42
        go_wp2_with (first | (go_at_call 49; refine (dvNumber_any _ _).mono ?_; rintro e w1 ⟨rfl, rfl⟩) | (go_at_call 69; refine (HM.out _).mono ?_; rintro e w2 ⟨rfl, hb⟩; have HB := Lib.hid hb; clear hb))
        go_ret2
        exact ⟨rfl, HB.out⟩
  · have a1 : decide (Dv n) = false := decide_eq_false h
    have HR := Lib.hid (dvR_no (f := knd) h)
    rw [HR.out]
    clear h
    go_enter Try.func42, Try.ntmps42
    go_wp2_with (go_at_call 49; refine (dvNumber_any _ _).mono ?_; rintro e w1 ⟨rfl, rfl⟩)
    go_ret2
    exact ⟨rfl, Below.refl _ _⟩

end Go.Proofs.Ytlpmfapjgmhbhaa
