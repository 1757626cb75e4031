/-
  The program's functions of a number and a base, from the questions' contracts (written by wip/tools/gen_ask.py).
-/
import Derived.Test.YtjclbfjjakfjiaaZD
import Derived.Test.YtjclbfjjakfjiaaK
namespace Go.Proofs.Ytjclbfjjakfjiaa
open Go.RowKit
set_option linter.unusedVariables false
set_option linter.unusedSimpArgs false


theorem tell_nextPalindrome (n b : Int) (w : World) :
    Calls Try.prog 15 #[.int .i64 n, .int .i64 b, .func (Fn.func 16) #[] #[]] w fun e w' => e = .returned (optRes (askF RNextPalindrome n b)) ∧ Below w.heap.size w w' := by
  by_cases hn : Num n
  · have a1 : decide (Num n) = true := decide_eq_true hn
    by_cases hB : Bas b
    · have a2 : decide (Bas b) = true := decide_eq_true hB
      have hR := Lib.hid (show askF RNextPalindrome n b = RNextPalindrome b n from if_pos ⟨hn, hB⟩)
      obtain ⟨n0, n1⟩ := hn
      obtain ⟨b0, b1⟩ := hB
      go_enter Try.func15, Try.ntmps15
      go_wp2_with (first | (go_at_call 32; refine (isNumber_any _ _).mono ?_; rintro e w1 ⟨rfl, rfl⟩) | (go_at_call 33; refine (isBase_any _ _).mono ?_; rintro e w1 ⟨rfl, rfl⟩) | (go_at_call 16; refine (nextPalindrome_any _ _ _ n0 n1 b0 b1).mono ?_; rintro e w1 ⟨rfl, hbl⟩; have HB := Lib.hid hbl; clear hbl))
      go_ret2
      exact ⟨by rw [hR.out]; rfl, HB.out⟩
    · have a2 : decide (Bas b) = false := decide_eq_false hB
      have hR := Lib.hid (show askF RNextPalindrome n b = none from if_neg (fun h => hB h.2))
      clear hn hB
      go_enter Try.func15, Try.ntmps15
      go_wp2_with (first | (go_at_call 32; refine (isNumber_any _ _).mono ?_; rintro e w1 ⟨rfl, rfl⟩) | (go_at_call 33; refine (isBase_any _ _).mono ?_; rintro e w1 ⟨rfl, rfl⟩))
      go_ret2
      exact ⟨by rw [hR.out]; rfl, Below.refl _ _⟩
  · have a1 : decide (Num n) = false := decide_eq_false hn
    have hR := Lib.hid (show askF RNextPalindrome n b = none from if_neg (fun h => hn h.1))
    clear hn
    go_enter Try.func15, Try.ntmps15
    go_wp2_with (first | (go_at_call 32; refine (isNumber_any _ _).mono ?_; rintro e w1 ⟨rfl, rfl⟩) | (go_at_call 33; refine (isBase_any _ _).mono ?_; rintro e w1 ⟨rfl, rfl⟩))
    go_ret2
    exact ⟨by rw [hR.out]; rfl, Below.refl _ _⟩

theorem impl_NextPalindrome (n b : Int) (w : World) :
    Calls Try.prog 6 #[.int .i64 n, .int .i64 b] w fun e w' => e = .returned (optRes (askF RNextPalindrome n b)) ∧ Below w.heap.size w w' := by
  go_enter Try.func6, Try.ntmps6
  go_wp2_with (go_at_call 15; refine (tell_nextPalindrome _ _ _).mono ?_; rintro e w1 ⟨rfl, hbl⟩; have HB := Lib.hid hbl; clear hbl)
  go_ret2
  exact ⟨rfl, HB.out⟩

theorem spec_NextPalindrome (n b : Int) (w : World) :
    Calls Try.prog 7 #[.int .i64 n, .int .i64 b] w fun e w' => e = .returned (optRes (askF RNextPalindrome n b)) ∧ Below w.heap.size w w' := by
  by_cases hq : Num n ∧ Bas b
  · rw [show askF RNextPalindrome n b = RNextPalindrome b n from if_pos hq]
    exact spec_next_in n b w hq.1.1 hq.1.2 hq.2.1 hq.2.2 hq
  · have a1 : decide (Num n ∧ Bas b) = false := decide_eq_false hq
    have hR := Lib.hid (show askF RNextPalindrome n b = none from if_neg hq)
    clear hq
    go_enter Try.func7, Try.ntmps7
    go_wp2_with (go_at_call 17; refine (dgAsked_any _ _ _).mono ?_; rintro e w1 ⟨rfl, rfl⟩)
    go_ret2
    exact ⟨by rw [hR.out]; rfl, Below.refl _ _⟩

end Go.Proofs.Ytjclbfjjakfjiaa
