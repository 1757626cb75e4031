/-
  The program's functions of a number and a base, from the questions' contracts (written by wip/tools/gen_ask.py).
-/
import Derived.Test.YtdlohdjejmpmcaaDR
import Derived.Test.YtdlohdjejmpmcaaK
namespace Go.Proofs.Ytdlohdjejmpmcaa
open Go.RowKit
set_option linter.unusedVariables false
set_option linter.unusedSimpArgs false


theorem tell_digitalRoot (n b : Int) (w : World) :
    Calls Try.prog 58 #[.int .i64 n, .int .i64 b, .func (Fn.func 65) #[] #[]] w fun e w' => e = .returned (optRes (askI RDigitalRoot n b)) ∧ Below w.heap.size w w' := by
  by_cases hn : Num n
  · have a1 : decide (Num n) = true := decide_eq_true hn
    by_cases hB : Bas b
    · have a2 : decide (Bas b) = true := decide_eq_true hB
      have hR := Lib.hid (show askI RDigitalRoot n b = some (RDigitalRoot b n) from if_pos ⟨hn, hB⟩)
      obtain ⟨n0, n1⟩ := hn
      obtain ⟨b0, b1⟩ := hB
      go_enter Try.func58, Try.ntmps58
      go_wp2_with (first | (go_at_call 97; refine (isNumber_any _ _).mono ?_; rintro e w1 ⟨rfl, rfl⟩) | (go_at_call 69; refine (isBase_any _ _).mono ?_; rintro e w1 ⟨rfl, rfl⟩) | (go_at_call 65; refine (digitalRoot_any _ _ _ n0 n1 b0 b1).mono ?_; rintro e w1 ⟨rfl, hbl⟩; have HB := Lib.hid hbl; clear hbl))
      go_ret2
      exact ⟨by rw [hR.out]; rfl, HB.out⟩
    · have a2 : decide (Bas b) = false := decide_eq_false hB
      have hR := Lib.hid (show askI RDigitalRoot n b = none from if_neg (fun h => hB h.2))
      clear hn hB
      go_enter Try.func58, Try.ntmps58
      go_wp2_with (first | (go_at_call 97; refine (isNumber_any _ _).mono ?_; rintro e w1 ⟨rfl, rfl⟩) | (go_at_call 69; refine (isBase_any _ _).mono ?_; rintro e w1 ⟨rfl, rfl⟩))
      go_ret2
      exact ⟨by rw [hR.out]; rfl, Below.refl _ _⟩
  · have a1 : decide (Num n) = false := decide_eq_false hn
    have hR := Lib.hid (show askI RDigitalRoot n b = none from if_neg (fun h => hn h.1))
    clear hn
    go_enter Try.func58, Try.ntmps58
    go_wp2_with (first | (go_at_call 97; refine (isNumber_any _ _).mono ?_; rintro e w1 ⟨rfl, rfl⟩) | (go_at_call 69; refine (isBase_any _ _).mono ?_; rintro e w1 ⟨rfl, rfl⟩))
    go_ret2
    exact ⟨by rw [hR.out]; rfl, Below.refl _ _⟩

theorem impl_DigitalRoot (n b : Int) (w : World) :
    Calls Try.prog 16 #[.int .i64 n, .int .i64 b] w fun e w' => e = .returned (optRes (askI RDigitalRoot n b)) ∧ Below w.heap.size w w' := by
  go_enter Try.func16, Try.ntmps16
  go_wp2_with (go_at_call 58; refine (tell_digitalRoot _ _ _).mono ?_; rintro e w1 ⟨rfl, hbl⟩; have HB := Lib.hid hbl; clear hbl)
  go_ret2
  exact ⟨rfl, HB.out⟩

end Go.Proofs.Ytdlohdjejmpmcaa
