/-
  Answers about digits: carries, symmetric ones (written by wip/tools/gen_rvask.py).
-/
import Derived.Test.YtamibonkbpppmaaTH
namespace Go.Proofs.Ytamibonkbpppmaa
open Go.RowKit
set_option linter.unusedVariables false
set_option linter.unusedSimpArgs false
set_option maxRecDepth 100000

theorem okR_cases (b : Int) (xs : List Int) : (okR b xs = true ∧ Dg b xs) ∨ okR b xs = false := by
  cases h : okR b xs with
  | true => exact .inl ⟨rfl, okR_dg h⟩
  | false => exact .inr rfl

/-- The program's copy of digits that are good. -/
theorem long_yes (v : Value) (xs : List Int) (b : Int) (B : Nat) (w : World) (h : Rd w B v xs) (hl : xs.length ≤ 1048576) (ho : okR b xs = true) :
    Calls Try.prog 40 #[v, .int .i64 b] w fun e w' => ∃ g cap, e = .returned (.tuple #[lng (.slice (some ⟨g, 0, none⟩) xs.length cap) b, .bool true]) ∧ Rd w' w.heap.size (.slice (some ⟨g, 0, none⟩) xs.length cap) xs ∧ Below w.heap.size w w' := by
  refine (longNumberOf_any v xs b B w h hl).mono ?_
  rintro e w' ⟨hb, ⟨_, g, cap, rfl, hr⟩ | ⟨hc, _⟩⟩
  · exact ⟨g, cap, rfl, hr, hb⟩
  · rw [ho] at hc; cases hc
theorem long_no (v : Value) (xs : List Int) (b : Int) (B : Nat) (w : World) (h : Rd w B v xs) (hl : xs.length ≤ 1048576) (ho : okR b xs = false) :
    Calls Try.prog 40 #[v, .int .i64 b] w fun e w' => e = .returned (.tuple #[lng (.slice none 0 0) 0, .bool false]) ∧ Below w.heap.size w w' := by
  refine (longNumberOf_any v xs b B w h hl).mono ?_
  rintro e w' ⟨hb, ⟨hc, _⟩ | ⟨_, rfl⟩⟩
  · rw [ho] at hc; cases hc
  · exact ⟨rfl, hb⟩

abbrev OK_CarriesOf (xs : List Int) (b : Int) : Bool := okR b xs
def LF_CarriesOf (xs : List Int) (b : Int) : List Int := if okR b xs = true then cyA b (smA 1 1 xs) 0 else []
abbrev VAL_HasNoCarry (xs : List Int) (b : Int) : Value := .tuple #[.bool (okR b xs && ncB b xs), .bool (okR b xs)]
abbrev VAL_IsSymmetric (xs : List Int) (b : Int) : Value := .tuple #[.bool (okR b xs && palB xs), .bool (okR b xs)]
theorem LF_CarriesOf_len (xs : List Int) (b : Int) (h : xs.length ≤ 1048576) : (LF_CarriesOf xs b).length ≤ 2000000 := by
  unfold LF_CarriesOf
  split
  · rw [cyA_len, smA_len]; omega
  · simp

end Go.Proofs.Ytamibonkbpppmaa
