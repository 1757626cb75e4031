/-
  Palindromes: IsPalindrome.
-/
import Derived.Test.YtnggfcopndcppaaI
import Derived.Test.YtnggfcopndcppaaB
namespace Go.Proofs.Ytnggfcopndcppaa
open Go.RowKit
set_option linter.unusedVariables false
set_option linter.unusedSimpArgs false

theorem mir_iff (xs : List Int) : xs = mir xs ↔ xs = xs.reverse := by
  constructor
  · intro h
    apply List.ext_getElem?
    intro t
    by_cases ht : t < xs.length
    · rw [List.getElem?_reverse ht]
      by_cases h2 : xs.length - xs.length / 2 ≤ t
      · have h1 := mir_at xs t ht
        rw [if_pos h2, ← h] at h1
        exact h1
      · have h1 := mir_at xs (xs.length - 1 - t) (by omega)
        rw [← h] at h1
        by_cases h3 : xs.length - xs.length / 2 ≤ xs.length - 1 - t
        · rw [if_pos h3, show xs.length - 1 - (xs.length - 1 - t) = t by omega] at h1
          exact h1.symm
        · rw [show xs.length - 1 - t = t by omega]
    · rw [List.getElem?_eq_none (by omega), List.getElem?_eq_none (by simp; omega)]
  · intro h
    apply List.ext_getElem?
    intro t
    by_cases ht : t < xs.length
    · rw [mir_at xs t ht]
      split
      · have h1 : xs[t]? = xs.reverse[t]? := by rw [← h]
        rw [List.getElem?_reverse ht] at h1
        exact h1
      · rfl
    · rw [List.getElem?_eq_none (by omega), List.getElem?_eq_none (by rw [mir_len]; omega)]

def palB (xs : List Int) : Bool := decide (xs = xs.reverse)
theorem palB_mir (xs : List Int) : decide (xs = mir xs) = palB xs := by
  unfold palB
  by_cases h : xs = xs.reverse
  · rw [decide_eq_true h, decide_eq_true ((mir_iff xs).2 h)]
  · rw [decide_eq_false h, decide_eq_false (fun hc => h ((mir_iff xs).1 hc))]
theorem palB_rev (xs : List Int) : decide (xs = xs.reverse) = palB xs := rfl

theorem dgPalindrome_any (v : Value) (xs : List Int) (w : World) (B : Nat) (h : Rd w B v xs) (hl : xs.length ≤ 2000000) :
    Calls Try.prog 58 #[v] w fun e w' => e = .returned (.bool (palB xs)) ∧ Below w.heap.size w w' := by
  have H := Lib.hid h
  clear h
  go_enter Try.func58, Try.ntmps58
  go_wp2_with fail
  refine (dgBack_any _ _ _ H.out.sl hl).mono ?_
  rintro e w1 ⟨u, rfl, hr, hbl⟩
  have HR := Lib.hid (H.out.keep hbl)
  have HR1 := Lib.hid hr
  have HB := Lib.hid hbl
  clear hr hbl
  go_wp2_with fail
  refine (l1Same_any _ _ xs xs.reverse _ HR.out.sl HR1.out.sl hl (by simp; omega)).mono ?_
  rintro e w3 ⟨rfl, hbl⟩
  rw [palB_rev]
  have HB2 := Lib.hid (Below.step HB.out HB.out.size hbl)
  clear hbl
  go_wp2
  go_ret
  exact ⟨rfl, HB2.out⟩

/-- What IsPalindrome answers. -/
def RPal (n b : Int) : Bool := okq n b && palB (dgs b n)
theorem RPal_yes {n b : Int} (h : Num n ∧ Bas b) : RPal n b = palB (dgs b n) ∧ okq n b = true := by simp [RPal, okq_yes h]
theorem RPal_no {n b : Int} (h : ¬ (Num n ∧ Bas b)) : RPal n b = false ∧ okq n b = false := by simp [RPal, okq_no h]

end Go.Proofs.Ytnggfcopndcppaa
