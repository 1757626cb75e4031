/-
  Palindromes: IsPalindrome.
-/
import Derived.Test.YtjclbfjjakfjiaaI
import Derived.Test.YtjclbfjjakfjiaaB
namespace Go.Proofs.Ytjclbfjjakfjiaa
open Go.RowKit
set_option linter.unusedVariables false
set_option linter.unusedSimpArgs false

theorem mir_iff (xs : List Int) : xs = mir xs ↔ xs = xs.reverse := by
  constructor
  · intro h
    apply List.ext_getElem?
    intro t
    by_cases ht : t < xs.length
    · rw [List.getElem?_reverse ht]
      by_cases h2 : xs.length - xs.length / 2 ≤ t
      · have h1 := mir_at xs t ht
        rw [if_pos h2, ← h] at h1
        exact h1
      · have h1 := mir_at xs (xs.length - 1 - t) (by omega)
        rw [← h] at h1
        by_cases h3 : xs.length - xs.length / 2 ≤ xs.length - 1 - t
        · rw [if_pos h3, show xs.length - 1 - (xs.length - 1 - t) = t by omega] at h1
          exact h1.symm
        · rw [show xs.length - 1 - t = t by omega]
    · rw [List.getElem?_eq_none (by omega), List.getElem?_eq_none (by simp; omega)]
  · intro h
    apply List.ext_getElem?
    intro t
    by_cases ht : t < xs.length
    · rw [mir_at xs t ht]
      split
      · have h1 : xs[t]? = xs.reverse[t]? := by rw [← h]
        rw [List.getElem?_reverse ht] at h1
        exact h1
      · rfl
    · rw [List.getElem?_eq_none (by omega), List.getElem?_eq_none (by rw [mir_len]; omega)]

def palB (xs : List Int) : Bool := decide (xs = xs.reverse)
theorem palB_mir (xs : List Int) : decide (xs = mir xs) = palB xs := by
  unfold palB
  by_cases h : xs = xs.reverse
  · rw [decide_eq_true h, decide_eq_true ((mir_iff xs).2 h)]
  · rw [decide_eq_false h, decide_eq_false (fun hc => h ((mir_iff xs).1 hc))]
theorem palB_rev (xs : List Int) : decide (xs = xs.reverse) = palB xs := rfl

theorem isPalindrome_any (n b : Int) (w : World) (h0 : 0 ≤ n) (h1 : n ≤ 1000000000000) (hb : 2 ≤ b) (hb' : b ≤ 16) :
    Calls Try.prog 22 #[.int .i64 b, .int .i64 n] w fun e w' => e = .returned (.bool (palB (dgs b n))) ∧ Below w.heap.size w w' := by
  obtain ⟨xs, hxs⟩ : ∃ xs, xs = dgs b n := ⟨_, rfl⟩
  have hlen : xs.length ≤ 40 := by rw [hxs]; exact dgs_len40 b n hb h0 h1
  have hpos : 1 ≤ xs.length := by rw [hxs]; exact dgs_pos b n
  have HX := Lib.hid hxs
  have HM := Lib.hid (palB_mir xs)
  have hml := Lib.hid (mir_len xs)
  clear hxs
  rw [← HX.out]
  go_enter Try.func22, Try.ntmps22
  go_wp2_with fail
  refine (digits_any _ _ _ h0 (by omega) hb hb').mono ?_
  rintro e w1 ⟨g, cap, rfl, hr, hbl⟩
  rw [← HX.out] at hr
  rw [← HX.out]
  have HB := Lib.hid hbl
  have HR := Lib.hid hr
  clear hbl hr
  go_wp2_with fail
  refine (mirrored_any _ _ _ _ _ _ HR.out hpos (by omega)).mono ?_
  rintro e w2 ⟨g2, cap2, rfl, hr, hbl⟩
  have HR1 := Lib.hid (HR.out.keep hbl)
  have HR2 := Lib.hid hr
  have HB2 := Lib.hid (Below.step HB.out HB.out.size hbl)
  clear hbl hr
  go_wp2_with fail
  refine (equal_any _ _ xs (mir xs) _ HR1.out.sl HR2.out.sl (by omega) (by rw [hml.out]; omega)).mono ?_
  rintro e w3 ⟨rfl, hbl⟩
  rw [HM.out]
  have HB3 := Lib.hid (Below.step HB2.out HB2.out.size hbl)
  clear hbl
  go_wp2
  go_ret
  exact ⟨rfl, HB3.out⟩

theorem dgPalindrome_any (v : Value) (xs : List Int) (w : World) (B : Nat) (h : Rd w B v xs) (hl : xs.length ≤ 2000000) :
    Calls Try.prog 23 #[v] w fun e w' => e = .returned (.bool (palB xs)) ∧ Below w.heap.size w w' := by
  have H := Lib.hid h
  clear h
  go_enter Try.func23, Try.ntmps23
  go_wp2_with fail
  refine (dgBack_any _ _ _ H.out.sl hl).mono ?_
  rintro e w1 ⟨u, rfl, hr, hbl⟩
  have HR := Lib.hid (H.out.keep hbl)
  have HR1 := Lib.hid hr
  have HB := Lib.hid hbl
  clear hr hbl
  go_wp2_with fail
  refine (l1Same_any _ _ xs xs.reverse _ HR.out.sl HR1.out.sl hl (by simp; omega)).mono ?_
  rintro e w3 ⟨rfl, hbl⟩
  rw [palB_rev]
  have HB2 := Lib.hid (Below.step HB.out HB.out.size hbl)
  clear hbl
  go_wp2
  go_ret
  exact ⟨rfl, HB2.out⟩

/-- What IsPalindrome answers. -/
def RPal (n b : Int) : Bool := okq n b && palB (dgs b n)
theorem RPal_yes {n b : Int} (h : Num n ∧ Bas b) : RPal n b = palB (dgs b n) ∧ okq n b = true := by simp [RPal, okq_yes h]
theorem RPal_no {n b : Int} (h : ¬ (Num n ∧ Bas b)) : RPal n b = false ∧ okq n b = false := by simp [RPal, okq_no h]

theorem spec_IsPalindrome (n b : Int) (w : World) :
    Calls Try.prog 9 #[.int .i64 n, .int .i64 b] w fun e w' => e = .returned (.tuple #[.bool (RPal n b), .bool (okq n b)]) ∧ Below w.heap.size w w' := by
  by_cases hq : Num n ∧ Bas b
  · have a1 : decide (Num n ∧ Bas b) = true := decide_eq_true hq
    have hD := Lib.hid (RPal_yes hq)
    obtain ⟨⟨n0, n1⟩, b0, b1⟩ := hq
    have hlen := Lib.hid (dgs_len40 b n b0 n0 n1)
    go_enter Try.func9, Try.ntmps9
    go_wp2_with (first | (go_at_call 17; refine (dgAsked_any _ _ _).mono ?_; rintro e w1 ⟨rfl, rfl⟩) | (go_at_call 18; refine (dgOf_s _ _ _ n0 n1 b0 b1).mono ?_; rintro e w1 ⟨g, cap, rfl, hr, hbl⟩; have HB := Lib.hid hbl; have HR := Lib.hid hr; clear hbl hr) | (go_at_call 23; refine (dgPalindrome_any _ _ _ _ HR.out (by have := hlen.out; omega)).mono ?_; rintro e w2 ⟨rfl, hbl2⟩; have HB2 := Lib.hid (Below.step HB.out HB.out.size hbl2); clear hbl2))
    go_ret2
    exact ⟨by rw [hD.out.1, hD.out.2]; rfl, HB2.out⟩
  · have a1 : decide (Num n ∧ Bas b) = false := decide_eq_false hq
    have hD := Lib.hid (RPal_no hq)
    clear hq
    go_enter Try.func9, Try.ntmps9
    go_wp2_with (go_at_call 17; refine (dgAsked_any _ _ _).mono ?_; rintro e w1 ⟨rfl, rfl⟩)
    go_ret2
    exact ⟨by rw [hD.out.1, hD.out.2]; rfl, Below.refl _ _⟩

theorem tell_isPalindrome (n b : Int) (w : World) :
    Calls Try.prog 21 #[.int .i64 n, .int .i64 b, .func (Fn.func 22) #[] #[]] w fun e w' => e = .returned (.tuple #[.bool (RPal n b), .bool (okq n b)]) ∧ Below w.heap.size w w' := by
  by_cases hn : Num n
  · have a1 : decide (Num n) = true := decide_eq_true hn
    by_cases hB : Bas b
    · have a2 : decide (Bas b) = true := decide_eq_true hB
      have hD := Lib.hid (RPal_yes ⟨hn, hB⟩)
      obtain ⟨n0, n1⟩ := hn
      obtain ⟨b0, b1⟩ := hB
      go_enter Try.func21, Try.ntmps21
      go_wp2_with (first | (go_at_call 32; refine (isNumber_any _ _).mono ?_; rintro e w1 ⟨rfl, rfl⟩) | (go_at_call 33; refine (isBase_any _ _).mono ?_; rintro e w1 ⟨rfl, rfl⟩) | (go_at_call 22; refine (isPalindrome_any _ _ _ n0 n1 b0 b1).mono ?_; rintro e w1 ⟨rfl, hbl⟩; have HB := Lib.hid hbl; clear hbl))
      go_ret2
      exact ⟨by rw [hD.out.1, hD.out.2]; rfl, HB.out⟩
    · have a2 : decide (Bas b) = false := decide_eq_false hB
      have hD := Lib.hid (RPal_no (n := n) (b := b) (fun h => hB h.2))
      clear hn hB
      go_enter Try.func21, Try.ntmps21
      go_wp2_with (first | (go_at_call 32; refine (isNumber_any _ _).mono ?_; rintro e w1 ⟨rfl, rfl⟩) | (go_at_call 33; refine (isBase_any _ _).mono ?_; rintro e w1 ⟨rfl, rfl⟩))
      go_ret2
      exact ⟨by rw [hD.out.1, hD.out.2]; rfl, Below.refl _ _⟩
  · have a1 : decide (Num n) = false := decide_eq_false hn
    have hD := Lib.hid (RPal_no (n := n) (b := b) (fun h => hn h.1))
    clear hn
    go_enter Try.func21, Try.ntmps21
    go_wp2_with (first | (go_at_call 32; refine (isNumber_any _ _).mono ?_; rintro e w1 ⟨rfl, rfl⟩) | (go_at_call 33; refine (isBase_any _ _).mono ?_; rintro e w1 ⟨rfl, rfl⟩))
    go_ret2
    exact ⟨by rw [hD.out.1, hD.out.2]; rfl, Below.refl _ _⟩

theorem impl_IsPalindrome (n b : Int) (w : World) :
    Calls Try.prog 8 #[.int .i64 n, .int .i64 b] w fun e w' => e = .returned (.tuple #[.bool (RPal n b), .bool (okq n b)]) ∧ Below w.heap.size w w' := by
  go_enter Try.func8, Try.ntmps8
  go_wp2_with (go_at_call 21; refine (tell_isPalindrome _ _ _).mono ?_; rintro e w1 ⟨rfl, hbl⟩; have HB := Lib.hid hbl; clear hbl)
  go_ret2
  exact ⟨rfl, HB.out⟩

end Go.Proofs.Ytjclbfjjakfjiaa
