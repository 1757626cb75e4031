/-
  Sums and numbers of divisors by powers of prime numbers; stretches of equal factors: plain mathematics.
-/
import Derived.Test.Ytgiabadkbfbilab8A
namespace Go.Proofs.Ytgiabadkbfbilab
open Go.RowKit
set_option linter.unusedVariables false
set_option linter.unusedSimpArgs false

/-- 1 and the first t powers of p. -/
def sgP (p : Int) : Nat → Int
  | 0 => 1
  | t + 1 => sgP p t * p + 1
theorem sgP_more (p : Int) : ∀ t, sgP p (t + 1) = sgP p t + p ^ (t + 1)
  | 0 => by simp [sgP, Int.pow_succ]; omega
  | t + 1 => by
    have ih := sgP_more p t
    rw [sgP, ih, Int.add_mul, Int.pow_succ p (t + 1)]
    have : sgP p t * p + 1 = sgP p (t + 1) := rfl
    omega
theorem sgP_bd {p : Int} (hp : 2 ≤ p) : ∀ t, p ^ t ≤ sgP p t ∧ sgP p t + 1 ≤ 2 * p ^ t
  | 0 => by simp [sgP]
  | t + 1 => by
    obtain ⟨h1, h2⟩ := sgP_bd hp t
    obtain ⟨_, h4⟩ := pow_two_le hp t
    rw [sgP_more, Int.pow_succ]
    have h3 : p ^ t * 2 ≤ p ^ t * p := Int.mul_le_mul_of_nonneg_left hp (by omega)
    constructor <;> omega
theorem sgP_le {p : Int} (hp : 2 ≤ p) {i t : Nat} (h : i ≤ t) : sgP p i ≤ sgP p t := by
  induction t with
  | zero => rw [Nat.le_zero.1 h]; exact Int.le_refl _
  | succ t ih =>
    by_cases he : i = t + 1
    · rw [he]; exact Int.le_refl _
    · have h1 := ih (by omega)
      have h2 := sgP_more p t
      have h3 := (pow_two_le hp (t + 1)).2
      omega
theorem pow_le {p : Int} (hp : 2 ≤ p) {i t : Nat} (h : i ≤ t) : p ^ i ≤ p ^ t := by
  induction t with
  | zero => rw [Nat.le_zero.1 h]; exact Int.le_refl _
  | succ t ih =>
    by_cases he : i = t + 1
    · rw [he]; exact Int.le_refl _
    · have h1 := ih (by omega)
      rw [Int.pow_succ]
      have h3 := (pow_two_le hp t).2
      have h4 : p ^ t * 1 ≤ p ^ t * p := Int.mul_le_mul_of_nonneg_left (by omega) (by omega)
      omega

/-- The sum of all divisors, and how many there are. -/
def sgL : List (Int × Nat) → Int
  | [] => 1
  | p :: t => sgP p.1 p.2 * sgL t
def ctL : List (Int × Nat) → Int
  | [] => 1
  | p :: t => ((p.2 : Int) + 1) * ctL t
theorem sgL_app (a b : List (Int × Nat)) : sgL (a ++ b) = sgL a * sgL b := by
  induction a with
  | nil => simp [sgL]
  | cons p t ih => rw [List.cons_append, sgL, sgL, ih, Int.mul_assoc]
theorem ctL_app (a b : List (Int × Nat)) : ctL (a ++ b) = ctL a * ctL b := by
  induction a with
  | nil => simp [ctL]
  | cons p t ih => rw [List.cons_append, ctL, ctL, ih, Int.mul_assoc]
theorem sgL_snoc (a : List (Int × Nat)) (p : Int × Nat) : sgL (a ++ [p]) = sgL a * sgP p.1 p.2 := by rw [sgL_app]; simp [sgL]
theorem ctL_snoc (a : List (Int × Nat)) (p : Int × Nat) : ctL (a ++ [p]) = ctL a * ((p.2 : Int) + 1) := by rw [ctL_app]; simp [ctL]
theorem valP_snoc (a : List (Int × Nat)) (p : Int × Nat) : valP (a ++ [p]) = valP a * p.1 ^ p.2 := by rw [valP_app]; simp [valP]
theorem flt_snoc (a : List (Int × Nat)) (p : Int × Nat) : flt (a ++ [p]) = flt a ++ List.replicate p.2 p.1 := by rw [flt_app]; simp [flt]

theorem sq_of {x : Int} (h : 1 ≤ x) : 2 * x ≤ x * x + 1 := by
  have h1 : 0 ≤ (x - 1) * (x - 1) := Int.mul_nonneg (by omega) (by omega)
  have h2 : (x - 1) * (x - 1) = x * x - 2 * x + 1 := by grind
  omega

theorem lists_bd {l : List (Int × Nat)} (h : Two l) : valP l ≤ sgL l ∧ sgL l ≤ valP l * valP l ∧ 1 ≤ ctL l ∧ ctL l ≤ valP l ∧ 1 ≤ valP l := by
  induction l with
  | nil => simp [valP, sgL, ctL]
  | cons p t ih =>
    obtain ⟨h1, h2, h3⟩ := h.cons
    obtain ⟨i1, i2, i3, i4, i5⟩ := ih h3
    obtain ⟨b1, b2⟩ := sgP_bd h1 p.2
    obtain ⟨q1, q2⟩ := pow_two_le h1 p.2
    have hsq := sq_of q2
    rw [valP, sgL, ctL]
    have ht : (p.2 : Int) + 1 ≤ p.1 ^ p.2 := by
      have hk : ∀ k : Nat, (k : Int) + 1 ≤ 2 ^ k := by
        intro k
        induction k with
        | zero => simp
        | succ k ih => rw [Int.pow_succ]; omega
      exact Int.le_trans (hk _) q1
    refine ⟨Int.mul_le_mul b1 i1 (by omega) (by omega), ?_, ?_, Int.mul_le_mul ht i4 (by omega) (by omega), ?_⟩
    · have e : p.1 ^ p.2 * valP t * (p.1 ^ p.2 * valP t) = (p.1 ^ p.2 * p.1 ^ p.2) * (valP t * valP t) := by grind
      rw [e]
      exact Int.mul_le_mul (by omega) i2 (by omega) (by omega)
    · have := Int.mul_le_mul (show (1 : Int) ≤ (p.2 : Int) + 1 by omega) i3 (by omega) (by omega)
      omega
    · have := Int.mul_le_mul q2 i5 (by omega) (by omega)
      omega

/-- A part of the powers makes no more than all. -/
theorem part_le {a b : List (Int × Nat)} (h : Two (a ++ b)) : valP a ≤ valP (a ++ b) := by
  obtain ⟨h1, h2⟩ := h.app
  have h3 := (lists_bd h1).2.2.2.2
  have h4 := (lists_bd h2).2.2.2.2
  rw [valP_app]
  have := Int.mul_le_mul_of_nonneg_left h4 (show 0 ≤ valP a by omega)
  omega
theorem sq_bd {x : Int} (h0 : 1 ≤ x) (h : x ≤ 1000000000) : x * x ≤ 1000000000000000000 := by
  have := Int.mul_le_mul h h (by omega) (by omega)
  omega

/-- A number's powers, the first k of them done. -/
structure Part (n : Int) (a b : List (Int × Nat)) : Prop where
  eq : a ++ b = pp n

theorem pp_two {n : Int} (hn : 0 < n) : Two (pp n) := (pp_up hn).two (by omega)
theorem part_bd {n : Int} (hn : 0 < n) (hn' : n ≤ 1000000000) {a b : List (Int × Nat)} (h : a ++ b = pp n) : 1 ≤ sgL a ∧ sgL a ≤ 1000000000000000000 ∧ 1 ≤ ctL a ∧ ctL a ≤ 1000000000 := by
  have h2 : Two (a ++ b) := by rw [h]; exact pp_two hn
  have h3 := part_le h2
  rw [h, pp_val hn] at h3
  obtain ⟨l1, l2, l3, l4, l5⟩ := lists_bd h2.app.1
  have := sq_bd l5 (by omega)
  omega
theorem one_bd {n : Int} (hn : 0 < n) (hn' : n ≤ 1000000000) {p : Int × Nat} (h : p ∈ pp n) : 2 ≤ p.1 ∧ p.1 ≤ 1000000000 ∧ 0 < p.2 ∧ p.2 < 30 ∧ 1 ≤ sgP p.1 p.2 ∧ sgP p.1 p.2 ≤ 2000000000 ∧ p.1 ^ p.2 ≤ 1000000000 := by
  obtain ⟨a, b, e⟩ := List.append_of_mem h
  have h2 : Two (a ++ p :: b) := by rw [← e]; exact pp_two hn
  have hv : valP (a ++ p :: b) = n := by rw [← e]; exact pp_val hn
  rw [valP_app, valP] at hv
  obtain ⟨h3, h4⟩ := h2.app
  obtain ⟨h5, h6, h7⟩ := h4.cons
  have l1 := (lists_bd h3).2.2.2.2
  have l2 := (lists_bd h7).2.2.2.2
  obtain ⟨q1, q2⟩ := pow_two_le h5 p.2
  have m1 : p.1 ^ p.2 * 1 ≤ p.1 ^ p.2 * valP b := Int.mul_le_mul_of_nonneg_left l2 (by omega)
  have m2 : 1 * (p.1 ^ p.2 * valP b) ≤ valP a * (p.1 ^ p.2 * valP b) := Int.mul_le_mul_of_nonneg_right l1 (by omega)
  have m3 : p.1 ^ p.2 ≤ 1000000000 := by omega
  have m4 := pow_le h5 (show 1 ≤ p.2 by omega)
  rw [Int.pow_succ, Int.pow_zero, Int.one_mul] at m4
  obtain ⟨b1, b2⟩ := sgP_bd h5 p.2
  exact ⟨h5, by omega, h6, len_30 q1 m3, by omega, by omega, m3⟩

theorem fac_bd {n : Int} (hn : 0 < n) (hn' : n ≤ 1000000000) : (fac n).length < 30 ∧ (pp n).length < 30 := by
  have h := flt_len (pp_two hn)
  rw [pp_val hn] at h
  have h2 := len_30 h.1 hn'
  exact ⟨h2, by have := h.2.2; omega⟩

/-- The proper sum of a number. -/
def prop (n : Int) : Int := sgL (pp n) - n
theorem prop_bd {n : Int} (hn : 0 < n) (hn' : n ≤ 1000000000) : 0 ≤ prop n ∧ prop n ≤ 1000000000000000000 ∧ 1 ≤ sgL (pp n) ∧ sgL (pp n) ≤ 1000000000000000000 := by
  obtain ⟨l1, l2, l3, l4, l5⟩ := lists_bd (pp_two hn)
  rw [pp_val hn] at l1 l2 l5
  have := sq_bd l5 hn'
  unfold prop
  omega

/-- The factors by place: those of one power, behind those of the ones before. -/
theorem flt_at (a : List (Int × Nat)) (p : Int × Nat) (b : List (Int × Nat)) (j : Nat) (hj : j < p.2) : (flt (a ++ p :: b)).getD ((flt a).length + j) 0 = p.1 ∧ (flt a).length + j < (flt (a ++ p :: b)).length := by
  rw [flt_app, flt]
  constructor
  · rw [List.getD_eq_getElem?_getD, List.getElem?_append_right (by omega), show (flt a).length + j - (flt a).length = j by omega, List.getElem?_append_left (by simpa using hj)]
    simp [hj]
  · simp; omega
/-- Behind them others stand. -/
theorem flt_next {d : Int} (a : List (Int × Nat)) (p : Int × Nat) (b : List (Int × Nat)) (h : Up d (a ++ p :: b)) (hl : (flt a).length + p.2 < (flt (a ++ p :: b)).length) : (flt (a ++ p :: b)).getD ((flt a).length + p.2) 0 ≠ p.1 := by
  have hup : Up (p.1 + 1) b := by
    clear hl
    induction a generalizing d with
    | nil => exact h.2.2
    | cons q t ih => exact ih h.2.2
  rw [flt_app, flt] at hl ⊢
  rw [List.getD_eq_getElem?_getD, List.getElem?_append_right (by omega), show (flt a).length + p.2 - (flt a).length = p.2 by omega, List.getElem?_append_right (by simp)]
  simp only [List.length_replicate, Nat.sub_self]
  cases b with
  | nil => simp [flt] at hl
  | cons q t =>
    obtain ⟨h1, h2, _⟩ := hup
    rw [flt, List.getElem?_append_left (by simpa using h2)]
    simp only [List.getElem?_replicate]
    rw [if_pos h2]
    simp
    omega
theorem flt_end (a : List (Int × Nat)) (p : Int × Nat) : (flt (a ++ [p])).length = (flt a).length + p.2 := by rw [flt_snoc]; simp
theorem flt_mid (a : List (Int × Nat)) (p : Int × Nat) (b : List (Int × Nat)) : (flt (a ++ p :: b)).length = (flt a).length + p.2 + (flt b).length := by rw [flt_app, flt]; simp; omega

end Go.Proofs.Ytgiabadkbfbilab
